import Derived.Test.YtohjjgefklhmaaaGreatDoorLNat4M
namespace Go.Proofs.YtohjjgefklhmaaaGreatDoor
open Go.ChangeShapes Go.WideShapes Go.ChangeAt Go.RowKit
set_option linter.unusedVariables false

/-- where the delegation of an account at a validator stands -/
def atF (l : List (DA × Value)) (who v : Int) : Int :=
  match l.findIdx? (fun d => d.1.who == who && d.1.val == v) with
  | some i => i
  | none => -1
theorem atF_hit {l : List (DA × Value)} {who v : Int} {k : Nat} (hk : k < l.length) (hn : ∀ j (hj : j < l.length), j < k → ¬ (l[j].1.who = who ∧ l[j].1.val = v)) (h : l[k].1.who = who ∧ l[k].1.val = v) : atF l who v = k := by
  have e : l.findIdx? (fun d => d.1.who == who && d.1.val == v) = some k := by
    rw [List.findIdx?_eq_some_iff_getElem]
    refine ⟨hk, by simp [h.1, h.2], fun j hj => ?_⟩
    have := hn j (by omega) hj
    simp only [Bool.and_eq_true, beq_iff_eq]
    simpa using this
  unfold atF; rw [e]
theorem atF_no {l : List (DA × Value)} {who v : Int} (hn : ∀ j (hj : j < l.length), ¬ (l[j].1.who = who ∧ l[j].1.val = v)) : atF l who v = -1 := by
  have e : l.findIdx? (fun d => d.1.who == who && d.1.val == v) = none := by
    rw [List.findIdx?_eq_none_iff]
    intro d hd
    obtain ⟨j, hj, rfl⟩ := List.getElem_of_mem hd
    have := hn j hj
    simpa using this
  unfold atF; rw [e]

set_option maxHeartbeats 2000000 in
set_option maxRecDepth 100000 in
theorem at_lany (g : Nat) (dv : Value) (ds : List (DA × Value)) (who v : Int) (w : World) (c8 : w.cell? ⟨g, 8, none⟩ = some dv) (hd : Rd w dv ds.length 4 (arow ds)) (hl : ds.length ≤ 1000) :
    Calls Tryz.prog 51 #[.pointer (some ⟨g, 0, none⟩), .int .i64 who, .int .i64 v] w fun e w' => e = .returned (.int .i64 (atF ds who v)) ∧ w = w' := by
  obtain ⟨da, dc, rfl⟩ := hd.form
  have HDr : Hid (Rd w (.slice da ds.length dc) ds.length 4 (arow ds)) := hd
  clear hd
  go_enter Tryz.func51, Tryz.ntmps51
  go_wp2
  go_loop [7] (fun i => ∃ k : Nat, k ≤ ds.length ∧ i = .int .i64 k ∧ ∀ j (hj : j < ds.length), j < k → ¬ (ds[j].1.who = who ∧ ds[j].1.val = v)) (fun i => ds.length - (intOf i).toNat)
  case atStart => exact ⟨0, Nat.zero_le _, rfl, fun j hj h => by omega⟩
  case round =>
    obtain ⟨k, hk, rfl, hn⟩ := hrel
    by_cases hlt : k < ds.length
    · obtain ⟨gd, rfl, hc⟩ := HDr.out.get (by omega)
      have y0 := hc _ _ (arow_at ds k hlt 0 (by omega))
      have y1 := hc _ _ (arow_at ds k hlt 1 (by omega))
      rw [Nat.add_zero] at y0
      have HH : Hid (ds[k].1.who = who ∧ ds[k].1.val = v → atF ds who v = k) := fun h => atF_hit hlt hn h
      have HN : Hid (¬ (ds[k].1.who = who ∧ ds[k].1.val = v) → ∀ j (hj : j < ds.length), j < k + 1 → ¬ (ds[j].1.who = who ∧ ds[j].1.val = v)) := fun h j hj hj2 => by
        by_cases e : j = k
        · subst e; exact h
        · exact hn j hj (by omega)
      generalize ds[k].1.who = xw at *
      generalize ds[k].1.val = xv at *
      clear hc hn
      by_cases h1 : xw = who
      · have e1 : (xw == who) = true := by simp [h1]
        by_cases h2 : xv = v
        · have e2 : (xv == v) = true := by simp [h2]
          have HF : Hid (atF ds who v = k) := HH.out ⟨h1, h2⟩
          clear h1 h2 HH HN
          go_wp2
          go_ret
          exact ⟨ret_int HF.out.symm, rfl⟩
        · have e2 : (xv == v) = false := by simp [h2]
          have HF := (show Hid _ from HN.out (fun h => h2 h.2))
          clear h1 h2 HH HN
          go_wp2
          exact ⟨⟨k + 1, by omega, by go_num, HF.out⟩, by simp [intOf]; omega⟩
      · have e1 : (xw == who) = false := by simp [h1]
        have HF := (show Hid _ from HN.out (fun h => h1 h.1))
        clear h1 HH HN
        go_wp2
        exact ⟨⟨k + 1, by omega, by go_num, HF.out⟩, by simp [intOf]; omega⟩
    · have HF : Hid (atF ds who v = -1) := atF_no (fun j hj => hn j hj (by omega))
      clear hn
      go_wp2
      go_ret
      exact ⟨ret_int HF.out.symm, rfl⟩
end Go.Proofs.YtohjjgefklhmaaaGreatDoor

namespace Go.Proofs.YtohjjgefklhmaaaGreatDoor
open Go.ChangeShapes Go.WideShapes Go.ChangeAt Go.RowKit
set_option linter.unusedVariables false

set_option maxHeartbeats 1000000 in
set_option maxRecDepth 100000 in
theorem lval_any (g : Nat) (vv : Value) (vals : List VS) (v : Int) (w : World) (h : LVals w g vv vals) :
    Calls Tryz.prog 100 #[.pointer (some ⟨g, 0, none⟩), .int .i64 v] w fun e w' => e = .returned (.bool (inN v 0 ((vals.length : Int) - 1))) ∧ w = w' := by
  obtain ⟨va, vc, rfl⟩ := h.rd.form
  have c7 := h.c7
  have hl := h.len
  clear h
  go_enter Tryz.func100, Tryz.ntmps100
  go_wp2_with (go_at_call 76; refine (in_any _ _ _ _).mono ?_; rintro e w' ⟨rfl, rfl⟩)
  go_ret
  exact ⟨rfl, rfl⟩

/-- how many shares an amount buys; what is wrong with it (P9) -/
def buyF (x : VS) (amount : Int) : Int × Int :=
  if 0 < x.shares then
    (if x.tokens = 0 then (0, 7) else
      if amount * x.shares / x.tokens = 0 then (0, 8) else if 1000000 < x.shares + amount * x.shares / x.tokens then (0, 9) else (amount * x.shares / x.tokens, 0))
  else (if amount = 0 then (0, 8) else if 1000000 < x.shares + amount then (0, 9) else (amount, 0))
/-- the tokens of shares -/
def worthF (x : VS) (n : Int) : Int := n * x.tokens / x.shares

set_option maxHeartbeats 2000000 in
set_option maxRecDepth 100000 in
theorem buy_any (g : Nat) (vv : Value) (vals : List VS) (k : Nat) (amount : Int) (w : World) (h : LVals w g vv vals) (hk : k < vals.length) (a0 : 0 ≤ amount) (a1 : amount ≤ 1000000) (t0 : 0 ≤ vals[k].tokens) (t1 : vals[k].tokens ≤ 1000000) (s0 : 0 ≤ vals[k].shares) (s1 : vals[k].shares ≤ 1000000) :
    Calls Tryz.prog 128 #[.pointer (some ⟨g, 0, none⟩), .int .i64 k, .int .i64 amount] w fun e w' => e = .returned (.tuple #[.int .i64 (buyF vals[k] amount).1, .int .i64 (buyF vals[k] amount).2]) ∧ w = w' := by
  obtain ⟨va, vc, rfl⟩ := h.rd.form
  have c7 := h.c7
  have hl := h.len
  obtain ⟨gv, rfl, y2, y3, _, _⟩ := h.facts hk
  generalize vals[k] = x at *
  obtain ⟨xo, xr, xt, xs, xc, xou, xj, xi⟩ := x
  simp only at y2 y3 t0 t1 s0 s1
  clear h
  obtain ⟨m0, m1⟩ := mul_bd a0 a1 s0 s1
  by_cases hs : 0 < xs
  · by_cases ht : xt = 0
    · have e0 : buyF ⟨xo, xr, xt, xs, xc, xou, xj, xi⟩ amount = (0, 7) := by simp [buyF, hs, ht]
      rw [e0]
      have e1 : (xt == 0) = true := by simp [ht]
      clear e0 ht
      go_enter Tryz.func128, Tryz.ntmps128
      go_wp2
      go_ret2
      exact ⟨rfl, rfl⟩
    · have e1 : (xt == 0) = false := by simp [ht]
      have d0 : 0 ≤ amount * xs / xt := Int.ediv_nonneg m0 t0
      have d1 : amount * xs / xt ≤ amount * xs := Int.ediv_le_self _ m0
      have E : buyF ⟨xo, xr, xt, xs, xc, xou, xj, xi⟩ amount = if amount * xs / xt = 0 then (0, 8) else if 1000000 < xs + amount * xs / xt then (0, 9) else (amount * xs / xt, 0) := by simp only [buyF, hs, if_true, ht, if_false]
      rw [E]
      clear E
      have htp : 0 < xt := by omega
      by_cases h8 : amount * xs / xt = 0
      · rw [if_pos h8]
        have e2 : (amount * xs / xt == 0) = true := by simp [h8]
        clear ht h8
        go_enter Tryz.func128, Tryz.ntmps128
        go_wp2
        go_ret2
        exact ⟨rfl, rfl⟩
      · rw [if_neg h8]
        have e2 : (amount * xs / xt == 0) = false := by simp [h8]
        by_cases h9 : 1000000 < xs + amount * xs / xt
        · rw [if_pos h9]
          clear ht h8
          go_enter Tryz.func128, Tryz.ntmps128
          go_wp2
          go_ret2
          exact ⟨rfl, rfl⟩
        · rw [if_neg h9]
          clear ht h8
          go_enter Tryz.func128, Tryz.ntmps128
          go_wp2
          go_ret2
          exact ⟨rfl, rfl⟩
  · have E : buyF ⟨xo, xr, xt, xs, xc, xou, xj, xi⟩ amount = if amount = 0 then (0, 8) else if 1000000 < xs + amount then (0, 9) else (amount, 0) := by simp only [buyF, hs, if_false]
    rw [E]
    clear E m0 m1
    by_cases h8 : amount = 0
    · rw [if_pos h8]
      have e2 : (amount == 0) = true := by simp [h8]
      clear h8
      go_enter Tryz.func128, Tryz.ntmps128
      go_wp2
      go_ret2
      exact ⟨rfl, rfl⟩
    · rw [if_neg h8]
      have e2 : (amount == 0) = false := by simp [h8]
      clear h8
      by_cases h9 : 1000000 < xs + amount
      · omega
      · rw [if_neg h9]
        go_enter Tryz.func128, Tryz.ntmps128
        go_wp2
        go_ret2
        exact ⟨rfl, rfl⟩

set_option maxHeartbeats 2000000 in
set_option maxRecDepth 100000 in
theorem worth_any (g : Nat) (vv : Value) (vals : List VS) (k : Nat) (n : Int) (w : World) (h : LVals w g vv vals) (hk : k < vals.length) (a0 : 0 ≤ n) (a1 : n ≤ 1000000) (t0 : 0 ≤ vals[k].tokens) (t1 : vals[k].tokens ≤ 1000000) (s0 : 1 ≤ vals[k].shares) :
    Calls Tryz.prog 132 #[.pointer (some ⟨g, 0, none⟩), .int .i64 k, .int .i64 n] w fun e w' => e = .returned (.int .i64 (worthF vals[k] n)) ∧ ∃ m, w' = w.drewN m := by
  obtain ⟨va, vc, rfl⟩ := h.rd.form
  have c7 := h.c7
  have hl := h.len
  obtain ⟨gv, rfl, y2, y3, _, _⟩ := h.facts hk
  unfold worthF
  generalize vals[k].tokens = xt at *
  generalize vals[k].shares = xs at *
  clear h
  obtain ⟨m0, m1⟩ := mul_bd a0 a1 t0 t1
  go_enter Tryz.func132, Tryz.ntmps132
  go_wp2
  first | (go_quiet (fail); go_wp2; go_ret; exact ⟨rfl, _, rfl⟩) | (go_ret; exact ⟨rfl, 0, rfl⟩)
end Go.Proofs.YtohjjgefklhmaaaGreatDoor

namespace Go.Proofs.YtohjjgefklhmaaaGreatDoor
open Go.ChangeShapes Go.WideShapes Go.ChangeAt Go.RowKit
set_option linter.unusedVariables false

/-- the blocks that a ledger may use: those of old, and new ones -/
def LB (F0 : Nat → Prop) (W0 : World) (k : Nat) : Prop := F0 k ∨ W0.heap.size ≤ k
/-- the ledger in full, its frame in it -/
structure LF (F0 : Nat → Prop) (W0 w : World) (g : Nat) (c : LC) (bv vv dv ev : Value) (vals : List VS) (ds : List (DA × Value)) (ents : List ES) : Prop where
  fr : Kp (LB F0 W0) W0 w
  fg : LB F0 W0 g
  fb : ∀ k, bv.ownBlock = some k → LB F0 W0 k
  fv : ∀ k, vv.ownBlock = some k → LB F0 W0 k
  fd : ∀ k, dv.ownBlock = some k → LB F0 W0 k
  fe : ∀ k, ev.ownBlock = some k → LB F0 W0 k
  fp : ∀ i (h : i < ds.length) k, ds[i].2.ownBlock = some k → LB F0 W0 k
  C : LCore w g c bv vv dv ev
  v : w.ownsRow 0 114 8 vv vals.length (vrow vals)
  d : w.ownsRow 0 84 4 dv ds.length (arow ds)
  p : ∀ i (h : i < ds.length), w.ownsRow 0 134 2 ds[i].2 ds[i].1.parts.length (prow ds[i].1.parts)
  e : w.ownsRow 0 131 4 ev ents.length (erow ents)

theorem LF.lvals {F0 : Nat → Prop} {W0 w : World} {g : Nat} {c : LC} {bv vv dv ev : Value} {vals : List VS} {ds : List (DA × Value)} {ents : List ES} (h : LF F0 W0 w g c bv vv dv ev vals ds ents) (hl : vals.length ≤ 1000) : LVals w g vv vals := ⟨h.C.L.cell 7, Rd.of_owns h.v, hl⟩
theorem LF.kp {F0 : Nat → Prop} {W0 w : World} {g : Nat} {c : LC} {bv vv dv ev : Value} {vals : List VS} {ds : List (DA × Value)} {ents : List ES} {S : Nat → Prop} {w' : World} (h : LF F0 W0 w g c bv vv dv ev vals ds ents) (k : Kp S w w') (hS : ∀ b, b < w.heap.size → ¬ S b) : LF F0 W0 w' g c bv vv dv ev vals ds ents :=
  ⟨h.fr.trans (k.mono (fun b hb hs => absurd hs (hS b hb))), h.fg, h.fb, h.fv, h.fd, h.fe, h.fp, ⟨h.C.L.kp k (hS g h.C.L.lt), ownsRow_kp h.C.b k (fun b hb => hS b (h.C.b.lt b hb).2)⟩, ownsRow_kp h.v k (fun b hb => hS b (h.v.lt b hb).2), ownsRow_kp h.d k (fun b hb => hS b (h.d.lt b hb).2), fun i hi => ownsRow_kp (h.p i hi) k (fun b hb => hS b ((h.p i hi).lt b hb).2), ownsRow_kp h.e k (fun b hb => hS b (h.e.lt b hb).2)⟩
theorem LF.below {F0 : Nat → Prop} {W0 w : World} {g : Nat} {c : LC} {bv vv dv ev : Value} {vals : List VS} {ds : List (DA × Value)} {ents : List ES} {w' : World} (h : LF F0 W0 w g c bv vv dv ev vals ds ents) (k : Below w.heap.size w w') : LF F0 W0 w' g c bv vv dv ev vals ds ents := h.kp (Kp.of_below k (fun _ => False)) (fun _ _ h => h)
theorem LF.eta {F0 : Nat → Prop} {W0 w : World} {g : Nat} {c : LC} {bv vv dv ev : Value} {vals : List VS} {ds : List (DA × Value)} {ents : List ES} {w' : World} (h : LF F0 W0 w g c bv vv dv ev vals ds ents) (e1 : w'.heap = w.heap) (e2 : w'.os = w.os) (e3 : w'.tape = w.tape) (e4 : w'.output = w.output) : LF F0 W0 w' g c bv vv dv ev vals ds ents :=
  h.kp (S := fun _ => False) ⟨e2, e3, e4, by rw [e1]; exact Nat.le_refl _, fun k _ _ => by rw [e1]⟩ (fun _ _ h => h)
/-- the core is written, its blocks alone -/
theorem LF.core {F0 : Nat → Prop} {W0 w : World} {g : Nat} {c : LC} {bv vv dv ev : Value} {vals : List VS} {ds : List (DA × Value)} {ents : List ES} {w' : World} {c' : LC} (h : LF F0 W0 w g c bv vv dv ev vals ds ents) (hC : LCore w' g c' bv vv dv ev) (hk : Kp (LS g bv) w w') : LF F0 W0 w' g c' bv vv dv ev vals ds ents := by
  have hS : ∀ {e : TypeId} {size n : Nat} {x : Value} {xs : List Value}, w.ownsRow 0 e size x n xs → 81 ≠ e → 3 ≠ e → w'.ownsRow 0 e size x n xs := fun hr n1 n2 => ownsRow_kp hr hk (fun b hb hs => by
    rcases hs with hs | hs
    · exact Has.apart h.C.L hr n1 (by rw [← hs, hb])
    · exact row_off h.C.b hr n2 hb hs)
  exact ⟨h.fr.trans (hk.mono (fun k _ hs => by
    rcases hs with rfl | hs
    · exact h.fg
    · exact h.fb k hs)), h.fg, h.fb, h.fv, h.fd, h.fe, h.fp, hC, hS h.v (by decide) (by decide), hS h.d (by decide) (by decide), fun i hi => hS (h.p i hi) (by decide) (by decide), hS h.e (by decide) (by decide)⟩
/-- a cell of the struct's head -/
theorem LF.setHead {F0 : Nat → Prop} {W0 w : World} {g : Nat} {c : LC} {bv vv dv ev : Value} {vals : List VS} {ds : List (DA × Value)} {ents : List ES} {c' : LC} (h : LF F0 W0 w g c bv vv dv ev vals ds ents) (i : Nat) (u : Value) (hC : LCore (w.setCell ⟨g, i, none⟩ u) g c' bv vv dv ev) : LF F0 W0 (w.setCell ⟨g, i, none⟩ u) g c' bv vv dv ev vals ds ents :=
  h.core hC ((Kp.refl _ w).setCell (p := ⟨g, i, none⟩) (.inl rfl) _)
theorem LF.setBal {F0 : Nat → Prop} {W0 w : World} {g : Nat} {c : LC} {vv dv ev : Value} {vals : List VS} {ds : List (DA × Value)} {ents : List ES} {gb n cap : Nat} (h : LF F0 W0 w g c (.slice (some ⟨gb, 0, none⟩) n cap) vv dv ev vals ds ents) (hn : n = c.bal.length) (k : Nat) (x : Int) : LF F0 W0 (w.setCell ⟨gb, k, none⟩ (.int .i64 x)) g (setB c k x) (.slice (some ⟨gb, 0, none⟩) n cap) vv dv ev vals ds ents :=
  h.core (h.C.setBal hn k x) ((Kp.refl _ w).setCell (p := ⟨gb, k, none⟩) (.inr rfl) _)
theorem LF.setVal {F0 : Nat → Prop} {W0 w : World} {g : Nat} {c : LC} {bv dv ev : Value} {vals : List VS} {ds : List (DA × Value)} {ents : List ES} {gv n cap : Nat} {vals' : List VS} (h : LF F0 W0 w g c bv (.slice (some ⟨gv, 0, none⟩) n cap) dv ev vals ds ents) (hn : n = vals.length) (i : Nat) (u : Value) (he : (vrow vals).set i u = vrow vals') (hl : vals'.length = vals.length) : LF F0 W0 (w.setCell ⟨gv, i, none⟩ u) g c bv (.slice (some ⟨gv, 0, none⟩) n cap) dv ev vals' ds ents := by
  subst hn
  have hne : g ≠ gv := fun e => Has.apart h.C.L h.v (by decide) (by rw [e]; rfl)
  have hrow : (w.setCell ⟨gv, i, none⟩ u).ownsRow 0 114 8 (.slice (some ⟨gv, 0, none⟩) vals.length cap) vals.length (vrow vals') := by
    have := (h.v.stored i u).1
    rwa [he] at this
  exact ⟨h.fr.setCell (p := ⟨gv, i, none⟩) (h.fv gv rfl) u, h.fg, h.fb, h.fv, h.fd, h.fe, h.fp, ⟨h.C.L.other _ _ hne, ownsRow_setCell h.C.b _ _ (row_ne h.C.b h.v (by decide))⟩, by rw [hl]; exact hrow, ownsRow_setCell h.d _ _ (row_ne h.d h.v (by decide)), fun j hj => ownsRow_setCell (h.p j hj) _ _ (row_ne (h.p j hj) h.v (by decide)), ownsRow_setCell h.e _ _ (row_ne h.e h.v (by decide))⟩
theorem LF.setDel {F0 : Nat → Prop} {W0 w : World} {g : Nat} {c : LC} {bv vv ev : Value} {vals : List VS} {ds : List (DA × Value)} {ents : List ES} {gd n cap : Nat} {ds' : List (DA × Value)} (h : LF F0 W0 w g c bv vv (.slice (some ⟨gd, 0, none⟩) n cap) ev vals ds ents) (hn : n = ds.length) (i : Nat) (u : Value) (he : (arow ds).set i u = arow ds') (hl : ds'.length = ds.length) (hp : ∀ i (h : i < ds'.length), w.ownsRow 0 134 2 ds'[i].2 ds'[i].1.parts.length (prow ds'[i].1.parts)) (hf : ∀ i (h : i < ds'.length) k, ds'[i].2.ownBlock = some k → LB F0 W0 k) :
    LF F0 W0 (w.setCell ⟨gd, i, none⟩ u) g c bv vv (.slice (some ⟨gd, 0, none⟩) n cap) ev vals ds' ents := by
  subst hn
  have hne : g ≠ gd := fun e => Has.apart h.C.L h.d (by decide) (by rw [e]; rfl)
  have hrow : (w.setCell ⟨gd, i, none⟩ u).ownsRow 0 84 4 (.slice (some ⟨gd, 0, none⟩) ds.length cap) ds.length (arow ds') := by
    have := (h.d.stored i u).1
    rwa [he] at this
  exact ⟨h.fr.setCell (p := ⟨gd, i, none⟩) (h.fd gd rfl) u, h.fg, h.fb, h.fv, h.fd, h.fe, hf, ⟨h.C.L.other _ _ hne, ownsRow_setCell h.C.b _ _ (row_ne h.C.b h.d (by decide))⟩, ownsRow_setCell h.v _ _ (row_ne h.v h.d (by decide)), by rw [hl]; exact hrow, fun j hj => ownsRow_setCell (hp j hj) _ _ (row_ne (hp j hj) h.d (by decide)), ownsRow_setCell h.e _ _ (row_ne h.e h.d (by decide))⟩
end Go.Proofs.YtohjjgefklhmaaaGreatDoor

namespace Go.Proofs.YtohjjgefklhmaaaGreatDoor
open Go.ChangeShapes Go.WideShapes Go.ChangeAt Go.RowKit
set_option linter.unusedVariables false

theorem arow_shares (l : List (DA × Value)) (k : Nat) (hk : k < l.length) (n : Int) : (arow l).set (k * 4 + 2) (.int .i64 n) = arow (l.set k ({ l[k].1 with shares := n }, l[k].2)) := by
  induction l generalizing k with
  | nil => simp at hk
  | cons v l ih =>
    cases k with
    | zero => simp [arow, DA.cells]
    | succ k =>
      have e : (k + 1) * 4 + 2 = (DA.cells v).length + (k * 4 + 2) := by simp [DA.cells]; omega
      rw [arow, e, List.set_append_right _ _ (by omega), Nat.add_sub_cancel_left, List.set_cons_succ, arow]
      congr 1
      have := ih k (by simpa using hk)
      simpa using this
theorem vset (l : List VS) (k : Nat) (hk : k < l.length) (i : Nat) (u : Value) (x : VS) (hx : l[k].cells.set i u = x.cells) (hi : i < 8) : (vrow l).set (k * 8 + i) u = vrow (l.set k x) := by
  induction l generalizing k with
  | nil => simp at hk
  | cons v l ih =>
    cases k with
    | zero =>
      simp only [List.getElem_cons_zero] at hx
      simp only [Nat.zero_mul, Nat.zero_add, vrow, List.set_cons_zero]
      rw [List.set_append_left _ _ (by simpa [VS.cells] using hi), hx]
    | succ k =>
      simp only [List.getElem_cons_succ] at hx
      simp only [vrow, List.set_cons_succ]
      rw [List.set_append_right _ _ (by simp [VS.cells]; omega)]
      have e : (k + 1) * 8 + i - v.cells.length = k * 8 + i := by simp [VS.cells]; omega
      rw [e, ih k (by simpa using hk) hx]

set_option maxHeartbeats 4000000 in
set_option maxRecDepth 100000 in
theorem paid_any {F0 : Nat → Prop} {W0 : World} (g : Nat) (c : LC) (bv vv dv ev : Value) (vals : List VS) (ds : List (DA × Value)) (ents : List ES) (i kw kv : Nat) (q : Int) (w : World) (h : LF F0 W0 w g c bv vv dv ev vals ds ents) (hi : i < ds.length) (hw : ds[i].1.who = kw) (hv : ds[i].1.val = kv) (hkw : kw < c.bal.length) (hkv : kv < vals.length)
    (hl : c.bal.length ≤ 1000) (lv : vals.length ≤ 1000) (ld : ds.length ≤ 1000) (x : Int) (hx : c.bal.getD kw 0 = x) (x0 : 0 ≤ x) (x1 : x ≤ 1000000000000) (q0 : 0 ≤ q) (q1 : q ≤ 1000000000000) (o0 : 0 ≤ vals[kv].outs) (o1 : vals[kv].outs ≤ 1000000000000) :
    Calls Tryz.prog 133 #[.pointer (some ⟨g, 0, none⟩), .int .i64 i, .int .i64 q] w fun e w' => e = .returned (.tuple #[]) ∧ LF F0 W0 w' g (setB c kw (x + q)) bv vv dv ev (vals.set kv { vals[kv] with outs := vals[kv].outs - q }) (ds.set i ({ ds[i].1 with parts := [] }, .slice none 0 0)) ents := by
  obtain ⟨ba, bc, rfl⟩ := ownsRow_slice h.C.b
  obtain ⟨gb, rfl, _⟩ := ownsRow_some h.C.b (by omega)
  obtain ⟨va, vc, rfl⟩ := ownsRow_slice h.v
  obtain ⟨gv, rfl, _⟩ := ownsRow_some h.v (by omega)
  obtain ⟨da, dc, rfl⟩ := ownsRow_slice h.d
  obtain ⟨gd, rfl, _⟩ := ownsRow_some h.d (by omega)
  have c4 : w.cell? ⟨g, 4, none⟩ = some (.slice (some ⟨gb, 0, none⟩) c.bal.length bc) := h.C.L.cell 4
  have c7 : w.cell? ⟨g, 7, none⟩ = some (.slice (some ⟨gv, 0, none⟩) vals.length vc) := h.C.L.cell 7
  have c8 : w.cell? ⟨g, 8, none⟩ = some (.slice (some ⟨gd, 0, none⟩) ds.length dc) := h.C.L.cell 8
  have y0 : w.cell? ⟨gd, i * 4, none⟩ = some (.int .i64 kw) := by
    have := (h.d.cellAt (i * 4 + 0) (by omega)).trans (arow_at ds i hi 0 (by omega))
    simpa [DA.cells, hw] using this
  have y1 : w.cell? ⟨gd, i * 4 + 1, none⟩ = some (.int .i64 kv) := by
    have := (h.d.cellAt (i * 4 + 1) (by omega)).trans (arow_at ds i hi 1 (by omega))
    simpa [DA.cells, hv] using this
  obtain ⟨pa, pc, hpv⟩ := ownsRow_slice (h.p i hi)
  have y3 : w.cell? ⟨gd, i * 4 + 3, none⟩ = some (.slice pa ds[i].1.parts.length pc) := by
    have := (h.d.cellAt (i * 4 + 3) (by omega)).trans (arow_at ds i hi 3 (by omega))
    rw [← hpv]; simpa [DA.cells] using this
  have fd := h.d.frozenAt (i * 4 + 3)
  have cb : w.cell? ⟨gb, kw, none⟩ = some (.int .i64 x) := by
    rw [h.C.b.cellAt kw (by omega), ← hx]; simp [ints, hkw]
  have fb := h.C.b.frozenAt kw
  have zo : w.cell? ⟨gv, kv * 8 + 5, none⟩ = some (.int .i64 vals[kv].outs) := by
    have := (h.v.cellAt (kv * 8 + 5) (by omega)).trans (vrow_at vals kv hkv 5 (by omega))
    simpa [VS.cells] using this
  have fo := h.v.frozenAt (kv * 8 + 5)
  have n1 : g ≠ gb := fun e => Has.apart h.C.L h.C.b (by decide) (by rw [e]; rfl)
  have n2 : g ≠ gv := fun e => Has.apart h.C.L h.v (by decide) (by rw [e]; rfl)
  have n3 : g ≠ gd := fun e => Has.apart h.C.L h.d (by decide) (by rw [e]; rfl)
  have n4 : gb ≠ gv := fun e => row_ne h.C.b h.v (by decide) (by rw [e]; rfl)
  have n5 : gb ≠ gd := fun e => row_ne h.C.b h.d (by decide) (by rw [e]; rfl)
  have n6 : gv ≠ gd := fun e => row_ne h.v h.d (by decide) (by rw [e]; rfl)
  have n1' := n1.symm
  have n2' := n2.symm
  have n3' := n3.symm
  have n4' := n4.symm
  have n5' := n5.symm
  have n6' := n6.symm
  have hF := ((h.setBal rfl kw (x + q)).setVal rfl (kv * 8 + 5) (.int .i64 (vals[kv].outs - q)) (vals' := vals.set kv { vals[kv] with outs := vals[kv].outs - q }) (vset vals kv hkv 5 _ _ rfl (by omega)) (by simp))
  have hF2 := hF.setDel rfl (i * 4 + 3) (.slice none 0 0) (ds' := ds.set i ({ ds[i].1 with parts := [] }, .slice none 0 0)) (arow_parts ds i hi [] _) (by simp) (fun j hj => by
      by_cases e : i = j
      · subst e; simp only [List.getElem_set_self]; exact World.ownsRow_nil _ _ _ _
      · simp only [List.getElem_set_ne e]; exact hF.p j (by simpa using hj)) (fun j hj k hk => by
      by_cases e : i = j
      · subst e; simp [Value.ownBlock] at hk
      · simp only [List.getElem_set_ne e] at hk; exact hF.fp j (by simpa using hj) k hk)
  have HF : Hid _ := hF2
  clear hF hF2 h hpv hx hw hv
  generalize vals[kv].outs = zz at *
  generalize ds[i].1.parts.length = pn at *
  go_enter Tryz.func133, Tryz.ntmps133
  go_wp2
  go_region
  go_wp2
  go_region
  go_wp2
  first | (go_region; go_wp2; go_end0) | go_end0
  exact ⟨rfl, HF.out.eta rfl rfl rfl rfl⟩
end Go.Proofs.YtohjjgefklhmaaaGreatDoor
