import Derived.Test.YtohjjgefklhmaaaGreatDoorLWithM
namespace Go.Proofs.YtohjjgefklhmaaaGreatDoor
open Go.ChangeShapes Go.WideShapes Go.ChangeAt Go.RowKit
set_option linter.unusedVariables false
set_option linter.unusedSimpArgs false
set_option maxHeartbeats 40000000
set_option maxRecDepth 100000
variable {l ds : List (DA × Value)} {who v : Int} {F0 : Nat -> Prop} {W0 w w' wr : World} {g n cap gv : Nat} {c c' : LC} {bv vv dv ev out : Value} {vals : List VS} {ents : List ES}
def atF (l : List (DA × Value)) (who v : Int) : Int :=
 match l.findIdx? (fun d => d.1.who == who && d.1.val == v) with
 | some i => i
 | none => -1
theorem Mq {k : Nat} (hk : k < l.length) (hn : ∀ j (hj : j < l.length), j < k -> ¬ (l[j].1.who = who ∧ l[j].1.val = v)) (h : l[k].1.who = who ∧ l[k].1.val = v) : atF l who v = k := by
 have e : l.findIdx? (fun d => d.1.who == who && d.1.val == v) = some k := by
  rw [List.findIdx?_eq_some_iff_getElem]
  refine ⟨hk, by simp [h.1, h.2], fun j hj => ?_⟩
  have := hn j (by omega) hj
  simp only [Bool.and_eq_true, beq_iff_eq]
  simpa using this
 unfold atF; rw [e]
theorem PO (hn : ∀ j (hj : j < l.length), ¬ (l[j].1.who = who ∧ l[j].1.val = v)) : atF l who v = -1 := by
 have e : l.findIdx? (fun d => d.1.who == who && d.1.val == v) = none := by
  rw [List.findIdx?_eq_none_iff]
  intro d hd
  obtain ⟨j, hj, rfl⟩ := List.getElem_of_mem hd
  have := hn j hj
  simpa using this
 unfold atF; rw [e]
theorem Db (g : Nat) (dv : Value) (ds : List (DA × Value)) (who v : Int) (w : World) (c8 : w.cell? ⟨g, 8, none⟩ = some dv) (hd : Rd w dv ds.length 4 (BC ds)) (hl : ds.length <= 1000) :
  Calls Tryz.prog 51 #[.pointer (some ⟨g, 0, none⟩), .int .i64 who, .int .i64 v] w fun e w' => e = .returned (.int .i64 (atF ds who v)) ∧ w = w' := by
 obtain ⟨da, dc, rfl⟩ := hd.form
 have HDr := Hd hd
 clear hd
 go_enter Tryz.func51, Tryz.ntmps51
 go_wp2
 go_loop [7] (fun i => ∃ k : Nat, k <= ds.length ∧ i = .int .i64 k ∧ ∀ j (hj : j < ds.length), j < k -> ¬ (ds[j].1.who = who ∧ ds[j].1.val = v)) (fun i => ds.length - (intOf i).toNat)
 case atStart => exact ⟨0, Nat.zero_le _, rfl, fun j hj h => by omega⟩
 case round =>
  obtain ⟨k, hk, rfl, hn⟩ := hrel
  by_cases hlt : k < ds.length
  ·obtain ⟨gd, rfl, hc⟩ := HDr.out.get (by omega)
   have y0 := hc _ _ (BF ds k hlt 0 (by omega))
   have y1 := hc _ _ (BF ds k hlt 1 (by omega))
   rw [Nat.add_zero] at y0
   have HH : Hid (ds[k].1.who = who ∧ ds[k].1.val = v -> atF ds who v = k) := fun h => Mq hlt hn h
   have HN : Hid (¬ (ds[k].1.who = who ∧ ds[k].1.val = v) -> ∀ j (hj : j < ds.length), j < k + 1 -> ¬ (ds[j].1.who = who ∧ ds[j].1.val = v)) := fun h j hj hj2 => by
    by_cases e : j = k
    ·subst e; exact h
    ·exact hn j hj (by omega)
   generalize ds[k].1.who = xw at *
   generalize ds[k].1.val = xv at *
   clear hc hn
   by_cases h1 : xw = who
   ·have e1 : (xw == who) = true := by simp [h1]
    by_cases h2 : xv = v
    ·have e2 : (xv == v) = true := by simp [h2]
     have HF : Hid (atF ds who v = k) := HH.out ⟨h1, h2⟩
     clear h1 h2 HH HN
     go_wp2
     go_ret
     exact ⟨As HF.out.symm, rfl⟩
    ·have e2 : (xv == v) = false := by simp [h2]
     have HF := (show Hid _ from HN.out (fun h => h2 h.2))
     clear h1 h2 HH HN
     go_wp2
     exact ⟨⟨k + 1, by omega, by go_num, HF.out⟩, by simp [intOf]; omega⟩
   ·have e1 : (xw == who) = false := by simp [h1]
    have HF := (show Hid _ from HN.out (fun h => h1 h.1))
    clear h1 HH HN
    go_wp2
    exact ⟨⟨k + 1, by omega, by go_num, HF.out⟩, by simp [intOf]; omega⟩
  ·have HF : Hid (atF ds who v = -1) := PO (fun j hj => hn j hj (by omega))
   clear hn
   go_wp2
   go_ret
   exact ⟨As HF.out.symm, rfl⟩
theorem DG (g : Nat) (vv : Value) (vals : List VS) (v : Int) (w : World) (h : He w g vv vals) :
  Calls Tryz.prog 100 #[.pointer (some ⟨g, 0, none⟩), .int .i64 v] w fun e w' => e = .returned (.bool (inN v 0 ((vals.length : Int) - 1))) ∧ w = w' := by
 obtain ⟨va, vc, rfl⟩ := h.rd.form
 have c7 := h.c7
 have hl := h.len
 clear h
 go_enter Tryz.func100, Tryz.ntmps100
 go_wp2_with (go_at_call 76; refine (EK _ _ _ _).mono ?_; rintro e w' ⟨rfl, rfl⟩)
 go_ret
 exact ⟨rfl, rfl⟩
def Dc (x : VS) (amount : Int) : Int × Int :=
 if 0 < x.shares then
  (if x.tokens = 0 then (0, 7) else
   if amount * x.shares / x.tokens = 0 then (0, 8) else if 1000000 < x.shares + amount * x.shares / x.tokens then (0, 9) else (amount * x.shares / x.tokens, 0))
 else (if amount = 0 then (0, 8) else if 1000000 < x.shares + amount then (0, 9) else (amount, 0))
def AG (x : VS) (n : Int) : Int := n * x.tokens / x.shares
theorem ME (g : Nat) (vv : Value) (vals : List VS) (k : Nat) (amount : Int) (w : World) (h : He w g vv vals) (hk : k < vals.length) (a0 : 0 <= amount) (a1 : amount <= 1000000) (t0 : 0 <= vals[k].tokens) (t1 : vals[k].tokens <= 1000000) (s0 : 0 <= vals[k].shares) (s1 : vals[k].shares <= 1000000) :
  Calls Tryz.prog 128 #[.pointer (some ⟨g, 0, none⟩), .int .i64 k, .int .i64 amount] w fun e w' => e = .returned (.tuple #[.int .i64 (Dc vals[k] amount).1, .int .i64 (Dc vals[k] amount).2]) ∧ w = w' := by
 obtain ⟨va, vc, rfl⟩ := h.rd.form
 have c7 := h.c7
 have hl := h.len
 obtain ⟨gv, rfl, y2, y3, _, _⟩ := h.facts hk
 generalize vals[k] = x at *
 obtain ⟨xo, xr, xt, xs, xc, xou, xj, xi⟩ := x
 simp only at y2 y3 t0 t1 s0 s1
 clear h
 obtain ⟨m0, m1⟩ := IV a0 a1 s0 s1
 by_cases hs : 0 < xs
 ·by_cases ht : xt = 0
  ·have e0 : Dc ⟨xo, xr, xt, xs, xc, xou, xj, xi⟩ amount = (0, 7) := by simp [Dc, hs, ht]
   rw [e0]
   have e1 : (xt == 0) = true := by simp [ht]
   clear e0 ht
   go_enter Tryz.func128, Tryz.ntmps128
   go_wp2
   go_ret2
   exact ⟨rfl, rfl⟩
  ·have e1 : (xt == 0) = false := by simp [ht]
   have d0 : 0 <= amount * xs / xt := Int.ediv_nonneg m0 t0
   have d1 : amount * xs / xt <= amount * xs := Int.ediv_le_self _ m0
   have E : Dc ⟨xo, xr, xt, xs, xc, xou, xj, xi⟩ amount = if amount * xs / xt = 0 then (0, 8) else if 1000000 < xs + amount * xs / xt then (0, 9) else (amount * xs / xt, 0) := by simp only [Dc, hs, if_true, ht, if_false]
   rw [E]
   clear E
   have htp : 0 < xt := by omega
   by_cases h8 : amount * xs / xt = 0
   ·rw [if_pos h8]
    have e2 : (amount * xs / xt == 0) = true := by simp [h8]
    clear ht h8
    go_enter Tryz.func128, Tryz.ntmps128
    go_wp2
    go_ret2
    exact ⟨rfl, rfl⟩
   ·rw [if_neg h8]
    have e2 : (amount * xs / xt == 0) = false := by simp [h8]
    by_cases h9 : 1000000 < xs + amount * xs / xt
    ·rw [if_pos h9]
     clear ht h8
     go_enter Tryz.func128, Tryz.ntmps128
     go_wp2
     go_ret2
     exact ⟨rfl, rfl⟩
    ·rw [if_neg h9]
     clear ht h8
     go_enter Tryz.func128, Tryz.ntmps128
     go_wp2
     go_ret2
     exact ⟨rfl, rfl⟩
 ·have E : Dc ⟨xo, xr, xt, xs, xc, xou, xj, xi⟩ amount = if amount = 0 then (0, 8) else if 1000000 < xs + amount then (0, 9) else (amount, 0) := by simp only [Dc, hs, if_false]
  rw [E]
  clear E m0 m1
  by_cases h8 : amount = 0
  ·rw [if_pos h8]
   have e2 : (amount == 0) = true := by simp [h8]
   clear h8
   go_enter Tryz.func128, Tryz.ntmps128
   go_wp2
   go_ret2
   exact ⟨rfl, rfl⟩
  ·rw [if_neg h8]
   have e2 : (amount == 0) = false := by simp [h8]
   clear h8
   by_cases h9 : 1000000 < xs + amount
   ·omega
   ·rw [if_neg h9]
    go_enter Tryz.func128, Tryz.ntmps128
    go_wp2
    go_ret2
    exact ⟨rfl, rfl⟩
theorem Fm (g : Nat) (vv : Value) (vals : List VS) (k : Nat) (n : Int) (w : World) (h : He w g vv vals) (hk : k < vals.length) (a0 : 0 <= n) (a1 : n <= 1000000) (t0 : 0 <= vals[k].tokens) (t1 : vals[k].tokens <= 1000000) (s0 : 1 <= vals[k].shares) :
  Calls Tryz.prog 132 #[.pointer (some ⟨g, 0, none⟩), .int .i64 k, .int .i64 n] w fun e w' => e = .returned (.int .i64 (AG vals[k] n)) ∧ ∃ m, w' = w.drewN m := by
 obtain ⟨va, vc, rfl⟩ := h.rd.form
 have c7 := h.c7
 have hl := h.len
 obtain ⟨gv, rfl, y2, y3, _, _⟩ := h.facts hk
 unfold AG
 generalize vals[k].tokens = xt at *
 generalize vals[k].shares = xs at *
 clear h
 obtain ⟨m0, m1⟩ := IV a0 a1 t0 t1
 go_enter Tryz.func132, Tryz.ntmps132
 go_wp2
 first | (go_quiet (fail); go_wp2; go_ret; exact ⟨rfl, _, rfl⟩) | (go_ret; exact ⟨rfl, 0, rfl⟩)
def LB (F0 : Nat -> Prop) (W0 : World) (k : Nat) : Prop := F0 k ∨ W0.heap.size <= k
structure LF (F0 : Nat -> Prop) (W0 w : World) (g : Nat) (c : LC) (bv vv dv ev : Value) (vals : List VS) (ds : List (DA × Value)) (ents : List ES) : Prop where
 fr : Kp (LB F0 W0) W0 w
 fg : LB F0 W0 g
 fb : ∀ k, bv.ownBlock = some k -> LB F0 W0 k
 fv : ∀ k, vv.ownBlock = some k -> LB F0 W0 k
 fd : ∀ k, dv.ownBlock = some k -> LB F0 W0 k
 fe : ∀ k, ev.ownBlock = some k -> LB F0 W0 k
 fp : ∀ i (h : i < ds.length) k, ds[i].2.ownBlock = some k -> LB F0 W0 k
 C : Bu w g c bv vv dv ev
 v : w.ownsRow 0 114 8 vv vals.length (A5 vals)
 d : w.ownsRow 0 84 4 dv ds.length (BC ds)
 p : ∀ i (h : i < ds.length), w.ownsRow 0 134 2 ds[i].2 ds[i].1.parts.length (Dh ds[i].1.parts)
 e : w.ownsRow 0 131 4 ev ents.length (Bi ents)
theorem LF.lvals (h : LF F0 W0 w g c bv vv dv ev vals ds ents) (hl : vals.length <= 1000) : He w g vv vals := ⟨h.C.L.cell 7, Rd.of_owns h.v, hl⟩
theorem LF.kp {S : Nat -> Prop} (h : LF F0 W0 w g c bv vv dv ev vals ds ents) (k : Kp S w w') (hS : ∀ b, b < w.heap.size -> ¬ S b) : LF F0 W0 w' g c bv vv dv ev vals ds ents :=
 ⟨h.fr.trans (k.mono (fun b hb hs => absurd hs (hS b hb))), h.fg, h.fb, h.fv, h.fd, h.fe, h.fp, ⟨h.C.L.kp k (hS g h.C.L.lt), Al h.C.b k (fun b hb => hS b (h.C.b.lt b hb).2)⟩, Al h.v k (fun b hb => hS b (h.v.lt b hb).2), Al h.d k (fun b hb => hS b (h.d.lt b hb).2), fun i hi => Al (h.p i hi) k (fun b hb => hS b ((h.p i hi).lt b hb).2), Al h.e k (fun b hb => hS b (h.e.lt b hb).2)⟩
theorem LF.below (h : LF F0 W0 w g c bv vv dv ev vals ds ents) (k : Below w.heap.size w w') : LF F0 W0 w' g c bv vv dv ev vals ds ents := h.kp (Kp.of_below k (fun _ => False)) (fun _ _ h => h)
theorem LF.eta (h : LF F0 W0 w g c bv vv dv ev vals ds ents) (e1 : w'.heap = w.heap) (e2 : w'.os = w.os) (e3 : w'.tape = w.tape) (e4 : w'.output = w.output) : LF F0 W0 w' g c bv vv dv ev vals ds ents :=
 h.kp (S := fun _ => False) ⟨e2, e3, e4, by rw [e1]; exact Nat.le_refl _, fun k _ _ => by rw [e1]⟩ (fun _ _ h => h)
theorem LF.core (h : LF F0 W0 w g c bv vv dv ev vals ds ents) (hC : Bu w' g c' bv vv dv ev) (hk : Kp (LS g bv) w w') : LF F0 W0 w' g c' bv vv dv ev vals ds ents := by
 have hS : ∀ {e : TypeId} {size n : Nat} {x : Value} {xs : List Value}, w.ownsRow 0 e size x n xs -> 81 ≠ e -> 3 ≠ e -> w'.ownsRow 0 e size x n xs := fun hr n1 n2 => Al hr hk (fun b hb hs => by
  rcases hs with hs | hs
  ·exact Has.apart h.C.L hr n1 (by rw [<- hs, hb])
  ·exact CD h.C.b hr n2 hb hs)
 exact ⟨h.fr.trans (hk.mono (fun k _ hs => by
  rcases hs with rfl | hs
  ·exact h.fg
  ·exact h.fb k hs)), h.fg, h.fb, h.fv, h.fd, h.fe, h.fp, hC, hS h.v (by decide) (by decide), hS h.d (by decide) (by decide), fun i hi => hS (h.p i hi) (by decide) (by decide), hS h.e (by decide) (by decide)⟩
theorem LF.setHead (h : LF F0 W0 w g c bv vv dv ev vals ds ents) (i : Nat) (u : Value) (hC : Bu (w.setCell ⟨g, i, none⟩ u) g c' bv vv dv ev) : LF F0 W0 (w.setCell ⟨g, i, none⟩ u) g c' bv vv dv ev vals ds ents :=
 h.core hC ((Kp.refl _ w).setCell (p := ⟨g, i, none⟩) (.inl rfl) _)
theorem LF.setBal {gb : Nat} (h : LF F0 W0 w g c (.slice (some ⟨gb, 0, none⟩) n cap) vv dv ev vals ds ents) (hn : n = c.bal.length) (k : Nat) (x : Int) : LF F0 W0 (w.setCell ⟨gb, k, none⟩ (.int .i64 x)) g (Bf c k x) (.slice (some ⟨gb, 0, none⟩) n cap) vv dv ev vals ds ents :=
 h.core (h.C.setBal hn k x) ((Kp.refl _ w).setCell (p := ⟨gb, k, none⟩) (.inr rfl) _)
theorem LF.setVal {vals' : List VS} (h : LF F0 W0 w g c bv (.slice (some ⟨gv, 0, none⟩) n cap) dv ev vals ds ents) (hn : n = vals.length) (i : Nat) (u : Value) (he : (A5 vals).set i u = A5 vals') (hl : vals'.length = vals.length) : LF F0 W0 (w.setCell ⟨gv, i, none⟩ u) g c bv (.slice (some ⟨gv, 0, none⟩) n cap) dv ev vals' ds ents := by
 subst hn
 have hne : g ≠ gv := fun e => Has.apart h.C.L h.v (by decide) (by rw [e]; rfl)
 have hrow : (w.setCell ⟨gv, i, none⟩ u).ownsRow 0 114 8 (.slice (some ⟨gv, 0, none⟩) vals.length cap) vals.length (A5 vals') := by
  have := (h.v.stored i u).1
  rwa [he] at this
 exact ⟨h.fr.setCell (p := ⟨gv, i, none⟩) (h.fv gv rfl) u, h.fg, h.fb, h.fv, h.fd, h.fe, h.fp, ⟨h.C.L.other _ _ hne, Aa h.C.b _ _ (Bd h.C.b h.v (by decide))⟩, by rw [hl]; exact hrow, Aa h.d _ _ (Bd h.d h.v (by decide)), fun j hj => Aa (h.p j hj) _ _ (Bd (h.p j hj) h.v (by decide)), Aa h.e _ _ (Bd h.e h.v (by decide))⟩
theorem LF.setDel {gd : Nat} {ds' : List (DA × Value)} (h : LF F0 W0 w g c bv vv (.slice (some ⟨gd, 0, none⟩) n cap) ev vals ds ents) (hn : n = ds.length) (i : Nat) (u : Value) (he : (BC ds).set i u = BC ds') (hl : ds'.length = ds.length) (hp : ∀ i (h : i < ds'.length), w.ownsRow 0 134 2 ds'[i].2 ds'[i].1.parts.length (Dh ds'[i].1.parts)) (hf : ∀ i (h : i < ds'.length) k, ds'[i].2.ownBlock = some k -> LB F0 W0 k) :
  LF F0 W0 (w.setCell ⟨gd, i, none⟩ u) g c bv vv (.slice (some ⟨gd, 0, none⟩) n cap) ev vals ds' ents := by
 subst hn
 have hne : g ≠ gd := fun e => Has.apart h.C.L h.d (by decide) (by rw [e]; rfl)
 have hrow : (w.setCell ⟨gd, i, none⟩ u).ownsRow 0 84 4 (.slice (some ⟨gd, 0, none⟩) ds.length cap) ds.length (BC ds') := by
  have := (h.d.stored i u).1
  rwa [he] at this
 exact ⟨h.fr.setCell (p := ⟨gd, i, none⟩) (h.fd gd rfl) u, h.fg, h.fb, h.fv, h.fd, h.fe, hf, ⟨h.C.L.other _ _ hne, Aa h.C.b _ _ (Bd h.C.b h.d (by decide))⟩, Aa h.v _ _ (Bd h.v h.d (by decide)), by rw [hl]; exact hrow, fun j hj => Aa (hp j hj) _ _ (Bd (hp j hj) h.d (by decide)), Aa h.e _ _ (Bd h.e h.d (by decide))⟩
theorem G0 (l : List (DA × Value)) (k : Nat) (hk : k < l.length) (n : Int) : (BC l).set (k * 4 + 2) (.int .i64 n) = BC (l.set k ({ l[k].1 with shares := n }, l[k].2)) := by
 induction l generalizing k with
 | nil => simp at hk
 | cons v l ih =>
  cases k with
  | zero => simp [BC, DA.cells]
  | succ k =>
   have e : (k + 1) * 4 + 2 = (DA.cells v).length + (k * 4 + 2) := by simp [DA.cells]; omega
   rw [BC, e, List.set_append_right _ _ (by omega), Nat.add_sub_cancel_left, List.set_cons_succ, BC]
   congr 1
   have := ih k (by simpa using hk)
   simpa using this
theorem Lm (l : List VS) (k : Nat) (hk : k < l.length) (i : Nat) (u : Value) (x : VS) (hx : l[k].cells.set i u = x.cells) (hi : i < 8) : (A5 l).set (k * 8 + i) u = A5 (l.set k x) := by
 induction l generalizing k with
 | nil => simp at hk
 | cons v l ih =>
  cases k with
  | zero =>
   simp only [List.getElem_cons_zero] at hx
   simp only [Nat.zero_mul, Nat.zero_add, A5, List.set_cons_zero]
   rw [List.set_append_left _ _ (by simpa [VS.cells] using hi), hx]
  | succ k =>
   simp only [List.getElem_cons_succ] at hx
   simp only [A5, List.set_cons_succ]
   rw [List.set_append_right _ _ (by simp [VS.cells]; omega)]
   have e : (k + 1) * 8 + i - v.cells.length = k * 8 + i := by simp [VS.cells]; omega
   rw [e, ih k (by simpa using hk) hx]
theorem Fb (g : Nat) (c : LC) (bv vv dv ev : Value) (vals : List VS) (ds : List (DA × Value)) (ents : List ES) (i kw kv : Nat) (q : Int) (w : World) (h : LF F0 W0 w g c bv vv dv ev vals ds ents) (hi : i < ds.length) (hw : ds[i].1.who = kw) (hv : ds[i].1.val = kv) (hkw : kw < c.bal.length) (hkv : kv < vals.length)
  (hl : c.bal.length <= 1000) (lv : vals.length <= 1000) (ld : ds.length <= 1000) (x : Int) (hx : c.bal.getD kw 0 = x) (x0 : 0 <= x) (x1 : x <= 1000000000000) (q0 : 0 <= q) (q1 : q <= 1000000000000) (o0 : 0 <= vals[kv].outs) (o1 : vals[kv].outs <= 1000000000000) :
  Calls Tryz.prog 133 #[.pointer (some ⟨g, 0, none⟩), .int .i64 i, .int .i64 q] w fun e w' => e = .returned (.tuple #[]) ∧ LF F0 W0 w' g (Bf c kw (x + q)) bv vv dv ev (vals.set kv { vals[kv] with outs := vals[kv].outs - q }) (ds.set i ({ ds[i].1 with parts := [] }, .slice none 0 0)) ents := by
 obtain ⟨ba, bc, rfl⟩ := Ac h.C.b
 obtain ⟨gb, rfl, _⟩ := Ag h.C.b (by omega)
 obtain ⟨va, vc, rfl⟩ := Ac h.v
 obtain ⟨gv, rfl, _⟩ := Ag h.v (by omega)
 obtain ⟨da, dc, rfl⟩ := Ac h.d
 obtain ⟨gd, rfl, _⟩ := Ag h.d (by omega)
 have c4 : w.cell? ⟨g, 4, none⟩ = some (.slice (some ⟨gb, 0, none⟩) c.bal.length bc) := h.C.L.cell 4
 have c7 : w.cell? ⟨g, 7, none⟩ = some (.slice (some ⟨gv, 0, none⟩) vals.length vc) := h.C.L.cell 7
 have c8 : w.cell? ⟨g, 8, none⟩ = some (.slice (some ⟨gd, 0, none⟩) ds.length dc) := h.C.L.cell 8
 have y0 : w.cell? ⟨gd, i * 4, none⟩ = some (.int .i64 kw) := by
  have := (h.d.cellAt (i * 4 + 0) (by omega)).trans (BF ds i hi 0 (by omega))
  simpa [DA.cells, hw] using this
 have y1 : w.cell? ⟨gd, i * 4 + 1, none⟩ = some (.int .i64 kv) := by
  have := (h.d.cellAt (i * 4 + 1) (by omega)).trans (BF ds i hi 1 (by omega))
  simpa [DA.cells, hv] using this
 obtain ⟨pa, pc, hpv⟩ := Ac (h.p i hi)
 have y3 : w.cell? ⟨gd, i * 4 + 3, none⟩ = some (.slice pa ds[i].1.parts.length pc) := by
  have := (h.d.cellAt (i * 4 + 3) (by omega)).trans (BF ds i hi 3 (by omega))
  rw [<- hpv]; simpa [DA.cells] using this
 have fd := h.d.frozenAt (i * 4 + 3)
 have cb : w.cell? ⟨gb, kw, none⟩ = some (.int .i64 x) := by
  rw [h.C.b.cellAt kw (by omega), <- hx]; simp [Ai, hkw]
 have fb := h.C.b.frozenAt kw
 have zo : w.cell? ⟨gv, kv * 8 + 5, none⟩ = some (.int .i64 vals[kv].outs) := by
  have := (h.v.cellAt (kv * 8 + 5) (by omega)).trans (An vals kv hkv 5 (by omega))
  simpa [VS.cells] using this
 have fo := h.v.frozenAt (kv * 8 + 5)
 have n1 : g ≠ gb := fun e => Has.apart h.C.L h.C.b (by decide) (by rw [e]; rfl)
 have n2 : g ≠ gv := fun e => Has.apart h.C.L h.v (by decide) (by rw [e]; rfl)
 have n3 : g ≠ gd := fun e => Has.apart h.C.L h.d (by decide) (by rw [e]; rfl)
 have n4 : gb ≠ gv := fun e => Bd h.C.b h.v (by decide) (by rw [e]; rfl)
 have n5 : gb ≠ gd := fun e => Bd h.C.b h.d (by decide) (by rw [e]; rfl)
 have n6 : gv ≠ gd := fun e => Bd h.v h.d (by decide) (by rw [e]; rfl)
 have n1' := n1.symm
 have n2' := n2.symm
 have n3' := n3.symm
 have n4' := n4.symm
 have n5' := n5.symm
 have n6' := n6.symm
 have hF := ((h.setBal rfl kw (x + q)).setVal rfl (kv * 8 + 5) (.int .i64 (vals[kv].outs - q)) (vals' := vals.set kv { vals[kv] with outs := vals[kv].outs - q }) (Lm vals kv hkv 5 _ _ rfl (by omega)) (by simp))
 have hF2 := hF.setDel rfl (i * 4 + 3) (.slice none 0 0) (ds' := ds.set i ({ ds[i].1 with parts := [] }, .slice none 0 0)) (FP ds i hi [] _) (by simp) (fun j hj => by
   by_cases e : i = j
   ·subst e; simp only [List.getElem_set_self]; exact World.ownsRow_nil _ _ _ _
   ·simp only [List.getElem_set_ne e]; exact hF.p j (by simpa using hj)) (fun j hj k hk => by
   by_cases e : i = j
   ·subst e; simp [Value.ownBlock] at hk
   ·simp only [List.getElem_set_ne e] at hk; exact hF.fp j (by simpa using hj) k hk)
 have HF : Hid _ := hF2
 clear hF hF2 h hpv hx hw hv
 generalize vals[kv].outs = zz at *
 generalize ds[i].1.parts.length = pn at *
 go_enter Tryz.func133, Tryz.ntmps133
 go_wp2
 go_region
 go_wp2
 go_region
 go_wp2
 first | (go_region; go_wp2; go_end0) | go_end0
 exact ⟨rfl, HF.out.eta rfl rfl rfl rfl⟩
def GJ (who v : Int) (o : DA × Value) : Bool := decide (who < o.1.who) || (decide (o.1.who = who) && decide (v < o.1.val))
def DO (d : DA × Value) (p : List (DA × Value) × Bool) (o : DA × Value) : List (DA × Value) × Bool :=
 if p.2 = false ∧ GJ d.1.who d.1.val o = true then (p.1 ++ [d] ++ [o], true) else (p.1 ++ [o], p.2)
def Cf (d : DA × Value) (l : List (DA × Value)) (k : Nat) : List (DA × Value) × Bool := (l.take k).foldl (DO d) ([], false)
def FZ (d : DA × Value) (l : List (DA × Value)) : List (DA × Value) := if (Cf d l l.length).2 = true then (Cf d l l.length).1 else (Cf d l l.length).1 ++ [d]
theorem EL (d : DA × Value) (l : List (DA × Value)) (k : Nat) (h : k < l.length) : Cf d l (k + 1) = DO d (Cf d l k) l[k] := Cv _ _ l k h
theorem N1 (d : DA × Value) (l : List (DA × Value)) (k : Nat) (hk : k <= l.length) : (Cf d l k).1.length <= k + 1 ∧ ((Cf d l k).2 = false -> (Cf d l k).1.length <= k) := by
 induction k with
 | zero => simp [Cf]
 | succ k ih =>
  have h := ih (by omega)
  rw [EL d l k (by omega), DO]
  split
  ·rename_i hc
   have := h.2 hc.1
   simp; omega
  ·refine ⟨by simp; omega, fun hf => ?_⟩
   have := h.2 hf
   simp; omega
theorem JH (d : DA × Value) (l : List (DA × Value)) (k : Nat) (hk : k <= l.length) : ∀ x ∈ (Cf d l k).1, x = d ∨ x ∈ l := by
 induction k with
 | zero => simp [Cf]
 | succ k ih =>
  have h := ih (by omega)
  intro x hx
  rw [EL d l k (by omega), DO] at hx
  split at hx
  ·simp only [List.mem_append, List.mem_singleton] at hx
   rcases hx with (hx | hx) | hx
   ·exact h x hx
   ·exact .inl hx
   ·right; rw [hx]; exact List.getElem_mem _
  ·simp only [List.mem_append, List.mem_singleton] at hx
   rcases hx with hx | hx
   ·exact h x hx
   ·right; rw [hx]; exact List.getElem_mem _
theorem Qf (d : DA × Value) (l : List (DA × Value)) : ∀ x ∈ FZ d l, x = d ∨ x ∈ l := by
 intro x hx
 unfold FZ at hx
 split at hx
 ·exact JH d l _ (Nat.le_refl _) x hx
 ·simp only [List.mem_append, List.mem_singleton] at hx
  rcases hx with hx | hx
  ·exact JH d l _ (Nat.le_refl _) x hx
  ·exact .inl hx
theorem JN (l : List (DA × Value)) (o : DA × Value) : BC (l ++ [o]) = BC l ++ DA.cells o := by
 induction l with
 | nil => simp [BC]
 | cons v l ih => simp [BC, ih]
theorem Fp : (Tryz.prog.info? 84).map (fun i => (i.zero, i.size, i.bytes)) = some (some (.agg #[.int .i64 0, .int .i64 0, .int .i64 0, .slice none 0 0]), 4, 48) := by kernel_rfl
def DD (ds : List (DA × Value)) (who v n : Int) : List (DA × Value) :=
 match ds.findIdx? (fun d => d.1.who == who && d.1.val == v) with
 | some i => ds.modify i (fun d => ({ d.1 with shares := d.1.shares + n }, d.2))
 | none => FZ (⟨who, v, n, []⟩, .slice none 0 0) ds
structure JI (w wr : World) (who v n : Int) (out : Value) (l : List (DA × Value)) : Prop where
 fr : Below w.heap.size w wr
 X : Has wr w.heap.size 84 [.int .i64 who, .int .i64 v, .int .i64 n, .slice none 0 0]
 r : wr.ownsRow (w.heap.size + 1) 84 4 out l.length (BC l)
theorem JI.alloc {n : Int} (h : JI w wr who v n out l) (o : Obj) : JI w (wr.alloc o) who v n out l := ⟨h.fr.alloc h.fr.size o, h.X.alloc o, h.r.alloc o⟩
theorem JI.hsz {n : Int} (h : JI w wr who v n out l) : w.heap.size + 1 <= wr.heap.size := h.X.lt
theorem JI.push {v5 : World} {n : Int} {out' : Value} {o : DA × Value} (h : JI w wr who v n out l) (hg : wr.grownBy v5 out.ownBlock) (hown : v5.ownsRow (w.heap.size + 1) 84 4 out' (l.length + 1) (BC l ++ DA.cells o)) : JI w v5 who v n out' (l ++ [o]) :=
 ⟨h.fr.grown hg h.fr.size (fun j hj => by have := (h.r.lt j hj).1; omega), Ao hg h.X (fun e => by have := (h.r.lt _ e.symm).1; omega), by rw [JN, List.length_append]; exact hown⟩
theorem LL (g : Nat) (c : LC) (bv vv dv ev : Value) (vals : List VS) (ds : List (DA × Value)) (ents : List ES) (who v n : Int) (w : World) (h : LF F0 W0 w g c bv vv dv ev vals ds ents) (ld : ds.length <= 900) (hat : atF ds who v = -1) :
  Calls Tryz.prog 154 #[.pointer (some ⟨g, 0, none⟩), .int .i64 who, .int .i64 v, .int .i64 n] w fun e w' => e = .returned (.tuple #[]) ∧ ∃ dv', LF F0 W0 w' g c bv vv dv' ev vals (FZ (⟨who, v, n, []⟩, .slice none 0 0) ds) ents := by
 obtain ⟨i5, hi5, hz50, hz51, hz52⟩ := info_parts Fp
 obtain ⟨da, dc, rfl⟩ := Ac h.d
 have c8 : w.cell? ⟨g, 8, none⟩ = some (.slice da ds.length dc) := h.C.L.cell 8
 have HAt : Hid (Calls Tryz.prog 51 #[.pointer (some ⟨g, 0, none⟩), .int .i64 who, .int .i64 v] w fun e w' => e = .returned (.int .i64 (-1)) ∧ w = w') := by
  have := Db g _ ds who v w c8 (Rd.of_owns h.d) (by omega)
  rwa [hat] at this
 have HL := Hd h
 clear h hat
 go_enter Tryz.func154, Tryz.ntmps154
 go_wp2_with fail
 refine HAt.out.mono ?_
 rintro e w' ⟨rfl, rfl⟩
 clear HAt
 have HJ0 : Hid (JI w (w.alloc (.cells #[.int .i64 who, .int .i64 v, .int .i64 n, .slice none 0 0] 84)) who v n (.slice none 0 0) []) := ⟨(Below.refl _ _).alloc (Nat.le_refl _) _, Has.newA w _ _, World.ownsRow_nil _ _ _ _⟩
 go_wp2
 go_loopw [9, 10, 12] (fun out put i wr => ∃ (k : Nat) (l : List (DA × Value)) (b : Bool), i = .int .i64 k ∧ k <= ds.length ∧ put = .bool b ∧ Cf (⟨who, v, n, []⟩, .slice none 0 0) ds k = (l, b) ∧ JI w wr who v n out l) (fun _ _ i _ => ds.length - (intOf i).toNat)
 case atStart => exact ⟨0, [], false, rfl, Nat.zero_le _, rfl, rfl, HJ0.out⟩
 case round =>
  clear HJ0
  obtain ⟨k, l, b, rfl, hk, rfl, hins, hJ⟩ := hrel
  obtain ⟨oa, oc, rfl⟩ := Ac hJ.r
  have HJ := Hd hJ
  have hll := N1 (⟨who, v, n, []⟩, .slice none 0 0) ds k hk
  rw [hins] at hll
  obtain ⟨hl1, hl2⟩ := hll
  simp only at hl1 hl2
  have HLW := (show Hid _ from HL.out.below hJ.fr)
  have c8' : wr.cell? ⟨g, 8, none⟩ = some (.slice da ds.length dc) := HLW.out.C.L.cell 8
  have x0 : wr.cell? ⟨w.heap.size, 0, none⟩ = some (.int .i64 who) := hJ.X.cell 0
  have x1 : wr.cell? ⟨w.heap.size, 1, none⟩ = some (.int .i64 v) := hJ.X.cell 1
  have x2 : wr.cell? ⟨w.heap.size, 2, none⟩ = some (.int .i64 n) := hJ.X.cell 2
  have x3 : wr.cell? ⟨w.heap.size, 3, none⟩ = some (.slice none 0 0) := hJ.X.cell 3
  have hxl := hJ.X.lt
  have hgl := HLW.out.C.L.lt
  by_cases hlt : k < ds.length
  ·obtain ⟨gd, rfl, _⟩ := Ag HLW.out.d (by omega)
   obtain ⟨pa, pc, hpv⟩ := Ac (HLW.out.p k hlt)
   have hcell : ∀ i, i < 4 -> wr.cell? ⟨gd, k * 4 + i, none⟩ = (DA.cells ds[k])[i]? := fun i hi => (HLW.out.d.cellAt (k * 4 + i) (by omega)).trans (BF ds k hlt i hi)
   have y0 := hcell 0 (by omega)
   have y1 := hcell 1 (by omega)
   have y2 := hcell 2 (by omega)
   have y3 := hcell 3 (by omega)
   have hgdl : gd < wr.heap.size := (HLW.out.d.lt gd rfl).2
   have HI : Hid (Cf (⟨who, v, n, []⟩, .slice none 0 0) ds (k + 1) = DO (⟨who, v, n, []⟩, .slice none 0 0) (l, b) ds[k]) := by
    show Cf _ ds (k + 1) = _
    rw [EL _ ds k hlt, hins]
   obtain ⟨o, ho⟩ : ∃ o, ds[k] = o := ⟨_, rfl⟩
   rw [ho] at y0 y1 y2 y3 HI hpv
   obtain ⟨⟨ow, ov, os, op⟩, opv⟩ := o
   simp only at hpv
   subst hpv
   simp only [DA.cells, List.getElem?_cons_succ, List.getElem?_cons_zero, Nat.add_zero] at y0 y1 y2 y3
   clear hcell hJ hins
   cases b with
   | true =>
    have HIn : Hid (Cf (⟨who, v, n, []⟩, .slice none 0 0) ds (k + 1) = (l ++ [(⟨ow, ov, os, op⟩, .slice pa op.length pc)], true)) := by
     show Cf _ ds (k + 1) = _
     rw [HI.out, DO, if_neg (by simp)]
    clear HI
    go_wp2_with (at_builtin; go_loud (refine Ak rfl (.tmp 81) (.tmp 83) 78 rfl 84 i5 _ 4 48 Tryz.underlying78 hi5 hz50 hz51 hz52 rfl (by decide) (w.heap.size + 1) _ l.length (BC (l)) rfl ((HJ.out.alloc _).alloc _).r ((HJ.out.alloc _).alloc _).hsz ⟨_, 0, none⟩ 1 1 [.int .i64 ow, .int .i64 ov, .int .i64 os, .slice pa op.length pc] rfl (by rfl) (Ap _ [.int .i64 ow, .int .i64 ov, .int .i64 os, .slice pa op.length pc] _ _ (by simp)) (by simp [Value.oneCell']) (by decide) (by simp [maxLen]; omega) (by omega) ?_))
    intro g5 cap5 v5 hown5 hgrow5 hor5 hold5
    have HJ5 : Hid (JI w v5 who v n (.slice (some ⟨g5, 0, none⟩) (l.length + 1) cap5) (l ++ [(⟨ow, ov, os, op⟩, .slice pa op.length pc)])) := ((HJ.out.alloc _).alloc _).push (o := (⟨ow, ov, os, op⟩, .slice pa op.length pc)) hgrow5 hown5
    clear hown5 hgrow5 hor5 hold5 HJ
    go_wp2
    refine And.intro ?_ ?_
    ·first | exact ⟨k + 1, _, true, by go_num, by omega, rfl, HIn.out, HJ5.out⟩ | ((repeat apply Exists.intro); exact ⟨⟨k + 1, _, true, by go_num, by omega, rfl, HIn.out, HJ5.out⟩, rfl⟩)
    ·simp [intOf]; omega
   | false =>
    have hl3 := hl2 rfl
    by_cases h1 : who < ow
    ·have HIn : Hid (Cf (⟨who, v, n, []⟩, .slice none 0 0) ds (k + 1) = (l ++ [(⟨who, v, n, []⟩, .slice none 0 0)] ++ [(⟨ow, ov, os, op⟩, .slice pa op.length pc)], true)) := by
      show Cf _ ds (k + 1) = _
      rw [HI.out, DO, if_pos (by simp [GJ, h1])]
     clear HI
     go_wp2_with (at_builtin; go_loud (refine Ak rfl (.tmp 77) (.tmp 79) 78 rfl 84 i5 _ 4 48 Tryz.underlying78 hi5 hz50 hz51 hz52 rfl (by decide) (w.heap.size + 1) _ l.length (BC (l)) rfl ((HJ.out.alloc _).alloc _).r ((HJ.out.alloc _).alloc _).hsz ⟨_, 0, none⟩ 1 1 [.int .i64 who, .int .i64 v, .int .i64 n, .slice none 0 0] rfl (by rfl) (Ap _ [.int .i64 who, .int .i64 v, .int .i64 n, .slice none 0 0] _ _ (by simp)) (by simp [Value.oneCell']) (by decide) (by simp [maxLen]; omega) (by omega) ?_))
     intro g5 cap5 v5 hown5 hgrow5 hor5 hold5
     have HJ5 : Hid (JI w v5 who v n (.slice (some ⟨g5, 0, none⟩) (l.length + 1) cap5) (l ++ [(⟨who, v, n, []⟩, .slice none 0 0)])) := ((HJ.out.alloc _).alloc _).push (o := (⟨who, v, n, []⟩, .slice none 0 0)) hgrow5 hown5
     have HO5 : Hid (Has v5 wr.heap.size 84 [.int .i64 ow, .int .i64 ov, .int .i64 os, .slice pa op.length pc]) := by
      refine Ao hgrow5 ((Has.newA wr _ _).alloc _) (fun e => ?_)
      have := (HJ.out.r.lt _ e.symm).2
      omega
     clear hown5 hgrow5 hor5 hold5 HJ
     have t0 : v5.cell? ⟨wr.heap.size, 0, none⟩ = some (.int .i64 ow) := HO5.out.cell 0
     have t1 : v5.cell? ⟨wr.heap.size, 1, none⟩ = some (.int .i64 ov) := HO5.out.cell 1
     have t2 : v5.cell? ⟨wr.heap.size, 2, none⟩ = some (.int .i64 os) := HO5.out.cell 2
     have t3 : v5.cell? ⟨wr.heap.size, 3, none⟩ = some (.slice pa op.length pc) := HO5.out.cell 3
     have e5 : (l ++ [((⟨who, v, n, []⟩, .slice none 0 0) : DA × Value)]).length = l.length + 1 := by simp
     have HR5 : Hid (∀ o, (v5.alloc o).ownsRow (w.heap.size + 1) 84 4 (.slice (some ⟨g5, 0, none⟩) (l.length + 1) cap5) (l.length + 1) (BC (l ++ [(⟨who, v, n, []⟩, .slice none 0 0)]))) := fun o => by have := (HJ5.out.alloc o).r; rwa [e5] at this
     go_wp2_with (at_builtin; go_loud (refine Ak rfl (.tmp 81) (.tmp 83) 78 rfl 84 i5 _ 4 48 Tryz.underlying78 hi5 hz50 hz51 hz52 rfl (by decide) (w.heap.size + 1) _ (l.length + 1) (BC (l ++ [(⟨who, v, n, []⟩, .slice none 0 0)])) rfl (HR5.out _) (HJ5.out.alloc _).hsz ⟨_, 0, none⟩ 1 1 [.int .i64 ow, .int .i64 ov, .int .i64 os, .slice pa op.length pc] rfl (by rfl) (Ap _ [.int .i64 ow, .int .i64 ov, .int .i64 os, .slice pa op.length pc] _ _ (by simp)) (by simp [Value.oneCell']) (by decide) (by simp [maxLen]; omega) (by omega) ?_))
     intro g6 cap6 v6 hown6 hgrow6 hor6 hold6
     have HJ6 : Hid (JI w v6 who v n (.slice (some ⟨g6, 0, none⟩) (l.length + 1 + 1) cap6) (l ++ [(⟨who, v, n, []⟩, .slice none 0 0)] ++ [(⟨ow, ov, os, op⟩, .slice pa op.length pc)])) := (HJ5.out.alloc _).push (o := (⟨ow, ov, os, op⟩, .slice pa op.length pc)) hgrow6 (by rw [e5]; exact hown6)
     clear hown6 hgrow6 hor6 hold6 HJ5 e5 HR5
     go_wp2
     refine And.intro ?_ ?_
     ·first | exact ⟨k + 1, _, true, by go_num, by omega, rfl, HIn.out, HJ6.out⟩ | ((repeat apply Exists.intro); exact ⟨⟨k + 1, _, true, by go_num, by omega, rfl, HIn.out, HJ6.out⟩, rfl⟩)
     ·simp [intOf]; omega
    ·by_cases h2 : ow = who
     ·have e2 : (ow == who) = true := by simp [h2]
      by_cases h3 : v < ov
      ·have HIn : Hid (Cf (⟨who, v, n, []⟩, .slice none 0 0) ds (k + 1) = (l ++ [(⟨who, v, n, []⟩, .slice none 0 0)] ++ [(⟨ow, ov, os, op⟩, .slice pa op.length pc)], true)) := by
        show Cf _ ds (k + 1) = _
        rw [HI.out, DO, if_pos (by simp [GJ, h2, h3])]
       clear HI h2
       go_wp2_with (at_builtin; go_loud (refine Ak rfl (.tmp 77) (.tmp 79) 78 rfl 84 i5 _ 4 48 Tryz.underlying78 hi5 hz50 hz51 hz52 rfl (by decide) (w.heap.size + 1) _ l.length (BC (l)) rfl ((HJ.out.alloc _).alloc _).r ((HJ.out.alloc _).alloc _).hsz ⟨_, 0, none⟩ 1 1 [.int .i64 who, .int .i64 v, .int .i64 n, .slice none 0 0] rfl (by rfl) (Ap _ [.int .i64 who, .int .i64 v, .int .i64 n, .slice none 0 0] _ _ (by simp)) (by simp [Value.oneCell']) (by decide) (by simp [maxLen]; omega) (by omega) ?_))
       intro g5 cap5 v5 hown5 hgrow5 hor5 hold5
       have HJ5 : Hid (JI w v5 who v n (.slice (some ⟨g5, 0, none⟩) (l.length + 1) cap5) (l ++ [(⟨who, v, n, []⟩, .slice none 0 0)])) := ((HJ.out.alloc _).alloc _).push (o := (⟨who, v, n, []⟩, .slice none 0 0)) hgrow5 hown5
       have HO5 : Hid (Has v5 wr.heap.size 84 [.int .i64 ow, .int .i64 ov, .int .i64 os, .slice pa op.length pc]) := by
        refine Ao hgrow5 ((Has.newA wr _ _).alloc _) (fun e => ?_)
        have := (HJ.out.r.lt _ e.symm).2
        omega
       clear hown5 hgrow5 hor5 hold5 HJ
       have t0 : v5.cell? ⟨wr.heap.size, 0, none⟩ = some (.int .i64 ow) := HO5.out.cell 0
       have t1 : v5.cell? ⟨wr.heap.size, 1, none⟩ = some (.int .i64 ov) := HO5.out.cell 1
       have t2 : v5.cell? ⟨wr.heap.size, 2, none⟩ = some (.int .i64 os) := HO5.out.cell 2
       have t3 : v5.cell? ⟨wr.heap.size, 3, none⟩ = some (.slice pa op.length pc) := HO5.out.cell 3
       have e5 : (l ++ [((⟨who, v, n, []⟩, .slice none 0 0) : DA × Value)]).length = l.length + 1 := by simp
       have HR5 : Hid (∀ o, (v5.alloc o).ownsRow (w.heap.size + 1) 84 4 (.slice (some ⟨g5, 0, none⟩) (l.length + 1) cap5) (l.length + 1) (BC (l ++ [(⟨who, v, n, []⟩, .slice none 0 0)]))) := fun o => by have := (HJ5.out.alloc o).r; rwa [e5] at this
       go_wp2_with (at_builtin; go_loud (refine Ak rfl (.tmp 81) (.tmp 83) 78 rfl 84 i5 _ 4 48 Tryz.underlying78 hi5 hz50 hz51 hz52 rfl (by decide) (w.heap.size + 1) _ (l.length + 1) (BC (l ++ [(⟨who, v, n, []⟩, .slice none 0 0)])) rfl (HR5.out _) (HJ5.out.alloc _).hsz ⟨_, 0, none⟩ 1 1 [.int .i64 ow, .int .i64 ov, .int .i64 os, .slice pa op.length pc] rfl (by rfl) (Ap _ [.int .i64 ow, .int .i64 ov, .int .i64 os, .slice pa op.length pc] _ _ (by simp)) (by simp [Value.oneCell']) (by decide) (by simp [maxLen]; omega) (by omega) ?_))
       intro g6 cap6 v6 hown6 hgrow6 hor6 hold6
       have HJ6 : Hid (JI w v6 who v n (.slice (some ⟨g6, 0, none⟩) (l.length + 1 + 1) cap6) (l ++ [(⟨who, v, n, []⟩, .slice none 0 0)] ++ [(⟨ow, ov, os, op⟩, .slice pa op.length pc)])) := (HJ5.out.alloc _).push (o := (⟨ow, ov, os, op⟩, .slice pa op.length pc)) hgrow6 (by rw [e5]; exact hown6)
       clear hown6 hgrow6 hor6 hold6 HJ5 e5 HR5
       go_wp2
       refine And.intro ?_ ?_
       ·first | exact ⟨k + 1, _, true, by go_num, by omega, rfl, HIn.out, HJ6.out⟩ | ((repeat apply Exists.intro); exact ⟨⟨k + 1, _, true, by go_num, by omega, rfl, HIn.out, HJ6.out⟩, rfl⟩)
       ·simp [intOf]; omega
      ·have HIn : Hid (Cf (⟨who, v, n, []⟩, .slice none 0 0) ds (k + 1) = (l ++ [(⟨ow, ov, os, op⟩, .slice pa op.length pc)], false)) := by
        show Cf _ ds (k + 1) = _
        rw [HI.out, DO, if_neg (by simp [GJ, h1, h3])]
       clear HI h2
       go_wp2_with (at_builtin; go_loud (refine Ak rfl (.tmp 81) (.tmp 83) 78 rfl 84 i5 _ 4 48 Tryz.underlying78 hi5 hz50 hz51 hz52 rfl (by decide) (w.heap.size + 1) _ l.length (BC (l)) rfl ((HJ.out.alloc _).alloc _).r ((HJ.out.alloc _).alloc _).hsz ⟨_, 0, none⟩ 1 1 [.int .i64 ow, .int .i64 ov, .int .i64 os, .slice pa op.length pc] rfl (by rfl) (Ap _ [.int .i64 ow, .int .i64 ov, .int .i64 os, .slice pa op.length pc] _ _ (by simp)) (by simp [Value.oneCell']) (by decide) (by simp [maxLen]; omega) (by omega) ?_))
       intro g5 cap5 v5 hown5 hgrow5 hor5 hold5
       have HJ5 : Hid (JI w v5 who v n (.slice (some ⟨g5, 0, none⟩) (l.length + 1) cap5) (l ++ [(⟨ow, ov, os, op⟩, .slice pa op.length pc)])) := ((HJ.out.alloc _).alloc _).push (o := (⟨ow, ov, os, op⟩, .slice pa op.length pc)) hgrow5 hown5
       clear hown5 hgrow5 hor5 hold5 HJ
       go_wp2
       refine And.intro ?_ ?_
       ·first | exact ⟨k + 1, _, false, by go_num, by omega, rfl, HIn.out, HJ5.out⟩ | ((repeat apply Exists.intro); exact ⟨⟨k + 1, _, false, by go_num, by omega, rfl, HIn.out, HJ5.out⟩, rfl⟩)
       ·simp [intOf]; omega
     ·have e2 : (ow == who) = false := by simp [h2]
      have HIn : Hid (Cf (⟨who, v, n, []⟩, .slice none 0 0) ds (k + 1) = (l ++ [(⟨ow, ov, os, op⟩, .slice pa op.length pc)], false)) := by
       show Cf _ ds (k + 1) = _
       rw [HI.out, DO, if_neg (by simp [GJ, h1, h2])]
      clear HI h2
      go_wp2_with (at_builtin; go_loud (refine Ak rfl (.tmp 81) (.tmp 83) 78 rfl 84 i5 _ 4 48 Tryz.underlying78 hi5 hz50 hz51 hz52 rfl (by decide) (w.heap.size + 1) _ l.length (BC (l)) rfl ((HJ.out.alloc _).alloc _).r ((HJ.out.alloc _).alloc _).hsz ⟨_, 0, none⟩ 1 1 [.int .i64 ow, .int .i64 ov, .int .i64 os, .slice pa op.length pc] rfl (by rfl) (Ap _ [.int .i64 ow, .int .i64 ov, .int .i64 os, .slice pa op.length pc] _ _ (by simp)) (by simp [Value.oneCell']) (by decide) (by simp [maxLen]; omega) (by omega) ?_))
      intro g5 cap5 v5 hown5 hgrow5 hor5 hold5
      have HJ5 : Hid (JI w v5 who v n (.slice (some ⟨g5, 0, none⟩) (l.length + 1) cap5) (l ++ [(⟨ow, ov, os, op⟩, .slice pa op.length pc)])) := ((HJ.out.alloc _).alloc _).push (o := (⟨ow, ov, os, op⟩, .slice pa op.length pc)) hgrow5 hown5
      clear hown5 hgrow5 hor5 hold5 HJ
      go_wp2
      refine And.intro ?_ ?_
      ·first | exact ⟨k + 1, _, false, by go_num, by omega, rfl, HIn.out, HJ5.out⟩ | ((repeat apply Exists.intro); exact ⟨⟨k + 1, _, false, by go_num, by omega, rfl, HIn.out, HJ5.out⟩, rfl⟩)
      ·simp [intOf]; omega
  ·have hke : k = ds.length := by omega
   subst hke
   have f8 := HLW.out.C.L.frozen 8
   have HFin : Hid (∀ (u : World) (dv' : Value) (L : List (DA × Value)), JI w u who v n dv' L -> (∀ x ∈ L, x = (⟨who, v, n, []⟩, .slice none 0 0) ∨ x ∈ ds) -> LF F0 W0 (u.setCell ⟨g, 8, none⟩ dv') g c bv vv dv' ev vals L ents ∧ u.cell? ⟨g, 8, none⟩ = some (.slice da ds.length dc) ∧ u.frozen? ⟨g, 8, none⟩ = false) := fun u dv' L hj hm => by
    have hU := HL.out.below hj.fr
    refine ⟨⟨hU.fr.setCell (p := ⟨g, 8, none⟩) hU.fg _, hU.fg, hU.fb, hU.fv, fun k hk => ?_, hU.fe, fun j hj' k hk => ?_, ⟨hU.C.L.set 8 _, Aa hU.C.b _ _ (fun e => Has.apart hU.C.L hU.C.b (by decide) e.symm)⟩, Aa hU.v _ _ (fun e => Has.apart hU.C.L hU.v (by decide) e.symm), ?_, fun j hj' => ?_, Aa hU.e _ _ (fun e => Has.apart hU.C.L hU.e (by decide) e.symm)⟩, hU.C.L.cell 8, hU.C.L.frozen 8⟩
    ·exact .inr (Nat.le_trans HL.out.fr.size (by have := (hj.r.lt k hk).1; omega))
    ·rcases hm _ (List.getElem_mem hj') with e | e
     ·rw [e] at hk; simp [Value.ownBlock] at hk
     ·obtain ⟨i, hi, he⟩ := List.getElem_of_mem e
      rw [<- he] at hk; exact hU.fp i hi k hk
    ·exact Aj (Aa hj.r _ _ (fun e => Has.apart hU.C.L hj.r (by decide) e.symm)) (Nat.zero_le _)
    ·rcases hm _ (List.getElem_mem hj') with e | e
     ·rw [e]; exact World.ownsRow_nil _ _ _ _
     ·obtain ⟨i, hi, he⟩ := List.getElem_of_mem e
      rw [<- he]; exact Aa (hU.p i hi) _ _ (fun e => Has.apart hU.C.L (hU.p i hi) (by decide) e.symm)
   have HM : Hid (∀ x ∈ FZ (⟨who, v, n, []⟩, .slice none 0 0) ds, x = (⟨who, v, n, []⟩, .slice none 0 0) ∨ x ∈ ds) := Qf _ _
   cases b with
   | true =>
    have HE : Hid (FZ (⟨who, v, n, []⟩, .slice none 0 0) ds = l) := by
     show FZ _ ds = l
     unfold FZ; rw [hins]; simp
    obtain ⟨hf, _, _⟩ := HFin.out wr (.slice oa l.length oc) l HJ.out (by have := HM.out; rwa [HE.out] at this)
    have HF := Hd hf
    clear hf hJ hins HFin
    go_wp2
    go_end0
    refine ⟨rfl, (.slice oa l.length oc), ?_⟩
    rw [HE.out]; exact HF.out
   | false =>
    have hl3 := hl2 rfl
    have HE : Hid (FZ (⟨who, v, n, []⟩, .slice none 0 0) ds = l ++ [(⟨who, v, n, []⟩, .slice none 0 0)]) := by
     show FZ _ ds = _
     unfold FZ; rw [hins]; simp
    clear hJ hins
    go_wp2_with (at_builtin; go_loud (refine Ak rfl (.tmp 87) (.tmp 89) 78 rfl 84 i5 _ 4 48 Tryz.underlying78 hi5 hz50 hz51 hz52 rfl (by decide) (w.heap.size + 1) _ l.length (BC (l)) rfl (HJ.out.alloc _).r (HJ.out.alloc _).hsz ⟨_, 0, none⟩ 1 1 [.int .i64 who, .int .i64 v, .int .i64 n, .slice none 0 0] rfl (by rfl) (Ap _ [.int .i64 who, .int .i64 v, .int .i64 n, .slice none 0 0] _ _ rfl) (by simp [Value.oneCell']) (by decide) (by simp [maxLen]; omega) (by omega) ?_))
    intro g5 cap5 v5 hown5 hgrow5 hor5 hold5
    have HJ5 : Hid (JI w v5 who v n (.slice (some ⟨g5, 0, none⟩) (l.length + 1) cap5) (l ++ [(⟨who, v, n, []⟩, .slice none 0 0)])) := (HJ.out.alloc _).push (o := (⟨who, v, n, []⟩, .slice none 0 0)) hgrow5 hown5
    obtain ⟨hf, d8, k8⟩ := HFin.out v5 (.slice (some ⟨g5, 0, none⟩) (l.length + 1) cap5) _ HJ5.out (by have := HM.out; rwa [HE.out] at this)
    have HF := Hd hf
    clear hf hown5 hgrow5 hor5 hold5 HJ HJ5 HFin
    go_wp2
    go_end0
    refine ⟨rfl, (.slice (some ⟨g5, 0, none⟩) (l.length + 1) cap5), ?_⟩
    rw [HE.out]; exact HF.out
theorem Dt (ds : List (DA × Value)) (who v : Int) : (atF ds who v = -1 ∧ ds.findIdx? (fun d => d.1.who == who && d.1.val == v) = none) ∨ ∃ i : Nat, ∃ h : i < ds.length, atF ds who v = i ∧ ds.findIdx? (fun d => d.1.who == who && d.1.val == v) = some i ∧ ds[i].1.who = who ∧ ds[i].1.val = v := by
 cases he : ds.findIdx? (fun d => d.1.who == who && d.1.val == v) with
 | none => exact .inl ⟨by unfold atF; rw [he], rfl⟩
 | some i =>
  obtain ⟨h, hp, _⟩ := List.findIdx?_eq_some_iff_getElem.mp he
  simp only [Bool.and_eq_true, beq_iff_eq] at hp
  exact .inr ⟨i, h, by unfold atF; rw [he], rfl, hp.1, hp.2⟩
theorem FL (ds : List (DA × Value)) (i : Nat) (h : i < ds.length) (f : DA × Value -> DA × Value) : ds.modify i f = ds.set i (f ds[i]) := by
 induction ds generalizing i with
 | nil => simp at h
 | cons d ds ih =>
  cases i with
  | zero => simp
  | succ i => simp only [List.modify_succ_cons, List.set_cons_succ, List.getElem_cons_succ]; rw [ih i (by simpa using h)]
theorem Ma (g : Nat) (c : LC) (bv vv dv ev : Value) (vals : List VS) (ds : List (DA × Value)) (ents : List ES) (who v n : Int) (w : World) (h : LF F0 W0 w g c bv vv dv ev vals ds ents) (ld : ds.length <= 900) (i : Nat) (hi : i < ds.length) (hat : atF ds who v = i) (n0 : 0 <= n) (n1 : n <= 1000000000000) (s0 : 0 <= ds[i].1.shares) (s1 : ds[i].1.shares <= 1000000000000) :
  Calls Tryz.prog 154 #[.pointer (some ⟨g, 0, none⟩), .int .i64 who, .int .i64 v, .int .i64 n] w fun e w' => e = .returned (.tuple #[]) ∧ LF F0 W0 w' g c bv vv dv ev vals (ds.set i ({ ds[i].1 with shares := ds[i].1.shares + n }, ds[i].2)) ents := by
 obtain ⟨da, dc, rfl⟩ := Ac h.d
 obtain ⟨gd, rfl, _⟩ := Ag h.d (by omega)
 have c8 : w.cell? ⟨g, 8, none⟩ = some (.slice (some ⟨gd, 0, none⟩) ds.length dc) := h.C.L.cell 8
 have HAt : Hid (Calls Tryz.prog 51 #[.pointer (some ⟨g, 0, none⟩), .int .i64 who, .int .i64 v] w fun e w' => e = .returned (.int .i64 i) ∧ w = w') := by
  have := Db g _ ds who v w c8 (Rd.of_owns h.d) (by omega)
  rwa [hat] at this
 have y2 : w.cell? ⟨gd, i * 4 + 2, none⟩ = some (.int .i64 ds[i].1.shares) := by
  have := (h.d.cellAt (i * 4 + 2) (by omega)).trans (BF ds i hi 2 (by omega))
  simpa [DA.cells] using this
 have fd := h.d.frozenAt (i * 4 + 2)
 have n3 : g ≠ gd := fun e => Has.apart h.C.L h.d (by decide) (by rw [e]; rfl)
 have n3' := n3.symm
 have HF : Hid _ := h.setDel rfl (i * 4 + 2) (.int .i64 (ds[i].1.shares + n)) (ds' := ds.set i ({ ds[i].1 with shares := ds[i].1.shares + n }, ds[i].2)) (G0 ds i hi _) (by simp) (fun j hj => by
   by_cases e : i = j
   ·subst e; simp only [List.getElem_set_self]; exact h.p i hi
   ·simp only [List.getElem_set_ne e]; exact h.p j (by simpa using hj)) (fun j hj k hk => by
   by_cases e : i = j
   ·subst e; simp only [List.getElem_set_self] at hk; exact h.fp i hi k hk
   ·simp only [List.getElem_set_ne e] at hk; exact h.fp j (by simpa using hj) k hk)
 clear h hat
 generalize ds[i].1.shares = zz at *
 go_enter Tryz.func154, Tryz.ntmps154
 go_wp2_with fail
 refine HAt.out.mono ?_
 rintro e w' ⟨rfl, rfl⟩
 clear HAt
 go_wp2
 first | (go_region; go_wp2) | skip
 refine bodyPost_ret (results_none rfl _ _ _) rfl ?_
 exact ⟨rfl, HF.out.eta rfl rfl rfl rfl⟩
theorem IT (g : Nat) (c : LC) (bv vv dv ev : Value) (vals : List VS) (ds : List (DA × Value)) (ents : List ES) (who v n : Int) (w : World) (h : LF F0 W0 w g c bv vv dv ev vals ds ents) (ld : ds.length <= 900) (n0 : 0 <= n) (n1 : n <= 1000000000000) (hs : ∀ d ∈ ds, 0 <= d.1.shares ∧ d.1.shares <= 1000000000000) :
  Calls Tryz.prog 154 #[.pointer (some ⟨g, 0, none⟩), .int .i64 who, .int .i64 v, .int .i64 n] w fun e w' => e = .returned (.tuple #[]) ∧ ∃ dv', LF F0 W0 w' g c bv vv dv' ev vals (DD ds who v n) ents := by
 rcases Dt ds who v with ⟨hat, hf⟩ | ⟨i, hi, hat, hf, _, _⟩
 ·have e : DD ds who v n = FZ (⟨who, v, n, []⟩, .slice none 0 0) ds := by unfold DD; rw [hf]
  rw [e]; exact LL g c bv vv dv ev vals ds ents who v n w h ld hat
 ·have e : DD ds who v n = ds.set i ({ ds[i].1 with shares := ds[i].1.shares + n }, ds[i].2) := by unfold DD; rw [hf]; exact FL ds i hi _
  rw [e]
  have hd := hs _ (List.getElem_mem hi)
  refine (Ma g c bv vv dv ev vals ds ents who v n w h ld i hi hat n0 n1 hd.1 hd.2).mono ?_
  rintro e' w' ⟨h1, h2⟩
  exact ⟨h1, dv, h2⟩
def DN (ds : List (DA × Value)) (who v n : Int) : Bool :=
 match ds.findIdx? (fun d => d.1.who == who && d.1.val == v) with
 | some i => decide (1 <= n) && decide (n <= ((ds[i]?).map (fun d => d.1.shares)).getD 0)
 | none => false
theorem MG (g : Nat) (c : LC) (bv vv dv ev : Value) (vals : List VS) (ds : List (DA × Value)) (ents : List ES) (who v n : Int) (w : World) (h : LF F0 W0 w g c bv vv dv ev vals ds ents) (ld : ds.length <= 900) :
  Calls Tryz.prog 130 #[.pointer (some ⟨g, 0, none⟩), .int .i64 who, .int .i64 v, .int .i64 n] w fun e w' => e = .returned (.bool (DN ds who v n)) ∧ w = w' := by
 obtain ⟨da, dc, rfl⟩ := Ac h.d
 have c8 : w.cell? ⟨g, 8, none⟩ = some (.slice da ds.length dc) := h.C.L.cell 8
 have HAt : Hid (Calls Tryz.prog 51 #[.pointer (some ⟨g, 0, none⟩), .int .i64 who, .int .i64 v] w fun e w' => e = .returned (.int .i64 (atF ds who v)) ∧ w = w') := Db g _ ds who v w c8 (Rd.of_owns h.d) (by omega)
 rcases Dt ds who v with ⟨hat, hf⟩ | ⟨i, hi, hat, hf, _, _⟩
 ·have HE : Hid (DN ds who v n = false) := by show DN ds who v n = false; unfold DN; rw [hf]
  rw [hat] at HAt
  clear h hat hf
  go_enter Tryz.func130, Tryz.ntmps130
  go_wp2_with fail
  refine HAt.out.mono ?_
  rintro e w' ⟨rfl, rfl⟩
  clear HAt
  go_wp2
  go_ret
  rw [HE.out]; exact ⟨rfl, rfl⟩
 ·have HE : Hid (DN ds who v n = (decide (1 <= n) && decide (n <= ds[i].1.shares))) := by show DN ds who v n = _; unfold DN; rw [hf]; simp [hi]
  obtain ⟨gd, rfl, _⟩ := Ag h.d (by omega)
  have y2 : w.cell? ⟨gd, i * 4 + 2, none⟩ = some (.int .i64 ds[i].1.shares) := by
   have := (h.d.cellAt (i * 4 + 2) (by omega)).trans (BF ds i hi 2 (by omega))
   simpa [DA.cells] using this
  rw [hat] at HAt
  clear h hat hf
  generalize ds[i].1.shares = zz at *
  go_enter Tryz.func130, Tryz.ntmps130
  go_wp2_with fail
  refine HAt.out.mono ?_
  rintro e w' ⟨rfl, rfl⟩
  clear HAt
  by_cases h1 : 1 <= n
  ·by_cases h2 : n <= zz
   ·go_wp2
    go_ret
    rw [HE.out]; simp [h1, h2]
   ·go_wp2
    go_ret
    rw [HE.out]; simp [h1, h2]
  ·go_wp2
   go_ret
   rw [HE.out]; simp; omega
def Ck (vals : List VS) (k : Nat) (amount n : Int) : List VS := vals.modify k (fun v => { v with tokens := v.tokens + amount, shares := v.shares + n })
theorem Ed (vals : List VS) (k : Nat) (h : k < vals.length) (amount n : Int) : Ck vals k amount n = vals.set k { vals[k] with tokens := vals[k].tokens + amount, shares := vals[k].shares + n } := by
 unfold Ck
 induction vals generalizing k with
 | nil => simp at h
 | cons d ds ih =>
  cases k with
  | zero => simp
  | succ i => simp only [List.modify_succ_cons, List.set_cons_succ, List.getElem_cons_succ]; rw [ih i (by simpa using h)]
def AS (vals : List VS) (k : Nat) (q : Int) : List VS := vals.modify k (fun v => { v with outs := v.outs - q })
theorem A9 (vals : List VS) (k : Nat) (h : k < vals.length) (q : Int) : AS vals k q = vals.set k { vals[k] with outs := vals[k].outs - q } := by
 unfold AS
 induction vals generalizing k with
 | nil => simp at h
 | cons d ds ih =>
  cases k with
  | zero => simp
  | succ i => simp only [List.modify_succ_cons, List.set_cons_succ, List.getElem_cons_succ]; rw [ih i (by simpa using h)]
def AW (ds : List (DA × Value)) (i : Nat) : List (DA × Value) := ds.modify i (fun d => ({ d.1 with parts := [] }, .slice none 0 0))
theorem BA (ds : List (DA × Value)) (i : Nat) (h : i < ds.length) : AW ds i = ds.set i ({ ds[i].1 with parts := [] }, .slice none 0 0) := FL ds i h _
theorem LF.addBoth {m : Nat} (h : LF F0 W0 w g c bv (.slice (some ⟨gv, 0, none⟩) m cap) dv ev vals ds ents) (hm : m = vals.length) (k : Nat) (hk : k < vals.length) (amount n : Int) :
  LF F0 W0 ((w.setCell ⟨gv, k * 8 + 2, none⟩ (.int .i64 (vals[k].tokens + amount))).setCell ⟨gv, k * 8 + 3, none⟩ (.int .i64 (vals[k].shares + n))) g c bv (.slice (some ⟨gv, 0, none⟩) m cap) dv ev (Ck vals k amount n) ds ents := by
 have h1 := h.setVal hm (k * 8 + 2) (.int .i64 (vals[k].tokens + amount)) (vals' := vals.set k { vals[k] with tokens := vals[k].tokens + amount }) (Lm vals k hk 2 _ _ rfl (by omega)) (by simp)
 have h2 := h1.setVal (by simpa using hm) (k * 8 + 3) (.int .i64 (vals[k].shares + n)) (vals' := vals.set k { vals[k] with tokens := vals[k].tokens + amount, shares := vals[k].shares + n }) (by
  rw [Lm (vals.set k { vals[k] with tokens := vals[k].tokens + amount }) k (by simpa using hk) 3 _ { vals[k] with tokens := vals[k].tokens + amount, shares := vals[k].shares + n } (by simp [VS.cells]) (by omega), List.set_set]) (by simp)
 rw [Ed vals k hk]
 exact h2
def Cd (c : LC) (vals : List VS) (ds : List (DA × Value)) (kw k : Nat) (amount n q : Int) : LC × List VS × List (DA × Value) :=
 match ds.findIdx? (fun d => d.1.who == (kw : Int) && d.1.val == (k : Int)) with
 | none => (c, Ck vals k amount n, DD ds kw k n)
 | some i => (Bf c kw (c.bal.getD kw 0 + q), Ck (AS vals k q) k amount n, DD (AW ds i) kw k n)
theorem Od (g : Nat) (c : LC) (bv vv dv ev : Value) (vals : List VS) (ds : List (DA × Value)) (ents : List ES) (kw k : Nat) (amount n q : Int) (w : World) (h1 : LF F0 W0 w g c bv vv dv ev vals ds ents) (ld : ds.length <= 900) (lv : vals.length <= 1000) (hk : k < vals.length) (hat : atF ds kw k = -1) (n0 : 0 <= n) (n1 : n <= 1000000000000) (hs : ∀ d ∈ ds, 0 <= d.1.shares ∧ d.1.shares <= 1000000000000) (a0 : 0 <= amount) (a1 : amount <= 1000000000000) (t0 : 0 <= vals[k].tokens) (t1 : vals[k].tokens <= 1000000000000) (s0 : 0 <= vals[k].shares) (s1 : vals[k].shares <= 1000000000000) :
  Calls Tryz.prog 129 #[.pointer (some ⟨g, 0, none⟩), .int .i64 kw, .int .i64 k, .int .i64 amount, .int .i64 n, .int .i64 q] w fun e w' => e = .returned (.tuple #[]) ∧ ∃ dv', LF F0 W0 w' g c bv vv dv' ev (Ck vals k amount n) (DD ds kw k n) ents := by
 have c8 : w.cell? ⟨g, 8, none⟩ = some dv := h1.C.L.cell 8
 have HAt : Hid (Calls Tryz.prog 51 #[.pointer (some ⟨g, 0, none⟩), .int .i64 kw, .int .i64 k] w fun e w' => e = .returned (.int .i64 (-1)) ∧ w = w') := by
  have := Db g _ ds kw k w c8 (Rd.of_owns h1.d) (by omega)
  rwa [hat] at this
 obtain ⟨va, vc, rfl⟩ := Ac h1.v
 obtain ⟨gv, rfl, _⟩ := Ag h1.v (by omega)
 have c7 : w.cell? ⟨g, 7, none⟩ = some (.slice (some ⟨gv, 0, none⟩) vals.length vc) := h1.C.L.cell 7
 have zt : w.cell? ⟨gv, k * 8 + 2, none⟩ = some (.int .i64 vals[k].tokens) := by
  have := (h1.v.cellAt (k * 8 + 2) (by omega)).trans (An vals k hk 2 (by omega))
  simpa [VS.cells] using this
 have zs : w.cell? ⟨gv, k * 8 + 3, none⟩ = some (.int .i64 vals[k].shares) := by
  have := (h1.v.cellAt (k * 8 + 3) (by omega)).trans (An vals k hk 3 (by omega))
  simpa [VS.cells] using this
 have ft := h1.v.frozenAt (k * 8 + 2)
 have fs := h1.v.frozenAt (k * 8 + 3)
 have n2 : g ≠ gv := fun e => Has.apart h1.C.L h1.v (by decide) (by rw [e]; rfl)
 have n2' := n2.symm
 have HF : Hid _ := h1.addBoth rfl k hk amount n
 have HJ : Hid (∀ u, LF F0 W0 u g c bv (.slice (some ⟨gv, 0, none⟩) vals.length vc) dv ev (Ck vals k amount n) ds ents -> Calls Tryz.prog 154 #[.pointer (some ⟨g, 0, none⟩), .int .i64 kw, .int .i64 k, .int .i64 n] u fun e w' => e = .returned (.tuple #[]) ∧ ∃ dv', LF F0 W0 w' g c bv (.slice (some ⟨gv, 0, none⟩) vals.length vc) dv' ev (Ck vals k amount n) (DD ds kw k n) ents) := fun u hu => IT g c bv _ dv ev _ ds ents kw k n u hu ld n0 n1 hs
 clear h1 hat c8 hs
 generalize vals[k].tokens = zt0 at *
 generalize vals[k].shares = zs0 at *
 go_enter Tryz.func129, Tryz.ntmps129
 go_wp2_with fail
 refine HAt.out.mono ?_
 rintro e w' ⟨rfl, rfl⟩
 clear HAt
 go_wp2_with fail
 go_region
 go_wp2_with fail
 go_region
 go_wp2_with fail
 refine Calls.mono (HJ.out _ ?_) ?_
 ·exact HF.out.eta rfl rfl rfl rfl
 rintro e w' ⟨rfl, dv', hL⟩
 have HL : Hid _ := hL
 clear hL HJ HF
 go_wp2
 go_end0
 exact ⟨rfl, dv', HL.out⟩
theorem MP (g : Nat) (c : LC) (bv vv dv ev : Value) (vals : List VS) (ds : List (DA × Value)) (ents : List ES) (kw k : Nat) (amount n q : Int) (w : World) (h : LF F0 W0 w g c bv vv dv ev vals ds ents) (ld : ds.length <= 900) (lv : vals.length <= 1000) (lb : c.bal.length <= 1000) (hk : k < vals.length) (hkw : kw < c.bal.length) (i : Nat) (hi : i < ds.length) (hat : atF ds kw k = i) (hw : ds[i].1.who = kw) (hv : ds[i].1.val = k) (n0 : 0 <= n) (n1 : n <= 1000000000000) (hs : ∀ d ∈ ds, 0 <= d.1.shares ∧ d.1.shares <= 1000000000000) (a0 : 0 <= amount) (a1 : amount <= 1000000000000) (t0 : 0 <= vals[k].tokens) (t1 : vals[k].tokens <= 1000000000000) (s0 : 0 <= vals[k].shares) (s1 : vals[k].shares <= 1000000000000) (q0 : 0 <= q) (q1 : q <= 1000000000000) (b0 : 0 <= c.bal.getD kw 0) (b1 : c.bal.getD kw 0 <= 1000000000000) (o0 : 0 <= vals[k].outs) (o1 : vals[k].outs <= 1000000000000) :
  Calls Tryz.prog 129 #[.pointer (some ⟨g, 0, none⟩), .int .i64 kw, .int .i64 k, .int .i64 amount, .int .i64 n, .int .i64 q] w fun e w' => e = .returned (.tuple #[]) ∧ ∃ dv', LF F0 W0 w' g (Bf c kw (c.bal.getD kw 0 + q)) bv vv dv' ev (Ck (AS vals k q) k amount n) (DD (AW ds i) kw k n) ents := by
 have c8 : w.cell? ⟨g, 8, none⟩ = some dv := h.C.L.cell 8
 have HAt : Hid (Calls Tryz.prog 51 #[.pointer (some ⟨g, 0, none⟩), .int .i64 kw, .int .i64 k] w fun e w' => e = .returned (.int .i64 i) ∧ w = w') := by
  have := Db g _ ds kw k w c8 (Rd.of_owns h.d) (by omega)
  rwa [hat] at this
 have HP : Hid (Calls Tryz.prog 133 #[.pointer (some ⟨g, 0, none⟩), .int .i64 i, .int .i64 q] w fun e w' => e = .returned (.tuple #[]) ∧ LF F0 W0 w' g (Bf c kw (c.bal.getD kw 0 + q)) bv vv dv ev (AS vals k q) (AW ds i) ents) := by
  have := Fb g c bv vv dv ev vals ds ents i kw k q w h hi hw hv hkw hk lb lv (by omega) _ rfl b0 b1 q0 q1 o0 o1
  rwa [<- A9 vals k hk, <- BA ds i hi] at this
 have hk1 : k < (AS vals k q).length := by rw [A9 vals k hk]; simpa using hk
 have lv1 : (AS vals k q).length <= 1000 := by rw [A9 vals k hk]; simpa using lv
 have ld1 : (AW ds i).length <= 900 := by rw [BA ds i hi]; simpa using ld
 have et : (AS vals k q)[k].tokens = vals[k].tokens := by simp only [A9 vals k hk, List.getElem_set_self]
 have es : (AS vals k q)[k].shares = vals[k].shares := by simp only [A9 vals k hk, List.getElem_set_self]
 have hs1 : ∀ d ∈ AW ds i, 0 <= d.1.shares ∧ d.1.shares <= 1000000000000 := by
  rw [BA ds i hi]
  intro d hd
  rcases List.mem_or_eq_of_mem_set hd with hd | rfl
  ·exact hs d hd
  ·have := hs ds[i] (List.getElem_mem hi)
   exact this
 rw [<- et] at t0 t1
 rw [<- es] at s0 s1
 clear h hat c8 hs et es
 generalize AS vals k q = vals1 at *
 generalize AW ds i = ds1 at *
 generalize Bf c kw (c.bal.getD kw 0 + q) = c1 at *
 go_enter Tryz.func129, Tryz.ntmps129
 go_wp2_with fail
 refine HAt.out.mono ?_
 rintro e w' ⟨rfl, rfl⟩
 clear HAt
 go_wp2_with fail
 refine HP.out.mono ?_
 rintro e w1 ⟨rfl, h1⟩
 clear HP
 obtain ⟨va, vc, rfl⟩ := Ac h1.v
 obtain ⟨gv, rfl, _⟩ := Ag h1.v (by omega)
 have c7 : w1.cell? ⟨g, 7, none⟩ = some (.slice (some ⟨gv, 0, none⟩) vals1.length vc) := h1.C.L.cell 7
 have zt : w1.cell? ⟨gv, k * 8 + 2, none⟩ = some (.int .i64 vals1[k].tokens) := by
  have := (h1.v.cellAt (k * 8 + 2) (by omega)).trans (An vals1 k hk1 2 (by omega))
  simpa [VS.cells] using this
 have zs : w1.cell? ⟨gv, k * 8 + 3, none⟩ = some (.int .i64 vals1[k].shares) := by
  have := (h1.v.cellAt (k * 8 + 3) (by omega)).trans (An vals1 k hk1 3 (by omega))
  simpa [VS.cells] using this
 have ft := h1.v.frozenAt (k * 8 + 2)
 have fs := h1.v.frozenAt (k * 8 + 3)
 have n2 : g ≠ gv := fun e => Has.apart h1.C.L h1.v (by decide) (by rw [e]; rfl)
 have n2' := n2.symm
 have HF : Hid _ := h1.addBoth rfl k hk1 amount n
 have HJ : Hid (∀ u, LF F0 W0 u g c1 bv (.slice (some ⟨gv, 0, none⟩) vals1.length vc) dv ev (Ck vals1 k amount n) ds1 ents -> Calls Tryz.prog 154 #[.pointer (some ⟨g, 0, none⟩), .int .i64 kw, .int .i64 k, .int .i64 n] u fun e w' => e = .returned (.tuple #[]) ∧ ∃ dv', LF F0 W0 w' g c1 bv (.slice (some ⟨gv, 0, none⟩) vals1.length vc) dv' ev (Ck vals1 k amount n) (DD ds1 kw k n) ents) := fun u hu => IT g c1 bv _ dv ev _ ds1 ents kw k n u hu ld1 n0 n1 hs1
 clear h1 hs1
 generalize vals1[k].tokens = zt0 at *
 generalize vals1[k].shares = zs0 at *
 go_wp2_with fail
 go_region
 go_wp2_with fail
 go_region
 go_wp2_with fail
 refine Calls.mono (HJ.out _ ?_) ?_
 ·exact HF.out.eta rfl rfl rfl rfl
 rintro e w' ⟨rfl, dv', hL⟩
 have HL : Hid _ := hL
 clear hL HJ HF
 go_wp2
 go_end0
 exact ⟨rfl, dv', HL.out⟩
theorem Jx (g : Nat) (c : LC) (bv vv dv ev : Value) (vals : List VS) (ds : List (DA × Value)) (ents : List ES) (kw k : Nat) (amount n q : Int) (w : World) (h : LF F0 W0 w g c bv vv dv ev vals ds ents) (ld : ds.length <= 900) (lv : vals.length <= 1000) (lb : c.bal.length <= 1000) (hk : k < vals.length) (hkw : kw < c.bal.length) (n0 : 0 <= n) (n1 : n <= 1000000000000) (hs : ∀ d ∈ ds, 0 <= d.1.shares ∧ d.1.shares <= 1000000000000) (a0 : 0 <= amount) (a1 : amount <= 1000000000000) (t0 : 0 <= vals[k].tokens) (t1 : vals[k].tokens <= 1000000000000) (s0 : 0 <= vals[k].shares) (s1 : vals[k].shares <= 1000000000000) (q0 : 0 <= q) (q1 : q <= 1000000000000) (b0 : 0 <= c.bal.getD kw 0) (b1 : c.bal.getD kw 0 <= 1000000000000) (o0 : 0 <= vals[k].outs) (o1 : vals[k].outs <= 1000000000000) :
  Calls Tryz.prog 129 #[.pointer (some ⟨g, 0, none⟩), .int .i64 kw, .int .i64 k, .int .i64 amount, .int .i64 n, .int .i64 q] w fun e w' => e = .returned (.tuple #[]) ∧ ∃ dv', LF F0 W0 w' g (Cd c vals ds kw k amount n q).1 bv vv dv' ev (Cd c vals ds kw k amount n q).2.1 (Cd c vals ds kw k amount n q).2.2 ents := by
 rcases Dt ds kw k with ⟨hat, hf⟩ | ⟨i, hi, hat, hf, hw, hv⟩
 ·have e : Cd c vals ds kw k amount n q = (c, Ck vals k amount n, DD ds kw k n) := by unfold Cd; rw [hf]
  rw [e]; exact Od g c bv vv dv ev vals ds ents kw k amount n q w h ld lv hk hat n0 n1 hs a0 a1 t0 t1 s0 s1
 ·have e : Cd c vals ds kw k amount n q = (Bf c kw (c.bal.getD kw 0 + q), Ck (AS vals k q) k amount n, DD (AW ds i) kw k n) := by unfold Cd; rw [hf]
  rw [e]; exact MP g c bv vv dv ev vals ds ents kw k amount n q w h ld lv lb hk hkw i hi hat hw hv n0 n1 hs a0 a1 t0 t1 s0 s1 q0 q1 b0 b1 o0 o1
structure Gx (c : LC) (vals : List VS) (ds : List (DA × Value)) : Prop where
 hc : LBd c
 bal : ∀ k (h : k < c.bal.length), c.bal[k] <= 1000000
 lv : vals.length <= 1000
 ld : ds.length <= 900
 v : ∀ k (h : k < vals.length), 0 <= vals[k].tokens ∧ vals[k].tokens <= 1000000 ∧ 0 <= vals[k].shares ∧ vals[k].shares <= 1000000 ∧ 0 <= vals[k].outs ∧ vals[k].outs <= 1000000000000
 d : ∀ d ∈ ds, 0 <= d.1.shares ∧ d.1.shares <= 1000000000000
theorem B7 (hb : Gx c vals ds) (who : Int) : (Ah c who).2.bal.length = c.bal.length ∧ (∀ k (h : k < (Ah c who).2.bal.length), 0 <= (Ah c who).2.bal[k] ∧ (Ah c who).2.bal[k] <= 1000000) ∧ ((Ah c who).1 = 0 -> ∃ kw : Nat, who = kw ∧ kw < c.bal.length) := by
 have hold : ∀ k (h : k < c.bal.length), 0 <= c.bal[k] ∧ c.bal[k] <= 1000000 := fun k h => ⟨(hb.hc.bal k h).1, hb.bal k h⟩
 by_cases hin : inN who 0 ((c.bal.length : Int) - 1) = true
 ·obtain ⟨q1, q2⟩ := AQ.1 hin
  obtain ⟨k, rfl⟩ := Int.eq_ofNat_of_zero_le q1
  have hk : k < c.bal.length := by omega
  by_cases hp : c.bal.getD k 0 < c.fee
  ·rw [Gi hin hp]
   exact ⟨rfl, hold, fun h => by simp at h⟩
  ·rw [G1 hin hp]
   refine ⟨by simp [Bf], fun j hj => ?_, fun _ => ⟨k, rfl, hk⟩⟩
   have hj' : j < c.bal.length := by simpa [Bf] using hj
   by_cases e : k = j
   ·subst e
    have h1 := hold k hk
    have h2 : c.bal.getD k 0 = c.bal[k] := by simp [List.getD, hk]
    have hf := hb.hc.fee0
    simp only [Bf, List.getElem_set_self]
    omega
   ·simp only [Bf, List.getElem_set_ne e]
    exact hold j hj'
 ·rw [Iv (by simpa using hin)]
  exact ⟨rfl, hold, fun h => by simp at h⟩
theorem G7 {x : VS} {a : Int} (a0 : 0 <= a) (t0 : 0 <= x.tokens) (s0 : 0 <= x.shares) (h : (Dc x a).2 = 0) : 0 <= (Dc x a).1 ∧ (Dc x a).1 <= 1000000 := by
 have d0 : 0 <= a * x.shares / x.tokens := Int.ediv_nonneg (Int.mul_nonneg a0 s0) t0
 unfold Dc at h ⊢
 split at h <;> rename_i h1
 ·rw [if_pos h1]
  split at h <;> rename_i h2
  ·simp at h
  ·rw [if_neg h2]
   split at h <;> rename_i h3
   ·simp at h
   ·rw [if_neg h3]
    split at h <;> rename_i h4
    ·simp at h
    ·rw [if_neg h4]; simp only; omega
 ·rw [if_neg h1]
  split at h <;> rename_i h2
  ·simp at h
  ·rw [if_neg h2]
   split at h <;> rename_i h3
   ·simp at h
   ·rw [if_neg h3]; simp only; omega
def G8 (c : LC) (vals : List VS) (ds : List (DA × Value)) (who v amount q : Int) : Int × LC × List VS × List (DA × Value) :=
 if (Ah c who).1 = 0 then
  if inN v 0 ((vals.length : Int) - 1) = true then
   if amount < 1 then (5, (Ah c who).2, vals, ds)
   else if (Ah c who).2.bal.getD who.toNat 0 < amount then (4, (Ah c who).2, vals, ds)
   else if (Dc (vals.getD v.toNat ⟨0, 0, 0, 0, 0, 0, false, false⟩) amount).2 = 0 then
    (0, Cd (Bf (Ah c who).2 who.toNat ((Ah c who).2.bal.getD who.toNat 0 - amount)) vals ds who.toNat v.toNat amount (Dc (vals.getD v.toNat ⟨0, 0, 0, 0, 0, 0, false, false⟩) amount).1 q)
   else ((Dc (vals.getD v.toNat ⟨0, 0, 0, 0, 0, 0, false, false⟩) amount).2, (Ah c who).2, vals, ds)
  else (3, (Ah c who).2, vals, ds)
 else ((Ah c who).1, (Ah c who).2, vals, ds)
theorem Po (g : Nat) (c : LC) (bv vv dv ev : Value) (vals : List VS) (ds : List (DA × Value)) (ents : List ES) (who v amount q : Int) (w : World) (h : LF F0 W0 w g c bv vv dv ev vals ds ents) (hb : Gx c vals ds) (q0 : 0 <= q) (q1 : q <= 1000000000000) :
  Calls Tryz.prog 66 #[.pointer (some ⟨g, 0, none⟩), .int .i64 who, .int .i64 v, .int .i64 amount, .int .i64 q] w fun e w' => e = .returned (.int .i64 (G8 c vals ds who v amount q).1) ∧ ∃ dv', LF F0 W0 w' g (G8 c vals ds who v amount q).2.1 bv vv dv' ev (G8 c vals ds who v amount q).2.2.1 (G8 c vals ds who v amount q).2.2.2 ents := by
 obtain ⟨hcl, hcb, hcw⟩ := B7 hb who
 have HCh : Hid (Calls Tryz.prog 124 #[.pointer (some ⟨g, 0, none⟩), .int .i64 who] w fun e w' => e = .returned (.int .i64 (Ah c who).1) ∧ LF F0 W0 w' g (Ah c who).2 bv vv dv ev vals ds ents) :=
  (F1 g c bv vv dv ev who w h.C hb.hc).mono (by rintro e w' ⟨h1, h2, h3⟩; exact ⟨h1, h.core h2 h3⟩)
 have lb : (Ah c who).2.bal.length <= 1000 := by rw [hcl]; exact hb.hc.len
 rw [<- hcl] at hcw
 generalize hR : G8 c vals ds who v amount q = R
 have HR := Hd hR
 clear hR
 unfold G8 at HR
 cases hr : Ah c who with
 | mk r1 c1 =>
 rw [hr] at hcl hcb hcw lb HCh HR
 simp only at hcl hcb hcw lb HCh HR
 clear hr h
 have lv := hb.lv
 go_enter Tryz.func66, Tryz.ntmps66
 go_wp2_with fail
 refine HCh.out.mono ?_
 rintro e w1 ⟨rfl, h1⟩
 clear HCh
 have HL := Hd h1
 clear h1
 by_cases h0 : r1 = 0
 case neg =>
  rw [if_neg h0] at HR
  have e0 : (r1 == 0) = false := by simp [h0]
  clear hcb hcw h0
  go_wp2
  go_ret
  rw [<- HR.out]; exact ⟨rfl, dv, HL.out⟩
 subst h0
 obtain ⟨kw, rfl, hkw⟩ := hcw rfl
 rw [if_pos rfl] at HR
 simp only [Int.toNat_natCast] at HR
 clear hcw
 have HV : Hid (Calls Tryz.prog 100 #[.pointer (some ⟨g, 0, none⟩), .int .i64 v] w1 fun e w' => e = .returned (.bool (inN v 0 ((vals.length : Int) - 1))) ∧ w1 = w') := DG g vv vals v w1 (HL.out.lvals lv)
 by_cases hin : inN v 0 ((vals.length : Int) - 1) = true
 case neg =>
  have hin' : inN v 0 ((vals.length : Int) - 1) = false := by simpa using hin
  rw [if_neg hin] at HR
  rw [hin'] at HV
  clear hcb hin hin'
  go_wp2_with fail
  refine HV.out.mono ?_
  rintro e w' ⟨rfl, rfl⟩
  clear HV
  go_wp2
  go_ret
  rw [<- HR.out]; exact ⟨rfl, dv, HL.out⟩
 rw [if_pos hin] at HR
 rw [hin] at HV
 obtain ⟨p1, p2⟩ := AQ.1 hin
 obtain ⟨k, rfl⟩ := Int.eq_ofNat_of_zero_le p1
 have hk : k < vals.length := by omega
 clear hin p1 p2
 have hgv : vals.getD k ⟨0, 0, 0, 0, 0, 0, false, false⟩ = vals[k] := by simp [List.getD, hk]
 simp only [Int.toNat_natCast, hgv] at HR
 go_wp2_with fail
 refine HV.out.mono ?_
 rintro e w' ⟨rfl, rfl⟩
 clear HV
 by_cases ha : amount < 1
 ·rw [if_pos ha] at HR
  clear hcb
  go_wp2
  go_ret
  rw [<- HR.out]; exact ⟨rfl, dv, HL.out⟩
 rw [if_neg ha] at HR
 obtain ⟨ba, bc, rfl⟩ := Ac HL.out.C.b
 obtain ⟨gb, rfl, _⟩ := Ag HL.out.C.b (by omega)
 have c4 : w1.cell? ⟨g, 4, none⟩ = some (.slice (some ⟨gb, 0, none⟩) c1.bal.length bc) := HL.out.C.L.cell 4
 have cb : w1.cell? ⟨gb, kw, none⟩ = some (.int .i64 (c1.bal.getD kw 0)) := by
  rw [HL.out.C.b.cellAt kw (by omega)]; simp [Ai, hkw]
 have fb := HL.out.C.b.frozenAt kw
 have hgd : c1.bal.getD kw 0 = c1.bal[kw] := by simp [List.getD, hkw]
 have n1 : g ≠ gb := fun e => Has.apart HL.out.C.L HL.out.C.b (by decide) (by rw [e]; rfl)
 have n1' := n1.symm
 have hbk := hcb kw hkw
 rw [<- hgd] at hbk
 obtain ⟨b0, b1⟩ := hbk
 clear hcb hgd
 by_cases hf : c1.bal.getD kw 0 < amount
 ·rw [if_pos hf] at HR
  generalize c1.bal.getD kw 0 = x at *
  go_wp2
  go_ret
  rw [<- HR.out]; exact ⟨rfl, dv, HL.out⟩
 rw [if_neg hf] at HR
 obtain ⟨t0, t1, s0, s1, o0, o1⟩ := hb.v k hk
 have HB : Hid (Calls Tryz.prog 128 #[.pointer (some ⟨g, 0, none⟩), .int .i64 k, .int .i64 amount] w1 fun e w' => e = .returned (.tuple #[.int .i64 (Dc vals[k] amount).1, .int .i64 (Dc vals[k] amount).2]) ∧ w1 = w') := ME g vv vals k amount w1 (HL.out.lvals lv) hk (by omega) (by omega) t0 t1 s0 s1
 have hbb := G7 (x := vals[k]) (a := amount) (by omega) t0 s0
 cases hbf : Dc vals[k] amount with
 | mk n f =>
 rw [hbf] at HB hbb HR
 simp only at HB hbb HR
 clear hbf
 by_cases hz : f = 0
 case neg =>
  rw [if_neg hz] at HR
  have e0 : (f == 0) = false := by simp [hz]
  clear hbb hz
  generalize c1.bal.getD kw 0 = x at *
  go_wp2_with fail
  refine HB.out.mono ?_
  rintro e w' ⟨rfl, rfl⟩
  clear HB
  go_wp2
  go_ret
  rw [<- HR.out]; exact ⟨rfl, dv, HL.out⟩
 subst hz
 rw [if_pos rfl] at HR
 obtain ⟨m0, m1⟩ := hbb rfl
 clear hbb
 have HF : Hid _ := HL.out.setBal rfl kw (c1.bal.getD kw 0 - amount)
 have hgs : (Bf c1 kw (c1.bal.getD kw 0 - amount)).bal.getD kw 0 = c1.bal.getD kw 0 - amount := by simp [Bf, List.getD, hkw]
 have HE : Hid (∀ u, LF F0 W0 u g (Bf c1 kw (c1.bal.getD kw 0 - amount)) (.slice (some ⟨gb, 0, none⟩) c1.bal.length bc) vv dv ev vals ds ents -> Calls Tryz.prog 129 #[.pointer (some ⟨g, 0, none⟩), .int .i64 kw, .int .i64 k, .int .i64 amount, .int .i64 n, .int .i64 q] u fun e w' => e = .returned (.tuple #[]) ∧ ∃ dv', LF F0 W0 w' g (Cd (Bf c1 kw (c1.bal.getD kw 0 - amount)) vals ds kw k amount n q).1 (.slice (some ⟨gb, 0, none⟩) c1.bal.length bc) vv dv' ev (Cd (Bf c1 kw (c1.bal.getD kw 0 - amount)) vals ds kw k amount n q).2.1 (Cd (Bf c1 kw (c1.bal.getD kw 0 - amount)) vals ds kw k amount n q).2.2 ents) := fun u hu =>
  Jx g _ _ vv dv ev vals ds ents kw k amount n q u hu hb.ld lv (by simpa [Bf] using lb) hk (by simpa [Bf] using hkw) m0 (by omega) hb.d (by omega) (by omega) t0 (by omega) s0 (by omega) q0 q1 (by rw [hgs]; omega) (by rw [hgs]; omega) o0 o1
 generalize Cd (Bf c1 kw (c1.bal.getD kw 0 - amount)) vals ds kw k amount n q = R2 at *
 generalize Bf c1 kw (c1.bal.getD kw 0 - amount) = c2 at *
 generalize c1.bal.getD kw 0 = x at *
 clear hgs
 go_wp2_with fail
 refine HB.out.mono ?_
 rintro e w' ⟨rfl, rfl⟩
 clear HB
 go_wp2_with fail
 go_region
 go_wp2_with fail
 refine Calls.mono (HE.out _ ?_) ?_
 ·exact HF.out.eta rfl rfl rfl rfl
 rintro e w' ⟨rfl, dv', hL⟩
 have HL2 : Hid _ := hL
 clear hL HE HF
 go_wp2
 go_ret
 rw [<- HR.out]; exact ⟨rfl, dv', HL2.out⟩
end Go.Proofs.YtohjjgefklhmaaaGreatDoor
