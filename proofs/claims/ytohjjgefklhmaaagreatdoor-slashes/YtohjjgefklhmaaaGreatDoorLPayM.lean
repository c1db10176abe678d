import Derived.Test.YtohjjgefklhmaaaGreatDoorLCoreM
namespace Go.Proofs.YtohjjgefklhmaaaGreatDoor
open Go.ChangeShapes Go.WideShapes Go.ChangeAt Go.RowKit
set_option linter.unusedVariables false

/-- one entry: paid, or it stays -/
def payOne (c : LC) (p : LC × List ES) (e : ES) : LC × List ES :=
  if e.made + c.mature ≤ c.height then (setB p.1 e.who.toNat (p.1.bal.getD e.who.toNat 0 + e.amount), p.2) else (p.1, p.2 ++ [e])
/-- the first k entries -/
def payTo (c : LC) (ents : List ES) (k : Nat) : LC × List ES := (ents.take k).foldl (payOne c) (c, [])
theorem payTo_snoc (c : LC) (ents : List ES) (k : Nat) (h : k < ents.length) : payTo c ents (k + 1) = payOne c (payTo c ents k) ents[k] := foldl_snoc _ _ ents k h
/-- what stays of the ledger's numbers -/
def LSame (c d : LC) : Prop := d.top = c.top ∧ d.mature = c.mature ∧ d.fee = c.fee ∧ d.height = c.height ∧ d.fees = c.fees ∧ d.pool = c.pool ∧ d.bal.length = c.bal.length
theorem payTo_same (c : LC) (ents : List ES) (k : Nat) (hk : k ≤ ents.length) : LSame c (payTo c ents k).1 ∧ (payTo c ents k).2.length ≤ k := by
  induction k with
  | zero => simp [payTo, LSame]
  | succ k ih =>
    obtain ⟨h1, h2⟩ := ih (by omega)
    rw [payTo_snoc c ents k (by omega), payOne]
    split
    · refine ⟨?_, by simp only; omega⟩
      obtain ⟨a, b, d, e, f, g, i⟩ := h1
      exact ⟨a, b, d, e, f, g, by simp [setB, i]⟩
    · exact ⟨h1, by simp; omega⟩
/-- entries that can be paid -/
structure EOk (c : LC) (ents : List ES) : Prop where
  len : ents.length ≤ 1000
  ok : ∀ k (h : k < ents.length), 0 ≤ ents[k].who ∧ ents[k].who < c.bal.length ∧ 0 ≤ ents[k].made ∧ ents[k].made ≤ 100000 ∧ 0 ≤ ents[k].amount ∧ ents[k].amount ≤ 1000000
theorem payTo_bd {c : LC} {ents : List ES} (hE : EOk c ents) (hb : ∀ k (h : k < c.bal.length), 0 ≤ c.bal[k] ∧ c.bal[k] ≤ 1000000000) (k : Nat) (hk : k ≤ ents.length) :
    ∀ j (h : j < (payTo c ents k).1.bal.length), 0 ≤ (payTo c ents k).1.bal[j] ∧ (payTo c ents k).1.bal[j] ≤ 1000000000 + 1000000 * (k : Int) := by
  induction k with
  | zero => intro j h; have := hb j h; exact ⟨this.1, Int.le_trans this.2 (by omega)⟩
  | succ k ih =>
    intro j hj
    have ih' := ih (by omega)
    have he := hE.ok k (by omega)
    have hs := (payTo_same c ents k (by omega)).1
    revert hj
    rw [payTo_snoc c ents k (by omega), payOne]
    split
    · intro hj
      have hj' : j < (payTo c ents k).1.bal.length := by simpa [setB] using hj
      have hw : ents[k].who.toNat < (payTo c ents k).1.bal.length := by rw [hs.2.2.2.2.2.2]; omega
      simp only [setB, List.getElem_set]
      split
      · have h1 := ih' _ hw
        simp only [List.getD, List.getElem?_eq_getElem hw, Option.getD_some]
        omega
      · have h1 := ih' j hj'
        omega
    · intro hj
      have h1 := ih' j hj
      simp only
      omega

theorem info_rent : (Tryz.prog.info? 131).map (fun i => (i.zero, i.size, i.bytes)) = some (some (.agg #[.int .i64 0, .int .i64 0, .int .i64 0, .int .i64 0]), 4, 32) := by kernel_rfl
theorem erow_snoc (l : List ES) (o : ES) : erow (l ++ [o]) = erow l ++ o.cells := by
  induction l with
  | nil => simp [erow]
  | cons v l ih => simp [erow, ih]
theorem Kp.grown {S : Nat → Prop} {a w w' : World} {row : Option Nat} (h : Kp S a w) (hg : w.grownBy w' row) (hr : ∀ j, row = some j → a.heap.size ≤ j) : Kp S a w' :=
  ⟨hg.os.trans h.os, hg.tape.trans h.tape, hg.output.trans h.output, Nat.le_trans h.size hg.size, fun k hk hs => (hg.block k (Nat.lt_of_lt_of_le hk h.size) (fun e => by have := hr k e.symm; omega)).trans (h.block k hk hs)⟩
/-- the state of pay's loop -/
structure PayI (w wr : World) (g : Nat) (d : LC) (bv vv dv ev st : Value) (ents sl : List ES) : Prop where
  C : LCore wr g d bv vv dv ev
  rs : wr.ownsRow w.heap.size 131 4 st sl.length (erow sl)
  re : wr.ownsRow 0 131 4 ev ents.length (erow ents)
  lo : ∀ j, ev.ownBlock = some j → j < w.heap.size
  K : Kp (LS g bv) w wr
theorem PayI.drewN {w wr : World} {g : Nat} {d : LC} {bv vv dv ev st : Value} {ents sl : List ES} (h : PayI w wr g d bv vv dv ev st ents sl) (n : Nat) : PayI w (wr.drewN n) g d bv vv dv ev st ents sl := ⟨h.C.drewN n, h.rs, h.re, h.lo, h.K.drewN n⟩
theorem PayI.drew {w wr : World} {g : Nat} {d : LC} {bv vv dv ev st : Value} {ents sl : List ES} (h : PayI w wr g d bv vv dv ev st ents sl) : PayI w wr.drew g d bv vv dv ev st ents sl := ⟨h.C.drew, h.rs, h.re, h.lo, h.K.drew⟩
theorem LCore.alloc {w : World} {g : Nat} {c : LC} {bv vv dv ev : Value} (h : LCore w g c bv vv dv ev) (o : Obj) : LCore (w.alloc o) g c bv vv dv ev := ⟨h.L.alloc o, h.b.alloc o⟩
theorem PayI.alloc {w wr : World} {g : Nat} {d : LC} {bv vv dv ev st : Value} {ents sl : List ES} (h : PayI w wr g d bv vv dv ev st ents sl) (o : Obj) : PayI w (wr.alloc o) g d bv vv dv ev st ents sl := ⟨h.C.alloc o, h.rs.alloc o, h.re.alloc o, h.lo, h.K.alloc o⟩
theorem LCore.grown {w w' : World} {g : Nat} {c : LC} {bv vv dv ev : Value} {e : TypeId} {size base n : Nat} {v : Value} {xs : List Value} (h : LCore w g c bv vv dv ev) (hg : w.grownBy w' v.ownBlock) (hv : w.ownsRow base e size v n xs) (he : 81 ≠ e) (hi : 3 ≠ e) : LCore w' g c bv vv dv ev :=
  ⟨grown_has hg h.L (Has.apart h.L hv he), h.b.kept hg (ownsRow_apart h.b hv hi)⟩
theorem PayI.push {w wr v5 : World} {g g5 cap5 : Nat} {d : LC} {bv vv dv ev st : Value} {ents sl : List ES} {o : ES} (h : PayI w wr g d bv vv dv ev st ents sl) (hg : wr.grownBy v5 st.ownBlock) (ho : v5.ownsRow w.heap.size 131 4 (.slice (some ⟨g5, 0, none⟩) (sl.length + 1) cap5) (sl.length + 1) (erow sl ++ o.cells)) :
    PayI w v5 g d bv vv dv ev (.slice (some ⟨g5, 0, none⟩) (sl.length + 1) cap5) ents (sl ++ [o]) := by
  refine ⟨h.C.grown hg h.rs (by decide) (by decide), ?_, h.re.kept hg ?_, h.lo, h.K.grown hg (fun j hj => (h.rs.lt j hj).1)⟩
  · rw [erow_snoc]; simpa using ho
  · cases he : ev.ownBlock with
    | none => exact .inl rfl
    | some j =>
      refine .inr fun e => ?_
      have h1 := h.lo j he
      have h2 := (h.rs.lt j e.symm).1
      omega
theorem PayI.setBal {w wr : World} {g gb n cap : Nat} {d : LC} {vv dv ev st : Value} {ents sl : List ES} (h : PayI w wr g d (.slice (some ⟨gb, 0, none⟩) n cap) vv dv ev st ents sl) (hn : n = d.bal.length) (k : Nat) (x : Int) :
    PayI w (wr.setCell ⟨gb, k, none⟩ (.int .i64 x)) g (setB d k x) (.slice (some ⟨gb, 0, none⟩) n cap) vv dv ev st ents sl := by
  have hb := h.C.b
  have q1 : st.ownBlock ≠ some gb := fun e => by
    rcases ownsRow_apart h.rs hb (by decide) with h1 | h1
    · rw [h1] at e; simp at e
    · exact h1 (by rw [e]; rfl)
  have q2 : ev.ownBlock ≠ some gb := fun e => by
    rcases ownsRow_apart h.re hb (by decide) with h1 | h1
    · rw [h1] at e; simp at e
    · exact h1 (by rw [e]; rfl)
  exact ⟨h.C.setBal hn k x, ownsRow_setCell h.rs _ _ q1, ownsRow_setCell h.re _ _ q2, h.lo, h.K.setCell (p := ⟨gb, k, none⟩) (.inr rfl) _⟩

set_option maxHeartbeats 4000000 in
set_option maxRecDepth 100000 in
theorem pay_any (g : Nat) (c : LC) (bv vv dv ev : Value) (ents : List ES) (w : World) (h : LCore w g c bv vv dv ev) (hE : EOk c ents) (hb : ∀ k (h : k < c.bal.length), 0 ≤ c.bal[k] ∧ c.bal[k] ≤ 1000000000) (he : w.ownsRow 0 131 4 ev ents.length (erow ents))
    (hm : 0 ≤ c.mature ∧ c.mature ≤ 1000) (hh : 0 ≤ c.height ∧ c.height ≤ 100000) (hbl : c.bal.length ≤ 1000) :
    Calls Tryz.prog 126 #[.pointer (some ⟨g, 0, none⟩)] w fun e w' => e = .returned (.tuple #[]) ∧ ∃ ev', LCore w' g (payTo c ents ents.length).1 bv vv dv ev' ∧ w'.ownsRow 0 131 4 ev' (payTo c ents ents.length).2.length (erow (payTo c ents ents.length).2) ∧
      Kp (LS g bv) w w' ∧ (∀ k, ev'.ownBlock = some k → w.heap.size ≤ k) := by
  obtain ⟨i5, hi5, hz50, hz51, hz52⟩ := info_parts info_rent
  obtain ⟨ea, ec, (hea : ev = .slice ea ents.length ec)⟩ := ownsRow_slice he
  subst hea
  obtain ⟨hm0, hm1⟩ := hm
  obtain ⟨hh0, hh1⟩ := hh
  have hel := hE.len
  have HE : Hid (EOk c ents) := hE
  have HBD : Hid (∀ k (h : k < c.bal.length), 0 ≤ c.bal[k] ∧ c.bal[k] ≤ 1000000000) := hb
  have HL : Hid (LCore w g c bv vv dv (.slice ea ents.length ec)) := h
  have HR : Hid (w.ownsRow 0 131 4 (.slice ea ents.length ec) ents.length (erow ents)) := he
  clear hE hb h he
  go_enter Tryz.func126, Tryz.ntmps126
  go_wp2
  go_loopw [2, 3] (fun st i wr => ∃ k : Nat, k ≤ ents.length ∧ i = .int .i64 k ∧ PayI w wr g (payTo c ents k).1 bv vv dv (.slice ea ents.length ec) st ents (payTo c ents k).2) (fun _ i _ => ents.length - (intOf i).toNat)
  case atStart => exact ⟨0, Nat.zero_le _, rfl, ⟨HL.out, World.ownsRow_nil _ _ _ _, HR.out, fun j hj => (HR.out.lt j hj).2, Kp.refl _ _⟩⟩
  case round =>
    obtain ⟨k, hk, rfl, hP⟩ := hrel
    have hst := hP.rs
    have hC := hP.C
    have hre := hP.re
    clear HL HR
    obtain ⟨sa, sc, hsa⟩ := ownsRow_slice hst
    subst hsa
    have c9 : wr.cell? ⟨g, 9, none⟩ = some (.slice ea ents.length ec) := hC.L.cell 9
    have gl := World.block_lt_of_cell? wr _ c9
    have f9 := hC.L.frozen 9
    by_cases hlt : k < ents.length
    · obtain ⟨ge, rfl, _⟩ := ownsRow_some hre (by omega)
      have z0 := (hre.cellAt (k * 4 + 0) (by omega)).trans (erow_at ents k hlt 0 (by omega))
      have z1 := (hre.cellAt (k * 4 + 1) (by omega)).trans (erow_at ents k hlt 1 (by omega))
      have z2 := (hre.cellAt (k * 4 + 2) (by omega)).trans (erow_at ents k hlt 2 (by omega))
      have z3 := (hre.cellAt (k * 4 + 3) (by omega)).trans (erow_at ents k hlt 3 (by omega))
      obtain ⟨q1, q2, q3, q4, q5, q6⟩ := HE.out.ok k hlt
      have HS : Hid (payTo c ents (k + 1) = payOne c (payTo c ents k) ents[k]) := payTo_snoc c ents k hlt
      have hbd := payTo_bd HE.out HBD.out k hk
      obtain ⟨⟨s1, s2, s3, s4, s5, s6, s7⟩, s8⟩ := payTo_same c ents k hk
      generalize ents[k] = e0 at *
      generalize payTo c ents k = pp at *
      obtain ⟨d, sl⟩ := pp
      simp only at hC hst hbd s2 s4 s7 s8 hP
      have hsl : sl.length ≤ 1000 := by omega
      obtain ⟨who, val, made, amount⟩ := e0
      simp only [ES.cells, List.getElem?_cons_succ, List.getElem?_cons_zero, Nat.add_zero] at z0 z1 z2 z3
      simp only at q1 q2 q3 q4 q5 q6
      obtain ⟨kw, rfl⟩ := Int.eq_ofNat_of_zero_le q1
      have c1 : wr.cell? ⟨g, 1, none⟩ = some (.int .i64 d.mature) := hC.L.cell 1
      have c3 : wr.cell? ⟨g, 3, none⟩ = some (.int .i64 d.height) := hC.L.cell 3
      rw [s2] at c1
      rw [s4] at c3
      by_cases hp : made + c.mature ≤ c.height
      · have hkw : kw < d.bal.length := by omega
        obtain ⟨ba, bc, rfl⟩ := ownsRow_slice hC.b
        obtain ⟨gb, rfl, _⟩ := ownsRow_some hC.b (by omega)
        have c4 : wr.cell? ⟨g, 4, none⟩ = some (.slice (some ⟨gb, 0, none⟩) d.bal.length bc) := hC.L.cell 4
        have hgd : d.bal.getD kw 0 = d.bal[kw] := by simp [List.getD, hkw]
        have cb : wr.cell? ⟨gb, kw, none⟩ = some (.int .i64 (d.bal.getD kw 0)) := by
          rw [hC.b.cellAt kw (by omega)]; simp [ints, hkw]
        have fb := hC.b.frozenAt kw
        have glb := World.block_lt_of_cell? wr _ cb
        obtain ⟨hb0, hb1⟩ := hbd kw hkw
        rw [← hgd] at hb0 hb1
        have HS' : Hid (payTo c ents (k + 1) = (setB d kw (d.bal.getD kw 0 + amount), sl)) := by
          have h1 := HS.out
          rw [payOne, if_pos hp] at h1
          exact h1
        have HP : Hid (PayI w wr g d (.slice (some ⟨gb, 0, none⟩) d.bal.length bc) vv dv (.slice (some ⟨ge, 0, none⟩) ents.length ec) (.slice sa sl.length sc) ents sl) := hP
        clear hP hC hst hre HS hbd hgd HBD HE
        generalize d.bal.getD kw 0 = x at *
        go_wp2
        go_quiet (fail)
        go_wp2
        go_region
        go_wp2
        refine And.intro ⟨k + 1, by omega, by go_num, ?_⟩ (by simp [intOf]; omega)
        rw [HS'.out]
        exact ((HP.out.alloc _).drewN _).setBal rfl kw _
      · have HS' : Hid (payTo c ents (k + 1) = (d, sl ++ [⟨kw, val, made, amount⟩])) := by
          have h1 := HS.out
          rw [payOne, if_neg hp] at h1
          exact h1
        have HP : Hid (PayI w wr g d bv vv dv (.slice (some ⟨ge, 0, none⟩) ents.length ec) (.slice sa sl.length sc) ents sl) := hP
        clear hP hC hst hre HS hbd HBD HE
        go_wp2
        go_quiet (fail)
        go_wp2_with (at_builtin; go_loud (refine wpList_append_sl2 rfl (.tmp 51) (.tmp 53) 79 rfl 131 i5 _ 4 32 Tryz.underlying79 hi5 hz50 hz51 hz52 rfl (by decide) w.heap.size _ sl.length (erow sl) rfl (((HP.out.alloc _).drewN _).alloc _).rs (((HP.out.alloc _).drewN _).alloc _).K.size ⟨_, 0, none⟩ 1 1 [.int .i64 kw, .int .i64 val, .int .i64 made, .int .i64 amount] rfl (by rfl) (cell_newAt _ [.int .i64 kw, .int .i64 val, .int .i64 made, .int .i64 amount] _ _ (by simp [World.drewN])) (by simp [Value.oneCell']) (by decide) (by simp [maxLen]; omega) (by omega) ?_))
        intro g5 cap5 v5 hown5 hgrow5 hor5 hold5
        have HP5 : Hid _ := (((HP.out.alloc _).drewN _).alloc _).push (o := ⟨kw, val, made, amount⟩) hgrow5 hown5
        clear HP hown5 hgrow5 hor5 hold5
        go_wp2
        refine And.intro ⟨k + 1, by omega, by go_num, ?_⟩ (by simp [intOf]; omega)
        rw [HS'.out]
        exact HP5.out
    · go_wp2
      go_end0
      have hke : k = ents.length := by omega
      rw [← hke]
      refine ⟨rfl, _, ⟨hC.L.set 9 _, ownsRow_setCell hC.b _ _ (fun e => Has.apart hC.L hC.b (by decide) e.symm)⟩, ?_, hP.K.setCell (p := ⟨g, 9, none⟩) (.inl rfl) _, fun j hj => (hst.lt j hj).1⟩
      exact ownsRow_base (ownsRow_setCell hst _ _ (fun e => Has.apart hC.L hst (by decide) e.symm)) (Nat.zero_le _)
end Go.Proofs.YtohjjgefklhmaaaGreatDoor

namespace Go.Proofs.YtohjjgefklhmaaaGreatDoor
open Go.ChangeShapes Go.WideShapes Go.ChangeAt Go.RowKit
set_option linter.unusedVariables false

/-- nobody is bonded -/
def ZV (vals : List VS) : Prop := ∀ k (h : k < vals.length), vals[k].tokens = 0 ∧ vals[k].inset = false
/-- P8, where nobody is bonded -/
def blockF (c : LC) : Int × LC := if c.height = 1000 then (14, c) else (0, { c with pool := c.pool + c.fees, fees := 0, height := c.height + 1 })

theorem set_self {α : Type} (l : List α) (i : Nat) (a : α) (h : l[i]? = some a) : l.set i a = l := by
  apply List.ext_getElem?
  intro j
  by_cases e : i = j
  · subst e
    have hi : i < l.length := (List.getElem?_eq_some_iff.1 h).1
    rw [List.getElem?_set_self hi, h]
  · rw [List.getElem?_set_ne e]
theorem vrow_still (l : List VS) (hz : ZV l) (i : Nat) (hi : i < l.length) : (vrow l).set (i * 8 + 7) (.bool false) = vrow l := by
  refine set_self _ _ _ ?_
  rw [vrow_at l i hi 7 (by omega)]
  simp [VS.cells, (hz i hi).2]

theorem row_ne {w : World} {base base' : Nat} {e e' : TypeId} {size size' : Nat} {v : Value} {n n' gv m cap : Nat} {xs xs' : List Value} (h : w.ownsRow base e size v n xs) (h' : w.ownsRow base' e' size' (.slice (some ⟨gv, 0, none⟩) m cap) n' xs') (hne : e ≠ e') : v.ownBlock ≠ some gv := by
  intro h0
  rcases ownsRow_apart h h' hne with h1 | h1
  · rw [h1] at h0; cases h0
  · exact h1 (h0.trans rfl)
/-- what Block may write -/
def BS (g : Nat) (bv vv : Value) (k : Nat) : Prop := k = g ∨ bv.ownBlock = some k ∨ vv.ownBlock = some k

def VwOf (c : LC) (vals : List VS) : ViewS := { height := c.height, bal := c.bal, fees := c.fees, pool := c.pool, bonded := bondedN vals, loose := looseV vals, vals := vals, dels := [], ents := [] }
end Go.Proofs.YtohjjgefklhmaaaGreatDoor

namespace Go.Proofs.YtohjjgefklhmaaaGreatDoor
open Go.ChangeShapes Go.WideShapes Go.ChangeAt Go.RowKit
set_option linter.unusedVariables false

theorem bondedN_Z (l : List VS) (h : ZV l) (k : Nat) (hk : k ≤ l.length) : bondedN (l.take k) = 0 ∧ looseV (l.take k) = 0 := by
  induction k with
  | zero => simp [bondedN, looseV]
  | succ k ih =>
    have h1 := h k (by omega)
    have h2 := ih (by omega)
    rw [bondedN_snoc l k (by omega), looseV_snoc l k (by omega), h1.1, h1.2, h2.1, h2.2]
    simp
theorem ZV.sums {l : List VS} (h : ZV l) : bondedN l = 0 ∧ looseV l = 0 := by
  have h := bondedN_Z l h l.length (Nat.le_refl _)
  rwa [List.take_of_length_le (Nat.le_refl _)] at h
theorem ZV.vb {l : List VS} (h : ZV l) : VB l := fun k hk => by rw [(h k hk).1]; omega
theorem chooseTo_Z (l : List VS) (h : ZV l) (top : Int) (i : Nat) (hi : i ≤ l.length) : chooseTo l top i = l := by
  induction i with
  | zero => rfl
  | succ i ih =>
    rw [chooseTo, ih (by omega)]
    have hl : i < l.length := by omega
    apply List.ext_getElem?
    intro j
    rw [List.getElem?_modify]
    by_cases e : i = j
    · subst e
      rw [List.getElem?_eq_getElem hl]
      obtain ⟨h1, h2⟩ := h i hl
      generalize l[i] = x at *
      obtain ⟨xo, xr, xt, xs, xc, xou, xj, xi⟩ := x
      simp only at h1 h2
      subst h1 h2
      simp [selN]
    · simp [e]

/-- the ledger, where nobody is bonded -/
structure LedZ (w : World) (g : Nat) (c : LC) (bv vv ev : Value) (vals : List VS) : Prop where
  C : LCore w g c bv vv (.slice none 0 0) ev
  v : w.ownsRow 0 114 8 vv vals.length (vrow vals)
  e : w.ownsRow 0 131 4 ev 0 []
theorem LedZ.rd {w : World} {g : Nat} {c : LC} {bv vv ev : Value} {vals : List VS} (h : LedZ w g c bv vv ev vals) : LedRd w g (VwOf c vals) :=
  ⟨_, _, _, bv, vv, _, ev, [], h.C.L, Rd.of_owns h.C.b, Rd.of_owns h.v, ⟨rfl, none, 0, rfl, fun h => by simp [VwOf] at h⟩, Rd.of_owns h.e, fun k p h => by simp [VwOf, dprow] at h⟩

set_option maxHeartbeats 2000000 in
set_option maxRecDepth 100000 in
theorem lblock_any (g : Nat) (c : LC) (bv vv ev : Value) (vals : List VS) (w : World) (h : LedZ w g c bv vv ev vals) (hb : LBd c) (hb9 : ∀ k (h : k < c.bal.length), 0 ≤ c.bal[k] ∧ c.bal[k] ≤ 1000000000) (hz : ZV vals) (l2 : vals.length ≤ 1000) (hv0 : 0 < vals.length) (hm : 0 ≤ c.mature ∧ c.mature ≤ 1000) (h0 : 0 ≤ c.height) (h1 : c.height ≤ 1000) :
    Calls Tryz.prog 65 #[.pointer (some ⟨g, 0, none⟩)] w fun e w' => e = .returned (.int .i64 (blockF c).1) ∧ ∃ ev', LedZ w' g (blockF c).2 bv vv ev' vals ∧ Kp (BS g bv vv) w w' ∧ (∀ k, ev'.ownBlock = some k → ev.ownBlock = some k ∨ w.heap.size ≤ k) := by
  have c3 : w.cell? ⟨g, 3, none⟩ = some (.int .i64 c.height) := h.C.L.cell 3
  by_cases he : c.height = 1000
  · have e0 : blockF c = (14, c) := by unfold blockF; rw [if_pos he]
    rw [e0]
    have HF : Hid (LedZ w g c bv vv ev vals) := h
    clear h hb e0
    have hq : (c.height == 1000) = true := by simp [he]
    go_enter Tryz.func65, Tryz.ntmps65
    go_wp2
    go_ret
    exact ⟨rfl, ev, HF.out, Kp.refl _ _, fun k h => .inl h⟩
  have e0 : blockF c = (0, { c with pool := c.pool + c.fees, fees := 0, height := c.height + 1 }) := by unfold blockF; rw [if_neg he]
  rw [e0]
  have hh : (c.height == 1000) = false := by simpa using he
  have hg := h.C.L.lt
  have HL : Hid (LedZ w g c bv vv ev vals) := h
  obtain ⟨va, vc, rfl⟩ := ownsRow_slice h.v
  have c5 : w.cell? ⟨g, 5, none⟩ = some (.int .i64 c.fees) := h.C.L.cell 5
  have c6 : w.cell? ⟨g, 6, none⟩ = some (.int .i64 c.pool) := h.C.L.cell 6
  have c7 : w.cell? ⟨g, 7, none⟩ = some (.slice va vals.length vc) := h.C.L.cell 7
  have f3 := h.C.L.frozen 3
  have f5 := h.C.L.frozen 5
  have f6 := h.C.L.frozen 6
  have hs0 := hb.fees0
  have hs1 := hb.fees1
  have hp0 := hb.pool0
  have hp1 := hb.pool1
  have HB : Hid (Calls Tryz.prog 45 #[.pointer (some ⟨g, 0, none⟩)] w fun e w' => e = .returned (.int .i64 0) ∧ w = w') := by
    have := bonded_any g (VwOf c vals) w h.rd hz.vb (by show vals.length ≤ _; omega)
    rwa [show (VwOf c vals).vals = vals from rfl, hz.sums.1] at this
  clear h e0
  go_enter Tryz.func65, Tryz.ntmps65
  go_wp2_with fail
  refine HB.out.mono ?_
  rintro e w' ⟨rfl, rfl⟩
  have HC2 : Hid (LCore (((w.setCell ⟨g, 6, none⟩ (.int .i64 (c.pool + c.fees))).setCell ⟨g, 5, none⟩ (.int .i64 0)).setCell ⟨g, 3, none⟩ (.int .i64 (c.height + 1))) g { c with pool := c.pool + c.fees, fees := 0, height := c.height + 1 } bv (.slice va vals.length vc) (.slice none 0 0) ev) := by
    have h2 := (HL.out.C.setPool (c.pool + c.fees)).setFees 0
    exact ⟨h2.L.set 3 _, ownsRow_setCell h2.b _ _ (fun e => Has.apart h2.L h2.b (by decide) e.symm)⟩
  have HK2 : Hid (Kp (fun k => k = g) w (((w.setCell ⟨g, 6, none⟩ (.int .i64 (c.pool + c.fees))).setCell ⟨g, 5, none⟩ (.int .i64 0)).setCell ⟨g, 3, none⟩ (.int .i64 (c.height + 1)))) := (((Kp.refl (fun k => k = g) w).setCell (p := ⟨g, 6, none⟩) rfl _).setCell (p := ⟨g, 5, none⟩) rfl _).setCell (p := ⟨g, 3, none⟩) rfl _
  go_wp2_with fail
  go_loop [4, 5] (fun l i => i = .int .i64 0 ∧ l = .int .i64 c.fees) (fun _ _ => 0)
  case atStart => exact ⟨rfl, rfl⟩
  case round =>
    obtain ⟨rfl, rfl⟩ := hrel
    go_wp2_with fail
    refine (pay_any g _ bv _ _ ev [] _ HC2.out ⟨by simp, fun k h => by simp at h⟩ hb9 (ownsRow_kp HL.out.e HK2.out (fun b hb' e => Has.apart HL.out.C.L HL.out.e (by decide) (by rw [← e, hb']))) hm (by simp only; omega) hb.len).mono ?_
    rintro e w3 ⟨rfl, ev', hC3, he3, hk3, hev⟩
    have hps : (payTo { c with pool := c.pool + c.fees, fees := 0, height := c.height + 1 } [] ([] : List ES).length) = ({ c with pool := c.pool + c.fees, fees := 0, height := c.height + 1 }, []) := rfl
    rw [hps] at hC3 he3
    have hK3 : Kp (LS g bv) w w3 := (HK2.out.mono (fun k _ h => .inl h)).trans hk3
    have hv3 : w3.ownsRow 0 114 8 (.slice va vals.length vc) vals.length (vrow vals) := ownsRow_kp HL.out.v hK3 (fun b hb' e => by
      rcases e with e | e
      · exact Has.apart HL.out.C.L HL.out.v (by decide) (by rw [← e, hb'])
      · exact row_off HL.out.C.b HL.out.v (by decide) hb' e)
    have HE : Hid (w3.ownsRow 0 131 4 ev' 0 []) := he3
    have HEV : Hid (∀ k, ev'.ownBlock = some k → ev.ownBlock = some k ∨ w.heap.size ≤ k) := fun k hk => .inr (Nat.le_trans HK2.out.size (hev k hk))
    have HK3 : Hid (Kp (LS g bv) w w3) := hK3
    have HC3 : Hid (LCore w3 g { c with pool := c.pool + c.fees, fees := 0, height := c.height + 1 } bv (.slice va vals.length vc) (.slice none 0 0) ev') := hC3
    have HV3 : Hid (w3.ownsRow 0 114 8 (.slice va vals.length vc) vals.length (vrow vals)) := hv3
    clear hps hC3 he3 hk3 hev hv3 hK3 HC2 HK2
    go_wp2_with fail
    refine (choose_any g c.top _ vals _ _ ⟨HC3.out.L, rfl, rfl, HV3.out, l2⟩).mono ?_
    rintro e w4 ⟨rfl, hL4, hk4⟩
    rw [chooseTo_Z vals hz c.top vals.length (Nat.le_refl _)] at hL4
    have HF : Hid (LedZ w4 g { c with pool := c.pool + c.fees, fees := 0, height := c.height + 1 } bv (.slice va vals.length vc) ev' vals ∧ Kp (BS g bv (.slice va vals.length vc)) w w4) :=
      ⟨⟨⟨hL4.L, ownsRow_kp HC3.out.b hk4 (fun b hb' e => row_off HC3.out.b HV3.out (by decide) e hb')⟩, hL4.v, ownsRow_kp HE.out hk4 (fun b hb' e => row_off HE.out HV3.out (by decide) e hb')⟩,
        (HK3.out.mono (fun k _ h => h.elim .inl (fun h => .inr (.inl h)))).trans (hk4.mono (fun k _ h => .inr (.inr h)))⟩
    clear hL4 hk4
    go_wp2
    go_ret
    exact ⟨rfl, ev', HF.out.1, HF.out.2, HEV.out⟩
end Go.Proofs.YtohjjgefklhmaaaGreatDoor

namespace Go.Proofs.YtohjjgefklhmaaaGreatDoor
open Go.ChangeShapes Go.WideShapes Go.ChangeAt Go.RowKit
set_option linter.unusedVariables false

theorem foldl_add (xs : List Int) (a : Int) : xs.foldl (· + ·) a = a + sumL xs := by
  induction xs generalizing a with
  | nil => simp [sumL]
  | cons x xs ih =>
    have h1 := ih (a + x)
    have h2 := ih x
    simp only [sumL, List.foldl_cons, Int.zero_add] at *
    rw [h1, h2]; omega
theorem sumL_cons (x : Int) (xs : List Int) : sumL (x :: xs) = x + sumL xs := by
  have := foldl_add xs x
  simpa [sumL] using this
theorem sumL_set (l : List Int) (k : Nat) (h : k < l.length) (x : Int) : sumL (l.set k x) = sumL l - l.getD k 0 + x := by
  induction l generalizing k with
  | nil => simp at h
  | cons y l ih =>
    cases k with
    | zero => simp [sumL_cons]; omega
    | succ k =>
      have := ih k (by simpa using h)
      simp only [List.set_cons_succ, sumL_cons, this, List.getD_cons_succ]
      omega
theorem sumL_mem (l : List Int) (h0 : ∀ y ∈ l, 0 ≤ y) : 0 ≤ sumL l ∧ ∀ y ∈ l, y ≤ sumL l := by
  induction l with
  | nil => simp [sumL]
  | cons x l ih =>
    obtain ⟨h1, h2⟩ := ih (fun y hy => h0 y (List.mem_cons_of_mem _ hy))
    have hx := h0 x List.mem_cons_self
    refine ⟨by rw [sumL_cons]; omega, fun y hy => ?_⟩
    rw [sumL_cons]
    rcases List.mem_cons.1 hy with rfl | hy
    · omega
    · have := h2 y hy; omega

/-- the numbers of an engine where nobody is bonded -/
structure GoodC (c : LC) : Prop where
  len1 : 1 ≤ c.bal.length
  len : c.bal.length ≤ 6
  fee0 : 0 ≤ c.fee
  fee1 : c.fee ≤ 100
  fees0 : 0 ≤ c.fees
  pool0 : 0 ≤ c.pool
  bal0 : ∀ y ∈ c.bal, 0 ≤ y
  tot : sumL c.bal + c.fees + c.pool ≤ 1000000
  top1 : 1 ≤ c.top
  top2 : c.top ≤ 5
  mat : 0 ≤ c.mature ∧ c.mature ≤ 1000
  h0 : 0 ≤ c.height
  h1 : c.height ≤ 1000
theorem GoodC.at {c : LC} (h : GoodC c) {k : Nat} (hk : k < c.bal.length) : 0 ≤ c.bal.getD k 0 ∧ c.bal.getD k 0 ≤ sumL c.bal := by
  have e : c.bal.getD k 0 = c.bal[k] := by simp [List.getD, hk]
  rw [e]
  exact ⟨h.bal0 _ (List.getElem_mem hk), (sumL_mem _ h.bal0).2 _ (List.getElem_mem hk)⟩
theorem GoodC.bd {c : LC} (h : GoodC c) (k : Nat) (hk : k < c.bal.length) : 0 ≤ c.bal[k] ∧ c.bal[k] ≤ 1000000 := by
  have h1 := h.bal0 _ (List.getElem_mem hk)
  have h2 := (sumL_mem _ h.bal0).2 _ (List.getElem_mem hk)
  have h3 := h.tot
  have h4 := h.fees0
  have h5 := h.pool0
  exact ⟨h1, by omega⟩
theorem GoodC.lbd {c : LC} (h : GoodC c) : LBd c := by
  have h2 := (sumL_mem _ h.bal0).1
  have h3 := h.tot
  have h4 := h.fees0
  have h5 := h.pool0
  have h6 := h.fee1
  have h7 := h.len
  exact ⟨by omega, h.fee0, by omega, h4, by omega, h5, by omega, fun k hk => by have := h.bd k hk; omega⟩
theorem set_mem0 {l : List Int} (h : ∀ y ∈ l, 0 ≤ y) (k : Nat) (x : Int) (hx : 0 ≤ x) : ∀ y ∈ l.set k x, 0 ≤ y := by
  intro y hy
  rcases List.mem_or_eq_of_mem_set hy with h1 | h1
  · exact h y h1
  · omega
theorem getD0 {l : List Int} (h : ∀ y ∈ l, 0 ≤ y) (j : Nat) : 0 ≤ l.getD j 0 := by
  unfold List.getD
  cases e : l[j]? with
  | none => simp
  | some y => simpa using h y (List.mem_of_getElem? e)
theorem inN_nat {n : Int} {m : Nat} (h : inN n 0 ((m : Int) - 1) = true) : ∃ k : Nat, n = k ∧ k < m := by
  obtain ⟨q1, q2⟩ := inN_iff.1 h
  obtain ⟨k, rfl⟩ := Int.eq_ofNat_of_zero_le q1
  exact ⟨k, rfl, by omega⟩
theorem GoodC.charge {c : LC} (h : GoodC c) (who : Int) : GoodC (chargeF c who).2 ∧ (chargeF c who).2.bal.length = c.bal.length := by
  unfold chargeF
  split
  · rename_i hin
    obtain ⟨k, rfl, hk⟩ := inN_nat hin
    rw [Int.toNat_natCast]
    split
    · exact ⟨h, rfl⟩
    · rename_i hp
      have h1 := h.at hk
      have h2 := sumL_set c.bal k hk (c.bal.getD k 0 - c.fee)
      have h3 := h.tot
      have h4 := h.fees0
      have h5 := h.fee0
      refine ⟨⟨?_, ?_, h.fee0, h.fee1, ?_, h.pool0, set_mem0 h.bal0 k _ (by omega), ?_, h.top1, h.top2, h.mat, h.h0, h.h1⟩, by simp [setB]⟩
      · simp only [setB, List.length_set]; exact h.len1
      · simp only [setB, List.length_set]; exact h.len
      · simp only; omega
      · simp only [setB]; omega
  · exact ⟨h, rfl⟩
theorem GoodC.give {c : LC} (h : GoodC c) {k : Nat} (hk : k < c.bal.length) (to amount : Int) : GoodC (giveF c k to amount).2 ∧ (giveF c k to amount).2.bal.length = c.bal.length := by
  unfold giveF
  rw [Int.toNat_natCast]
  split
  · rename_i hin
    obtain ⟨j, rfl, hj⟩ := inN_nat hin
    rw [Int.toNat_natCast]
    split
    · exact ⟨h, rfl⟩
    · split
      · exact ⟨h, rfl⟩
      · rename_i ha hp
        have h1 := h.at hk
        have h2 := sumL_set c.bal k hk (c.bal.getD k 0 - amount)
        have hm := set_mem0 h.bal0 k (c.bal.getD k 0 - amount) (by omega)
        have hj' : j < (c.bal.set k (c.bal.getD k 0 - amount)).length := by simpa using hj
        have h3 := sumL_set (c.bal.set k (c.bal.getD k 0 - amount)) j hj' ((c.bal.set k (c.bal.getD k 0 - amount)).getD j 0 + amount)
        have h4 : 0 ≤ (c.bal.set k (c.bal.getD k 0 - amount)).getD j 0 := getD0 hm j
        have h5 := h.tot
        refine ⟨⟨?_, ?_, h.fee0, h.fee1, h.fees0, h.pool0, set_mem0 hm j _ (by omega), ?_, h.top1, h.top2, h.mat, h.h0, h.h1⟩, by simp [setB]⟩
        · simp only [setB, List.length_set]; exact h.len1
        · simp only [setB, List.length_set]; exact h.len
        · simp only [setB]; omega
  · exact ⟨h, rfl⟩
theorem GoodC.send {c : LC} (h : GoodC c) (who to amount : Int) : GoodC (sendF c who to amount).2 := by
  unfold sendF
  split
  · rename_i h0
    obtain ⟨hin, hl⟩ := chargeF_zero h0
    obtain ⟨k, rfl, hk⟩ := inN_nat hin
    exact ((h.charge k).1.give (by rw [(h.charge k).2]; exact hk) to amount).1
  · exact (h.charge who).1
theorem GoodC.spend {c : LC} (h : GoodC c) (to amount : Int) : GoodC (spendF c to amount).2 := by
  unfold spendF
  split
  · rename_i hin
    obtain ⟨j, rfl, hj⟩ := inN_nat hin
    rw [Int.toNat_natCast]
    split
    · exact h
    · split
      · exact h
      · rename_i ha hp
        have h1 := h.at hj
        have h2 := sumL_set c.bal j hj (c.bal.getD j 0 + amount)
        have h3 := h.tot
        refine ⟨?_, ?_, h.fee0, h.fee1, h.fees0, ?_, set_mem0 h.bal0 j _ (by omega), ?_, h.top1, h.top2, h.mat, h.h0, h.h1⟩
        · simp only [setB, List.length_set]; exact h.len1
        · simp only [setB, List.length_set]; exact h.len
        · simp only [setB]; omega
        · simp only [setB]; omega
  · exact h
theorem GoodC.block {c : LC} (h : GoodC c) : GoodC (blockF c).2 := by
  unfold blockF
  split
  · exact h
  · rename_i hh
    have h1 := h.h0
    have h2 := h.h1
    have h3 := h.tot
    have h4 := h.fees0
    have h5 := h.pool0
    exact ⟨h.len1, h.len, h.fee0, h.fee1, by simp only; omega, by simp only; omega, h.bal0, by simp only; omega, h.top1, h.top2, h.mat, by simp only; omega, by simp only; omega⟩
theorem GoodC.begin {bs os rs : List Int} {top mature fee : Int} (h : GoodGen bs os rs top mature fee) : GoodC { top := top, mature := mature, fee := fee, height := 0, fees := 0, pool := 0, bal := bs } := by
  obtain ⟨⟨h1, h2, h3, h4⟩, _, ⟨a1, a2, a3, a4, a5, a6⟩⟩ := h
  refine ⟨h1, h2, a5, a6, Int.le_refl _, Int.le_refl _, ?_, by simp only; omega, a1, a2, ⟨by simp only; omega, by simp only; omega⟩, Int.le_refl _, by simp⟩
  intro y hy
  obtain ⟨j, hj, rfl⟩ := List.getElem_of_mem hy
  exact (h3 j bs[j] hj (by simp [hj])).1
theorem vs0_ZV (os rs : List Int) : ZV (vs0 os rs) := fun k h => by simp [vs0]
end Go.Proofs.YtohjjgefklhmaaaGreatDoor
