import Derived.Test.YtohjjgefklhmaaaGreatDoorLPayM
namespace Go.Proofs.YtohjjgefklhmaaaGreatDoor
open Go.ChangeShapes Go.WideShapes Go.ChangeAt Go.RowKit
set_option linter.unusedVariables false

/-- a part of what was shared out -/
structure PS where
  of : Int
  shares : Int
def PS.cells (p : PS) : List Value := [.int .i64 p.of, .int .i64 p.shares]
def prow : List PS → List Value
  | [] => []
  | v :: l => v.cells ++ prow l
theorem prow_length (l : List PS) : (prow l).length = l.length * 2 := by
  induction l with
  | nil => rfl
  | cons v l ih => simp [prow, ih, PS.cells]; omega
theorem prow_at (l : List PS) (k : Nat) (h : k < l.length) (i : Nat) (hi : i < 2) : (prow l)[k * 2 + i]? = l[k].cells[i]? := by
  induction l generalizing k with
  | nil => simp at h
  | cons v l ih =>
    cases k with
    | zero => simp [prow, List.getElem?_append_left (show i < v.cells.length by simpa [PS.cells] using hi)]
    | succ k =>
      rw [prow, List.getElem?_append_right (by simp [PS.cells]; omega)]
      have e : (k + 1) * 2 + i - v.cells.length = k * 2 + i := by simp [PS.cells]; omega
      rw [e, ih k (by simpa using h)]
      simp
theorem prow_snoc (l : List PS) (o : PS) : prow (l ++ [o]) = prow l ++ o.cells := by
  induction l with
  | nil => simp [prow]
  | cons v l ih => simp [prow, ih]
theorem prow_one (l : List PS) : ∀ u ∈ prow l, u.oneCell' = true := by
  induction l with
  | nil => simp [prow]
  | cons v l ih =>
    intro u hu
    simp only [prow, List.mem_append] at hu
    rcases hu with hu | hu
    · simp [PS.cells] at hu
      rcases hu with rfl | rfl <;> rfl
    · exact ih u hu

/-- one part, with p's tokens where it has as many shares -/
def joinP (p q : PS) : PS := if q.shares = p.shares then ⟨q.of + p.of, q.shares⟩ else q
def thereP (p : PS) (l : List PS) : Bool := l.any (fun q => decide (q.shares = p.shares))
/-- one part more -/
def withF (l : List PS) (p : PS) : List PS := l.map (joinP p) ++ (if thereP p l = true then [] else [p])
theorem info_rpart : (Tryz.prog.info? 134).map (fun i => (i.zero, i.size, i.bytes)) = some (some (.agg #[.int .i64 0, .int .i64 0]), 2, 16) := by kernel_rfl
def POk (l : List PS) (p : PS) : Prop := l.length ≤ 100000 ∧ (0 ≤ p.of ∧ p.of ≤ 1000000000) ∧ ∀ k (h : k < l.length), 0 ≤ l[k].of ∧ l[k].of ≤ 1000000000000

/-- the first k parts -/
theorem takeP_snoc {α β : Type} (f : α → β) (l : List α) (k : Nat) (h : k < l.length) : (l.take (k + 1)).map f = (l.take k).map f ++ [f l[k]] := by
  rw [List.take_succ_eq_append_getElem h, List.map_append]; rfl
theorem there_snoc (p : PS) (l : List PS) (k : Nat) (h : k < l.length) : thereP p (l.take (k + 1)) = (thereP p (l.take k) || decide (l[k].shares = p.shares)) := by
  unfold thereP; rw [List.take_succ_eq_append_getElem h, List.any_append]; simp
/-- the state of with's loop -/
structure WithI (w wr : World) (p : PS) (st : Value) (out : List PS) : Prop where
  rs : wr.ownsRow (w.heap.size + 1) 134 2 st out.length (prow out)
  pb : Has wr w.heap.size 134 p.cells
  B : Below w.heap.size w wr
theorem WithI.alloc {w wr : World} {p : PS} {st : Value} {out : List PS} (h : WithI w wr p st out) (o : Obj) : WithI w (wr.alloc o) p st out :=
  ⟨h.rs.alloc o, h.pb.alloc o, h.B.alloc h.B.size o⟩
theorem WithI.drewN {w wr : World} {p : PS} {st : Value} {out : List PS} (h : WithI w wr p st out) (n : Nat) : WithI w (wr.drewN n) p st out := ⟨h.rs, h.pb, ⟨h.B.os, h.B.tape, h.B.output, h.B.size, h.B.block⟩⟩
theorem WithI.setNew {w wr : World} {p : PS} {st : Value} {out : List PS} (h : WithI w wr p st out) (o : Obj) (j : Nat) (x : Value) : WithI w ((wr.alloc o).setCell ⟨wr.heap.size, j, none⟩ x) p st out := by
  refine ⟨ownsRow_setCell (h.rs.alloc o) _ _ (fun e => ?_), (h.pb.alloc o).other _ _ (fun e => ?_), (h.B.alloc h.B.size o).setCell (p := ⟨wr.heap.size, j, none⟩) h.B.size x⟩
  · have := (h.rs.lt _ e).2; simp at this
  · have := h.pb.lt; rw [e] at this; simp at this
theorem WithI.push {w wr v5 : World} {p o : PS} {st : Value} {out : List PS} {g5 cap5 : Nat} (h : WithI w wr p st out) (hg : wr.grownBy v5 st.ownBlock) (ho : v5.ownsRow (w.heap.size + 1) 134 2 (.slice (some ⟨g5, 0, none⟩) (out.length + 1) cap5) (out.length + 1) (prow out ++ o.cells)) :
    WithI w v5 p (.slice (some ⟨g5, 0, none⟩) (out.length + 1) cap5) (out ++ [o]) := by
  refine ⟨?_, grown_has hg h.pb (fun e => ?_), Below.grown h.B hg h.B.size (fun j hj => ?_)⟩
  · rw [prow_snoc]; simpa using ho
  · have := (h.rs.lt _ e.symm).1; omega
  · have := (h.rs.lt _ hj).1; omega

set_option maxHeartbeats 4000000 in
set_option maxRecDepth 100000 in
theorem with_any (v : Value) (l : List PS) (p : PS) (w : World) (hv : Rd w v l.length 2 (prow l)) (hp : POk l p) :
    Calls Tryz.prog 152 #[v, .agg #[.int .i64 p.of, .int .i64 p.shares]] w fun e w' => ∃ st, e = .returned st ∧ w'.ownsRow w.heap.size 134 2 st (withF l p).length (prow (withF l p)) ∧ Below w.heap.size w w' := by
  obtain ⟨i5, hi5, hz50, hz51, hz52⟩ := info_parts info_rpart
  obtain ⟨hpl, ⟨hp0, hp1⟩, hpo⟩ := hp
  obtain ⟨pof, psh⟩ := p
  obtain ⟨hL, a, cap, rfl, hx0⟩ := id hv
  simp only at hp0 hp1
  have HV : Hid (Rd w (.slice a l.length cap) l.length 2 (prow l)) := hv
  have HO : Hid (∀ k (h : k < l.length), 0 ≤ l[k].of ∧ l[k].of ≤ 1000000000000) := hpo
  have HI : Hid (WithI w (w.alloc (.cells #[.int .i64 pof, .int .i64 psh] 134)) ⟨pof, psh⟩ (.slice none 0 0) []) :=
    ⟨World.ownsRow_nil _ _ _ _, Has.newA w _ _, (Below.refl _ _).alloc (Nat.le_refl _) _⟩
  clear hv hx0 hpo hL
  go_enter Tryz.func152, Tryz.ntmps152
  go_wp2
  go_loopw [5, 6, 7] (fun st th i wr => ∃ k : Nat, k ≤ l.length ∧ i = .int .i64 k ∧ th = .bool (thereP ⟨pof, psh⟩ (l.take k)) ∧ WithI w wr ⟨pof, psh⟩ st ((l.take k).map (joinP ⟨pof, psh⟩))) (fun _ _ i _ => l.length - (intOf i).toNat)
  case atStart => exact ⟨0, Nat.zero_le _, rfl, rfl, HI.out⟩
  case round =>
    clear HI
    obtain ⟨k, hk, rfl, rfl, hI⟩ := hrel
    have hol : ((l.take k).map (joinP ⟨pof, psh⟩)).length ≤ 100000 := by simp; omega
    have b0 : wr.cell? ⟨w.heap.size, 0, none⟩ = some (.int .i64 pof) := hI.pb.cell 0
    have b1 : wr.cell? ⟨w.heap.size, 1, none⟩ = some (.int .i64 psh) := hI.pb.cell 1
    have gl := World.block_lt_of_cell? wr _ b0
    obtain ⟨sa, sc, hsa⟩ := ownsRow_slice hI.rs
    subst hsa
    by_cases hlt : k < l.length
    · have hrd := HV.out.below hI.B (Nat.le_refl _)
      obtain ⟨_, a', cap', hae, hx⟩ := hrd
      simp only [Value.slice.injEq, true_and] at hae
      obtain ⟨rfl, rfl⟩ := hae
      obtain ⟨ge, rfl, hc⟩ := hx (by omega)
      have z0 := hc (k * 2 + 0) (.int .i64 l[k].of) (by rw [prow_at l k hlt 0 (by omega)]; rfl)
      have z1 := hc (k * 2 + 1) (.int .i64 l[k].shares) (by rw [prow_at l k hlt 1 (by omega)]; rfl)
      obtain ⟨o0, o1⟩ := HO.out k hlt
      have HT := there_snoc ⟨pof, psh⟩ l k hlt
      have HM := takeP_snoc (joinP ⟨pof, psh⟩) l k hlt
      generalize thereP ⟨pof, psh⟩ (l.take k) = th at *
      generalize (l.take k).map (joinP ⟨pof, psh⟩) = out at *
      generalize l[k] = q at *
      obtain ⟨qof, qsh⟩ := q
      simp only at o0 o1 z0 z1 HT
      simp only [Nat.add_zero] at z0
      have HII : Hid (WithI w wr ⟨pof, psh⟩ (.slice sa out.length sc) out) := hI
      have HTH : Hid (thereP ⟨pof, psh⟩ (l.take (k + 1)) = (th || decide (qsh = psh))) := HT
      have HMM : Hid ((l.take (k + 1)).map (joinP ⟨pof, psh⟩) = out ++ [joinP ⟨pof, psh⟩ ⟨qof, qsh⟩]) := HM
      have gl2 : w.heap.size + 1 ≤ wr.heap.size := gl
      clear hI HT HM hx hc HO
      by_cases hs : qsh = psh
      · subst hs
        have HJ : Hid (joinP ⟨pof, qsh⟩ ⟨qof, qsh⟩ = ⟨qof + pof, qsh⟩) := by show joinP _ _ = _; rw [joinP, if_pos rfl]
        go_wp2_with (at_builtin; go_loud (refine wpList_append_sl2 rfl (.tmp 30) (.tmp 32) 82 rfl 134 i5 _ 2 16 Tryz.underlying82 hi5 hz50 hz51 hz52 rfl (by decide) (w.heap.size + 1) _ out.length (prow out) rfl ((HII.out.alloc _).alloc _).rs (Nat.le_trans gl2 (by simp; omega)) ⟨_, 0, none⟩ 1 1 [.int .i64 (qof + pof), .int .i64 qsh] rfl (by rfl) (cell_newAt _ [.int .i64 (qof + pof), .int .i64 qsh] _ _ (by simp)) (by simp [Value.oneCell']) (by decide) (by simp [maxLen]; omega) (by omega) ?_))
        intro g5 cap5 v5 hown5 hgrow5 hor5 hold5
        have HP5 : Hid _ := ((HII.out.alloc _).alloc _).push (o := ⟨qof + pof, qsh⟩) hgrow5 hown5
        clear HII hown5 hgrow5 hor5 hold5
        go_wp2
        refine And.intro ⟨k + 1, by omega, by go_num, by rw [HTH.out]; simp, ?_⟩ (by simp [intOf]; omega)
        rw [HMM.out, HJ.out]
        exact HP5.out
      · have HJ : Hid (joinP ⟨pof, psh⟩ ⟨qof, qsh⟩ = ⟨qof, qsh⟩) := by show joinP _ _ = _; rw [joinP, if_neg hs]
        go_wp2_with (at_builtin; go_loud (refine wpList_append_sl2 rfl (.tmp 30) (.tmp 32) 82 rfl 134 i5 _ 2 16 Tryz.underlying82 hi5 hz50 hz51 hz52 rfl (by decide) (w.heap.size + 1) _ out.length (prow out) rfl ((HII.out.alloc _).alloc _).rs (Nat.le_trans gl2 (by simp; omega)) ⟨_, 0, none⟩ 1 1 [.int .i64 qof, .int .i64 qsh] rfl (by rfl) (cell_newAt _ [.int .i64 qof, .int .i64 qsh] _ _ (by simp)) (by simp [Value.oneCell']) (by decide) (by simp [maxLen]; omega) (by omega) ?_))
        intro g5 cap5 v5 hown5 hgrow5 hor5 hold5
        have HP5 : Hid _ := ((HII.out.alloc _).alloc _).push (o := ⟨qof, qsh⟩) hgrow5 hown5
        clear HII hown5 hgrow5 hor5 hold5
        go_wp2
        refine And.intro ⟨k + 1, by omega, by go_num, by rw [HTH.out]; simp [hs], ?_⟩ (by simp [intOf]; omega)
        rw [HMM.out, HJ.out]
        exact HP5.out
    · have hke : k = l.length := by omega
      subst hke
      rw [List.take_length] at hI hol ⊢
      have HW : Hid (withF l ⟨pof, psh⟩ = l.map (joinP ⟨pof, psh⟩) ++ (if thereP ⟨pof, psh⟩ l = true then [] else [⟨pof, psh⟩])) := rfl
      generalize thereP ⟨pof, psh⟩ l = th at *
      generalize l.map (joinP ⟨pof, psh⟩) = out at *
      have HII : Hid (WithI w wr ⟨pof, psh⟩ (.slice sa out.length sc) out) := hI
      have gl2 : w.heap.size + 1 ≤ wr.heap.size := gl
      clear hI HO
      cases th with
      | true =>
        go_wp2
        go_ret
        rw [HW.out]
        simp only [if_true, List.append_nil]
        exact ⟨_, rfl, ownsRow_base HII.out.rs (by omega), HII.out.B⟩
      | false =>
        go_wp2_with (at_builtin; go_loud (refine wpList_append_sl2 rfl (.tmp 36) (.tmp 38) 82 rfl 134 i5 _ 2 16 Tryz.underlying82 hi5 hz50 hz51 hz52 rfl (by decide) (w.heap.size + 1) _ out.length (prow out) rfl (HII.out.alloc _).rs (Nat.le_trans gl2 (by simp)) ⟨_, 0, none⟩ 1 1 [.int .i64 pof, .int .i64 psh] rfl (by rfl) (cell_newAt _ [.int .i64 pof, .int .i64 psh] _ _ (by simp)) (by simp [Value.oneCell']) (by decide) (by simp [maxLen]; omega) (by omega) ?_))
        intro g5 cap5 v5 hown5 hgrow5 hor5 hold5
        have HP5 : Hid _ := (HII.out.alloc _).push (o := ⟨pof, psh⟩) hgrow5 hown5
        clear HII hown5 hgrow5 hor5 hold5
        go_wp2
        go_ret
        rw [HW.out]
        simp only [Bool.false_eq_true, if_false]
        have h5 := HP5.out.rs
        refine ⟨_, rfl, ownsRow_base (by simpa using h5) (Nat.le_succ _), HP5.out.B⟩
end Go.Proofs.YtohjjgefklhmaaaGreatDoor

namespace Go.Proofs.YtohjjgefklhmaaaGreatDoor
open Go.ChangeShapes Go.WideShapes Go.ChangeAt Go.RowKit
set_option linter.unusedVariables false

/-- a delegation of the ledger -/
structure DA where
  who : Int
  val : Int
  shares : Int
  parts : List PS
def DA.cells (d : DA × Value) : List Value := [.int .i64 d.1.who, .int .i64 d.1.val, .int .i64 d.1.shares, d.2]
def arow : List (DA × Value) → List Value
  | [] => []
  | v :: l => DA.cells v ++ arow l
theorem arow_length (l : List (DA × Value)) : (arow l).length = l.length * 4 := by
  induction l with
  | nil => rfl
  | cons v l ih => simp [arow, ih, DA.cells]; omega
theorem arow_at (l : List (DA × Value)) (k : Nat) (h : k < l.length) (i : Nat) (hi : i < 4) : (arow l)[k * 4 + i]? = (DA.cells l[k])[i]? := by
  induction l generalizing k with
  | nil => simp at h
  | cons v l ih =>
    cases k with
    | zero => simp [arow, List.getElem?_append_left (show i < (DA.cells v).length by simpa [DA.cells] using hi)]
    | succ k =>
      rw [arow, List.getElem?_append_right (by simp [DA.cells]; omega)]
      have e : (k + 1) * 4 + i - (DA.cells v).length = k * 4 + i := by simp [DA.cells]; omega
      rw [e, ih k (by simpa using h)]
      simp
theorem arow_parts (l : List (DA × Value)) (k : Nat) (hk : k < l.length) (ps : List PS) (pv : Value) :
    (arow l).set (k * 4 + 3) pv = arow (l.set k ({ l[k].1 with parts := ps }, pv)) := by
  induction l generalizing k with
  | nil => simp at hk
  | cons v l ih =>
    cases k with
    | zero => simp [arow, DA.cells]
    | succ k =>
      have e : (k + 1) * 4 + 3 = (DA.cells v).length + (k * 4 + 3) := by simp [DA.cells]; omega
      rw [arow, e, List.set_append_right _ _ (by omega), Nat.add_sub_cancel_left, List.set_cons_succ, arow]
      congr 1
      have := ih k (by simpa using hk)
      simpa using this

/-- a list, the first k turned by f -/
def firstK {α : Type} (f : α → α) (l : List α) (k : Nat) : List α := (l.take k).map f ++ l.drop k
theorem firstK_zero {α : Type} (f : α → α) (l : List α) : firstK f l 0 = l := by simp [firstK]
theorem firstK_all {α : Type} (f : α → α) (l : List α) : firstK f l l.length = l.map f := by simp [firstK]
theorem firstK_length {α : Type} (f : α → α) (l : List α) (k : Nat) : (firstK f l k).length = l.length := by simp [firstK]; omega
theorem firstK_at {α : Type} (f : α → α) (l : List α) (k : Nat) (h : k < l.length) : (firstK f l k)[k]? = some l[k] := by
  unfold firstK
  rw [List.getElem?_append_right (by simp; omega)]
  simp [Nat.min_eq_left (Nat.le_of_lt h), h]
theorem firstK_snoc {α : Type} (f : α → α) (l : List α) (k : Nat) (h : k < l.length) : firstK f l (k + 1) = (firstK f l k).set k (f l[k]) := by
  unfold firstK
  rw [List.set_append_right _ _ (by simp; omega), takeP_snoc f l k h]
  simp [Nat.min_eq_left (Nat.le_of_lt h)]
  rw [List.drop_eq_getElem_cons h]; rfl

/-- one delegation's part of what is shared out -/
def creditOne (v : Int) (p : PS) (d : DA) : DA := if d.val = v then { d with parts := withF d.parts p } else d
/-- the ledger's struct, its validators and its delegations -/
structure LDl (w : World) (g : Nat) (vv dv : Value) (vals : List VS) (ds : List (DA × Value)) (cs : List Value) : Prop where
  L : Has w g 81 cs
  c7 : cs[7]? = some vv
  c8 : cs[8]? = some dv
  v : w.ownsRow 0 114 8 vv vals.length (vrow vals)
  d : w.ownsRow 0 84 4 dv ds.length (arow ds)
  p : ∀ k (h : k < ds.length), w.ownsRow 0 134 2 ds[k].2 ds[k].1.parts.length (prow ds[k].1.parts)
theorem LDl.below {w w' : World} {g : Nat} {vv dv : Value} {vals : List VS} {ds : List (DA × Value)} {cs : List Value} (h : LDl w g vv dv vals ds cs) (hb : Below w.heap.size w w') : LDl w' g vv dv vals ds cs :=
  ⟨h.L.below hb h.L.lt, h.c7, h.c8, ownsRow_below h.v hb (Nat.le_refl _), ownsRow_below h.d hb (Nat.le_refl _), fun k hk => ownsRow_below (h.p k hk) hb (Nat.le_refl _)⟩
theorem LDl.drewN {w : World} {g : Nat} {vv dv : Value} {vals : List VS} {ds : List (DA × Value)} {cs : List Value} (h : LDl w g vv dv vals ds cs) (n : Nat) : LDl (w.drewN n) g vv dv vals ds cs := ⟨h.L, h.c7, h.c8, h.v, h.d, h.p⟩
theorem LDl.setParts {w : World} {g gd n dc : Nat} {vv : Value} {vals : List VS} {ds : List (DA × Value)} {cs : List Value} (h : LDl w g vv (.slice (some ⟨gd, 0, none⟩) n dc) vals ds cs) (hn : n = ds.length) (k : Nat) (hk : k < ds.length) (ps : List PS) (pv : Value) (hp : w.ownsRow 0 134 2 pv ps.length (prow ps)) :
    LDl (w.setCell ⟨gd, k * 4 + 3, none⟩ pv) g vv (.slice (some ⟨gd, 0, none⟩) n dc) vals (ds.set k ({ ds[k].1 with parts := ps }, pv)) cs := by
  have hd := h.d
  have ap : ∀ {base : Nat} {e : TypeId} {size : Nat} {v : Value} {m : Nat} {xs : List Value}, w.ownsRow base e size v m xs → e ≠ 84 → v.ownBlock ≠ some gd := fun hr he e1 => by
    rcases ownsRow_apart hr hd he with h1 | h1
    · rw [h1] at e1; simp at e1
    · exact h1 (by rw [e1]; rfl)
  have hne : g ≠ gd := fun e => Has.apart h.L hd (by decide) (by rw [e]; rfl)
  refine ⟨h.L.other _ _ hne, h.c7, h.c8, ownsRow_setCell h.v _ _ (ap h.v (by decide)), ?_, ?_⟩
  · subst hn
    have := (hd.stored (k * 4 + 3) pv).1
    rw [arow_parts ds k hk ps pv] at this
    simpa using this
  · intro j hj
    have hj' : j < ds.length := by simpa using hj
    by_cases e : k = j
    · subst e
      simp only [List.getElem_set_self]
      exact ownsRow_setCell hp _ _ (ap hp (by decide))
    · simp only [List.getElem_set_ne e]
      exact ownsRow_setCell (h.p j hj') _ _ (ap (h.p j hj') (by decide))
theorem LDl.drew {w : World} {g : Nat} {vv dv : Value} {vals : List VS} {ds : List (DA × Value)} {cs : List Value} (h : LDl w g vv dv vals ds cs) : LDl w.drew g vv dv vals ds cs := ⟨h.L, h.c7, h.c8, h.v, h.d, h.p⟩
/-- behind with's call -/
structure CrP (w w1 : World) (g : Nat) (vv dv : Value) (vals : List VS) (ds : List (DA × Value)) (cs : List Value) (ps : List PS) (st : Value) : Prop where
  D : LDl w1 g vv dv vals ds cs
  K : Kp (fun k => dv.ownBlock = some k) w w1
  s : w1.ownsRow 0 134 2 st ps.length (prow ps)
theorem CrP.fr {w w1 : World} {g gd n dc : Nat} {vv st : Value} {vals : List VS} {ds : List (DA × Value)} {cs : List Value} {ps : List PS} (h : CrP w w1 g vv (.slice (some ⟨gd, 0, none⟩) n dc) vals ds cs ps st) (hn : ds.length = n) (j : Nat) : w1.frozen? ⟨gd, j, none⟩ = false := by
  have := h.D.d
  exact ownsRow_frozen this hn.symm j
/-- the state of credit's loop -/
def CrI (w wr : World) (g : Nat) (vv dv : Value) (vals : List VS) (l : List DA) (cs : List Value) : Prop :=
  ∃ ds', LDl wr g vv dv vals ds' cs ∧ ds'.map Prod.fst = l ∧ Kp (fun k => dv.ownBlock = some k) w wr
end Go.Proofs.YtohjjgefklhmaaaGreatDoor

namespace Go.Proofs.YtohjjgefklhmaaaGreatDoor
open Go.ChangeShapes Go.WideShapes Go.ChangeAt Go.RowKit
set_option linter.unusedVariables false

/-! ### whole numbers as digits to the base 10000, the lowest first -/
def P (j : Nat) : Int := 10000 ^ j
theorem P_zero : P 0 = 1 := rfl
theorem P_succ (j : Nat) : P (j + 1) = P j * 10000 := by unfold P; rw [Int.pow_succ]
theorem P_pos (j : Nat) : 1 ≤ P j := by
  induction j with
  | zero => simp [P_zero]
  | succ j ih => rw [P_succ]; omega
theorem P_mono {j k : Nat} (h : j ≤ k) : P j ≤ P k := by
  obtain ⟨d, rfl⟩ := Nat.exists_eq_add_of_le h
  induction d with
  | zero => simp
  | succ d ih =>
    have h1 := ih (by omega)
    rw [← Nat.add_assoc, P_succ]
    have := P_pos (j + d)
    omega
theorem P_add (j k : Nat) : P (j + k) = P j * P k := by unfold P; rw [Int.pow_add]
def dval : List Int → Int
  | [] => 0
  | d :: l => d + 10000 * dval l
/-- all are digits -/
def Dg (l : List Int) : Prop := ∀ d ∈ l, 0 ≤ d ∧ d < 10000
theorem Dg.nil : Dg [] := fun d h => by cases h
theorem Dg.tail {d : Int} {l : List Int} (h : Dg (d :: l)) : Dg l := fun x hx => h x (List.mem_cons_of_mem _ hx)
theorem Dg.head {d : Int} {l : List Int} (h : Dg (d :: l)) : 0 ≤ d ∧ d < 10000 := h d List.mem_cons_self
theorem Dg.snoc {d : Int} {l : List Int} (h : Dg l) (h0 : 0 ≤ d) (h1 : d < 10000) : Dg (l ++ [d]) := fun x hx => by
  rcases List.mem_append.1 hx with hx | hx
  · exact h x hx
  · simp at hx; subst hx; exact ⟨h0, h1⟩
theorem Dg.set {l : List Int} (h : Dg l) (j : Nat) {d : Int} (h0 : 0 ≤ d) (h1 : d < 10000) : Dg (l.set j d) := fun x hx => by
  rcases List.mem_or_eq_of_mem_set hx with hx | hx
  · exact h x hx
  · subst hx; exact ⟨h0, h1⟩
theorem Dg.take {l : List Int} (h : Dg l) (k : Nat) : Dg (l.take k) := fun x hx => h x (List.mem_of_mem_take hx)
theorem Dg.get {l : List Int} (h : Dg l) {k : Nat} (hk : k < l.length) : 0 ≤ l[k] ∧ l[k] < 10000 := h _ (List.getElem_mem hk)
theorem dval_nonneg {l : List Int} (h : Dg l) : 0 ≤ dval l := by
  induction l with
  | nil => simp [dval]
  | cons d l ih =>
    have := ih h.tail
    have := h.head
    simp only [dval]; omega
theorem dval_lt {l : List Int} (h : Dg l) : dval l < P l.length := by
  induction l with
  | nil => simp [dval, P_zero]
  | cons d l ih =>
    have h1 := ih h.tail
    have h2 := h.head
    simp only [dval, List.length_cons, P_succ]; omega
theorem dval_append (a b : List Int) : dval (a ++ b) = dval a + P a.length * dval b := by
  induction a with
  | nil => simp [dval, P_zero]
  | cons d a ih =>
    simp only [List.cons_append, dval, ih, List.length_cons, P_succ]
    rw [Int.mul_add, Int.mul_comm (P a.length) 10000, Int.mul_assoc]
    omega
theorem dval_snoc (l : List Int) (d : Int) : dval (l ++ [d]) = dval l + P l.length * d := by
  rw [dval_append]; simp [dval]
theorem dval_take (l : List Int) (k : Nat) (h : k < l.length) : dval (l.take (k + 1)) = dval (l.take k) + P k * l[k] := by
  rw [List.take_succ_eq_append_getElem h, dval_snoc, List.length_take, Nat.min_eq_left (by omega)]
theorem dval_set (l : List Int) (j : Nat) (h : j < l.length) (x : Int) : dval (l.set j x) = dval l + P j * (x - l[j]) := by
  induction l generalizing j with
  | nil => simp at h
  | cons d l ih =>
    cases j with
    | zero => simp [dval, P_zero]; omega
    | succ j =>
      have hj : j < l.length := by simpa using h
      simp only [List.set_cons_succ, dval, ih j hj, List.getElem_cons_succ, P_succ]
      rw [Int.mul_add, Int.mul_comm (P j) 10000, Int.mul_assoc]
      omega
theorem dval_rep (n : Nat) : dval (List.replicate n 0) = 0 := by
  induction n with
  | zero => rfl
  | succ n ih => simp [List.replicate_succ, dval, ih]
/-- no nought at the end -/
def Nm (l : List Int) : Prop := ∀ h : 0 < l.length, l[l.length - 1] ≠ 0
theorem Nm.nil : Nm [] := fun h => by simp at h
theorem Nm.ge {l : List Int} (h : Nm l) (hd : Dg l) (h0 : 0 < l.length) : P (l.length - 1) ≤ dval l := by
  obtain ⟨n, hn⟩ : ∃ n, l.length = n + 1 := ⟨l.length - 1, by omega⟩
  have h1 := dval_take l n (by omega)
  rw [List.take_of_length_le (by omega)] at h1
  have h2 := dval_nonneg (hd.take n)
  have h3 := (hd.get (show l.length - 1 < l.length by omega))
  have h4 := h h0
  have e : l[l.length - 1] = l[n] := by congr 1; omega
  rw [e] at h3 h4
  rw [show l.length - 1 = n by omega, h1]
  have h5 : 1 ≤ l[n] := by omega
  have h6 := P_pos n
  have h7 : P n * 1 ≤ P n * l[n] := Int.mul_le_mul_of_nonneg_left h5 (by omega)
  omega
theorem Nm.pos {l : List Int} (h : Nm l) (hd : Dg l) (h0 : 0 < l.length) : 0 < dval l := by
  have h1 := h.ge hd h0
  have h2 := P_pos (l.length - 1)
  omega
theorem dval_cmp {a b : List Int} (ha : Dg a) (hb : Dg b) (na : Nm a) (nb : Nm b) (h : b.length < a.length) : dval b < dval a := by
  have h1 := na.ge ha (by omega)
  have h2 := dval_lt hb
  have h3 := P_mono (show b.length ≤ a.length - 1 by omega)
  omega
end Go.Proofs.YtohjjgefklhmaaaGreatDoor

namespace Go.Proofs.YtohjjgefklhmaaaGreatDoor
open Go.ChangeShapes Go.WideShapes Go.ChangeAt Go.RowKit
set_option linter.unusedVariables false

theorem dval_split (l : List Int) (k : Nat) (h : k ≤ l.length) : dval l = dval (l.take k) + P k * dval (l.drop k) := by
  have := dval_append (l.take k) (l.drop k)
  rw [List.take_append_drop, List.length_take, Nat.min_eq_left h] at this
  exact this
theorem cmp_at {a b : List Int} (ha : Dg a) (hb : Dg b) (k : Nat) (hka : k < a.length) (hkb : k < b.length) (hd : a.drop (k + 1) = b.drop (k + 1)) (hlt : a[k] < b[k]) : dval a < dval b := by
  have h1 := dval_split a (k + 1) (by omega)
  have h2 := dval_split b (k + 1) (by omega)
  rw [hd, dval_take a k hka] at h1
  rw [dval_take b k hkb] at h2
  have h3 := dval_lt (ha.take k)
  rw [List.length_take, Nat.min_eq_left (by omega)] at h3
  have h4 := dval_nonneg (hb.take k)
  have h5 : P k * (a[k] + 1) ≤ P k * b[k] := Int.mul_le_mul_of_nonneg_left (by omega) (by have := P_pos k; omega)
  rw [Int.mul_add, Int.mul_one] at h5
  omega
theorem drewN_add (w : World) (a b : Nat) : (w.drewN a).drewN b = w.drewN (a + b) := by simp [World.drewN, Nat.add_assoc]
theorem drop_one (l : List Int) (k : Nat) (h : k < l.length) : l.drop k = l[k] :: l.drop (k + 1) := List.drop_eq_getElem_cons h

set_option maxHeartbeats 2000000 in
set_option maxRecDepth 100000 in
theorem above_any (va vb : Value) (a b : List Int) (w : World) (ha : IntSl w va a) (hb : IntSl w vb b) (da : Dg a) (db : Dg b) (na : Nm a) (nb : Nm b) (la : a.length ≤ 100000000) (lb : b.length ≤ 100000000) :
    Calls Tryz.prog 104 #[va, vb] w fun e w' => e = .returned (.bool (decide (dval b < dval a))) ∧ ∃ n, w' = w.drewN n := by
  obtain ⟨aa, ac, rfl, hxa⟩ := ha
  obtain ⟨ba, bc, rfl, hxb⟩ := hb
  by_cases hl : a.length = b.length
  case neg =>
    have e1 : (((a.length : Nat) : Int) != ((b.length : Nat) : Int)) = true := by simp; omega
    have HE : decide (dval b < dval a) = decide (b.length < a.length) := by
      by_cases h : b.length < a.length
      · have := dval_cmp da db na nb h
        simp [this, h]
      · have := dval_cmp db da nb na (by omega)
        have h' : ¬ dval b < dval a := by omega
        simp [h, h']
    clear hl hxa hxb
    rw [HE]
    clear HE
    go_enter Tryz.func104, Tryz.ntmps104
    go_wp2
    go_ret
    exact ⟨rfl, 0, rfl⟩
  have HX : Hid ((0 < a.length → ∃ g, aa = some ⟨g, 0, none⟩ ∧ ∀ (j : Nat) x, a[j]? = some x → w.cell? ⟨g, j, none⟩ = some (.int .i64 x)) ∧ (0 < b.length → ∃ g, ba = some ⟨g, 0, none⟩ ∧ ∀ (j : Nat) x, b[j]? = some x → w.cell? ⟨g, j, none⟩ = some (.int .i64 x))) := ⟨hxa, hxb⟩
  have HL : Hid (a.length = b.length) := hl
  have e1 : (((a.length : Nat) : Int) != ((b.length : Nat) : Int)) = false := by simp [hl]
  clear hxa hxb hl
  go_enter Tryz.func104, Tryz.ntmps104
  go_wp2
  go_loopw [5] (fun i wr => ∃ k : Nat, k ≤ a.length ∧ i = .int .i64 ((k : Int) - 1) ∧ a.drop k = b.drop k ∧ ∃ n, wr = w.drewN n) (fun i _ => ((intOf i) + 1).toNat)
  case atStart => exact ⟨a.length, Nat.le_refl _, rfl, by rw [List.drop_of_length_le (Nat.le_refl _), List.drop_of_length_le (by rw [HL.out]; exact Nat.le_refl _)], 0, rfl⟩
  case round =>
    obtain ⟨k, hk, rfl, hdrop, n, rfl⟩ := hrel
    have HD : Hid (a.drop k = b.drop k) := hdrop
    clear hdrop
    cases k with
    | zero =>
      have HE : Hid (decide (dval b < dval a) = false) := by
        have h0 : a = b := by simpa using HD.out
        have h1 : ¬ dval b < dval a := by rw [h0]; omega
        show decide (dval b < dval a) = false
        simp [h1]
      go_wp2
      go_ret
      exact ⟨ret_bool HE.out.symm, n, rfl⟩
    | succ k =>
      have hkb : k < b.length := by rw [← HL.out]; omega
      have hka : k < a.length := by omega
      obtain ⟨ga, rfl, hca⟩ := HX.out.1 (by omega)
      obtain ⟨gb, rfl, hcb⟩ := HX.out.2 (by omega)
      have y1 := hca k a[k] (by simp [hka])
      have y2 := hcb k b[k] (by simp [hkb])
      have ei : (((k + 1 : Nat) : Int) - 1) = (k : Int) := by omega
      rw [ei]
      have hdk : ∀ (h : a[k] = b[k]), a.drop k = b.drop k := fun h => by rw [drop_one a k hka, drop_one b k hkb, h, HD.out]
      have Hdk : Hid (∀ (h : a[k] = b[k]), a.drop k = b.drop k) := hdk
      have HC1 : Hid (a[k] < b[k] → ¬ dval b < dval a) := fun h => by have := cmp_at da db k hka hkb HD.out h; omega
      have HC2 : Hid (b[k] < a[k] → dval b < dval a) := fun h => cmp_at db da k hkb hka HD.out.symm h
      clear hca hcb hdk ei
      generalize a[k] = x at *
      generalize b[k] = y at *
      by_cases hxy : x = y
      · have e2 : (x != y) = false := by simp [hxy]
        have HXY : Hid (x = y) := hxy
        clear hxy
        go_wp2
        go_quiet (fail)
        go_wp2
        refine And.intro ?_ ?_
        · first | exact ⟨k, by omega, by go_num, Hdk.out HXY.out, _, rfl⟩ | exact ⟨k, by omega, by go_num, Hdk.out HXY.out, _, drewN_add _ _ _⟩ | ((repeat apply Exists.intro); exact ⟨⟨k, by omega, by go_num, Hdk.out HXY.out, _, drewN_add _ _ _⟩, rfl⟩)
        · simp [intOf]
      · have e2 : (x != y) = true := by simp [hxy]
        have HE : Hid (decide (dval b < dval a) = decide (y < x)) := by
          show decide (dval b < dval a) = decide (y < x)
          by_cases h : y < x
          · simp [h, HC2.out h]
          · have := HC1.out (by omega)
            simp [h, this]
        clear hxy HC1 HC2 Hdk
        go_wp2
        go_quiet (fail)
        go_wp2
        go_quiet (fail)
        go_wp2
        go_ret
        exact ⟨ret_bool HE.out.symm, _, (drewN_add _ _ _).trans (by rw [drewN_add])⟩
end Go.Proofs.YtohjjgefklhmaaaGreatDoor

namespace Go.Proofs.YtohjjgefklhmaaaGreatDoor
open Go.ChangeShapes Go.WideShapes Go.ChangeAt Go.RowKit
set_option linter.unusedVariables false

/-- a whole number, in a row of its own -/
structure Big (B : Nat) (w : World) (v : Value) (l : List Int) : Prop where
  row : w.ownsRow B 3 1 v l.length (ints l)
  dg : Dg l
  nm : Nm l
theorem Nm.snoc {l : List Int} {d : Int} (h : d ≠ 0) : Nm (l ++ [d]) := fun _ => by simpa using h
theorem P5 : P 5 = 100000000000000000000 := by decide

set_option maxHeartbeats 2000000 in
set_option maxRecDepth 100000 in
theorem nat_any (n : Int) (w : World) (h0 : 0 ≤ n) (h1 : n ≤ 1000000000000000000) :
    Calls Tryz.prog 101 #[.int .i64 n] w fun e w' => ∃ v l, e = .returned v ∧ Big w.heap.size w' v l ∧ dval l = n ∧ l.length ≤ 5 ∧ Below w.heap.size w w' := by
  obtain ⟨i0, hi, hz0, hz1, hz2⟩ := info_parts info_int
  go_enter Tryz.func101, Tryz.ntmps101
  go_wp2
  go_loopw [0, 3] (fun nn out wr => ∃ (q : Int) (l : List Int), nn = .int .i64 q ∧ 0 ≤ q ∧ q ≤ n ∧ dval l + P l.length * q = n ∧ Dg l ∧ (q = 0 → Nm l) ∧ wr.ownsRow w.heap.size 3 1 out l.length (ints l) ∧ l.length ≤ 5 ∧ Below w.heap.size w wr) (fun nn _ _ => (intOf nn).toNat)
  case atStart => exact ⟨n, [], rfl, h0, Int.le_refl _, by simp [dval, P_zero], Dg.nil, fun _ => Nm.nil, World.ownsRow_nil _ _ _ _, Nat.zero_le _, Below.refl _ _⟩
  case round =>
    obtain ⟨q, l, rfl, q0, q1, hv, hd, hm, hrow, hl, hb⟩ := hrel
    obtain ⟨oa, oc, rfl⟩ := ownsRow_slice hrow
    by_cases hq : 0 < q
    · have hl4 : l.length ≤ 4 := by
        by_cases h : l.length ≤ 4
        · exact h
        · have h1' := P_mono (show 5 ≤ l.length by omega)
          rw [P5] at h1'
          have h2 : P l.length * 1 ≤ P l.length * q := Int.mul_le_mul_of_nonneg_left (by omega) (by have := P_pos l.length; omega)
          have h3 := dval_nonneg hd
          omega
      have HB : Hid (Below w.heap.size w wr) := hb
      have HR : Hid (wr.ownsRow w.heap.size 3 1 (.slice oa l.length oc) l.length (ints l)) := hrow
      have hsz := hb.size
      have hv' : dval (l ++ [q % 10000]) + P (l ++ [q % 10000]).length * (q / 10000) = n := by
        rw [dval_snoc, List.length_append, List.length_singleton, P_succ]
        have e : P l.length * q = P l.length * (q % 10000) + P l.length * 10000 * (q / 10000) := by
          rw [Int.mul_assoc, ← Int.mul_add]
          congr 1
          omega
        omega
      have HV : Hid (dval (l ++ [q % 10000]) + P (l ++ [q % 10000]).length * (q / 10000) = n) := hv'
      clear hv'
      have HD : Hid (Dg (l ++ [q % 10000])) := hd.snoc (by omega) (by omega)
      have HN : Hid (q / 10000 = 0 → Nm (l ++ [q % 10000])) := fun h => Nm.snoc (by omega)
      clear hb hrow hv hd hm
      go_wp2_with (at_builtin; go_loud (refine wpList_append_sl2 rfl (.tmp 6) (.tmp 9) 24 rfl 3 i0 _ 1 8 Tryz.underlying24 hi hz0 hz1 hz2 rfl (by decide) w.heap.size _ l.length (ints l) rfl (HR.out.alloc _) (by simp; omega) ⟨_, 0, none⟩ 1 1 [.int .i64 (q % 10000)] rfl (by rfl) (cell_newAt _ [.int .i64 (q % 10000)] _ _ rfl) (by simp [Value.oneCell']) (by decide) (by simp [maxLen]; omega) (by omega) ?_))
      intro g5 cap5 v5 hown5 hgrow5 hor5 hold5
      have HB5 : Hid (Below w.heap.size w v5) := (HB.out.alloc HB.out.size _).grown hgrow5 (by simp; omega) (fun j hj => (HR.out.lt j hj).1)
      have HR5 : Hid (v5.ownsRow w.heap.size 3 1 (.slice (some ⟨g5, 0, none⟩) (l.length + 1) cap5) (l ++ [q % 10000]).length (ints (l ++ [q % 10000]))) := by
        have e1 : ints (l ++ [q % 10000]) = ints l ++ [.int .i64 (q % 10000)] := by simp [ints]
        have e2 : (l ++ [q % 10000]).length = l.length + 1 := by simp
        rw [e1, e2]; exact hown5
      clear hown5 hgrow5 hor5 hold5 HB HR
      go_wp2
      refine And.intro ?_ ?_
      · first | exact ⟨q / 10000, l ++ [q % 10000], rfl, by omega, by omega, HV.out, HD.out, HN.out, HR5.out, by simp; omega, HB5.out⟩ | ((repeat apply Exists.intro); exact ⟨⟨q / 10000, l ++ [q % 10000], rfl, by omega, by omega, HV.out, HD.out, HN.out, HR5.out, by simp; omega, HB5.out⟩, rfl⟩)
      · simp [intOf]; omega
    · have e0 : q = 0 := by omega
      subst e0
      have HF : Hid (Big w.heap.size wr (.slice oa l.length oc) l ∧ dval l = n ∧ l.length ≤ 5 ∧ Below w.heap.size w wr) := ⟨⟨hrow, hd, hm rfl⟩, by simpa using hv, hl, hb⟩
      clear hb hrow hv hd hm
      go_wp2
      go_ret
      first | exact ⟨_, l, rfl, HF.out⟩ | exact ⟨_, rfl, l, HF.out⟩
end Go.Proofs.YtohjjgefklhmaaaGreatDoor
