import Derived.Test.YtohjjgefklhmaaaGreatDoorLAtM
namespace Go.Proofs.YtohjjgefklhmaaaGreatDoor
open Go.ChangeShapes Go.WideShapes Go.ChangeAt Go.RowKit
set_option linter.unusedVariables false

/-- does a delegation stand behind that of this account at this validator? -/
def aftF (who v : Int) (o : DA × Value) : Bool := decide (who < o.1.who) || (decide (o.1.who = who) && decide (v < o.1.val))
def insOne (d : DA × Value) (p : List (DA × Value) × Bool) (o : DA × Value) : List (DA × Value) × Bool :=
  if p.2 = false ∧ aftF d.1.who d.1.val o = true then (p.1 ++ [d] ++ [o], true) else (p.1 ++ [o], p.2)
def insTo (d : DA × Value) (l : List (DA × Value)) (k : Nat) : List (DA × Value) × Bool := (l.take k).foldl (insOne d) ([], false)
def insF (d : DA × Value) (l : List (DA × Value)) : List (DA × Value) := if (insTo d l l.length).2 = true then (insTo d l l.length).1 else (insTo d l l.length).1 ++ [d]
theorem insTo_snoc (d : DA × Value) (l : List (DA × Value)) (k : Nat) (h : k < l.length) : insTo d l (k + 1) = insOne d (insTo d l k) l[k] := foldl_snoc _ _ l k h
theorem insTo_len (d : DA × Value) (l : List (DA × Value)) (k : Nat) (hk : k ≤ l.length) : (insTo d l k).1.length ≤ k + 1 ∧ ((insTo d l k).2 = false → (insTo d l k).1.length ≤ k) := by
  induction k with
  | zero => simp [insTo]
  | succ k ih =>
    have h := ih (by omega)
    rw [insTo_snoc d l k (by omega), insOne]
    split
    · rename_i hc
      have := h.2 hc.1
      simp; omega
    · refine ⟨by simp; omega, fun hf => ?_⟩
      have := h.2 hf
      simp; omega
theorem insTo_mem (d : DA × Value) (l : List (DA × Value)) (k : Nat) (hk : k ≤ l.length) : ∀ x ∈ (insTo d l k).1, x = d ∨ x ∈ l := by
  induction k with
  | zero => simp [insTo]
  | succ k ih =>
    have h := ih (by omega)
    intro x hx
    rw [insTo_snoc d l k (by omega), insOne] at hx
    split at hx
    · simp only [List.mem_append, List.mem_singleton] at hx
      rcases hx with (hx | hx) | hx
      · exact h x hx
      · exact .inl hx
      · right; rw [hx]; exact List.getElem_mem _
    · simp only [List.mem_append, List.mem_singleton] at hx
      rcases hx with hx | hx
      · exact h x hx
      · right; rw [hx]; exact List.getElem_mem _
theorem insF_mem (d : DA × Value) (l : List (DA × Value)) : ∀ x ∈ insF d l, x = d ∨ x ∈ l := by
  intro x hx
  unfold insF at hx
  split at hx
  · exact insTo_mem d l _ (Nat.le_refl _) x hx
  · simp only [List.mem_append, List.mem_singleton] at hx
    rcases hx with hx | hx
    · exact insTo_mem d l _ (Nat.le_refl _) x hx
    · exact .inl hx
theorem arow_snoc (l : List (DA × Value)) (o : DA × Value) : arow (l ++ [o]) = arow l ++ DA.cells o := by
  induction l with
  | nil => simp [arow]
  | cons v l ih => simp [arow, ih]
theorem info_rdel : (Tryz.prog.info? 84).map (fun i => (i.zero, i.size, i.bytes)) = some (some (.agg #[.int .i64 0, .int .i64 0, .int .i64 0, .slice none 0 0]), 4, 48) := by kernel_rfl

/-- shares of an account at a validator become more -/
def joinF (ds : List (DA × Value)) (who v n : Int) : List (DA × Value) :=
  match ds.findIdx? (fun d => d.1.who == who && d.1.val == v) with
  | some i => ds.modify i (fun d => ({ d.1 with shares := d.1.shares + n }, d.2))
  | none => insF (⟨who, v, n, []⟩, .slice none 0 0) ds

/-- what holds while the list is made anew -/
structure JI (w wr : World) (who v n : Int) (out : Value) (l : List (DA × Value)) : Prop where
  fr : Below w.heap.size w wr
  X : Has wr w.heap.size 84 [.int .i64 who, .int .i64 v, .int .i64 n, .slice none 0 0]
  r : wr.ownsRow (w.heap.size + 1) 84 4 out l.length (arow l)
theorem JI.alloc {w wr : World} {who v n : Int} {out : Value} {l : List (DA × Value)} (h : JI w wr who v n out l) (o : Obj) : JI w (wr.alloc o) who v n out l := ⟨h.fr.alloc h.fr.size o, h.X.alloc o, h.r.alloc o⟩
theorem JI.hsz {w wr : World} {who v n : Int} {out : Value} {l : List (DA × Value)} (h : JI w wr who v n out l) : w.heap.size + 1 ≤ wr.heap.size := h.X.lt
theorem JI.push {w wr v5 : World} {who v n : Int} {out out' : Value} {l : List (DA × Value)} {o : DA × Value} (h : JI w wr who v n out l) (hg : wr.grownBy v5 out.ownBlock) (hown : v5.ownsRow (w.heap.size + 1) 84 4 out' (l.length + 1) (arow l ++ DA.cells o)) : JI w v5 who v n out' (l ++ [o]) :=
  ⟨h.fr.grown hg h.fr.size (fun j hj => by have := (h.r.lt j hj).1; omega), grown_has hg h.X (fun e => by have := (h.r.lt _ e.symm).1; omega), by rw [arow_snoc, List.length_append]; exact hown⟩

set_option maxHeartbeats 4000000 in
set_option maxRecDepth 100000 in
theorem joined_new {F0 : Nat → Prop} {W0 : World} (g : Nat) (c : LC) (bv vv dv ev : Value) (vals : List VS) (ds : List (DA × Value)) (ents : List ES) (who v n : Int) (w : World) (h : LF F0 W0 w g c bv vv dv ev vals ds ents) (ld : ds.length ≤ 900) (hat : atF ds who v = -1) :
    Calls Tryz.prog 154 #[.pointer (some ⟨g, 0, none⟩), .int .i64 who, .int .i64 v, .int .i64 n] w fun e w' => e = .returned (.tuple #[]) ∧ ∃ dv', LF F0 W0 w' g c bv vv dv' ev vals (insF (⟨who, v, n, []⟩, .slice none 0 0) ds) ents := by
  obtain ⟨i5, hi5, hz50, hz51, hz52⟩ := info_parts info_rdel
  obtain ⟨da, dc, rfl⟩ := ownsRow_slice h.d
  have c8 : w.cell? ⟨g, 8, none⟩ = some (.slice da ds.length dc) := h.C.L.cell 8
  have HAt : Hid (Calls Tryz.prog 51 #[.pointer (some ⟨g, 0, none⟩), .int .i64 who, .int .i64 v] w fun e w' => e = .returned (.int .i64 (-1)) ∧ w = w') := by
    have := at_lany g _ ds who v w c8 (Rd.of_owns h.d) (by omega)
    rwa [hat] at this
  have HL : Hid (LF F0 W0 w g c bv vv (.slice da ds.length dc) ev vals ds ents) := h
  clear h hat
  go_enter Tryz.func154, Tryz.ntmps154
  go_wp2_with fail
  refine HAt.out.mono ?_
  rintro e w' ⟨rfl, rfl⟩
  clear HAt
  have HJ0 : Hid (JI w (w.alloc (.cells #[.int .i64 who, .int .i64 v, .int .i64 n, .slice none 0 0] 84)) who v n (.slice none 0 0) []) := ⟨(Below.refl _ _).alloc (Nat.le_refl _) _, Has.newA w _ _, World.ownsRow_nil _ _ _ _⟩
  go_wp2
  go_loopw [9, 10, 12] (fun out put i wr => ∃ (k : Nat) (l : List (DA × Value)) (b : Bool), i = .int .i64 k ∧ k ≤ ds.length ∧ put = .bool b ∧ insTo (⟨who, v, n, []⟩, .slice none 0 0) ds k = (l, b) ∧ JI w wr who v n out l) (fun _ _ i _ => ds.length - (intOf i).toNat)
  case atStart => exact ⟨0, [], false, rfl, Nat.zero_le _, rfl, rfl, HJ0.out⟩
  case round =>
    clear HJ0
    obtain ⟨k, l, b, rfl, hk, rfl, hins, hJ⟩ := hrel
    obtain ⟨oa, oc, rfl⟩ := ownsRow_slice hJ.r
    have HJ : Hid (JI w wr who v n (.slice oa l.length oc) l) := hJ
    have hll := insTo_len (⟨who, v, n, []⟩, .slice none 0 0) ds k hk
    rw [hins] at hll
    obtain ⟨hl1, hl2⟩ := hll
    simp only at hl1 hl2
    have HLW := (show Hid _ from HL.out.below hJ.fr)
    have c8' : wr.cell? ⟨g, 8, none⟩ = some (.slice da ds.length dc) := HLW.out.C.L.cell 8
    have x0 : wr.cell? ⟨w.heap.size, 0, none⟩ = some (.int .i64 who) := hJ.X.cell 0
    have x1 : wr.cell? ⟨w.heap.size, 1, none⟩ = some (.int .i64 v) := hJ.X.cell 1
    have x2 : wr.cell? ⟨w.heap.size, 2, none⟩ = some (.int .i64 n) := hJ.X.cell 2
    have x3 : wr.cell? ⟨w.heap.size, 3, none⟩ = some (.slice none 0 0) := hJ.X.cell 3
    have hxl := hJ.X.lt
    have hgl := HLW.out.C.L.lt
    by_cases hlt : k < ds.length
    · obtain ⟨gd, rfl, _⟩ := ownsRow_some HLW.out.d (by omega)
      obtain ⟨pa, pc, hpv⟩ := ownsRow_slice (HLW.out.p k hlt)
      have hcell : ∀ i, i < 4 → wr.cell? ⟨gd, k * 4 + i, none⟩ = (DA.cells ds[k])[i]? := fun i hi => (HLW.out.d.cellAt (k * 4 + i) (by omega)).trans (arow_at ds k hlt i hi)
      have y0 := hcell 0 (by omega)
      have y1 := hcell 1 (by omega)
      have y2 := hcell 2 (by omega)
      have y3 := hcell 3 (by omega)
      have hgdl : gd < wr.heap.size := (HLW.out.d.lt gd rfl).2
      have HI : Hid (insTo (⟨who, v, n, []⟩, .slice none 0 0) ds (k + 1) = insOne (⟨who, v, n, []⟩, .slice none 0 0) (l, b) ds[k]) := by
        show insTo _ ds (k + 1) = _
        rw [insTo_snoc _ ds k hlt, hins]
      obtain ⟨o, ho⟩ : ∃ o, ds[k] = o := ⟨_, rfl⟩
      rw [ho] at y0 y1 y2 y3 HI hpv
      obtain ⟨⟨ow, ov, os, op⟩, opv⟩ := o
      simp only at hpv
      subst hpv
      simp only [DA.cells, List.getElem?_cons_succ, List.getElem?_cons_zero, Nat.add_zero] at y0 y1 y2 y3
      clear hcell hJ hins
      cases b with
      | true =>
        have HIn : Hid (insTo (⟨who, v, n, []⟩, .slice none 0 0) ds (k + 1) = (l ++ [(⟨ow, ov, os, op⟩, .slice pa op.length pc)], true)) := by
          show insTo _ ds (k + 1) = _
          rw [HI.out, insOne, if_neg (by simp)]
        clear HI
        go_wp2_with (at_builtin; go_loud (refine wpList_append_sl2 rfl (.tmp 81) (.tmp 83) 78 rfl 84 i5 _ 4 48 Tryz.underlying78 hi5 hz50 hz51 hz52 rfl (by decide) (w.heap.size + 1) _ l.length (arow (l)) rfl ((HJ.out.alloc _).alloc _).r ((HJ.out.alloc _).alloc _).hsz ⟨_, 0, none⟩ 1 1 [.int .i64 ow, .int .i64 ov, .int .i64 os, .slice pa op.length pc] rfl (by rfl) (cell_newAt _ [.int .i64 ow, .int .i64 ov, .int .i64 os, .slice pa op.length pc] _ _ (by simp)) (by simp [Value.oneCell']) (by decide) (by simp [maxLen]; omega) (by omega) ?_))
        intro g5 cap5 v5 hown5 hgrow5 hor5 hold5
        have HJ5 : Hid (JI w v5 who v n (.slice (some ⟨g5, 0, none⟩) (l.length + 1) cap5) (l ++ [(⟨ow, ov, os, op⟩, .slice pa op.length pc)])) := ((HJ.out.alloc _).alloc _).push (o := (⟨ow, ov, os, op⟩, .slice pa op.length pc)) hgrow5 hown5
        clear hown5 hgrow5 hor5 hold5 HJ
        go_wp2
        refine And.intro ?_ ?_
        · first | exact ⟨k + 1, _, true, by go_num, by omega, rfl, HIn.out, HJ5.out⟩ | ((repeat apply Exists.intro); exact ⟨⟨k + 1, _, true, by go_num, by omega, rfl, HIn.out, HJ5.out⟩, rfl⟩)
        · simp [intOf]; omega
      | false =>
        have hl3 := hl2 rfl
        by_cases h1 : who < ow
        · have HIn : Hid (insTo (⟨who, v, n, []⟩, .slice none 0 0) ds (k + 1) = (l ++ [(⟨who, v, n, []⟩, .slice none 0 0)] ++ [(⟨ow, ov, os, op⟩, .slice pa op.length pc)], true)) := by
            show insTo _ ds (k + 1) = _
            rw [HI.out, insOne, if_pos (by simp [aftF, h1])]
          clear HI
          go_wp2_with (at_builtin; go_loud (refine wpList_append_sl2 rfl (.tmp 77) (.tmp 79) 78 rfl 84 i5 _ 4 48 Tryz.underlying78 hi5 hz50 hz51 hz52 rfl (by decide) (w.heap.size + 1) _ l.length (arow (l)) rfl ((HJ.out.alloc _).alloc _).r ((HJ.out.alloc _).alloc _).hsz ⟨_, 0, none⟩ 1 1 [.int .i64 who, .int .i64 v, .int .i64 n, .slice none 0 0] rfl (by rfl) (cell_newAt _ [.int .i64 who, .int .i64 v, .int .i64 n, .slice none 0 0] _ _ (by simp)) (by simp [Value.oneCell']) (by decide) (by simp [maxLen]; omega) (by omega) ?_))
          intro g5 cap5 v5 hown5 hgrow5 hor5 hold5
          have HJ5 : Hid (JI w v5 who v n (.slice (some ⟨g5, 0, none⟩) (l.length + 1) cap5) (l ++ [(⟨who, v, n, []⟩, .slice none 0 0)])) := ((HJ.out.alloc _).alloc _).push (o := (⟨who, v, n, []⟩, .slice none 0 0)) hgrow5 hown5
          have HO5 : Hid (Has v5 wr.heap.size 84 [.int .i64 ow, .int .i64 ov, .int .i64 os, .slice pa op.length pc]) := by
            refine grown_has hgrow5 ((Has.newA wr _ _).alloc _) (fun e => ?_)
            have := (HJ.out.r.lt _ e.symm).2
            omega
          clear hown5 hgrow5 hor5 hold5 HJ
          have t0 : v5.cell? ⟨wr.heap.size, 0, none⟩ = some (.int .i64 ow) := HO5.out.cell 0
          have t1 : v5.cell? ⟨wr.heap.size, 1, none⟩ = some (.int .i64 ov) := HO5.out.cell 1
          have t2 : v5.cell? ⟨wr.heap.size, 2, none⟩ = some (.int .i64 os) := HO5.out.cell 2
          have t3 : v5.cell? ⟨wr.heap.size, 3, none⟩ = some (.slice pa op.length pc) := HO5.out.cell 3
          have e5 : (l ++ [((⟨who, v, n, []⟩, .slice none 0 0) : DA × Value)]).length = l.length + 1 := by simp
          have HR5 : Hid (∀ o, (v5.alloc o).ownsRow (w.heap.size + 1) 84 4 (.slice (some ⟨g5, 0, none⟩) (l.length + 1) cap5) (l.length + 1) (arow (l ++ [(⟨who, v, n, []⟩, .slice none 0 0)]))) := fun o => by have := (HJ5.out.alloc o).r; rwa [e5] at this
          go_wp2_with (at_builtin; go_loud (refine wpList_append_sl2 rfl (.tmp 81) (.tmp 83) 78 rfl 84 i5 _ 4 48 Tryz.underlying78 hi5 hz50 hz51 hz52 rfl (by decide) (w.heap.size + 1) _ (l.length + 1) (arow (l ++ [(⟨who, v, n, []⟩, .slice none 0 0)])) rfl (HR5.out _) (HJ5.out.alloc _).hsz ⟨_, 0, none⟩ 1 1 [.int .i64 ow, .int .i64 ov, .int .i64 os, .slice pa op.length pc] rfl (by rfl) (cell_newAt _ [.int .i64 ow, .int .i64 ov, .int .i64 os, .slice pa op.length pc] _ _ (by simp)) (by simp [Value.oneCell']) (by decide) (by simp [maxLen]; omega) (by omega) ?_))
          intro g6 cap6 v6 hown6 hgrow6 hor6 hold6
          have HJ6 : Hid (JI w v6 who v n (.slice (some ⟨g6, 0, none⟩) (l.length + 1 + 1) cap6) (l ++ [(⟨who, v, n, []⟩, .slice none 0 0)] ++ [(⟨ow, ov, os, op⟩, .slice pa op.length pc)])) := (HJ5.out.alloc _).push (o := (⟨ow, ov, os, op⟩, .slice pa op.length pc)) hgrow6 (by rw [e5]; exact hown6)
          clear hown6 hgrow6 hor6 hold6 HJ5 e5 HR5
          go_wp2
          refine And.intro ?_ ?_
          · first | exact ⟨k + 1, _, true, by go_num, by omega, rfl, HIn.out, HJ6.out⟩ | ((repeat apply Exists.intro); exact ⟨⟨k + 1, _, true, by go_num, by omega, rfl, HIn.out, HJ6.out⟩, rfl⟩)
          · simp [intOf]; omega
        · by_cases h2 : ow = who
          · have e2 : (ow == who) = true := by simp [h2]
            by_cases h3 : v < ov
            · have HIn : Hid (insTo (⟨who, v, n, []⟩, .slice none 0 0) ds (k + 1) = (l ++ [(⟨who, v, n, []⟩, .slice none 0 0)] ++ [(⟨ow, ov, os, op⟩, .slice pa op.length pc)], true)) := by
                show insTo _ ds (k + 1) = _
                rw [HI.out, insOne, if_pos (by simp [aftF, h2, h3])]
              clear HI h2
              go_wp2_with (at_builtin; go_loud (refine wpList_append_sl2 rfl (.tmp 77) (.tmp 79) 78 rfl 84 i5 _ 4 48 Tryz.underlying78 hi5 hz50 hz51 hz52 rfl (by decide) (w.heap.size + 1) _ l.length (arow (l)) rfl ((HJ.out.alloc _).alloc _).r ((HJ.out.alloc _).alloc _).hsz ⟨_, 0, none⟩ 1 1 [.int .i64 who, .int .i64 v, .int .i64 n, .slice none 0 0] rfl (by rfl) (cell_newAt _ [.int .i64 who, .int .i64 v, .int .i64 n, .slice none 0 0] _ _ (by simp)) (by simp [Value.oneCell']) (by decide) (by simp [maxLen]; omega) (by omega) ?_))
              intro g5 cap5 v5 hown5 hgrow5 hor5 hold5
              have HJ5 : Hid (JI w v5 who v n (.slice (some ⟨g5, 0, none⟩) (l.length + 1) cap5) (l ++ [(⟨who, v, n, []⟩, .slice none 0 0)])) := ((HJ.out.alloc _).alloc _).push (o := (⟨who, v, n, []⟩, .slice none 0 0)) hgrow5 hown5
              have HO5 : Hid (Has v5 wr.heap.size 84 [.int .i64 ow, .int .i64 ov, .int .i64 os, .slice pa op.length pc]) := by
                refine grown_has hgrow5 ((Has.newA wr _ _).alloc _) (fun e => ?_)
                have := (HJ.out.r.lt _ e.symm).2
                omega
              clear hown5 hgrow5 hor5 hold5 HJ
              have t0 : v5.cell? ⟨wr.heap.size, 0, none⟩ = some (.int .i64 ow) := HO5.out.cell 0
              have t1 : v5.cell? ⟨wr.heap.size, 1, none⟩ = some (.int .i64 ov) := HO5.out.cell 1
              have t2 : v5.cell? ⟨wr.heap.size, 2, none⟩ = some (.int .i64 os) := HO5.out.cell 2
              have t3 : v5.cell? ⟨wr.heap.size, 3, none⟩ = some (.slice pa op.length pc) := HO5.out.cell 3
              have e5 : (l ++ [((⟨who, v, n, []⟩, .slice none 0 0) : DA × Value)]).length = l.length + 1 := by simp
              have HR5 : Hid (∀ o, (v5.alloc o).ownsRow (w.heap.size + 1) 84 4 (.slice (some ⟨g5, 0, none⟩) (l.length + 1) cap5) (l.length + 1) (arow (l ++ [(⟨who, v, n, []⟩, .slice none 0 0)]))) := fun o => by have := (HJ5.out.alloc o).r; rwa [e5] at this
              go_wp2_with (at_builtin; go_loud (refine wpList_append_sl2 rfl (.tmp 81) (.tmp 83) 78 rfl 84 i5 _ 4 48 Tryz.underlying78 hi5 hz50 hz51 hz52 rfl (by decide) (w.heap.size + 1) _ (l.length + 1) (arow (l ++ [(⟨who, v, n, []⟩, .slice none 0 0)])) rfl (HR5.out _) (HJ5.out.alloc _).hsz ⟨_, 0, none⟩ 1 1 [.int .i64 ow, .int .i64 ov, .int .i64 os, .slice pa op.length pc] rfl (by rfl) (cell_newAt _ [.int .i64 ow, .int .i64 ov, .int .i64 os, .slice pa op.length pc] _ _ (by simp)) (by simp [Value.oneCell']) (by decide) (by simp [maxLen]; omega) (by omega) ?_))
              intro g6 cap6 v6 hown6 hgrow6 hor6 hold6
              have HJ6 : Hid (JI w v6 who v n (.slice (some ⟨g6, 0, none⟩) (l.length + 1 + 1) cap6) (l ++ [(⟨who, v, n, []⟩, .slice none 0 0)] ++ [(⟨ow, ov, os, op⟩, .slice pa op.length pc)])) := (HJ5.out.alloc _).push (o := (⟨ow, ov, os, op⟩, .slice pa op.length pc)) hgrow6 (by rw [e5]; exact hown6)
              clear hown6 hgrow6 hor6 hold6 HJ5 e5 HR5
              go_wp2
              refine And.intro ?_ ?_
              · first | exact ⟨k + 1, _, true, by go_num, by omega, rfl, HIn.out, HJ6.out⟩ | ((repeat apply Exists.intro); exact ⟨⟨k + 1, _, true, by go_num, by omega, rfl, HIn.out, HJ6.out⟩, rfl⟩)
              · simp [intOf]; omega
            · have HIn : Hid (insTo (⟨who, v, n, []⟩, .slice none 0 0) ds (k + 1) = (l ++ [(⟨ow, ov, os, op⟩, .slice pa op.length pc)], false)) := by
                show insTo _ ds (k + 1) = _
                rw [HI.out, insOne, if_neg (by simp [aftF, h1, h3])]
              clear HI h2
              go_wp2_with (at_builtin; go_loud (refine wpList_append_sl2 rfl (.tmp 81) (.tmp 83) 78 rfl 84 i5 _ 4 48 Tryz.underlying78 hi5 hz50 hz51 hz52 rfl (by decide) (w.heap.size + 1) _ l.length (arow (l)) rfl ((HJ.out.alloc _).alloc _).r ((HJ.out.alloc _).alloc _).hsz ⟨_, 0, none⟩ 1 1 [.int .i64 ow, .int .i64 ov, .int .i64 os, .slice pa op.length pc] rfl (by rfl) (cell_newAt _ [.int .i64 ow, .int .i64 ov, .int .i64 os, .slice pa op.length pc] _ _ (by simp)) (by simp [Value.oneCell']) (by decide) (by simp [maxLen]; omega) (by omega) ?_))
              intro g5 cap5 v5 hown5 hgrow5 hor5 hold5
              have HJ5 : Hid (JI w v5 who v n (.slice (some ⟨g5, 0, none⟩) (l.length + 1) cap5) (l ++ [(⟨ow, ov, os, op⟩, .slice pa op.length pc)])) := ((HJ.out.alloc _).alloc _).push (o := (⟨ow, ov, os, op⟩, .slice pa op.length pc)) hgrow5 hown5
              clear hown5 hgrow5 hor5 hold5 HJ
              go_wp2
              refine And.intro ?_ ?_
              · first | exact ⟨k + 1, _, false, by go_num, by omega, rfl, HIn.out, HJ5.out⟩ | ((repeat apply Exists.intro); exact ⟨⟨k + 1, _, false, by go_num, by omega, rfl, HIn.out, HJ5.out⟩, rfl⟩)
              · simp [intOf]; omega
          · have e2 : (ow == who) = false := by simp [h2]
            have HIn : Hid (insTo (⟨who, v, n, []⟩, .slice none 0 0) ds (k + 1) = (l ++ [(⟨ow, ov, os, op⟩, .slice pa op.length pc)], false)) := by
              show insTo _ ds (k + 1) = _
              rw [HI.out, insOne, if_neg (by simp [aftF, h1, h2])]
            clear HI h2
            go_wp2_with (at_builtin; go_loud (refine wpList_append_sl2 rfl (.tmp 81) (.tmp 83) 78 rfl 84 i5 _ 4 48 Tryz.underlying78 hi5 hz50 hz51 hz52 rfl (by decide) (w.heap.size + 1) _ l.length (arow (l)) rfl ((HJ.out.alloc _).alloc _).r ((HJ.out.alloc _).alloc _).hsz ⟨_, 0, none⟩ 1 1 [.int .i64 ow, .int .i64 ov, .int .i64 os, .slice pa op.length pc] rfl (by rfl) (cell_newAt _ [.int .i64 ow, .int .i64 ov, .int .i64 os, .slice pa op.length pc] _ _ (by simp)) (by simp [Value.oneCell']) (by decide) (by simp [maxLen]; omega) (by omega) ?_))
            intro g5 cap5 v5 hown5 hgrow5 hor5 hold5
            have HJ5 : Hid (JI w v5 who v n (.slice (some ⟨g5, 0, none⟩) (l.length + 1) cap5) (l ++ [(⟨ow, ov, os, op⟩, .slice pa op.length pc)])) := ((HJ.out.alloc _).alloc _).push (o := (⟨ow, ov, os, op⟩, .slice pa op.length pc)) hgrow5 hown5
            clear hown5 hgrow5 hor5 hold5 HJ
            go_wp2
            refine And.intro ?_ ?_
            · first | exact ⟨k + 1, _, false, by go_num, by omega, rfl, HIn.out, HJ5.out⟩ | ((repeat apply Exists.intro); exact ⟨⟨k + 1, _, false, by go_num, by omega, rfl, HIn.out, HJ5.out⟩, rfl⟩)
            · simp [intOf]; omega
    · have hke : k = ds.length := by omega
      subst hke
      have f8 := HLW.out.C.L.frozen 8
      have HFin : Hid (∀ (u : World) (dv' : Value) (L : List (DA × Value)), JI w u who v n dv' L → (∀ x ∈ L, x = (⟨who, v, n, []⟩, .slice none 0 0) ∨ x ∈ ds) → LF F0 W0 (u.setCell ⟨g, 8, none⟩ dv') g c bv vv dv' ev vals L ents ∧ u.cell? ⟨g, 8, none⟩ = some (.slice da ds.length dc) ∧ u.frozen? ⟨g, 8, none⟩ = false) := fun u dv' L hj hm => by
        have hU := HL.out.below hj.fr
        refine ⟨⟨hU.fr.setCell (p := ⟨g, 8, none⟩) hU.fg _, hU.fg, hU.fb, hU.fv, fun k hk => ?_, hU.fe, fun j hj' k hk => ?_, ⟨hU.C.L.set 8 _, ownsRow_setCell hU.C.b _ _ (fun e => Has.apart hU.C.L hU.C.b (by decide) e.symm)⟩, ownsRow_setCell hU.v _ _ (fun e => Has.apart hU.C.L hU.v (by decide) e.symm), ?_, fun j hj' => ?_, ownsRow_setCell hU.e _ _ (fun e => Has.apart hU.C.L hU.e (by decide) e.symm)⟩, hU.C.L.cell 8, hU.C.L.frozen 8⟩
        · exact .inr (Nat.le_trans HL.out.fr.size (by have := (hj.r.lt k hk).1; omega))
        · rcases hm _ (List.getElem_mem hj') with e | e
          · rw [e] at hk; simp [Value.ownBlock] at hk
          · obtain ⟨i, hi, he⟩ := List.getElem_of_mem e
            rw [← he] at hk; exact hU.fp i hi k hk
        · exact ownsRow_base (ownsRow_setCell hj.r _ _ (fun e => Has.apart hU.C.L hj.r (by decide) e.symm)) (Nat.zero_le _)
        · rcases hm _ (List.getElem_mem hj') with e | e
          · rw [e]; exact World.ownsRow_nil _ _ _ _
          · obtain ⟨i, hi, he⟩ := List.getElem_of_mem e
            rw [← he]; exact ownsRow_setCell (hU.p i hi) _ _ (fun e => Has.apart hU.C.L (hU.p i hi) (by decide) e.symm)
      have HM : Hid (∀ x ∈ insF (⟨who, v, n, []⟩, .slice none 0 0) ds, x = (⟨who, v, n, []⟩, .slice none 0 0) ∨ x ∈ ds) := insF_mem _ _
      cases b with
      | true =>
        have HE : Hid (insF (⟨who, v, n, []⟩, .slice none 0 0) ds = l) := by
          show insF _ ds = l
          unfold insF; rw [hins]; simp
        obtain ⟨hf, _, _⟩ := HFin.out wr (.slice oa l.length oc) l HJ.out (by have := HM.out; rwa [HE.out] at this)
        have HF : Hid (LF F0 W0 (wr.setCell ⟨g, 8, none⟩ (.slice oa l.length oc)) g c bv vv (.slice oa l.length oc) ev vals l ents) := hf
        clear hf hJ hins HFin
        go_wp2
        go_end0
        refine ⟨rfl, (.slice oa l.length oc), ?_⟩
        rw [HE.out]; exact HF.out
      | false =>
        have hl3 := hl2 rfl
        have HE : Hid (insF (⟨who, v, n, []⟩, .slice none 0 0) ds = l ++ [(⟨who, v, n, []⟩, .slice none 0 0)]) := by
          show insF _ ds = _
          unfold insF; rw [hins]; simp
        clear hJ hins
        go_wp2_with (at_builtin; go_loud (refine wpList_append_sl2 rfl (.tmp 87) (.tmp 89) 78 rfl 84 i5 _ 4 48 Tryz.underlying78 hi5 hz50 hz51 hz52 rfl (by decide) (w.heap.size + 1) _ l.length (arow (l)) rfl (HJ.out.alloc _).r (HJ.out.alloc _).hsz ⟨_, 0, none⟩ 1 1 [.int .i64 who, .int .i64 v, .int .i64 n, .slice none 0 0] rfl (by rfl) (cell_newAt _ [.int .i64 who, .int .i64 v, .int .i64 n, .slice none 0 0] _ _ rfl) (by simp [Value.oneCell']) (by decide) (by simp [maxLen]; omega) (by omega) ?_))
        intro g5 cap5 v5 hown5 hgrow5 hor5 hold5
        have HJ5 : Hid (JI w v5 who v n (.slice (some ⟨g5, 0, none⟩) (l.length + 1) cap5) (l ++ [(⟨who, v, n, []⟩, .slice none 0 0)])) := (HJ.out.alloc _).push (o := (⟨who, v, n, []⟩, .slice none 0 0)) hgrow5 hown5
        obtain ⟨hf, d8, k8⟩ := HFin.out v5 (.slice (some ⟨g5, 0, none⟩) (l.length + 1) cap5) _ HJ5.out (by have := HM.out; rwa [HE.out] at this)
        have HF : Hid (LF F0 W0 (v5.setCell ⟨g, 8, none⟩ (.slice (some ⟨g5, 0, none⟩) (l.length + 1) cap5)) g c bv vv (.slice (some ⟨g5, 0, none⟩) (l.length + 1) cap5) ev vals (l ++ [(⟨who, v, n, []⟩, .slice none 0 0)]) ents) := hf
        clear hf hown5 hgrow5 hor5 hold5 HJ HJ5 HFin
        go_wp2
        go_end0
        refine ⟨rfl, (.slice (some ⟨g5, 0, none⟩) (l.length + 1) cap5), ?_⟩
        rw [HE.out]; exact HF.out
end Go.Proofs.YtohjjgefklhmaaaGreatDoor

namespace Go.Proofs.YtohjjgefklhmaaaGreatDoor
open Go.ChangeShapes Go.WideShapes Go.ChangeAt Go.RowKit
set_option linter.unusedVariables false
set_option linter.unusedSimpArgs false

/-- where it stands, if it stands -/
theorem atF_cases (ds : List (DA × Value)) (who v : Int) : (atF ds who v = -1 ∧ ds.findIdx? (fun d => d.1.who == who && d.1.val == v) = none) ∨ ∃ i : Nat, ∃ h : i < ds.length, atF ds who v = i ∧ ds.findIdx? (fun d => d.1.who == who && d.1.val == v) = some i ∧ ds[i].1.who = who ∧ ds[i].1.val = v := by
  cases he : ds.findIdx? (fun d => d.1.who == who && d.1.val == v) with
  | none => exact .inl ⟨by unfold atF; rw [he], rfl⟩
  | some i =>
    obtain ⟨h, hp, _⟩ := List.findIdx?_eq_some_iff_getElem.mp he
    simp only [Bool.and_eq_true, beq_iff_eq] at hp
    exact .inr ⟨i, h, by unfold atF; rw [he], rfl, hp.1, hp.2⟩
theorem modify_set (ds : List (DA × Value)) (i : Nat) (h : i < ds.length) (f : DA × Value → DA × Value) : ds.modify i f = ds.set i (f ds[i]) := by
  induction ds generalizing i with
  | nil => simp at h
  | cons d ds ih =>
    cases i with
    | zero => simp
    | succ i => simp only [List.modify_succ_cons, List.set_cons_succ, List.getElem_cons_succ]; rw [ih i (by simpa using h)]

set_option maxHeartbeats 4000000 in
set_option maxRecDepth 100000 in
theorem joined_old {F0 : Nat → Prop} {W0 : World} (g : Nat) (c : LC) (bv vv dv ev : Value) (vals : List VS) (ds : List (DA × Value)) (ents : List ES) (who v n : Int) (w : World) (h : LF F0 W0 w g c bv vv dv ev vals ds ents) (ld : ds.length ≤ 900) (i : Nat) (hi : i < ds.length) (hat : atF ds who v = i) (n0 : 0 ≤ n) (n1 : n ≤ 1000000000000) (s0 : 0 ≤ ds[i].1.shares) (s1 : ds[i].1.shares ≤ 1000000000000) :
    Calls Tryz.prog 154 #[.pointer (some ⟨g, 0, none⟩), .int .i64 who, .int .i64 v, .int .i64 n] w fun e w' => e = .returned (.tuple #[]) ∧ LF F0 W0 w' g c bv vv dv ev vals (ds.set i ({ ds[i].1 with shares := ds[i].1.shares + n }, ds[i].2)) ents := by
  obtain ⟨da, dc, rfl⟩ := ownsRow_slice h.d
  obtain ⟨gd, rfl, _⟩ := ownsRow_some h.d (by omega)
  have c8 : w.cell? ⟨g, 8, none⟩ = some (.slice (some ⟨gd, 0, none⟩) ds.length dc) := h.C.L.cell 8
  have HAt : Hid (Calls Tryz.prog 51 #[.pointer (some ⟨g, 0, none⟩), .int .i64 who, .int .i64 v] w fun e w' => e = .returned (.int .i64 i) ∧ w = w') := by
    have := at_lany g _ ds who v w c8 (Rd.of_owns h.d) (by omega)
    rwa [hat] at this
  have y2 : w.cell? ⟨gd, i * 4 + 2, none⟩ = some (.int .i64 ds[i].1.shares) := by
    have := (h.d.cellAt (i * 4 + 2) (by omega)).trans (arow_at ds i hi 2 (by omega))
    simpa [DA.cells] using this
  have fd := h.d.frozenAt (i * 4 + 2)
  have n3 : g ≠ gd := fun e => Has.apart h.C.L h.d (by decide) (by rw [e]; rfl)
  have n3' := n3.symm
  have HF : Hid _ := h.setDel rfl (i * 4 + 2) (.int .i64 (ds[i].1.shares + n)) (ds' := ds.set i ({ ds[i].1 with shares := ds[i].1.shares + n }, ds[i].2)) (arow_shares ds i hi _) (by simp) (fun j hj => by
      by_cases e : i = j
      · subst e; simp only [List.getElem_set_self]; exact h.p i hi
      · simp only [List.getElem_set_ne e]; exact h.p j (by simpa using hj)) (fun j hj k hk => by
      by_cases e : i = j
      · subst e; simp only [List.getElem_set_self] at hk; exact h.fp i hi k hk
      · simp only [List.getElem_set_ne e] at hk; exact h.fp j (by simpa using hj) k hk)
  clear h hat
  generalize ds[i].1.shares = zz at *
  go_enter Tryz.func154, Tryz.ntmps154
  go_wp2_with fail
  refine HAt.out.mono ?_
  rintro e w' ⟨rfl, rfl⟩
  clear HAt
  go_wp2
  first | (go_region; go_wp2) | skip
  refine bodyPost_ret (results_none rfl _ _ _) rfl ?_
  exact ⟨rfl, HF.out.eta rfl rfl rfl rfl⟩

theorem joined_any {F0 : Nat → Prop} {W0 : World} (g : Nat) (c : LC) (bv vv dv ev : Value) (vals : List VS) (ds : List (DA × Value)) (ents : List ES) (who v n : Int) (w : World) (h : LF F0 W0 w g c bv vv dv ev vals ds ents) (ld : ds.length ≤ 900) (n0 : 0 ≤ n) (n1 : n ≤ 1000000000000) (hs : ∀ d ∈ ds, 0 ≤ d.1.shares ∧ d.1.shares ≤ 1000000000000) :
    Calls Tryz.prog 154 #[.pointer (some ⟨g, 0, none⟩), .int .i64 who, .int .i64 v, .int .i64 n] w fun e w' => e = .returned (.tuple #[]) ∧ ∃ dv', LF F0 W0 w' g c bv vv dv' ev vals (joinF ds who v n) ents := by
  rcases atF_cases ds who v with ⟨hat, hf⟩ | ⟨i, hi, hat, hf, _, _⟩
  · have e : joinF ds who v n = insF (⟨who, v, n, []⟩, .slice none 0 0) ds := by unfold joinF; rw [hf]
    rw [e]; exact joined_new g c bv vv dv ev vals ds ents who v n w h ld hat
  · have e : joinF ds who v n = ds.set i ({ ds[i].1 with shares := ds[i].1.shares + n }, ds[i].2) := by unfold joinF; rw [hf]; exact modify_set ds i hi _
    rw [e]
    have hd := hs _ (List.getElem_mem hi)
    refine (joined_old g c bv vv dv ev vals ds ents who v n w h ld i hi hat n0 n1 hd.1 hd.2).mono ?_
    rintro e' w' ⟨h1, h2⟩
    exact ⟨h1, dv, h2⟩

/-- has the account so many shares? -/
def hasF (ds : List (DA × Value)) (who v n : Int) : Bool :=
  match ds.findIdx? (fun d => d.1.who == who && d.1.val == v) with
  | some i => decide (1 ≤ n) && decide (n ≤ ((ds[i]?).map (fun d => d.1.shares)).getD 0)
  | none => false

set_option maxHeartbeats 4000000 in
set_option maxRecDepth 100000 in
theorem has_any {F0 : Nat → Prop} {W0 : World} (g : Nat) (c : LC) (bv vv dv ev : Value) (vals : List VS) (ds : List (DA × Value)) (ents : List ES) (who v n : Int) (w : World) (h : LF F0 W0 w g c bv vv dv ev vals ds ents) (ld : ds.length ≤ 900) :
    Calls Tryz.prog 130 #[.pointer (some ⟨g, 0, none⟩), .int .i64 who, .int .i64 v, .int .i64 n] w fun e w' => e = .returned (.bool (hasF ds who v n)) ∧ w = w' := by
  obtain ⟨da, dc, rfl⟩ := ownsRow_slice h.d
  have c8 : w.cell? ⟨g, 8, none⟩ = some (.slice da ds.length dc) := h.C.L.cell 8
  have HAt : Hid (Calls Tryz.prog 51 #[.pointer (some ⟨g, 0, none⟩), .int .i64 who, .int .i64 v] w fun e w' => e = .returned (.int .i64 (atF ds who v)) ∧ w = w') := at_lany g _ ds who v w c8 (Rd.of_owns h.d) (by omega)
  rcases atF_cases ds who v with ⟨hat, hf⟩ | ⟨i, hi, hat, hf, _, _⟩
  · have HE : Hid (hasF ds who v n = false) := by show hasF ds who v n = false; unfold hasF; rw [hf]
    rw [hat] at HAt
    clear h hat hf
    go_enter Tryz.func130, Tryz.ntmps130
    go_wp2_with fail
    refine HAt.out.mono ?_
    rintro e w' ⟨rfl, rfl⟩
    clear HAt
    go_wp2
    go_ret
    rw [HE.out]; exact ⟨rfl, rfl⟩
  · have HE : Hid (hasF ds who v n = (decide (1 ≤ n) && decide (n ≤ ds[i].1.shares))) := by show hasF ds who v n = _; unfold hasF; rw [hf]; simp [hi]
    obtain ⟨gd, rfl, _⟩ := ownsRow_some h.d (by omega)
    have y2 : w.cell? ⟨gd, i * 4 + 2, none⟩ = some (.int .i64 ds[i].1.shares) := by
      have := (h.d.cellAt (i * 4 + 2) (by omega)).trans (arow_at ds i hi 2 (by omega))
      simpa [DA.cells] using this
    rw [hat] at HAt
    clear h hat hf
    generalize ds[i].1.shares = zz at *
    go_enter Tryz.func130, Tryz.ntmps130
    go_wp2_with fail
    refine HAt.out.mono ?_
    rintro e w' ⟨rfl, rfl⟩
    clear HAt
    by_cases h1 : 1 ≤ n
    · by_cases h2 : n ≤ zz
      · go_wp2
        go_ret
        rw [HE.out]; simp [h1, h2]
      · go_wp2
        go_ret
        rw [HE.out]; simp [h1, h2]
    · go_wp2
      go_ret
      rw [HE.out]; simp; omega
end Go.Proofs.YtohjjgefklhmaaaGreatDoor

namespace Go.Proofs.YtohjjgefklhmaaaGreatDoor
open Go.ChangeShapes Go.WideShapes Go.ChangeAt Go.RowKit
set_option linter.unusedVariables false
set_option linter.unusedSimpArgs false

/-- tokens and shares of a validator become more -/
def addV (vals : List VS) (k : Nat) (amount n : Int) : List VS := vals.modify k (fun v => { v with tokens := v.tokens + amount, shares := v.shares + n })
theorem addV_eq (vals : List VS) (k : Nat) (h : k < vals.length) (amount n : Int) : addV vals k amount n = vals.set k { vals[k] with tokens := vals[k].tokens + amount, shares := vals[k].shares + n } := by
  unfold addV
  induction vals generalizing k with
  | nil => simp at h
  | cons d ds ih =>
    cases k with
    | zero => simp
    | succ i => simp only [List.modify_succ_cons, List.set_cons_succ, List.getElem_cons_succ]; rw [ih i (by simpa using h)]
/-- a delegation is paid -/
def paidV (vals : List VS) (k : Nat) (q : Int) : List VS := vals.modify k (fun v => { v with outs := v.outs - q })
theorem paidV_eq (vals : List VS) (k : Nat) (h : k < vals.length) (q : Int) : paidV vals k q = vals.set k { vals[k] with outs := vals[k].outs - q } := by
  unfold paidV
  induction vals generalizing k with
  | nil => simp at h
  | cons d ds ih =>
    cases k with
    | zero => simp
    | succ i => simp only [List.modify_succ_cons, List.set_cons_succ, List.getElem_cons_succ]; rw [ih i (by simpa using h)]
def paidD (ds : List (DA × Value)) (i : Nat) : List (DA × Value) := ds.modify i (fun d => ({ d.1 with parts := [] }, .slice none 0 0))
theorem paidD_eq (ds : List (DA × Value)) (i : Nat) (h : i < ds.length) : paidD ds i = ds.set i ({ ds[i].1 with parts := [] }, .slice none 0 0) := modify_set ds i h _

/-- both cells written -/
theorem LF.addBoth {F0 : Nat → Prop} {W0 w : World} {g : Nat} {c : LC} {bv dv ev : Value} {vals : List VS} {ds : List (DA × Value)} {ents : List ES} {gv m cap : Nat} (h : LF F0 W0 w g c bv (.slice (some ⟨gv, 0, none⟩) m cap) dv ev vals ds ents) (hm : m = vals.length) (k : Nat) (hk : k < vals.length) (amount n : Int) :
    LF F0 W0 ((w.setCell ⟨gv, k * 8 + 2, none⟩ (.int .i64 (vals[k].tokens + amount))).setCell ⟨gv, k * 8 + 3, none⟩ (.int .i64 (vals[k].shares + n))) g c bv (.slice (some ⟨gv, 0, none⟩) m cap) dv ev (addV vals k amount n) ds ents := by
  have h1 := h.setVal hm (k * 8 + 2) (.int .i64 (vals[k].tokens + amount)) (vals' := vals.set k { vals[k] with tokens := vals[k].tokens + amount }) (vset vals k hk 2 _ _ rfl (by omega)) (by simp)
  have h2 := h1.setVal (by simpa using hm) (k * 8 + 3) (.int .i64 (vals[k].shares + n)) (vals' := vals.set k { vals[k] with tokens := vals[k].tokens + amount, shares := vals[k].shares + n }) (by
    rw [vset (vals.set k { vals[k] with tokens := vals[k].tokens + amount }) k (by simpa using hk) 3 _ { vals[k] with tokens := vals[k].tokens + amount, shares := vals[k].shares + n } (by simp [VS.cells]) (by omega), List.set_set]) (by simp)
  rw [addV_eq vals k hk]
  exact h2

/-- what `enter` leaves -/
def enterF (c : LC) (vals : List VS) (ds : List (DA × Value)) (kw k : Nat) (amount n q : Int) : LC × List VS × List (DA × Value) :=
  match ds.findIdx? (fun d => d.1.who == (kw : Int) && d.1.val == (k : Int)) with
  | none => (c, addV vals k amount n, joinF ds kw k n)
  | some i => (setB c kw (c.bal.getD kw 0 + q), addV (paidV vals k q) k amount n, joinF (paidD ds i) kw k n)

set_option maxHeartbeats 4000000 in
set_option maxRecDepth 100000 in
theorem enter_new {F0 : Nat → Prop} {W0 : World} (g : Nat) (c : LC) (bv vv dv ev : Value) (vals : List VS) (ds : List (DA × Value)) (ents : List ES) (kw k : Nat) (amount n q : Int) (w : World) (h1 : LF F0 W0 w g c bv vv dv ev vals ds ents) (ld : ds.length ≤ 900) (lv : vals.length ≤ 1000) (hk : k < vals.length) (hat : atF ds kw k = -1) (n0 : 0 ≤ n) (n1 : n ≤ 1000000000000) (hs : ∀ d ∈ ds, 0 ≤ d.1.shares ∧ d.1.shares ≤ 1000000000000) (a0 : 0 ≤ amount) (a1 : amount ≤ 1000000000000) (t0 : 0 ≤ vals[k].tokens) (t1 : vals[k].tokens ≤ 1000000000000) (s0 : 0 ≤ vals[k].shares) (s1 : vals[k].shares ≤ 1000000000000) :
    Calls Tryz.prog 129 #[.pointer (some ⟨g, 0, none⟩), .int .i64 kw, .int .i64 k, .int .i64 amount, .int .i64 n, .int .i64 q] w fun e w' => e = .returned (.tuple #[]) ∧ ∃ dv', LF F0 W0 w' g c bv vv dv' ev (addV vals k amount n) (joinF ds kw k n) ents := by
  have c8 : w.cell? ⟨g, 8, none⟩ = some dv := h1.C.L.cell 8
  have HAt : Hid (Calls Tryz.prog 51 #[.pointer (some ⟨g, 0, none⟩), .int .i64 kw, .int .i64 k] w fun e w' => e = .returned (.int .i64 (-1)) ∧ w = w') := by
    have := at_lany g _ ds kw k w c8 (Rd.of_owns h1.d) (by omega)
    rwa [hat] at this

  obtain ⟨va, vc, rfl⟩ := ownsRow_slice h1.v
  obtain ⟨gv, rfl, _⟩ := ownsRow_some h1.v (by omega)
  have c7 : w.cell? ⟨g, 7, none⟩ = some (.slice (some ⟨gv, 0, none⟩) vals.length vc) := h1.C.L.cell 7
  have zt : w.cell? ⟨gv, k * 8 + 2, none⟩ = some (.int .i64 vals[k].tokens) := by
    have := (h1.v.cellAt (k * 8 + 2) (by omega)).trans (vrow_at vals k hk 2 (by omega))
    simpa [VS.cells] using this
  have zs : w.cell? ⟨gv, k * 8 + 3, none⟩ = some (.int .i64 vals[k].shares) := by
    have := (h1.v.cellAt (k * 8 + 3) (by omega)).trans (vrow_at vals k hk 3 (by omega))
    simpa [VS.cells] using this
  have ft := h1.v.frozenAt (k * 8 + 2)
  have fs := h1.v.frozenAt (k * 8 + 3)
  have n2 : g ≠ gv := fun e => Has.apart h1.C.L h1.v (by decide) (by rw [e]; rfl)
  have n2' := n2.symm
  have HF : Hid _ := h1.addBoth rfl k hk amount n
  have HJ : Hid (∀ u, LF F0 W0 u g c bv (.slice (some ⟨gv, 0, none⟩) vals.length vc) dv ev (addV vals k amount n) ds ents → Calls Tryz.prog 154 #[.pointer (some ⟨g, 0, none⟩), .int .i64 kw, .int .i64 k, .int .i64 n] u fun e w' => e = .returned (.tuple #[]) ∧ ∃ dv', LF F0 W0 w' g c bv (.slice (some ⟨gv, 0, none⟩) vals.length vc) dv' ev (addV vals k amount n) (joinF ds kw k n) ents) := fun u hu => joined_any g c bv _ dv ev _ ds ents kw k n u hu ld n0 n1 hs
  clear h1 hat c8 hs
  generalize vals[k].tokens = zt0 at *
  generalize vals[k].shares = zs0 at *
  go_enter Tryz.func129, Tryz.ntmps129
  go_wp2_with fail
  refine HAt.out.mono ?_
  rintro e w' ⟨rfl, rfl⟩
  clear HAt
  go_wp2_with fail
  go_region
  go_wp2_with fail
  go_region
  go_wp2_with fail
  refine Calls.mono (HJ.out _ ?_) ?_
  · exact HF.out.eta rfl rfl rfl rfl
  rintro e w' ⟨rfl, dv', hL⟩
  have HL : Hid _ := hL
  clear hL HJ HF
  go_wp2
  go_end0
  exact ⟨rfl, dv', HL.out⟩

set_option maxHeartbeats 4000000 in
set_option maxRecDepth 100000 in
theorem enter_old {F0 : Nat → Prop} {W0 : World} (g : Nat) (c : LC) (bv vv dv ev : Value) (vals : List VS) (ds : List (DA × Value)) (ents : List ES) (kw k : Nat) (amount n q : Int) (w : World) (h : LF F0 W0 w g c bv vv dv ev vals ds ents) (ld : ds.length ≤ 900) (lv : vals.length ≤ 1000) (lb : c.bal.length ≤ 1000) (hk : k < vals.length) (hkw : kw < c.bal.length) (i : Nat) (hi : i < ds.length) (hat : atF ds kw k = i) (hw : ds[i].1.who = kw) (hv : ds[i].1.val = k) (n0 : 0 ≤ n) (n1 : n ≤ 1000000000000) (hs : ∀ d ∈ ds, 0 ≤ d.1.shares ∧ d.1.shares ≤ 1000000000000) (a0 : 0 ≤ amount) (a1 : amount ≤ 1000000000000) (t0 : 0 ≤ vals[k].tokens) (t1 : vals[k].tokens ≤ 1000000000000) (s0 : 0 ≤ vals[k].shares) (s1 : vals[k].shares ≤ 1000000000000) (q0 : 0 ≤ q) (q1 : q ≤ 1000000000000) (b0 : 0 ≤ c.bal.getD kw 0) (b1 : c.bal.getD kw 0 ≤ 1000000000000) (o0 : 0 ≤ vals[k].outs) (o1 : vals[k].outs ≤ 1000000000000) :
    Calls Tryz.prog 129 #[.pointer (some ⟨g, 0, none⟩), .int .i64 kw, .int .i64 k, .int .i64 amount, .int .i64 n, .int .i64 q] w fun e w' => e = .returned (.tuple #[]) ∧ ∃ dv', LF F0 W0 w' g (setB c kw (c.bal.getD kw 0 + q)) bv vv dv' ev (addV (paidV vals k q) k amount n) (joinF (paidD ds i) kw k n) ents := by
  have c8 : w.cell? ⟨g, 8, none⟩ = some dv := h.C.L.cell 8
  have HAt : Hid (Calls Tryz.prog 51 #[.pointer (some ⟨g, 0, none⟩), .int .i64 kw, .int .i64 k] w fun e w' => e = .returned (.int .i64 i) ∧ w = w') := by
    have := at_lany g _ ds kw k w c8 (Rd.of_owns h.d) (by omega)
    rwa [hat] at this
  have HP : Hid (Calls Tryz.prog 133 #[.pointer (some ⟨g, 0, none⟩), .int .i64 i, .int .i64 q] w fun e w' => e = .returned (.tuple #[]) ∧ LF F0 W0 w' g (setB c kw (c.bal.getD kw 0 + q)) bv vv dv ev (paidV vals k q) (paidD ds i) ents) := by
    have := paid_any g c bv vv dv ev vals ds ents i kw k q w h hi hw hv hkw hk lb lv (by omega) _ rfl b0 b1 q0 q1 o0 o1
    rwa [← paidV_eq vals k hk, ← paidD_eq ds i hi] at this
  have hk1 : k < (paidV vals k q).length := by rw [paidV_eq vals k hk]; simpa using hk
  have lv1 : (paidV vals k q).length ≤ 1000 := by rw [paidV_eq vals k hk]; simpa using lv
  have ld1 : (paidD ds i).length ≤ 900 := by rw [paidD_eq ds i hi]; simpa using ld
  have et : (paidV vals k q)[k].tokens = vals[k].tokens := by simp only [paidV_eq vals k hk, List.getElem_set_self]
  have es : (paidV vals k q)[k].shares = vals[k].shares := by simp only [paidV_eq vals k hk, List.getElem_set_self]
  have hs1 : ∀ d ∈ paidD ds i, 0 ≤ d.1.shares ∧ d.1.shares ≤ 1000000000000 := by
    rw [paidD_eq ds i hi]
    intro d hd
    rcases List.mem_or_eq_of_mem_set hd with hd | rfl
    · exact hs d hd
    · have := hs ds[i] (List.getElem_mem hi)
      exact this
  rw [← et] at t0 t1
  rw [← es] at s0 s1
  clear h hat c8 hs et es
  generalize paidV vals k q = vals1 at *
  generalize paidD ds i = ds1 at *
  generalize setB c kw (c.bal.getD kw 0 + q) = c1 at *
  go_enter Tryz.func129, Tryz.ntmps129
  go_wp2_with fail
  refine HAt.out.mono ?_
  rintro e w' ⟨rfl, rfl⟩
  clear HAt
  go_wp2_with fail
  refine HP.out.mono ?_
  rintro e w1 ⟨rfl, h1⟩
  clear HP

  obtain ⟨va, vc, rfl⟩ := ownsRow_slice h1.v
  obtain ⟨gv, rfl, _⟩ := ownsRow_some h1.v (by omega)
  have c7 : w1.cell? ⟨g, 7, none⟩ = some (.slice (some ⟨gv, 0, none⟩) vals1.length vc) := h1.C.L.cell 7
  have zt : w1.cell? ⟨gv, k * 8 + 2, none⟩ = some (.int .i64 vals1[k].tokens) := by
    have := (h1.v.cellAt (k * 8 + 2) (by omega)).trans (vrow_at vals1 k hk1 2 (by omega))
    simpa [VS.cells] using this
  have zs : w1.cell? ⟨gv, k * 8 + 3, none⟩ = some (.int .i64 vals1[k].shares) := by
    have := (h1.v.cellAt (k * 8 + 3) (by omega)).trans (vrow_at vals1 k hk1 3 (by omega))
    simpa [VS.cells] using this
  have ft := h1.v.frozenAt (k * 8 + 2)
  have fs := h1.v.frozenAt (k * 8 + 3)
  have n2 : g ≠ gv := fun e => Has.apart h1.C.L h1.v (by decide) (by rw [e]; rfl)
  have n2' := n2.symm
  have HF : Hid _ := h1.addBoth rfl k hk1 amount n
  have HJ : Hid (∀ u, LF F0 W0 u g c1 bv (.slice (some ⟨gv, 0, none⟩) vals1.length vc) dv ev (addV vals1 k amount n) ds1 ents → Calls Tryz.prog 154 #[.pointer (some ⟨g, 0, none⟩), .int .i64 kw, .int .i64 k, .int .i64 n] u fun e w' => e = .returned (.tuple #[]) ∧ ∃ dv', LF F0 W0 w' g c1 bv (.slice (some ⟨gv, 0, none⟩) vals1.length vc) dv' ev (addV vals1 k amount n) (joinF ds1 kw k n) ents) := fun u hu => joined_any g c1 bv _ dv ev _ ds1 ents kw k n u hu ld1 n0 n1 hs1
  clear h1 hs1
  generalize vals1[k].tokens = zt0 at *
  generalize vals1[k].shares = zs0 at *
  go_wp2_with fail
  go_region
  go_wp2_with fail
  go_region
  go_wp2_with fail
  refine Calls.mono (HJ.out _ ?_) ?_
  · exact HF.out.eta rfl rfl rfl rfl
  rintro e w' ⟨rfl, dv', hL⟩
  have HL : Hid _ := hL
  clear hL HJ HF
  go_wp2
  go_end0
  exact ⟨rfl, dv', HL.out⟩

theorem enter_any {F0 : Nat → Prop} {W0 : World} (g : Nat) (c : LC) (bv vv dv ev : Value) (vals : List VS) (ds : List (DA × Value)) (ents : List ES) (kw k : Nat) (amount n q : Int) (w : World) (h : LF F0 W0 w g c bv vv dv ev vals ds ents) (ld : ds.length ≤ 900) (lv : vals.length ≤ 1000) (lb : c.bal.length ≤ 1000) (hk : k < vals.length) (hkw : kw < c.bal.length) (n0 : 0 ≤ n) (n1 : n ≤ 1000000000000) (hs : ∀ d ∈ ds, 0 ≤ d.1.shares ∧ d.1.shares ≤ 1000000000000) (a0 : 0 ≤ amount) (a1 : amount ≤ 1000000000000) (t0 : 0 ≤ vals[k].tokens) (t1 : vals[k].tokens ≤ 1000000000000) (s0 : 0 ≤ vals[k].shares) (s1 : vals[k].shares ≤ 1000000000000) (q0 : 0 ≤ q) (q1 : q ≤ 1000000000000) (b0 : 0 ≤ c.bal.getD kw 0) (b1 : c.bal.getD kw 0 ≤ 1000000000000) (o0 : 0 ≤ vals[k].outs) (o1 : vals[k].outs ≤ 1000000000000) :
    Calls Tryz.prog 129 #[.pointer (some ⟨g, 0, none⟩), .int .i64 kw, .int .i64 k, .int .i64 amount, .int .i64 n, .int .i64 q] w fun e w' => e = .returned (.tuple #[]) ∧ ∃ dv', LF F0 W0 w' g (enterF c vals ds kw k amount n q).1 bv vv dv' ev (enterF c vals ds kw k amount n q).2.1 (enterF c vals ds kw k amount n q).2.2 ents := by
  rcases atF_cases ds kw k with ⟨hat, hf⟩ | ⟨i, hi, hat, hf, hw, hv⟩
  · have e : enterF c vals ds kw k amount n q = (c, addV vals k amount n, joinF ds kw k n) := by unfold enterF; rw [hf]
    rw [e]; exact enter_new g c bv vv dv ev vals ds ents kw k amount n q w h ld lv hk hat n0 n1 hs a0 a1 t0 t1 s0 s1
  · have e : enterF c vals ds kw k amount n q = (setB c kw (c.bal.getD kw 0 + q), addV (paidV vals k q) k amount n, joinF (paidD ds i) kw k n) := by unfold enterF; rw [hf]
    rw [e]; exact enter_old g c bv vv dv ev vals ds ents kw k amount n q w h ld lv lb hk hkw i hi hat hw hv n0 n1 hs a0 a1 t0 t1 s0 s1 q0 q1 b0 b1 o0 o1
end Go.Proofs.YtohjjgefklhmaaaGreatDoor

namespace Go.Proofs.YtohjjgefklhmaaaGreatDoor
open Go.ChangeShapes Go.WideShapes Go.ChangeAt Go.RowKit
set_option linter.unusedVariables false
set_option linter.unusedSimpArgs false

/-- how large the ledger's numbers are -/
structure LBnd (c : LC) (vals : List VS) (ds : List (DA × Value)) : Prop where
  hc : LBd c
  bal : ∀ k (h : k < c.bal.length), c.bal[k] ≤ 1000000
  lv : vals.length ≤ 1000
  ld : ds.length ≤ 900
  v : ∀ k (h : k < vals.length), 0 ≤ vals[k].tokens ∧ vals[k].tokens ≤ 1000000 ∧ 0 ≤ vals[k].shares ∧ vals[k].shares ≤ 1000000 ∧ 0 ≤ vals[k].outs ∧ vals[k].outs ≤ 1000000000000
  d : ∀ d ∈ ds, 0 ≤ d.1.shares ∧ d.1.shares ≤ 1000000000000

theorem chargeF_cases {c : LC} {vals : List VS} {ds : List (DA × Value)} (hb : LBnd c vals ds) (who : Int) : (chargeF c who).2.bal.length = c.bal.length ∧ (∀ k (h : k < (chargeF c who).2.bal.length), 0 ≤ (chargeF c who).2.bal[k] ∧ (chargeF c who).2.bal[k] ≤ 1000000) ∧ ((chargeF c who).1 = 0 → ∃ kw : Nat, who = kw ∧ kw < c.bal.length) := by
  have hold : ∀ k (h : k < c.bal.length), 0 ≤ c.bal[k] ∧ c.bal[k] ≤ 1000000 := fun k h => ⟨(hb.hc.bal k h).1, hb.bal k h⟩
  by_cases hin : inN who 0 ((c.bal.length : Int) - 1) = true
  · obtain ⟨q1, q2⟩ := inN_iff.1 hin
    obtain ⟨k, rfl⟩ := Int.eq_ofNat_of_zero_le q1
    have hk : k < c.bal.length := by omega
    by_cases hp : c.bal.getD k 0 < c.fee
    · rw [chargeF_poor hin hp]
      exact ⟨rfl, hold, fun h => by simp at h⟩
    · rw [chargeF_yes hin hp]
      refine ⟨by simp [setB], fun j hj => ?_, fun _ => ⟨k, rfl, hk⟩⟩
      have hj' : j < c.bal.length := by simpa [setB] using hj
      by_cases e : k = j
      · subst e
        have h1 := hold k hk
        have h2 : c.bal.getD k 0 = c.bal[k] := by simp [List.getD, hk]
        have hf := hb.hc.fee0
        simp only [setB, List.getElem_set_self]
        omega
      · simp only [setB, List.getElem_set_ne e]
        exact hold j hj'
  · rw [chargeF_no (by simpa using hin)]
    exact ⟨rfl, hold, fun h => by simp at h⟩

theorem buyF_bounds {x : VS} {a : Int} (a0 : 0 ≤ a) (t0 : 0 ≤ x.tokens) (s0 : 0 ≤ x.shares) (h : (buyF x a).2 = 0) : 0 ≤ (buyF x a).1 ∧ (buyF x a).1 ≤ 1000000 := by
  have d0 : 0 ≤ a * x.shares / x.tokens := Int.ediv_nonneg (Int.mul_nonneg a0 s0) t0
  unfold buyF at h ⊢
  split at h <;> rename_i h1
  · rw [if_pos h1]
    split at h <;> rename_i h2
    · simp at h
    · rw [if_neg h2]
      split at h <;> rename_i h3
      · simp at h
      · rw [if_neg h3]
        split at h <;> rename_i h4
        · simp at h
        · rw [if_neg h4]; simp only; omega
  · rw [if_neg h1]
    split at h <;> rename_i h2
    · simp at h
    · rw [if_neg h2]
      split at h <;> rename_i h3
      · simp at h
      · rw [if_neg h3]; simp only; omega

/-- a bond (P9): the answer, and what is left -/
def bondF (c : LC) (vals : List VS) (ds : List (DA × Value)) (who v amount q : Int) : Int × LC × List VS × List (DA × Value) :=
  if (chargeF c who).1 = 0 then
    if inN v 0 ((vals.length : Int) - 1) = true then
      if amount < 1 then (5, (chargeF c who).2, vals, ds)
      else if (chargeF c who).2.bal.getD who.toNat 0 < amount then (4, (chargeF c who).2, vals, ds)
      else if (buyF (vals.getD v.toNat ⟨0, 0, 0, 0, 0, 0, false, false⟩) amount).2 = 0 then
        (0, enterF (setB (chargeF c who).2 who.toNat ((chargeF c who).2.bal.getD who.toNat 0 - amount)) vals ds who.toNat v.toNat amount (buyF (vals.getD v.toNat ⟨0, 0, 0, 0, 0, 0, false, false⟩) amount).1 q)
      else ((buyF (vals.getD v.toNat ⟨0, 0, 0, 0, 0, 0, false, false⟩) amount).2, (chargeF c who).2, vals, ds)
    else (3, (chargeF c who).2, vals, ds)
  else ((chargeF c who).1, (chargeF c who).2, vals, ds)

set_option maxHeartbeats 4000000 in
set_option maxRecDepth 100000 in
theorem bond_any {F0 : Nat → Prop} {W0 : World} (g : Nat) (c : LC) (bv vv dv ev : Value) (vals : List VS) (ds : List (DA × Value)) (ents : List ES) (who v amount q : Int) (w : World) (h : LF F0 W0 w g c bv vv dv ev vals ds ents) (hb : LBnd c vals ds) (q0 : 0 ≤ q) (q1 : q ≤ 1000000000000) :
    Calls Tryz.prog 66 #[.pointer (some ⟨g, 0, none⟩), .int .i64 who, .int .i64 v, .int .i64 amount, .int .i64 q] w fun e w' => e = .returned (.int .i64 (bondF c vals ds who v amount q).1) ∧ ∃ dv', LF F0 W0 w' g (bondF c vals ds who v amount q).2.1 bv vv dv' ev (bondF c vals ds who v amount q).2.2.1 (bondF c vals ds who v amount q).2.2.2 ents := by
  obtain ⟨hcl, hcb, hcw⟩ := chargeF_cases hb who
  have HCh : Hid (Calls Tryz.prog 124 #[.pointer (some ⟨g, 0, none⟩), .int .i64 who] w fun e w' => e = .returned (.int .i64 (chargeF c who).1) ∧ LF F0 W0 w' g (chargeF c who).2 bv vv dv ev vals ds ents) :=
    (charge_any g c bv vv dv ev who w h.C hb.hc).mono (by rintro e w' ⟨h1, h2, h3⟩; exact ⟨h1, h.core h2 h3⟩)
  have lb : (chargeF c who).2.bal.length ≤ 1000 := by rw [hcl]; exact hb.hc.len
  rw [← hcl] at hcw
  generalize hR : bondF c vals ds who v amount q = R
  have HR : Hid (bondF c vals ds who v amount q = R) := hR
  clear hR
  unfold bondF at HR
  cases hr : chargeF c who with
  | mk r1 c1 =>
  rw [hr] at hcl hcb hcw lb HCh HR
  simp only at hcl hcb hcw lb HCh HR
  clear hr h
  have lv := hb.lv
  go_enter Tryz.func66, Tryz.ntmps66
  go_wp2_with fail
  refine HCh.out.mono ?_
  rintro e w1 ⟨rfl, h1⟩
  clear HCh
  have HL : Hid (LF F0 W0 w1 g c1 bv vv dv ev vals ds ents) := h1
  clear h1
  by_cases h0 : r1 = 0
  case neg =>
    rw [if_neg h0] at HR
    have e0 : (r1 == 0) = false := by simp [h0]
    clear hcb hcw h0
    go_wp2
    go_ret
    rw [← HR.out]; exact ⟨rfl, dv, HL.out⟩
  subst h0
  obtain ⟨kw, rfl, hkw⟩ := hcw rfl
  rw [if_pos rfl] at HR
  simp only [Int.toNat_natCast] at HR
  clear hcw
  have HV : Hid (Calls Tryz.prog 100 #[.pointer (some ⟨g, 0, none⟩), .int .i64 v] w1 fun e w' => e = .returned (.bool (inN v 0 ((vals.length : Int) - 1))) ∧ w1 = w') := lval_any g vv vals v w1 (HL.out.lvals lv)
  by_cases hin : inN v 0 ((vals.length : Int) - 1) = true
  case neg =>
    have hin' : inN v 0 ((vals.length : Int) - 1) = false := by simpa using hin
    rw [if_neg hin] at HR
    rw [hin'] at HV
    clear hcb hin hin'
    go_wp2_with fail
    refine HV.out.mono ?_
    rintro e w' ⟨rfl, rfl⟩
    clear HV
    go_wp2
    go_ret
    rw [← HR.out]; exact ⟨rfl, dv, HL.out⟩
  rw [if_pos hin] at HR
  rw [hin] at HV
  obtain ⟨p1, p2⟩ := inN_iff.1 hin
  obtain ⟨k, rfl⟩ := Int.eq_ofNat_of_zero_le p1
  have hk : k < vals.length := by omega
  clear hin p1 p2
  have hgv : vals.getD k ⟨0, 0, 0, 0, 0, 0, false, false⟩ = vals[k] := by simp [List.getD, hk]
  simp only [Int.toNat_natCast, hgv] at HR
  go_wp2_with fail
  refine HV.out.mono ?_
  rintro e w' ⟨rfl, rfl⟩
  clear HV
  by_cases ha : amount < 1
  · rw [if_pos ha] at HR
    clear hcb
    go_wp2
    go_ret
    rw [← HR.out]; exact ⟨rfl, dv, HL.out⟩
  rw [if_neg ha] at HR
  obtain ⟨ba, bc, rfl⟩ := ownsRow_slice HL.out.C.b
  obtain ⟨gb, rfl, _⟩ := ownsRow_some HL.out.C.b (by omega)
  have c4 : w1.cell? ⟨g, 4, none⟩ = some (.slice (some ⟨gb, 0, none⟩) c1.bal.length bc) := HL.out.C.L.cell 4
  have cb : w1.cell? ⟨gb, kw, none⟩ = some (.int .i64 (c1.bal.getD kw 0)) := by
    rw [HL.out.C.b.cellAt kw (by omega)]; simp [ints, hkw]
  have fb := HL.out.C.b.frozenAt kw
  have hgd : c1.bal.getD kw 0 = c1.bal[kw] := by simp [List.getD, hkw]
  have n1 : g ≠ gb := fun e => Has.apart HL.out.C.L HL.out.C.b (by decide) (by rw [e]; rfl)
  have n1' := n1.symm
  have hbk := hcb kw hkw
  rw [← hgd] at hbk
  obtain ⟨b0, b1⟩ := hbk
  clear hcb hgd
  by_cases hf : c1.bal.getD kw 0 < amount
  · rw [if_pos hf] at HR
    generalize c1.bal.getD kw 0 = x at *
    go_wp2
    go_ret
    rw [← HR.out]; exact ⟨rfl, dv, HL.out⟩
  rw [if_neg hf] at HR
  obtain ⟨t0, t1, s0, s1, o0, o1⟩ := hb.v k hk
  have HB : Hid (Calls Tryz.prog 128 #[.pointer (some ⟨g, 0, none⟩), .int .i64 k, .int .i64 amount] w1 fun e w' => e = .returned (.tuple #[.int .i64 (buyF vals[k] amount).1, .int .i64 (buyF vals[k] amount).2]) ∧ w1 = w') := buy_any g vv vals k amount w1 (HL.out.lvals lv) hk (by omega) (by omega) t0 t1 s0 s1
  have hbb := buyF_bounds (x := vals[k]) (a := amount) (by omega) t0 s0
  cases hbf : buyF vals[k] amount with
  | mk n f =>
  rw [hbf] at HB hbb HR
  simp only at HB hbb HR
  clear hbf
  by_cases hz : f = 0
  case neg =>
    rw [if_neg hz] at HR
    have e0 : (f == 0) = false := by simp [hz]
    clear hbb hz
    generalize c1.bal.getD kw 0 = x at *
    go_wp2_with fail
    refine HB.out.mono ?_
    rintro e w' ⟨rfl, rfl⟩
    clear HB
    go_wp2
    go_ret
    rw [← HR.out]; exact ⟨rfl, dv, HL.out⟩
  subst hz
  rw [if_pos rfl] at HR
  obtain ⟨m0, m1⟩ := hbb rfl
  clear hbb
  have HF : Hid _ := HL.out.setBal rfl kw (c1.bal.getD kw 0 - amount)
  have hgs : (setB c1 kw (c1.bal.getD kw 0 - amount)).bal.getD kw 0 = c1.bal.getD kw 0 - amount := by simp [setB, List.getD, hkw]
  have HE : Hid (∀ u, LF F0 W0 u g (setB c1 kw (c1.bal.getD kw 0 - amount)) (.slice (some ⟨gb, 0, none⟩) c1.bal.length bc) vv dv ev vals ds ents → Calls Tryz.prog 129 #[.pointer (some ⟨g, 0, none⟩), .int .i64 kw, .int .i64 k, .int .i64 amount, .int .i64 n, .int .i64 q] u fun e w' => e = .returned (.tuple #[]) ∧ ∃ dv', LF F0 W0 w' g (enterF (setB c1 kw (c1.bal.getD kw 0 - amount)) vals ds kw k amount n q).1 (.slice (some ⟨gb, 0, none⟩) c1.bal.length bc) vv dv' ev (enterF (setB c1 kw (c1.bal.getD kw 0 - amount)) vals ds kw k amount n q).2.1 (enterF (setB c1 kw (c1.bal.getD kw 0 - amount)) vals ds kw k amount n q).2.2 ents) := fun u hu =>
    enter_any g _ _ vv dv ev vals ds ents kw k amount n q u hu hb.ld lv (by simpa [setB] using lb) hk (by simpa [setB] using hkw) m0 (by omega) hb.d (by omega) (by omega) t0 (by omega) s0 (by omega) q0 q1 (by rw [hgs]; omega) (by rw [hgs]; omega) o0 o1
  generalize enterF (setB c1 kw (c1.bal.getD kw 0 - amount)) vals ds kw k amount n q = R2 at *
  generalize setB c1 kw (c1.bal.getD kw 0 - amount) = c2 at *
  generalize c1.bal.getD kw 0 = x at *
  clear hgs
  go_wp2_with fail
  refine HB.out.mono ?_
  rintro e w' ⟨rfl, rfl⟩
  clear HB
  go_wp2_with fail
  go_region
  go_wp2_with fail
  refine Calls.mono (HE.out _ ?_) ?_
  · exact HF.out.eta rfl rfl rfl rfl
  rintro e w' ⟨rfl, dv', hL⟩
  have HL2 : Hid _ := hL
  clear hL HE HF
  go_wp2
  go_ret
  rw [← HR.out]; exact ⟨rfl, dv', HL2.out⟩
end Go.Proofs.YtohjjgefklhmaaaGreatDoor
