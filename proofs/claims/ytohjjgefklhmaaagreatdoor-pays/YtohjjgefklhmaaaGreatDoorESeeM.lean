import Derived.Test.YtohjjgefklhmaaaGreatDoorEFeesM
namespace Go.Proofs.YtohjjgefklhmaaaGreatDoor
open Go.ChangeShapes Go.WideShapes Go.ChangeAt Go.RowKit
set_option linter.unusedVariables false

set_option maxHeartbeats 2000000 in
set_option maxRecDepth 100000 in
theorem pbonded_anyE (g : Nat) (vals : List VS) (vv : Value) (w : World) (c7 : w.cell? ⟨g, 7, none⟩ = some vv) (hv : Rd w vv vals.length 8 (vrow vals)) (hB : VB vals) (l2 : vals.length ≤ 1000) :
    Calls Tryz.prog 89 #[.pointer (some ⟨g, 0, none⟩)] w fun e w' => e = .returned (.int .i64 (bondedN vals)) ∧ Below w.heap.size w w' := by
  obtain ⟨va, vc, rfl⟩ := hv.form
  go_enter Tryz.func89, Tryz.ntmps89
  go_wp2
  go_loopw [3, 11] (fun n i wr => ∃ k : Nat, k ≤ vals.length ∧ i = .int .i64 k ∧ n = .int .i64 (bondedN (vals.take k)) ∧ Below w.heap.size w wr) (fun _ i _ => vals.length - (intOf i).toNat)
  case atStart => exact ⟨0, Nat.zero_le _, rfl, rfl, Below.refl _ _⟩
  case round =>
    obtain ⟨k, hk, rfl, rfl, hbw⟩ := hrel
    obtain ⟨q1, q2⟩ := bondedN_bd hB k hk
    have hv' := hv.below hbw (Nat.le_refl _)
    by_cases hlt : k < vals.length
    · obtain ⟨gv, rfl, hc⟩ := hv'.get (by omega)
      have y0 := hc _ _ (vrow_at vals k hlt 0 (by omega))
      have y1 := hc _ _ (vrow_at vals k hlt 1 (by omega))
      have y2 := hc _ _ (vrow_at vals k hlt 2 (by omega))
      have y3 := hc _ _ (vrow_at vals k hlt 3 (by omega))
      have y4 := hc _ _ (vrow_at vals k hlt 4 (by omega))
      have y5 := hc _ _ (vrow_at vals k hlt 5 (by omega))
      have y6 := hc _ _ (vrow_at vals k hlt 6 (by omega))
      have y7 := hc _ _ (vrow_at vals k hlt 7 (by omega))
      rw [Nat.add_zero] at y0
      have hbd := hB k hlt
      have HS : Hid (bondedN (vals.take (k + 1)) = if vals[k].inset = true then bondedN (vals.take k) + vals[k].tokens else bondedN (vals.take k)) := bondedN_snoc vals k hlt
      have HB : Hid (∀ o, Below w.heap.size w (wr.alloc o)) := fun o => hbw.alloc hbw.size o
      generalize vals[k] = x at *
      clear hc hv hv' hB hbw
      go_wp2
      all_goals
        refine And.intro ?_ ?_
        · first | exact ⟨k + 1, by omega, by go_num, by rw [HS.out]; simp_all, HB.out _⟩ | ((repeat apply Exists.intro); exact ⟨⟨k + 1, by omega, by go_num, by rw [HS.out]; simp_all, HB.out _⟩, rfl⟩)
        · simp [intOf]; omega
    · go_wp2
      go_ret
      refine ⟨ret_int ?_, hbw⟩
      rw [List.take_of_length_le (by omega)]

set_option maxHeartbeats 2000000 in
set_option maxRecDepth 100000 in
theorem kloose (g : Nat) (vals : List VS) (vv : Value) (w : World) (c7 : w.cell? ⟨g, 7, none⟩ = some vv) (ev : Value) (ents : List ES) (c73 : w.cell? ⟨g, 73, none⟩ = some ev) (he : Rd w ev ents.length 4 (erow ents)) (hBe : EB ents) (l3 : ents.length ≤ 1000) (hv : Rd w vv vals.length 8 (vrow vals)) (hB : VB vals) (l2 : vals.length ≤ 1000) :
    Calls Tryz.prog 90 #[.pointer (some ⟨g, 0, none⟩)] w fun e w' => e = .returned (.int .i64 (looseV vals + sumE ents)) ∧ Below w.heap.size w w' := by
  obtain ⟨va, vc, rfl⟩ := hv.form
  obtain ⟨ea, ec, rfl⟩ := he.form
  go_enter Tryz.func90, Tryz.ntmps90
  go_wp2
  go_loopw [3, 13] (fun n i wr => ∃ k : Nat, k ≤ vals.length ∧ i = .int .i64 k ∧ n = .int .i64 (looseV (vals.take k)) ∧ Below w.heap.size w wr) (fun _ i _ => vals.length - (intOf i).toNat)
  case atStart => exact ⟨0, Nat.zero_le _, rfl, rfl, Below.refl _ _⟩
  case round =>
    obtain ⟨k, hk, rfl, rfl, hbw⟩ := hrel
    obtain ⟨q1, q2⟩ := looseV_bd hB k hk
    have hv' := hv.below hbw (Nat.le_refl _)
    by_cases hlt : k < vals.length
    · obtain ⟨gv, rfl, hc⟩ := hv'.get (by omega)
      have y0 := hc _ _ (vrow_at vals k hlt 0 (by omega))
      have y1 := hc _ _ (vrow_at vals k hlt 1 (by omega))
      have y2 := hc _ _ (vrow_at vals k hlt 2 (by omega))
      have y3 := hc _ _ (vrow_at vals k hlt 3 (by omega))
      have y4 := hc _ _ (vrow_at vals k hlt 4 (by omega))
      have y5 := hc _ _ (vrow_at vals k hlt 5 (by omega))
      have y6 := hc _ _ (vrow_at vals k hlt 6 (by omega))
      have y7 := hc _ _ (vrow_at vals k hlt 7 (by omega))
      rw [Nat.add_zero] at y0
      have hbd := hB k hlt
      have HS : Hid (looseV (vals.take (k + 1)) = if vals[k].inset = true then looseV (vals.take k) else looseV (vals.take k) + vals[k].tokens) := looseV_snoc vals k hlt
      have HB : Hid (∀ o, Below w.heap.size w (wr.alloc o)) := fun o => hbw.alloc hbw.size o
      generalize vals[k] = x at *
      clear hc hv hv' hB hbw
      go_wp2
      all_goals
        refine And.intro ?_ ?_
        · first | exact ⟨k + 1, by omega, by go_num, by rw [HS.out]; simp_all, HB.out _⟩ | ((repeat apply Exists.intro); exact ⟨⟨k + 1, by omega, by go_num, by rw [HS.out]; simp_all, HB.out _⟩, rfl⟩)
        · simp [intOf]; omega
    · have HV : Hid (looseV (vals.take k) = looseV vals) := by rw [List.take_of_length_le (by omega)]; exact rfl
      generalize looseV (vals.take k) = sv at *
      have c73' : wr.cell? ⟨g, 73, none⟩ = some (.slice ea ents.length ec) := by
        rw [hbw.cell (p := ⟨g, 73, none⟩) (World.block_lt_of_cell? w _ c73)]; exact c73
      have HB : Hid (Below w.heap.size w wr) := hbw
      clear hv hv' hB hbw c73
      go_wp2
      obtain ⟨wo, rfl⟩ : ∃ wo : World, wo = wr := ⟨_, rfl⟩
      go_loopw [3, 30] (fun n i wr => ∃ k2 : Nat, k2 ≤ ents.length ∧ i = .int .i64 k2 ∧ n = .int .i64 (sv + sumE (ents.take k2)) ∧ Below w.heap.size w wr) (fun _ i _ => ents.length - (intOf i).toNat)
      case atStart => exact ⟨0, Nat.zero_le _, rfl, by simp [sumE], HB.out⟩
      case round =>
        obtain ⟨k2, hk2, rfl, rfl, hbw⟩ := hrel
        obtain ⟨r1, r2⟩ := sumE_bd hBe k2 hk2
        have he' := he.below hbw (Nat.le_refl _)
        by_cases hlt2 : k2 < ents.length
        · obtain ⟨gv, rfl, hc⟩ := he'.get (by omega)
          have y0 := hc _ _ (erow_at ents k2 hlt2 0 (by omega))
          have y1 := hc _ _ (erow_at ents k2 hlt2 1 (by omega))
          have y2 := hc _ _ (erow_at ents k2 hlt2 2 (by omega))
          have y3 := hc _ _ (erow_at ents k2 hlt2 3 (by omega))
          rw [Nat.add_zero] at y0
          have hbd := hBe k2 hlt2
          have HS : Hid (sumE (ents.take (k2 + 1)) = sumE (ents.take k2) + ents[k2].amount) := sumE_snoc ents k2 hlt2
          have HB2 : Hid (∀ o, Below w.heap.size w (wr.alloc o)) := fun o => hbw.alloc hbw.size o
          generalize ents[k2] = x at *
          clear hc he he' hBe hbw
          go_wp2
          refine And.intro ?_ ?_
          · first | exact ⟨k2 + 1, by omega, by go_num, by rw [HS.out]; go_num, HB2.out _⟩ | ((repeat apply Exists.intro); exact ⟨⟨k2 + 1, by omega, by go_num, by rw [HS.out]; go_num, HB2.out _⟩, rfl⟩)
          · simp [intOf]; omega
        · have HE : Hid (sumE (ents.take k2) = sumE ents) := by rw [List.take_of_length_le (by omega)]; exact rfl
          have HB2 : Hid (Below w.heap.size w wr) := hbw
          clear hbw he' he
          go_wp2
          go_ret
          refine ⟨ret_int ?_, HB2.out⟩
          rw [HE.out, HV.out]

theorem info_delP : (Tryz.prog.info? 130).map (fun i => (i.zero, i.size, i.bytes)) = some (some (.agg #[.int .i64 0, .int .i64 0, .int .i64 0]), 3, 24) := by kernel_rfl

end Go.Proofs.YtohjjgefklhmaaaGreatDoor

namespace Go.Proofs.YtohjjgefklhmaaaGreatDoor
open Go.ChangeShapes Go.WideShapes Go.ChangeAt Go.RowKit
set_option linter.unusedVariables false

theorem info_entPE : (Tryz.prog.info? 125).map (fun i => (i.zero, i.size, i.bytes)) = some (some (.agg #[.int .i64 0, .int .i64 0, .int .i64 0, .int .i64 0]), 4, 32) := by kernel_rfl
theorem size_entPE : (Tryz.prog.info? 125).map (·.size) = some 4 := by kernel_rfl
set_option maxHeartbeats 400000 in
set_option maxRecDepth 100000 in
theorem copyEntries_anyE (v : Value) (n : Nat) (L : List Value) (w : World) (hv : Rd w v n 4 L) (hlen : n ≤ 1048576) (h1 : ∀ u ∈ L, u.oneCell' = true) :
    Calls Tryz.prog 93 #[v] w fun e w' => e = .returned (.slice (some ⟨w.heap.size, 0, none⟩) n n) ∧
      w' = w.alloc (.cells L.toArray 125) := by
  obtain ⟨hL, a, cap, rfl, hx0⟩ := hv
  have HL : Hid (L.length = n * 4) := hL
  have hx : Hid (0 < n → ∃ g, a = some ⟨g, 0, none⟩ ∧ ∀ (j : Nat) x, L[j]? = some x → w.cell? ⟨g, j, none⟩ = some x) := hx0
  have H1 : Hid (∀ u ∈ L, u.oneCell' = true) := h1
  clear hx0 hL h1
  obtain ⟨i0, hi, hz0, hz1, hz2⟩ := info_parts info_entPE
  obtain ⟨Z, hZ⟩ : ∃ Z : Array Value, Z = madeCells #[.int .i64 0, .int .i64 0, .int .i64 0, .int .i64 0] (n * 4) := ⟨_, rfl⟩
  have hmk : ∀ u : World, (Instr.makeSlice 87 (.int .i64 (n : Int)) (.int .i64 (n : Int))).run Tryz.prog u =
      .ok (.slice (some ⟨u.heap.size, 0, none⟩) n n) (u.alloc (.cells Z 125)) := fun u => by
    have h := run_make (P := Tryz.prog) u 87 125 i0 _ Tryz.underlying87 hi hz0 .i64 .i64 (n : Int) (n : Int) (by omega) (Int.le_refl _) (by rw [hz2]; omega) (by omega)
    rw [hZ]
    simpa [hz1, Value.cells] using h
  have hZs : Z.size = n * 4 := by rw [hZ, size_madeCells]
  have hcp : (Builtin.copy_ #[87, 87] 3 #[.slice (some ⟨w.heap.size, 0, none⟩) n n, .slice a n cap]).run Tryz.prog (w.alloc (.cells Z 125)) =
      .ok (.int .i64 n) (w.alloc (.cells L.toArray 125)) := by
    have h := run_copy_any (P := Tryz.prog) (w.alloc (.cells Z 125)) 87 87 3 125 4 w.heap.size n n a n cap
      Z.toList 125 L Tryz.underlying87 size_entPE (by rw [Array.toArray_toList]; exact heap_alloc_new w _) (by rw [HL.out]; simp) ?_ (by rw [HL.out]; simp [hZs]) H1.out
    · rw [alloc_setRow] at h
      have e1 : Nat.min n n = n := by simp
      rw [e1] at h
      have e2 : List.drop L.length Z.toList = [] := by apply List.drop_eq_nil_of_le; rw [HL.out]; simp [hZs]
      rw [e2, List.append_nil] at h
      exact h
    · intro h0
      obtain ⟨g, rfl, hc⟩ := hx.out (by rw [HL.out] at h0; omega)
      refine ⟨_, rfl, fun j v hj => ?_⟩
      have h1 := hc j v hj
      rw [addr_add0]
      rw [(Below.refl w.heap.size w).alloc (Nat.le_refl _) _ |>.cell (World.block_lt_of_cell? w _ h1)]
      exact h1
  clear hZ hZs
  go_enter Tryz.func93, Tryz.ntmps93
  go_wp2
  go_ret
  exact ⟨rfl, rfl⟩


theorem erow_one (l : List ES) : ∀ u ∈ erow l, u.oneCell' = true := by
  induction l with
  | nil => simp [erow]
  | cons v l ih =>
    intro u hu
    simp only [erow, List.mem_append] at hu
    rcases hu with hu | hu
    · simp [ES.cells] at hu
      rcases hu with rfl | rfl | rfl | rfl <;> rfl
    · exact ih u hu
end Go.Proofs.YtohjjgefklhmaaaGreatDoor

namespace Go.Proofs.YtohjjgefklhmaaaGreatDoor
open Go.ChangeShapes Go.WideShapes Go.ChangeAt Go.RowKit
set_option linter.unusedVariables false

end Go.Proofs.YtohjjgefklhmaaaGreatDoor
