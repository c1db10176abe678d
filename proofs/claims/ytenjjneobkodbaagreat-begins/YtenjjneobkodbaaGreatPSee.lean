import Derived.Test.YtenjjneobkodbaaGreatLed
import Derived.Test.YtenjjneobkodbaaGreatNew
namespace Go.Proofs.YtenjjneobkodbaaGreat
open Go.ChangeShapes Go.WideShapes Go.ChangeAt Go.RowKit
set_option linter.unusedVariables false

set_option maxHeartbeats 2000000 in
set_option maxRecDepth 100000 in
theorem pbonded_any (g : Nat) (vals : List VS) (vv : Value) (w : World) (c7 : w.cell? ⟨g, 7, none⟩ = some vv) (hv : Rd w vv vals.length 8 (vrow vals)) (hB : VB vals) (l2 : vals.length ≤ 1000) :
    Calls Tryz.prog 69 #[.pointer (some ⟨g, 0, none⟩)] w fun e w' => e = .returned (.int .i64 (bondedN vals)) ∧ Below w.heap.size w w' := by
  obtain ⟨va, vc, rfl⟩ := hv.form
  go_enter Tryz.func69, Tryz.ntmps69
  go_wp2
  go_loopw [3, 11] (fun n i wr => ∃ k : Nat, k ≤ vals.length ∧ i = .int .i64 k ∧ n = .int .i64 (bondedN (vals.take k)) ∧ Below w.heap.size w wr) (fun _ i _ => vals.length - (intOf i).toNat)
  case atStart => exact ⟨0, Nat.zero_le _, rfl, rfl, Below.refl _ _⟩
  case round =>
    obtain ⟨k, hk, rfl, rfl, hbw⟩ := hrel
    obtain ⟨q1, q2⟩ := bondedN_bd hB k hk
    have hv' := hv.below hbw (Nat.le_refl _)
    by_cases hlt : k < vals.length
    · obtain ⟨gv, rfl, hc⟩ := hv'.get (by omega)
      have y0 := hc _ _ (vrow_at vals k hlt 0 (by omega))
      have y1 := hc _ _ (vrow_at vals k hlt 1 (by omega))
      have y2 := hc _ _ (vrow_at vals k hlt 2 (by omega))
      have y3 := hc _ _ (vrow_at vals k hlt 3 (by omega))
      have y4 := hc _ _ (vrow_at vals k hlt 4 (by omega))
      have y5 := hc _ _ (vrow_at vals k hlt 5 (by omega))
      have y6 := hc _ _ (vrow_at vals k hlt 6 (by omega))
      have y7 := hc _ _ (vrow_at vals k hlt 7 (by omega))
      rw [Nat.add_zero] at y0
      have hbd := hB k hlt
      have HS : Hid (bondedN (vals.take (k + 1)) = if vals[k].inset = true then bondedN (vals.take k) + vals[k].tokens else bondedN (vals.take k)) := bondedN_snoc vals k hlt
      have HB : Hid (∀ o, Below w.heap.size w (wr.alloc o)) := fun o => hbw.alloc hbw.size o
      generalize vals[k] = x at *
      clear hc hv hv' hB hbw
      go_wp2
      all_goals
        refine And.intro ?_ ?_
        · first | exact ⟨k + 1, by omega, by go_num, by rw [HS.out]; simp_all, HB.out _⟩ | ((repeat apply Exists.intro); exact ⟨⟨k + 1, by omega, by go_num, by rw [HS.out]; simp_all, HB.out _⟩, rfl⟩)
        · simp [intOf]; omega
    · go_wp2
      go_ret
      refine ⟨ret_int ?_, hbw⟩
      rw [List.take_of_length_le (by omega)]

set_option maxHeartbeats 2000000 in
set_option maxRecDepth 100000 in
theorem ploose_any (g : Nat) (vals : List VS) (vv : Value) (w : World) (c7 : w.cell? ⟨g, 7, none⟩ = some vv) (c38 : w.cell? ⟨g, 38, none⟩ = some (.slice none 0 0)) (hv : Rd w vv vals.length 8 (vrow vals)) (hB : VB vals) (l2 : vals.length ≤ 1000) :
    Calls Tryz.prog 70 #[.pointer (some ⟨g, 0, none⟩)] w fun e w' => e = .returned (.int .i64 (looseV vals)) ∧ Below w.heap.size w w' := by
  obtain ⟨va, vc, rfl⟩ := hv.form
  go_enter Tryz.func70, Tryz.ntmps70
  go_wp2
  go_loopw [3, 13] (fun n i wr => ∃ k : Nat, k ≤ vals.length ∧ i = .int .i64 k ∧ n = .int .i64 (looseV (vals.take k)) ∧ Below w.heap.size w wr) (fun _ i _ => vals.length - (intOf i).toNat)
  case atStart => exact ⟨0, Nat.zero_le _, rfl, rfl, Below.refl _ _⟩
  case round =>
    obtain ⟨k, hk, rfl, rfl, hbw⟩ := hrel
    obtain ⟨q1, q2⟩ := looseV_bd hB k hk
    have hv' := hv.below hbw (Nat.le_refl _)
    by_cases hlt : k < vals.length
    · obtain ⟨gv, rfl, hc⟩ := hv'.get (by omega)
      have y0 := hc _ _ (vrow_at vals k hlt 0 (by omega))
      have y1 := hc _ _ (vrow_at vals k hlt 1 (by omega))
      have y2 := hc _ _ (vrow_at vals k hlt 2 (by omega))
      have y3 := hc _ _ (vrow_at vals k hlt 3 (by omega))
      have y4 := hc _ _ (vrow_at vals k hlt 4 (by omega))
      have y5 := hc _ _ (vrow_at vals k hlt 5 (by omega))
      have y6 := hc _ _ (vrow_at vals k hlt 6 (by omega))
      have y7 := hc _ _ (vrow_at vals k hlt 7 (by omega))
      rw [Nat.add_zero] at y0
      have hbd := hB k hlt
      have HS : Hid (looseV (vals.take (k + 1)) = if vals[k].inset = true then looseV (vals.take k) else looseV (vals.take k) + vals[k].tokens) := looseV_snoc vals k hlt
      have HB : Hid (∀ o, Below w.heap.size w (wr.alloc o)) := fun o => hbw.alloc hbw.size o
      generalize vals[k] = x at *
      clear hc hv hv' hB hbw
      go_wp2
      all_goals
        refine And.intro ?_ ?_
        · first | exact ⟨k + 1, by omega, by go_num, by rw [HS.out]; simp_all, HB.out _⟩ | ((repeat apply Exists.intro); exact ⟨⟨k + 1, by omega, by go_num, by rw [HS.out]; simp_all, HB.out _⟩, rfl⟩)
        · simp [intOf]; omega
    · have HV : Hid (looseV (vals.take k) = looseV vals) := by rw [List.take_of_length_le (by omega)]; exact rfl
      generalize looseV (vals.take k) = sv at *
      have c38' : wr.cell? ⟨g, 38, none⟩ = some (.slice none 0 0) := by
        rw [hbw.cell (p := ⟨g, 38, none⟩) (World.block_lt_of_cell? w _ c38)]; exact c38
      have HB : Hid (Below w.heap.size w wr) := hbw
      clear hv hv' hB hbw c38
      go_wp2
      go_loop [3, 30] (fun n i => i = .int .i64 0 ∧ n = .int .i64 sv) (fun _ _ => 0)
      case atStart => exact ⟨rfl, rfl⟩
      case round =>
        obtain ⟨rfl, rfl⟩ := hrel
        go_wp2
        go_ret
        refine ⟨ret_int ?_, HB.out⟩
        rw [HV.out]
set_option maxHeartbeats 2000000 in
set_option maxRecDepth 100000 in
theorem pdels_any (g nb nv : Nat) (ba va : Option Addr) (bc vc : Nat) (w : World) (c4 : w.cell? ⟨g, 4, none⟩ = some (.slice ba nb bc)) (c7 : w.cell? ⟨g, 7, none⟩ = some (.slice va nv vc))
    (cz : ∀ j, j < 30 → w.cell? ⟨g, 8 + j, none⟩ = some (.int .i64 0)) (l1 : nb ≤ 6) (l2 : nv ≤ 5) :
    Calls Tryz.prog 72 #[.pointer (some ⟨g, 0, none⟩)] w fun e w' => e = .returned (.slice none 0 0) ∧ Below w.heap.size w w' := by
  go_enter Tryz.func72, Tryz.ntmps72
  go_wp2
  go_loop [3, 12] (fun l i => ∃ k : Nat, k ≤ nb ∧ i = .int .i64 k ∧ l = .slice none 0 0) (fun _ i => nb - (intOf i).toNat)
  case atStart => exact ⟨0, Nat.zero_le _, rfl, rfl⟩
  case round =>
    obtain ⟨k, hk, rfl, rfl⟩ := hrel
    by_cases hlt : k < nb
    · go_wp2
      go_loop [3, 20] (fun l i => ∃ k2 : Nat, k2 ≤ nv ∧ i = .int .i64 k2 ∧ l = .slice none 0 0) (fun _ i => nv - (intOf i).toNat)
      case atStart => exact ⟨0, Nat.zero_le _, rfl, rfl⟩
      case round =>
        obtain ⟨k2, hk2, rfl, rfl⟩ := hrel
        by_cases hlt2 : k2 < nv
        · have y := cz (k * 5 + k2) (by omega)
          rw [← Nat.add_assoc] at y
          go_wp2
          refine And.intro ?_ ?_
          · first | exact ⟨k2 + 1, by omega, by go_num, rfl⟩ | ((repeat apply Exists.intro); exact ⟨⟨k2 + 1, by omega, by go_num, rfl⟩, rfl⟩)
          · simp [intOf]; omega
        · go_wp2
          refine And.intro ?_ ?_
          · first | exact ⟨k + 1, by omega, by go_num, rfl⟩ | ((repeat apply Exists.intro); exact ⟨⟨k + 1, by omega, by go_num, rfl⟩, rfl⟩)
          · simp [intOf]; omega
    · go_wp2
      go_ret
      exact ⟨rfl, Below.refl _ _⟩
end Go.Proofs.YtenjjneobkodbaaGreat
