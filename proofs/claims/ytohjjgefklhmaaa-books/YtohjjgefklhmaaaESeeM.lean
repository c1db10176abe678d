import Derived.Test.YtohjjgefklhmaaaESetM
namespace Go.Proofs.Ytohjjgefklhmaaa
open Go.ChangeShapes Go.WideShapes Go.ChangeAt Go.RowKit
set_option linter.unusedVariables false

set_option maxHeartbeats 2000000 in
set_option maxRecDepth 100000 in
theorem pbonded_any (g : Nat) (vals : List VS) (vv : Value) (w : World) (c7 : w.cell? ⟨g, 7, none⟩ = some vv) (hv : Rd w vv vals.length 8 (vrow vals)) (hB : VB vals) (l2 : vals.length ≤ 1000) :
    Calls Try.prog 36 #[.pointer (some ⟨g, 0, none⟩)] w fun e w' => e = .returned (.int .i64 (bondedN vals)) ∧ Below w.heap.size w w' := by
  obtain ⟨va, vc, rfl⟩ := hv.form
  go_enter Try.func36, Try.ntmps36
  go_wp2
  go_loopw [3, 11] (fun n i wr => ∃ k : Nat, k ≤ vals.length ∧ i = .int .i64 k ∧ n = .int .i64 (bondedN (vals.take k)) ∧ Below w.heap.size w wr) (fun _ i _ => vals.length - (intOf i).toNat)
  case atStart => exact ⟨0, Nat.zero_le _, rfl, rfl, Below.refl _ _⟩
  case round =>
    obtain ⟨k, hk, rfl, rfl, hbw⟩ := hrel
    obtain ⟨q1, q2⟩ := bondedN_bd hB k hk
    have hv' := hv.below hbw (Nat.le_refl _)
    by_cases hlt : k < vals.length
    · obtain ⟨gv, rfl, hc⟩ := hv'.get (by omega)
      have y0 := hc _ _ (vrow_at vals k hlt 0 (by omega))
      have y1 := hc _ _ (vrow_at vals k hlt 1 (by omega))
      have y2 := hc _ _ (vrow_at vals k hlt 2 (by omega))
      have y3 := hc _ _ (vrow_at vals k hlt 3 (by omega))
      have y4 := hc _ _ (vrow_at vals k hlt 4 (by omega))
      have y5 := hc _ _ (vrow_at vals k hlt 5 (by omega))
      have y6 := hc _ _ (vrow_at vals k hlt 6 (by omega))
      have y7 := hc _ _ (vrow_at vals k hlt 7 (by omega))
      rw [Nat.add_zero] at y0
      have hbd := hB k hlt
      have HS : Hid (bondedN (vals.take (k + 1)) = if vals[k].inset = true then bondedN (vals.take k) + vals[k].tokens else bondedN (vals.take k)) := bondedN_snoc vals k hlt
      have HB : Hid (∀ o, Below w.heap.size w (wr.alloc o)) := fun o => hbw.alloc hbw.size o
      generalize vals[k] = x at *
      clear hc hv hv' hB hbw
      go_wp2
      all_goals
        refine And.intro ?_ ?_
        · first | exact ⟨k + 1, by omega, by go_num, by rw [HS.out]; simp_all, HB.out _⟩ | ((repeat apply Exists.intro); exact ⟨⟨k + 1, by omega, by go_num, by rw [HS.out]; simp_all, HB.out _⟩, rfl⟩)
        · simp [intOf]; omega
    · go_wp2
      go_ret
      refine ⟨ret_int ?_, hbw⟩
      rw [List.take_of_length_le (by omega)]

set_option maxHeartbeats 2000000 in
set_option maxRecDepth 100000 in
theorem kloose (g : Nat) (vals : List VS) (vv : Value) (w : World) (c7 : w.cell? ⟨g, 7, none⟩ = some vv) (ev : Value) (ents : List ES) (c73 : w.cell? ⟨g, 73, none⟩ = some ev) (he : Rd w ev ents.length 4 (erow ents)) (hBe : EB ents) (l3 : ents.length ≤ 1000) (hv : Rd w vv vals.length 8 (vrow vals)) (hB : VB vals) (l2 : vals.length ≤ 1000) :
    Calls Try.prog 37 #[.pointer (some ⟨g, 0, none⟩)] w fun e w' => e = .returned (.int .i64 (looseV vals + sumE ents)) ∧ Below w.heap.size w w' := by
  obtain ⟨va, vc, rfl⟩ := hv.form
  obtain ⟨ea, ec, rfl⟩ := he.form
  go_enter Try.func37, Try.ntmps37
  go_wp2
  go_loopw [3, 13] (fun n i wr => ∃ k : Nat, k ≤ vals.length ∧ i = .int .i64 k ∧ n = .int .i64 (looseV (vals.take k)) ∧ Below w.heap.size w wr) (fun _ i _ => vals.length - (intOf i).toNat)
  case atStart => exact ⟨0, Nat.zero_le _, rfl, rfl, Below.refl _ _⟩
  case round =>
    obtain ⟨k, hk, rfl, rfl, hbw⟩ := hrel
    obtain ⟨q1, q2⟩ := looseV_bd hB k hk
    have hv' := hv.below hbw (Nat.le_refl _)
    by_cases hlt : k < vals.length
    · obtain ⟨gv, rfl, hc⟩ := hv'.get (by omega)
      have y0 := hc _ _ (vrow_at vals k hlt 0 (by omega))
      have y1 := hc _ _ (vrow_at vals k hlt 1 (by omega))
      have y2 := hc _ _ (vrow_at vals k hlt 2 (by omega))
      have y3 := hc _ _ (vrow_at vals k hlt 3 (by omega))
      have y4 := hc _ _ (vrow_at vals k hlt 4 (by omega))
      have y5 := hc _ _ (vrow_at vals k hlt 5 (by omega))
      have y6 := hc _ _ (vrow_at vals k hlt 6 (by omega))
      have y7 := hc _ _ (vrow_at vals k hlt 7 (by omega))
      rw [Nat.add_zero] at y0
      have hbd := hB k hlt
      have HS : Hid (looseV (vals.take (k + 1)) = if vals[k].inset = true then looseV (vals.take k) else looseV (vals.take k) + vals[k].tokens) := looseV_snoc vals k hlt
      have HB : Hid (∀ o, Below w.heap.size w (wr.alloc o)) := fun o => hbw.alloc hbw.size o
      generalize vals[k] = x at *
      clear hc hv hv' hB hbw
      go_wp2
      all_goals
        refine And.intro ?_ ?_
        · first | exact ⟨k + 1, by omega, by go_num, by rw [HS.out]; simp_all, HB.out _⟩ | ((repeat apply Exists.intro); exact ⟨⟨k + 1, by omega, by go_num, by rw [HS.out]; simp_all, HB.out _⟩, rfl⟩)
        · simp [intOf]; omega
    · have HV : Hid (looseV (vals.take k) = looseV vals) := by rw [List.take_of_length_le (by omega)]; exact rfl
      generalize looseV (vals.take k) = sv at *
      have c73' : wr.cell? ⟨g, 73, none⟩ = some (.slice ea ents.length ec) := by
        rw [hbw.cell (p := ⟨g, 73, none⟩) (World.block_lt_of_cell? w _ c73)]; exact c73
      have HB : Hid (Below w.heap.size w wr) := hbw
      clear hv hv' hB hbw c73
      go_wp2
      obtain ⟨wo, rfl⟩ : ∃ wo : World, wo = wr := ⟨_, rfl⟩
      go_loopw [3, 30] (fun n i wr => ∃ k2 : Nat, k2 ≤ ents.length ∧ i = .int .i64 k2 ∧ n = .int .i64 (sv + sumE (ents.take k2)) ∧ Below w.heap.size w wr) (fun _ i _ => ents.length - (intOf i).toNat)
      case atStart => exact ⟨0, Nat.zero_le _, rfl, by simp [sumE], HB.out⟩
      case round =>
        obtain ⟨k2, hk2, rfl, rfl, hbw⟩ := hrel
        obtain ⟨r1, r2⟩ := sumE_bd hBe k2 hk2
        have he' := he.below hbw (Nat.le_refl _)
        by_cases hlt2 : k2 < ents.length
        · obtain ⟨gv, rfl, hc⟩ := he'.get (by omega)
          have y0 := hc _ _ (erow_at ents k2 hlt2 0 (by omega))
          have y1 := hc _ _ (erow_at ents k2 hlt2 1 (by omega))
          have y2 := hc _ _ (erow_at ents k2 hlt2 2 (by omega))
          have y3 := hc _ _ (erow_at ents k2 hlt2 3 (by omega))
          rw [Nat.add_zero] at y0
          have hbd := hBe k2 hlt2
          have HS : Hid (sumE (ents.take (k2 + 1)) = sumE (ents.take k2) + ents[k2].amount) := sumE_snoc ents k2 hlt2
          have HB2 : Hid (∀ o, Below w.heap.size w (wr.alloc o)) := fun o => hbw.alloc hbw.size o
          generalize ents[k2] = x at *
          clear hc he he' hBe hbw
          go_wp2
          refine And.intro ?_ ?_
          · first | exact ⟨k2 + 1, by omega, by go_num, by rw [HS.out]; go_num, HB2.out _⟩ | ((repeat apply Exists.intro); exact ⟨⟨k2 + 1, by omega, by go_num, by rw [HS.out]; go_num, HB2.out _⟩, rfl⟩)
          · simp [intOf]; omega
        · have HE : Hid (sumE (ents.take k2) = sumE ents) := by rw [List.take_of_length_le (by omega)]; exact rfl
          have HB2 : Hid (Below w.heap.size w wr) := hbw
          clear hbw he' he
          go_wp2
          go_ret
          refine ⟨ret_int ?_, HB2.out⟩
          rw [HE.out, HV.out]

theorem info_delP : (Try.prog.info? 75).map (fun i => (i.zero, i.size, i.bytes)) = some (some (.agg #[.int .i64 0, .int .i64 0, .int .i64 0]), 3, 24) := by kernel_rfl

set_option maxHeartbeats 2000000 in
set_option maxRecDepth 100000 in
theorem kdels (g nb nv : Nat) (ba va : Option Addr) (bc vc : Nat) (sh : List Int) (w : World) (c4 : w.cell? ⟨g, 4, none⟩ = some (.slice ba nb bc)) (c7 : w.cell? ⟨g, 7, none⟩ = some (.slice va nv vc))
    (cz : ∀ j, j < 30 → w.cell? ⟨g, 8 + j, none⟩ = some (.int .i64 (sh.getD j 0))) (l1 : nb ≤ 6) (l2 : nv ≤ 5) :
    Calls Try.prog 39 #[.pointer (some ⟨g, 0, none⟩)] w fun e w' => (∃ a n c, e = .returned (.slice a n c)) ∧ Below w.heap.size w w' := by
  obtain ⟨i5, hi5, hz50, hz51, hz52⟩ := info_parts info_delP
  have hlt := World.block_lt_of_cell? w _ c4
  go_enter Try.func39, Try.ntmps39
  go_wp2
  go_loopw [3, 12] (fun l i wr => ∃ k : Nat, k ≤ nb ∧ i = .int .i64 k ∧ (∃ n L, n ≤ k * 5 ∧ wr.ownsRow w.heap.size 75 3 l n L) ∧ Below w.heap.size w wr) (fun _ i _ => nb - (intOf i).toNat)
  case atStart => exact ⟨0, Nat.zero_le _, rfl, ⟨0, [], Nat.le_refl _, World.ownsRow_nil _ _ _ _⟩, Below.refl _ _⟩
  case round =>
    obtain ⟨k, hk, rfl, ⟨n, L, hn, hrow⟩, hbw⟩ := hrel
    have HB : Hid (Below w.heap.size w wr) := hbw
    have HR : Hid (wr.ownsRow w.heap.size 75 3 u3 n L) := hrow
    have d7 : wr.cell? ⟨g, 7, none⟩ = some (.slice va nv vc) := by rw [hbw.cell (p := ⟨g, 7, none⟩) hlt]; exact c7
    by_cases hk1 : k < nb
    · clear hrow hbw
      go_wp2
      obtain ⟨wo, rfl⟩ : ∃ wo : World, wo = wr := ⟨_, rfl⟩
      go_loopw [3, 20] (fun l i wr => ∃ k2 : Nat, k2 ≤ nv ∧ i = .int .i64 k2 ∧ (∃ n L, n ≤ k * 5 + k2 ∧ wr.ownsRow w.heap.size 75 3 l n L) ∧ Below w.heap.size w wr) (fun _ i _ => nv - (intOf i).toNat)
      case atStart => exact ⟨0, Nat.zero_le _, rfl, ⟨n, L, by omega, HR.out⟩, HB.out⟩
      case round =>
        clear HR HB
        obtain ⟨k2, hk2, rfl, ⟨n2, L2, hn2, hrow⟩, hbw⟩ := hrel
        by_cases hlt2 : k2 < nv
        · have y := cz (k * 5 + k2) (by omega)
          rw [← Nat.add_assoc] at y
          have y' : wr.cell? ⟨g, 8 + k * 5 + k2, none⟩ = some (.int .i64 (sh.getD (k * 5 + k2) 0)) := by rw [hbw.cell (p := ⟨g, 8 + k * 5 + k2, none⟩) hlt]; exact y
          generalize sh.getD (k * 5 + k2) 0 = s at *
          obtain ⟨la, lc, rfl⟩ := ownsRow_slice hrow
          have HR : Hid (wr.ownsRow w.heap.size 75 3 (.slice la n2 lc) n2 L2) := hrow
          have HB : Hid (Below w.heap.size w wr) := hbw
          have hsz := hbw.size
          clear hrow hbw y
          by_cases hs : 0 < s
          · go_wp2_with (at_builtin; go_loud (refine wpList_append_sl2 rfl (.tmp 33) (.tmp 38) 39 rfl 75 i5 _ 3 24 Try.underlying39 hi5 hz50 hz51 hz52 rfl (by decide) w.heap.size _ n2 L2 rfl (HR.out.alloc _) (by simp; omega) ⟨_, 0, none⟩ 1 1 [.int .i64 k, .int .i64 k2, .int .i64 s] rfl (by rfl) (cell_newAt _ [.int .i64 k, .int .i64 k2, .int .i64 s] _ _ rfl) (by simp [Value.oneCell']) (by decide) (by simp [maxLen]; omega) (by omega) ?_))
            intro g5 cap5 v5 hown5 hgrow5 hor5 hold5
            have HB5 : Hid (Below w.heap.size w v5) := (HB.out.alloc HB.out.size _).grown hgrow5 (by simp; omega) (fun j hj => (HR.out.lt j hj).1)
            have HR5 : Hid (∃ L, v5.ownsRow w.heap.size 75 3 (.slice (some ⟨g5, 0, none⟩) (n2 + 1) cap5) (n2 + 1) L) := ⟨_, hown5⟩
            clear hown5 hgrow5 hor5 hold5 HR HB
            go_wp2
            refine And.intro ?_ ?_
            · obtain ⟨L5, hL5⟩ := HR5.out
              first | exact ⟨k2 + 1, by omega, by go_num, ⟨n2 + 1, L5, by omega, hL5⟩, HB5.out⟩ | ((repeat apply Exists.intro); exact ⟨⟨k2 + 1, by omega, by go_num, ⟨n2 + 1, L5, by omega, hL5⟩, HB5.out⟩, rfl⟩)
            · simp [intOf]; omega
          · go_wp2
            refine And.intro ?_ ?_
            · first | exact ⟨k2 + 1, by omega, by go_num, ⟨n2, L2, by omega, HR.out⟩, HB.out⟩ | ((repeat apply Exists.intro); exact ⟨⟨k2 + 1, by omega, by go_num, ⟨n2, L2, by omega, HR.out⟩, HB.out⟩, rfl⟩)
            · simp [intOf]; omega
        · have HR : Hid (wr.ownsRow w.heap.size 75 3 u3 n2 L2) := hrow
          have HB : Hid (Below w.heap.size w wr) := hbw
          clear hrow hbw
          go_wp2
          refine And.intro ?_ ?_
          · first | exact ⟨k + 1, by omega, by go_num, ⟨n2, L2, by omega, HR.out⟩, HB.out⟩ | ((repeat apply Exists.intro); exact ⟨⟨k + 1, by omega, by go_num, ⟨n2, L2, by omega, HR.out⟩, HB.out⟩, rfl⟩)
          · simp [intOf]; omega
    · obtain ⟨la, lc, rfl⟩ := ownsRow_slice hrow
      clear hrow HR hbw
      go_wp2
      go_ret
      exact ⟨⟨_, _, _, rfl⟩, HB.out⟩
end Go.Proofs.Ytohjjgefklhmaaa
