import Derived.Test.YtohjjgefklhmaaaGreatDoorEFeesM
namespace Go.Proofs.YtohjjgefklhmaaaGreatDoor
open Go.ChangeShapes Go.WideShapes Go.ChangeAt Go.RowKit
set_option linter.unusedVariables false

set_option maxHeartbeats 2000000 in
set_option maxRecDepth 100000 in
theorem pbonded_anyE (g : Nat) (vals : List VS) (vv : Value) (w : World) (c7 : w.cell? ⟨g, 7, none⟩ = some vv) (hv : Rd w vv vals.length 8 (vrow vals)) (hB : VB vals) (l2 : vals.length ≤ 1000) :
    Calls Tryz.prog 89 #[.pointer (some ⟨g, 0, none⟩)] w fun e w' => e = .returned (.int .i64 (bondedN vals)) ∧ Below w.heap.size w w' := by
  obtain ⟨va, vc, rfl⟩ := hv.form
  go_enter Tryz.func89, Tryz.ntmps89
  go_wp2
  go_loopw [3, 11] (fun n i wr => ∃ k : Nat, k ≤ vals.length ∧ i = .int .i64 k ∧ n = .int .i64 (bondedN (vals.take k)) ∧ Below w.heap.size w wr) (fun _ i _ => vals.length - (intOf i).toNat)
  case atStart => exact ⟨0, Nat.zero_le _, rfl, rfl, Below.refl _ _⟩
  case round =>
    obtain ⟨k, hk, rfl, rfl, hbw⟩ := hrel
    obtain ⟨q1, q2⟩ := bondedN_bd hB k hk
    have hv' := hv.below hbw (Nat.le_refl _)
    by_cases hlt : k < vals.length
    · obtain ⟨gv, rfl, hc⟩ := hv'.get (by omega)
      have y0 := hc _ _ (vrow_at vals k hlt 0 (by omega))
      have y1 := hc _ _ (vrow_at vals k hlt 1 (by omega))
      have y2 := hc _ _ (vrow_at vals k hlt 2 (by omega))
      have y3 := hc _ _ (vrow_at vals k hlt 3 (by omega))
      have y4 := hc _ _ (vrow_at vals k hlt 4 (by omega))
      have y5 := hc _ _ (vrow_at vals k hlt 5 (by omega))
      have y6 := hc _ _ (vrow_at vals k hlt 6 (by omega))
      have y7 := hc _ _ (vrow_at vals k hlt 7 (by omega))
      rw [Nat.add_zero] at y0
      have hbd := hB k hlt
      have HS : Hid (bondedN (vals.take (k + 1)) = if vals[k].inset = true then bondedN (vals.take k) + vals[k].tokens else bondedN (vals.take k)) := bondedN_snoc vals k hlt
      have HB : Hid (∀ o, Below w.heap.size w (wr.alloc o)) := fun o => hbw.alloc hbw.size o
      generalize vals[k] = x at *
      clear hc hv hv' hB hbw
      go_wp2
      all_goals
        refine And.intro ?_ ?_
        · first | exact ⟨k + 1, by omega, by go_num, by rw [HS.out]; simp_all, HB.out _⟩ | ((repeat apply Exists.intro); exact ⟨⟨k + 1, by omega, by go_num, by rw [HS.out]; simp_all, HB.out _⟩, rfl⟩)
        · simp [intOf]; omega
    · go_wp2
      go_ret
      refine ⟨ret_int ?_, hbw⟩
      rw [List.take_of_length_le (by omega)]

set_option maxHeartbeats 2000000 in
set_option maxRecDepth 100000 in
theorem kloose (g : Nat) (vals : List VS) (vv : Value) (w : World) (c7 : w.cell? ⟨g, 7, none⟩ = some vv) (ev : Value) (ents : List ES) (c73 : w.cell? ⟨g, 73, none⟩ = some ev) (he : Rd w ev ents.length 4 (erow ents)) (hBe : EB ents) (l3 : ents.length ≤ 1000) (hv : Rd w vv vals.length 8 (vrow vals)) (hB : VB vals) (l2 : vals.length ≤ 1000) :
    Calls Tryz.prog 90 #[.pointer (some ⟨g, 0, none⟩)] w fun e w' => e = .returned (.int .i64 (looseV vals + sumE ents)) ∧ Below w.heap.size w w' := by
  obtain ⟨va, vc, rfl⟩ := hv.form
  obtain ⟨ea, ec, rfl⟩ := he.form
  go_enter Tryz.func90, Tryz.ntmps90
  go_wp2
  go_loopw [3, 13] (fun n i wr => ∃ k : Nat, k ≤ vals.length ∧ i = .int .i64 k ∧ n = .int .i64 (looseV (vals.take k)) ∧ Below w.heap.size w wr) (fun _ i _ => vals.length - (intOf i).toNat)
  case atStart => exact ⟨0, Nat.zero_le _, rfl, rfl, Below.refl _ _⟩
  case round =>
    obtain ⟨k, hk, rfl, rfl, hbw⟩ := hrel
    obtain ⟨q1, q2⟩ := looseV_bd hB k hk
    have hv' := hv.below hbw (Nat.le_refl _)
    by_cases hlt : k < vals.length
    · obtain ⟨gv, rfl, hc⟩ := hv'.get (by omega)
      have y0 := hc _ _ (vrow_at vals k hlt 0 (by omega))
      have y1 := hc _ _ (vrow_at vals k hlt 1 (by omega))
      have y2 := hc _ _ (vrow_at vals k hlt 2 (by omega))
      have y3 := hc _ _ (vrow_at vals k hlt 3 (by omega))
      have y4 := hc _ _ (vrow_at vals k hlt 4 (by omega))
      have y5 := hc _ _ (vrow_at vals k hlt 5 (by omega))
      have y6 := hc _ _ (vrow_at vals k hlt 6 (by omega))
      have y7 := hc _ _ (vrow_at vals k hlt 7 (by omega))
      rw [Nat.add_zero] at y0
      have hbd := hB k hlt
      have HS : Hid (looseV (vals.take (k + 1)) = if vals[k].inset = true then looseV (vals.take k) else looseV (vals.take k) + vals[k].tokens) := looseV_snoc vals k hlt
      have HB : Hid (∀ o, Below w.heap.size w (wr.alloc o)) := fun o => hbw.alloc hbw.size o
      generalize vals[k] = x at *
      clear hc hv hv' hB hbw
      go_wp2
      all_goals
        refine And.intro ?_ ?_
        · first | exact ⟨k + 1, by omega, by go_num, by rw [HS.out]; simp_all, HB.out _⟩ | ((repeat apply Exists.intro); exact ⟨⟨k + 1, by omega, by go_num, by rw [HS.out]; simp_all, HB.out _⟩, rfl⟩)
        · simp [intOf]; omega
    · have HV : Hid (looseV (vals.take k) = looseV vals) := by rw [List.take_of_length_le (by omega)]; exact rfl
      generalize looseV (vals.take k) = sv at *
      have c73' : wr.cell? ⟨g, 73, none⟩ = some (.slice ea ents.length ec) := by
        rw [hbw.cell (p := ⟨g, 73, none⟩) (World.block_lt_of_cell? w _ c73)]; exact c73
      have HB : Hid (Below w.heap.size w wr) := hbw
      clear hv hv' hB hbw c73
      go_wp2
      obtain ⟨wo, rfl⟩ : ∃ wo : World, wo = wr := ⟨_, rfl⟩
      go_loopw [3, 30] (fun n i wr => ∃ k2 : Nat, k2 ≤ ents.length ∧ i = .int .i64 k2 ∧ n = .int .i64 (sv + sumE (ents.take k2)) ∧ Below w.heap.size w wr) (fun _ i _ => ents.length - (intOf i).toNat)
      case atStart => exact ⟨0, Nat.zero_le _, rfl, by simp [sumE], HB.out⟩
      case round =>
        obtain ⟨k2, hk2, rfl, rfl, hbw⟩ := hrel
        obtain ⟨r1, r2⟩ := sumE_bd hBe k2 hk2
        have he' := he.below hbw (Nat.le_refl _)
        by_cases hlt2 : k2 < ents.length
        · obtain ⟨gv, rfl, hc⟩ := he'.get (by omega)
          have y0 := hc _ _ (erow_at ents k2 hlt2 0 (by omega))
          have y1 := hc _ _ (erow_at ents k2 hlt2 1 (by omega))
          have y2 := hc _ _ (erow_at ents k2 hlt2 2 (by omega))
          have y3 := hc _ _ (erow_at ents k2 hlt2 3 (by omega))
          rw [Nat.add_zero] at y0
          have hbd := hBe k2 hlt2
          have HS : Hid (sumE (ents.take (k2 + 1)) = sumE (ents.take k2) + ents[k2].amount) := sumE_snoc ents k2 hlt2
          have HB2 : Hid (∀ o, Below w.heap.size w (wr.alloc o)) := fun o => hbw.alloc hbw.size o
          generalize ents[k2] = x at *
          clear hc he he' hBe hbw
          go_wp2
          refine And.intro ?_ ?_
          · first | exact ⟨k2 + 1, by omega, by go_num, by rw [HS.out]; go_num, HB2.out _⟩ | ((repeat apply Exists.intro); exact ⟨⟨k2 + 1, by omega, by go_num, by rw [HS.out]; go_num, HB2.out _⟩, rfl⟩)
          · simp [intOf]; omega
        · have HE : Hid (sumE (ents.take k2) = sumE ents) := by rw [List.take_of_length_le (by omega)]; exact rfl
          have HB2 : Hid (Below w.heap.size w wr) := hbw
          clear hbw he' he
          go_wp2
          go_ret
          refine ⟨ret_int ?_, HB2.out⟩
          rw [HE.out, HV.out]

theorem info_delP : (Tryz.prog.info? 130).map (fun i => (i.zero, i.size, i.bytes)) = some (some (.agg #[.int .i64 0, .int .i64 0, .int .i64 0]), 3, 24) := by kernel_rfl

set_option maxHeartbeats 2000000 in
set_option maxRecDepth 100000 in
theorem kdels (g nb nv : Nat) (ba va : Option Addr) (bc vc : Nat) (sh : List Int) (w : World) (c4 : w.cell? ⟨g, 4, none⟩ = some (.slice ba nb bc)) (c7 : w.cell? ⟨g, 7, none⟩ = some (.slice va nv vc))
    (cz : ∀ j, j < 30 → w.cell? ⟨g, 8 + j, none⟩ = some (.int .i64 (sh.getD j 0))) (l1 : nb ≤ 6) (l2 : nv ≤ 5) :
    Calls Tryz.prog 92 #[.pointer (some ⟨g, 0, none⟩)] w fun e w' => (∃ a n c, e = .returned (.slice a n c)) ∧ Below w.heap.size w w' := by
  obtain ⟨i5, hi5, hz50, hz51, hz52⟩ := info_parts info_delP
  have hlt := World.block_lt_of_cell? w _ c4
  go_enter Tryz.func92, Tryz.ntmps92
  go_wp2
  go_loopw [3, 12] (fun l i wr => ∃ k : Nat, k ≤ nb ∧ i = .int .i64 k ∧ (∃ n L, n ≤ k * 5 ∧ wr.ownsRow w.heap.size 130 3 l n L) ∧ Below w.heap.size w wr) (fun _ i _ => nb - (intOf i).toNat)
  case atStart => exact ⟨0, Nat.zero_le _, rfl, ⟨0, [], Nat.le_refl _, World.ownsRow_nil _ _ _ _⟩, Below.refl _ _⟩
  case round =>
    obtain ⟨k, hk, rfl, ⟨n, L, hn, hrow⟩, hbw⟩ := hrel
    have HB : Hid (Below w.heap.size w wr) := hbw
    have HR : Hid (wr.ownsRow w.heap.size 130 3 u3 n L) := hrow
    have d7 : wr.cell? ⟨g, 7, none⟩ = some (.slice va nv vc) := by rw [hbw.cell (p := ⟨g, 7, none⟩) hlt]; exact c7
    by_cases hk1 : k < nb
    · clear hrow hbw
      go_wp2
      obtain ⟨wo, rfl⟩ : ∃ wo : World, wo = wr := ⟨_, rfl⟩
      go_loopw [3, 20] (fun l i wr => ∃ k2 : Nat, k2 ≤ nv ∧ i = .int .i64 k2 ∧ (∃ n L, n ≤ k * 5 + k2 ∧ wr.ownsRow w.heap.size 130 3 l n L) ∧ Below w.heap.size w wr) (fun _ i _ => nv - (intOf i).toNat)
      case atStart => exact ⟨0, Nat.zero_le _, rfl, ⟨n, L, by omega, HR.out⟩, HB.out⟩
      case round =>
        clear HR HB
        obtain ⟨k2, hk2, rfl, ⟨n2, L2, hn2, hrow⟩, hbw⟩ := hrel
        by_cases hlt2 : k2 < nv
        · have y := cz (k * 5 + k2) (by omega)
          rw [← Nat.add_assoc] at y
          have y' : wr.cell? ⟨g, 8 + k * 5 + k2, none⟩ = some (.int .i64 (sh.getD (k * 5 + k2) 0)) := by rw [hbw.cell (p := ⟨g, 8 + k * 5 + k2, none⟩) hlt]; exact y
          generalize sh.getD (k * 5 + k2) 0 = s at *
          obtain ⟨la, lc, rfl⟩ := ownsRow_slice hrow
          have HR : Hid (wr.ownsRow w.heap.size 130 3 (.slice la n2 lc) n2 L2) := hrow
          have HB : Hid (Below w.heap.size w wr) := hbw
          have hsz := hbw.size
          clear hrow hbw y
          by_cases hs : 0 < s
          · go_wp2_with (at_builtin; go_loud (refine wpList_append_sl2 rfl (.tmp 33) (.tmp 38) 86 rfl 130 i5 _ 3 24 Tryz.underlying86 hi5 hz50 hz51 hz52 rfl (by decide) w.heap.size _ n2 L2 rfl (HR.out.alloc _) (by simp; omega) ⟨_, 0, none⟩ 1 1 [.int .i64 k, .int .i64 k2, .int .i64 s] rfl (by rfl) (cell_newAt _ [.int .i64 k, .int .i64 k2, .int .i64 s] _ _ rfl) (by simp [Value.oneCell']) (by decide) (by simp [maxLen]; omega) (by omega) ?_))
            intro g5 cap5 v5 hown5 hgrow5 hor5 hold5
            have HB5 : Hid (Below w.heap.size w v5) := (HB.out.alloc HB.out.size _).grown hgrow5 (by simp; omega) (fun j hj => (HR.out.lt j hj).1)
            have HR5 : Hid (∃ L, v5.ownsRow w.heap.size 130 3 (.slice (some ⟨g5, 0, none⟩) (n2 + 1) cap5) (n2 + 1) L) := ⟨_, hown5⟩
            clear hown5 hgrow5 hor5 hold5 HR HB
            go_wp2
            refine And.intro ?_ ?_
            · obtain ⟨L5, hL5⟩ := HR5.out
              first | exact ⟨k2 + 1, by omega, by go_num, ⟨n2 + 1, L5, by omega, hL5⟩, HB5.out⟩ | ((repeat apply Exists.intro); exact ⟨⟨k2 + 1, by omega, by go_num, ⟨n2 + 1, L5, by omega, hL5⟩, HB5.out⟩, rfl⟩)
            · simp [intOf]; omega
          · go_wp2
            refine And.intro ?_ ?_
            · first | exact ⟨k2 + 1, by omega, by go_num, ⟨n2, L2, by omega, HR.out⟩, HB.out⟩ | ((repeat apply Exists.intro); exact ⟨⟨k2 + 1, by omega, by go_num, ⟨n2, L2, by omega, HR.out⟩, HB.out⟩, rfl⟩)
            · simp [intOf]; omega
        · have HR : Hid (wr.ownsRow w.heap.size 130 3 u3 n2 L2) := hrow
          have HB : Hid (Below w.heap.size w wr) := hbw
          clear hrow hbw
          go_wp2
          refine And.intro ?_ ?_
          · first | exact ⟨k + 1, by omega, by go_num, ⟨n2, L2, by omega, HR.out⟩, HB.out⟩ | ((repeat apply Exists.intro); exact ⟨⟨k + 1, by omega, by go_num, ⟨n2, L2, by omega, HR.out⟩, HB.out⟩, rfl⟩)
          · simp [intOf]; omega
    · obtain ⟨la, lc, rfl⟩ := ownsRow_slice hrow
      clear hrow HR hbw
      go_wp2
      go_ret
      exact ⟨⟨_, _, _, rfl⟩, HB.out⟩
end Go.Proofs.YtohjjgefklhmaaaGreatDoor

namespace Go.Proofs.YtohjjgefklhmaaaGreatDoor
open Go.ChangeShapes Go.WideShapes Go.ChangeAt Go.RowKit
set_option linter.unusedVariables false

theorem info_entPE : (Tryz.prog.info? 125).map (fun i => (i.zero, i.size, i.bytes)) = some (some (.agg #[.int .i64 0, .int .i64 0, .int .i64 0, .int .i64 0]), 4, 32) := by kernel_rfl
theorem size_entPE : (Tryz.prog.info? 125).map (·.size) = some 4 := by kernel_rfl
set_option maxHeartbeats 400000 in
set_option maxRecDepth 100000 in
theorem copyEntries_anyE (v : Value) (n : Nat) (L : List Value) (w : World) (hv : Rd w v n 4 L) (hlen : n ≤ 1048576) (h1 : ∀ u ∈ L, u.oneCell' = true) :
    Calls Tryz.prog 93 #[v] w fun e w' => e = .returned (.slice (some ⟨w.heap.size, 0, none⟩) n n) ∧
      w' = w.alloc (.cells L.toArray 125) := by
  obtain ⟨hL, a, cap, rfl, hx0⟩ := hv
  have HL : Hid (L.length = n * 4) := hL
  have hx : Hid (0 < n → ∃ g, a = some ⟨g, 0, none⟩ ∧ ∀ (j : Nat) x, L[j]? = some x → w.cell? ⟨g, j, none⟩ = some x) := hx0
  have H1 : Hid (∀ u ∈ L, u.oneCell' = true) := h1
  clear hx0 hL h1
  obtain ⟨i0, hi, hz0, hz1, hz2⟩ := info_parts info_entPE
  obtain ⟨Z, hZ⟩ : ∃ Z : Array Value, Z = madeCells #[.int .i64 0, .int .i64 0, .int .i64 0, .int .i64 0] (n * 4) := ⟨_, rfl⟩
  have hmk : ∀ u : World, (Instr.makeSlice 87 (.int .i64 (n : Int)) (.int .i64 (n : Int))).run Tryz.prog u =
      .ok (.slice (some ⟨u.heap.size, 0, none⟩) n n) (u.alloc (.cells Z 125)) := fun u => by
    have h := run_make (P := Tryz.prog) u 87 125 i0 _ Tryz.underlying87 hi hz0 .i64 .i64 (n : Int) (n : Int) (by omega) (Int.le_refl _) (by rw [hz2]; omega) (by omega)
    rw [hZ]
    simpa [hz1, Value.cells] using h
  have hZs : Z.size = n * 4 := by rw [hZ, size_madeCells]
  have hcp : (Builtin.copy_ #[87, 87] 3 #[.slice (some ⟨w.heap.size, 0, none⟩) n n, .slice a n cap]).run Tryz.prog (w.alloc (.cells Z 125)) =
      .ok (.int .i64 n) (w.alloc (.cells L.toArray 125)) := by
    have h := run_copy_any (P := Tryz.prog) (w.alloc (.cells Z 125)) 87 87 3 125 4 w.heap.size n n a n cap
      Z.toList 125 L Tryz.underlying87 size_entPE (by rw [Array.toArray_toList]; exact heap_alloc_new w _) (by rw [HL.out]; simp) ?_ (by rw [HL.out]; simp [hZs]) H1.out
    · rw [alloc_setRow] at h
      have e1 : Nat.min n n = n := by simp
      rw [e1] at h
      have e2 : List.drop L.length Z.toList = [] := by apply List.drop_eq_nil_of_le; rw [HL.out]; simp [hZs]
      rw [e2, List.append_nil] at h
      exact h
    · intro h0
      obtain ⟨g, rfl, hc⟩ := hx.out (by rw [HL.out] at h0; omega)
      refine ⟨_, rfl, fun j v hj => ?_⟩
      have h1 := hc j v hj
      rw [addr_add0]
      rw [(Below.refl w.heap.size w).alloc (Nat.le_refl _) _ |>.cell (World.block_lt_of_cell? w _ h1)]
      exact h1
  clear hZ hZs
  go_enter Tryz.func93, Tryz.ntmps93
  go_wp2
  go_ret
  exact ⟨rfl, rfl⟩


theorem erow_one (l : List ES) : ∀ u ∈ erow l, u.oneCell' = true := by
  induction l with
  | nil => simp [erow]
  | cons v l ih =>
    intro u hu
    simp only [erow, List.mem_append] at hu
    rcases hu with hu | hu
    · simp [ES.cells] at hu
      rcases hu with rfl | rfl | rfl | rfl <;> rfl
    · exact ih u hu
/-- what See hands out, as far as it is looked at -/
def SeeP (w w' : World) (e : Ending) (x : EC) : Prop :=
  ∃ bv vv dv ev p q, e = .returned (.agg #[.int .i64 x.height, bv, .int .i64 x.fees, .int .i64 x.pool, .int .i64 p, .int .i64 q, vv, dv, ev]) ∧
    w'.ownsRow w.heap.size 3 1 bv x.bal.length (ints x.bal) ∧ w'.ownsRow w.heap.size 122 8 vv x.vals.length (vrow x.vals) ∧ w'.ownsRow w.heap.size 125 4 ev x.ents.length (erow x.ents) ∧ (∃ a n c, dv = .slice a n c) ∧ Below w.heap.size w w'

set_option maxHeartbeats 2000000 in
set_option maxRecDepth 100000 in
theorem ksee {S : Nat → Prop} {W0 : World} (g : Nat) (x : EC) (bv vv ev : Value) (w : World) (hC : PE S W0 w g x bv vv ev) (hB : VB x.vals) (hBe : EB x.ents) (l1 : x.bal.length ≤ 6) (l2 : x.vals.length ≤ 5) (l3 : x.ents.length ≤ 1000) :
    Calls Tryz.prog 42 #[.pointer (some ⟨g, 0, none⟩)] w fun e w' => SeeP w w' e x := by
  obtain ⟨ba, bc, rfl⟩ := ownsRow_slice hC.b
  obtain ⟨va, vc, rfl⟩ := ownsRow_slice hC.v
  obtain ⟨ea, ec, rfl⟩ := ownsRow_slice hC.e
  have c3 : w.cell? ⟨g, 3, none⟩ = some (.int .i64 x.height) := hC.L.cell 3
  have c4 : w.cell? ⟨g, 4, none⟩ = some (.slice ba x.bal.length bc) := hC.L.cell 4
  have c5 : w.cell? ⟨g, 5, none⟩ = some (.int .i64 x.fees) := hC.L.cell 5
  have c6 : w.cell? ⟨g, 6, none⟩ = some (.int .i64 x.pool) := hC.L.cell 6
  have hlt := hC.L.lt
  have hlt1 : g < w.heap.size + 1 := by omega
  have hlt2 : g < w.heap.size + 1 + 1 := by omega
  go_enter Tryz.func42, Tryz.ntmps42
  go_wp2_with fail
  go_region
  go_wp2_with fail
  refine (copyNumbers_any _ x.bal _ (((Rd.of_owns hC.b).ints).below (B := w.heap.size) (((Below.refl _ _).alloc (Nat.le_refl _) _).alloc (by simp) _).drew (Nat.le_refl _)) (by omega)).mono ?_
  rintro e w1 ⟨rfl, rfl⟩
  go_wp2_with fail
  have hR : Has (((w.alloc (.cells #[.int .i64 0, .slice none 0 0, .int .i64 0, .int .i64 0, .int .i64 0, .int .i64 0, .slice none 0 0, .slice none 0 0, .slice none 0 0] 89)).alloc (.cells #[.int .i64 x.height, .slice (some ⟨w.heap.size + 1 + 1, 0, none⟩) x.bal.length x.bal.length, .int .i64 x.fees, .int .i64 x.pool, .int .i64 0, .int .i64 0, .slice none 0 0, .slice none 0 0, .slice none 0 0] 89)).alloc (.cells (ints x.bal).toArray 3)).drew w.heap.size 89 [.int .i64 0, .slice none 0 0, .int .i64 0, .int .i64 0, .int .i64 0, .int .i64 0, .slice none 0 0, .slice none 0 0, .slice none 0 0] := (((Has.newA w _ _).alloc _).alloc _).drew
  have hV : Has (((w.alloc (.cells #[.int .i64 0, .slice none 0 0, .int .i64 0, .int .i64 0, .int .i64 0, .int .i64 0, .slice none 0 0, .slice none 0 0, .slice none 0 0] 89)).alloc (.cells #[.int .i64 x.height, .slice (some ⟨w.heap.size + 1 + 1, 0, none⟩) x.bal.length x.bal.length, .int .i64 x.fees, .int .i64 x.pool, .int .i64 0, .int .i64 0, .slice none 0 0, .slice none 0 0, .slice none 0 0] 89)).alloc (.cells (ints x.bal).toArray 3)).drew (w.heap.size + 1) 89 [.int .i64 x.height, .slice (some ⟨w.heap.size + 1 + 1, 0, none⟩) x.bal.length x.bal.length, .int .i64 x.fees, .int .i64 x.pool, .int .i64 0, .int .i64 0, .slice none 0 0, .slice none 0 0, .slice none 0 0] := by
    have h := (Has.newA (w.alloc (.cells #[.int .i64 0, .slice none 0 0, .int .i64 0, .int .i64 0, .int .i64 0, .int .i64 0, .slice none 0 0, .slice none 0 0, .slice none 0 0] 89)) 89 #[.int .i64 x.height, .slice (some ⟨w.heap.size + 1 + 1, 0, none⟩) x.bal.length x.bal.length, .int .i64 x.fees, .int .i64 x.pool, .int .i64 0, .int .i64 0, .slice none 0 0, .slice none 0 0, .slice none 0 0]).alloc (.cells (ints x.bal).toArray 3)
    rw [World.size_alloc] at h
    exact h.drew
  have hBl : (((w.alloc (.cells #[.int .i64 0, .slice none 0 0, .int .i64 0, .int .i64 0, .int .i64 0, .int .i64 0, .slice none 0 0, .slice none 0 0, .slice none 0 0] 89)).alloc (.cells #[.int .i64 x.height, .slice (some ⟨w.heap.size + 1 + 1, 0, none⟩) x.bal.length x.bal.length, .int .i64 x.fees, .int .i64 x.pool, .int .i64 0, .int .i64 0, .slice none 0 0, .slice none 0 0, .slice none 0 0] 89)).alloc (.cells (ints x.bal).toArray 3)).drew.ownsRow w.heap.size 3 1 (.slice (some ⟨w.heap.size + 1 + 1, 0, none⟩) x.bal.length x.bal.length) x.bal.length (ints x.bal) := by
    have h := ownsRow_new ((w.alloc (.cells #[.int .i64 0, .slice none 0 0, .int .i64 0, .int .i64 0, .int .i64 0, .int .i64 0, .slice none 0 0, .slice none 0 0, .slice none 0 0] 89)).alloc (.cells #[.int .i64 x.height, .slice (some ⟨w.heap.size + 1 + 1, 0, none⟩) x.bal.length x.bal.length, .int .i64 x.fees, .int .i64 x.pool, .int .i64 0, .int .i64 0, .slice none 0 0, .slice none 0 0, .slice none 0 0] 89)) 3 1 x.bal.length (ints x.bal) (by simp [ints]) (by simp [maxLen]; omega)
    simp only [World.size_alloc] at h
    exact ownsRow_base h (by omega)
  have hw : Below w.heap.size w (((w.alloc (.cells #[.int .i64 0, .slice none 0 0, .int .i64 0, .int .i64 0, .int .i64 0, .int .i64 0, .slice none 0 0, .slice none 0 0, .slice none 0 0] 89)).alloc (.cells #[.int .i64 x.height, .slice (some ⟨w.heap.size + 1 + 1, 0, none⟩) x.bal.length x.bal.length, .int .i64 x.fees, .int .i64 x.pool, .int .i64 0, .int .i64 0, .slice none 0 0, .slice none 0 0, .slice none 0 0] 89)).alloc (.cells (ints x.bal).toArray 3)).drew := ((((Below.refl _ _).alloc (Nat.le_refl _) _).alloc (by simp) _).alloc (by simp; omega) _).drew
  generalize (((w.alloc (.cells #[.int .i64 0, .slice none 0 0, .int .i64 0, .int .i64 0, .int .i64 0, .int .i64 0, .slice none 0 0, .slice none 0 0, .slice none 0 0] 89)).alloc (.cells #[.int .i64 x.height, .slice (some ⟨w.heap.size + 1 + 1, 0, none⟩) x.bal.length x.bal.length, .int .i64 x.fees, .int .i64 x.pool, .int .i64 0, .int .i64 0, .slice none 0 0, .slice none 0 0, .slice none 0 0] 89)).alloc (.cells (ints x.bal).toArray 3)).drew = wA at hR hV hBl hw ⊢
  generalize hbvv : Value.slice (some ⟨w.heap.size + 1 + 1, 0, none⟩) x.bal.length x.bal.length = bvn at hV hBl
  have hCw : ∀ {w'}, Below w.heap.size w w' → PE S W0 w' g x (.slice ba x.bal.length bc) (.slice va x.vals.length vc) (.slice ea x.ents.length ec) := fun hb => hC.below hb
  have hvw : ∀ {w'}, Below w.heap.size w w' → Rd w' (.slice va x.vals.length vc) x.vals.length 8 (vrow x.vals) := fun hb => (Rd.of_owns hC.v).below hb (Nat.le_refl _)
  have HCw : Hid (∀ {w'}, Below w.heap.size w w' → PE S W0 w' g x (.slice ba x.bal.length bc) (.slice va x.vals.length vc) (.slice ea x.ents.length ec)) := @hCw
  have Hvw : Hid (∀ {w'}, Below w.heap.size w w' → Rd w' (.slice va x.vals.length vc) x.vals.length 8 (vrow x.vals)) := @hvw
  clear hCw hvw hC c3 c4 c5 c6 hlt1 hlt2
  refine (pbonded_anyE g x.vals _ _ ((HCw.out hw).L.cell 7) (Hvw.out hw) hB (by omega)).mono ?_
  rintro e w1 ⟨rfl, hb1⟩
  have hR1 := hR.below hb1 hR.lt
  have hV1 := hV.below hb1 hV.lt
  have hBl1 := ownsRow_below hBl hb1 (Nat.le_refl _)
  have hw1 := hw.trans (hb1.mono hw.size)
  clear hR hV hBl hw hb1
  have p4 : w1.cell? ⟨w.heap.size + 1, 4, none⟩ = some (.int .i64 0) := hV1.cell 4
  have f4 := hV1.frozen 4
  have hne : bvn.ownBlock ≠ some (w.heap.size + 1) := by rw [← hbvv]; simp [Value.ownBlock]
  go_wp2_with fail
  have hR2 := hR1.other ⟨w.heap.size + 1, 4, none⟩ (.int .i64 (bondedN x.vals)) (by simp)
  have hV2 := hV1.set 4 (.int .i64 (bondedN x.vals))
  have hBl2 := ownsRow_setCell hBl1 ⟨w.heap.size + 1, 4, none⟩ (.int .i64 (bondedN x.vals)) hne
  have hw2 := hw1.setCell (p := ⟨w.heap.size + 1, 4, none⟩) (by simp) (.int .i64 (bondedN x.vals))
  clear hR1 hV1 hBl1 hw1 p4 f4
  refine (kloose g x.vals _ _ ((HCw.out hw2).L.cell 7) (.slice ea x.ents.length ec) x.ents ((HCw.out hw2).evAt) (Rd.of_owns (HCw.out hw2).e) hBe l3 (Hvw.out hw2) hB (by omega)).mono ?_
  rintro e w3 ⟨rfl, hb3⟩
  have hR3 := hR2.below hb3 hR2.lt
  have hV3 := hV2.below hb3 hV2.lt
  have hBl3 := ownsRow_below hBl2 hb3 (Nat.le_refl _)
  have hw3 := hw2.trans (hb3.mono hw2.size)
  clear hR2 hV2 hBl2 hw2 hb3
  have p5 : w3.cell? ⟨w.heap.size + 1, 5, none⟩ = some (.int .i64 0) := hV3.cell 5
  have f5 := hV3.frozen 5
  have q7 : w3.cell? ⟨g, 7, none⟩ = some (.slice va x.vals.length vc) := (HCw.out hw3).L.cell 7
  have hg1 : g ≠ w.heap.size + 1 := by omega
  have hg2 : w.heap.size + 1 ≠ g := by omega
  go_wp2_with fail
  have hR4 := hR3.other ⟨w.heap.size + 1, 5, none⟩ (.int .i64 (looseV x.vals + sumE x.ents)) (by simp)
  have hV4 := hV3.set 5 (.int .i64 (looseV x.vals + sumE x.ents))
  have hBl4 := ownsRow_setCell hBl3 ⟨w.heap.size + 1, 5, none⟩ (.int .i64 (looseV x.vals + sumE x.ents)) hne
  have hw4 := hw3.setCell (p := ⟨w.heap.size + 1, 5, none⟩) (by simp) (.int .i64 (looseV x.vals + sumE x.ents))
  clear hR3 hV3 hBl3 hw3 p5 f5 q7
  refine (copyValidators_any _ x.vals.length (vrow x.vals) _ (Hvw.out hw4) (by omega) (vrow_one _)).mono ?_
  rintro e w5 ⟨rfl, rfl⟩
  have hsz := hV4.lt
  have hR5 := hR4.alloc (.cells (vrow x.vals).toArray 122)
  have hV5 := hV4.alloc (.cells (vrow x.vals).toArray 122)
  have hBl5 := hBl4.alloc (.cells (vrow x.vals).toArray 122)
  have hw5 := hw4.alloc hw4.size (.cells (vrow x.vals).toArray 122)
  have hvr5 := ownsRow_base (ownsRow_new _ 122 8 x.vals.length (vrow x.vals) (vrow_length _) (by simp [maxLen]; omega)) hw4.size
  obtain ⟨vvn, hvvn⟩ : ∃ z, z = Value.slice (some ⟨((w3.setCell ⟨w.heap.size + 1, 5, none⟩ (.int .i64 (looseV x.vals + sumE x.ents)))).heap.size, 0, none⟩) x.vals.length x.vals.length := ⟨_, rfl⟩
  have hne5 : vvn.ownBlock ≠ some (w.heap.size + 1) := by rw [hvvn]; simp [Value.ownBlock]; simp at hsz; omega
  rw [← hvvn] at hvr5 ⊢
  generalize ((w3.setCell ⟨w.heap.size + 1, 5, none⟩ (.int .i64 (looseV x.vals + sumE x.ents))).alloc (.cells (vrow x.vals).toArray 122)) = w5 at hR5 hV5 hBl5 hw5 hvr5 ⊢
  clear hR4 hV4 hBl4 hw4 hsz
  have p6 : w5.cell? ⟨w.heap.size + 1, 6, none⟩ = some (.slice none 0 0) := hV5.cell 6
  have f6 := hV5.frozen 6
  obtain ⟨vva, vvc, hvs⟩ := ownsRow_slice hvr5
  clear hvvn
  subst hvs
  go_wp2_with fail
  have hR6 := hR5.other ⟨w.heap.size + 1, 6, none⟩ (.slice vva x.vals.length vvc) (by simp)
  have hV6 := hV5.set 6 (.slice vva x.vals.length vvc)
  have hBl6 := ownsRow_setCell hBl5 ⟨w.heap.size + 1, 6, none⟩ (.slice vva x.vals.length vvc) hne
  have hvr6 := ownsRow_setCell hvr5 ⟨w.heap.size + 1, 6, none⟩ (.slice vva x.vals.length vvc) hne5
  have hw6 := hw5.setCell (p := ⟨w.heap.size + 1, 6, none⟩) (by simp) (.slice vva x.vals.length vvc)
  clear hR5 hV5 hBl5 hvr5 hw5 p6 f6
  refine (kdels g x.bal.length x.vals.length ba va bc vc x.tab _ ((HCw.out hw6).L.cell 4) ((HCw.out hw6).L.cell 7) (fun j hj => ((HCw.out hw6).L.cell (8 + j)).trans (eL_tab _ _ _ _ j (by rw [(HCw.out hw6).ht]; omega))) l1 l2).mono ?_
  rintro e w7 ⟨⟨da, dn, dc, rfl⟩, hb7⟩
  have hR7 := hR6.below hb7 hR6.lt
  have hV7 := hV6.below hb7 hV6.lt
  have hBl7 := ownsRow_below hBl6 hb7 (Nat.le_refl _)
  have hvr7 := ownsRow_below hvr6 hb7 (Nat.le_refl _)
  have hw7 := hw6.trans (hb7.mono hw6.size)
  clear hR6 hV6 hBl6 hvr6 hw6 hb7
  have p7 : w7.cell? ⟨w.heap.size + 1, 7, none⟩ = some (.slice none 0 0) := hV7.cell 7
  have f7 := hV7.frozen 7
  have q38 : w7.cell? ⟨g, 73, none⟩ = some (.slice ea x.ents.length ec) := (HCw.out hw7).evAt
  go_wp2_with fail
  have hR8 := hR7.other ⟨w.heap.size + 1, 7, none⟩ (.slice da dn dc) (by simp)
  have hV8 := hV7.set 7 (.slice da dn dc)
  have hBl8 := ownsRow_setCell hBl7 ⟨w.heap.size + 1, 7, none⟩ (.slice da dn dc) hne
  have hvr8 := ownsRow_setCell hvr7 ⟨w.heap.size + 1, 7, none⟩ (.slice da dn dc) hne5
  have hw8 := hw7.setCell (p := ⟨w.heap.size + 1, 7, none⟩) (by simp) (.slice da dn dc)
  clear hR7 hV7 hBl7 hvr7 hw7 p7 f7 q38
  refine (copyEntries_anyE _ x.ents.length (erow x.ents) _ (Rd.of_owns (HCw.out hw8).e) (by omega) (erow_one _)).mono ?_
  rintro e w9 ⟨rfl, rfl⟩
  have hsz := hV8.lt
  have hR9 := hR8.alloc (.cells (erow x.ents).toArray 125)
  have hV9 := hV8.alloc (.cells (erow x.ents).toArray 125)
  have hBl9 := hBl8.alloc (.cells (erow x.ents).toArray 125)
  have hvr9 := hvr8.alloc (.cells (erow x.ents).toArray 125)
  have hw9 := hw8.alloc hw8.size (.cells (erow x.ents).toArray 125)
  have her9 := ownsRow_base (ownsRow_new _ 125 4 x.ents.length (erow x.ents) (erow_length _) (by simp [maxLen]; omega)) hw8.size
  obtain ⟨een, heen⟩ : ∃ z, z = Value.slice (some ⟨((w7.setCell ⟨w.heap.size + 1, 7, none⟩ (.slice da dn dc))).heap.size, 0, none⟩) x.ents.length x.ents.length := ⟨_, rfl⟩
  have hne9 : een.ownBlock ≠ some (w.heap.size + 1) := by rw [heen]; simp [Value.ownBlock]; simp at hsz; omega
  have hne0 : een.ownBlock ≠ some w.heap.size := by rw [heen]; simp [Value.ownBlock]; simp at hsz; omega
  rw [← heen] at her9 ⊢
  generalize ((w7.setCell ⟨w.heap.size + 1, 7, none⟩ (.slice da dn dc)).alloc (.cells (erow x.ents).toArray 125)) = w9 at hR9 hV9 hBl9 hvr9 hw9 her9 ⊢
  clear hR8 hV8 hBl8 hvr8 hw8 hsz
  have p8 : w9.cell? ⟨w.heap.size + 1, 8, none⟩ = some (.slice none 0 0) := hV9.cell 8
  have f8 := hV9.frozen 8
  obtain ⟨eea, eec, hes⟩ := ownsRow_slice her9
  obtain ⟨bba, bbc, hbs⟩ := ownsRow_slice hBl9
  clear heen hbvv
  subst hes hbs
  have p0 : w9.cell? ⟨w.heap.size + 1, 0, none⟩ = some (.int .i64 x.height) := hV9.cell 0
  have p1 : w9.cell? ⟨w.heap.size + 1, 1, none⟩ = some (.slice bba x.bal.length bbc) := hV9.cell 1
  have p2 : w9.cell? ⟨w.heap.size + 1, 2, none⟩ = some (.int .i64 x.fees) := hV9.cell 2
  have p3 : w9.cell? ⟨w.heap.size + 1, 3, none⟩ = some (.int .i64 x.pool) := hV9.cell 3
  have p4 : w9.cell? ⟨w.heap.size + 1, 4, none⟩ = some (.int .i64 (bondedN x.vals)) := hV9.cell 4
  have p5 : w9.cell? ⟨w.heap.size + 1, 5, none⟩ = some (.int .i64 (looseV x.vals + sumE x.ents)) := hV9.cell 5
  have p6 : w9.cell? ⟨w.heap.size + 1, 6, none⟩ = some (.slice vva x.vals.length vvc) := hV9.cell 6
  have p7 : w9.cell? ⟨w.heap.size + 1, 7, none⟩ = some (.slice da dn dc) := hV9.cell 7
  have r0 : w9.cell? ⟨w.heap.size, 0, none⟩ = some (.int .i64 0) := hR9.cell 0
  have r1 : w9.cell? ⟨w.heap.size, 1, none⟩ = some (.slice none 0 0) := hR9.cell 1
  have r2 : w9.cell? ⟨w.heap.size, 2, none⟩ = some (.int .i64 0) := hR9.cell 2
  have r3 : w9.cell? ⟨w.heap.size, 3, none⟩ = some (.int .i64 0) := hR9.cell 3
  have r4 : w9.cell? ⟨w.heap.size, 4, none⟩ = some (.int .i64 0) := hR9.cell 4
  have r5 : w9.cell? ⟨w.heap.size, 5, none⟩ = some (.int .i64 0) := hR9.cell 5
  have r6 : w9.cell? ⟨w.heap.size, 6, none⟩ = some (.slice none 0 0) := hR9.cell 6
  have r7 : w9.cell? ⟨w.heap.size, 7, none⟩ = some (.slice none 0 0) := hR9.cell 7
  have r8 : w9.cell? ⟨w.heap.size, 8, none⟩ = some (.slice none 0 0) := hR9.cell 8
  have k0 := hR9.frozen 0
  have k1 := hR9.frozen 1
  have k2 := hR9.frozen 2
  have k3 := hR9.frozen 3
  have k4 := hR9.frozen 4
  have k5 := hR9.frozen 5
  have k6 := hR9.frozen 6
  have k7 := hR9.frozen 7
  have k8 := hR9.frozen 8
  go_wp2
  have neB : (Value.slice bba x.bal.length bbc).ownBlock ≠ some w.heap.size := fun h => Has.apart hR9 hBl9 (by decide) h.symm
  have neV : (Value.slice vva x.vals.length vvc).ownBlock ≠ some w.heap.size := fun h => Has.apart hR9 hvr9 (by decide) h.symm
  have zR : Has ((((((((((w9.setCell ⟨w.heap.size + 1, 8, none⟩ (.slice eea x.ents.length eec)).setCell ⟨w.heap.size, 0, none⟩ (.int .i64 x.height)).setCell ⟨w.heap.size, 1, none⟩ (.slice bba x.bal.length bbc)).setCell ⟨w.heap.size, 2, none⟩ (.int .i64 x.fees)).setCell ⟨w.heap.size, 3, none⟩ (.int .i64 x.pool)).setCell ⟨w.heap.size, 4, none⟩ (.int .i64 (bondedN x.vals))).setCell ⟨w.heap.size, 5, none⟩ (.int .i64 (looseV x.vals + sumE x.ents))).setCell ⟨w.heap.size, 6, none⟩ (.slice vva x.vals.length vvc)).setCell ⟨w.heap.size, 7, none⟩ (.slice da dn dc)).setCell ⟨w.heap.size, 8, none⟩ (.slice eea x.ents.length eec)) w.heap.size 89 [.int .i64 x.height, .slice bba x.bal.length bbc, .int .i64 x.fees, .int .i64 x.pool, .int .i64 (bondedN x.vals), .int .i64 (looseV x.vals + sumE x.ents), .slice vva x.vals.length vvc, .slice da dn dc, .slice eea x.ents.length eec] := ((((((((((hR9.other ⟨w.heap.size + 1, 8, none⟩ (.slice eea x.ents.length eec) (by simp)).set 0 (.int .i64 x.height)).set 1 (.slice bba x.bal.length bbc)).set 2 (.int .i64 x.fees)).set 3 (.int .i64 x.pool)).set 4 (.int .i64 (bondedN x.vals))).set 5 (.int .i64 (looseV x.vals + sumE x.ents))).set 6 (.slice vva x.vals.length vvc)).set 7 (.slice da dn dc)).set 8 (.slice eea x.ents.length eec))
  have zb := (ownsRow_setCell (ownsRow_setCell (ownsRow_setCell (ownsRow_setCell (ownsRow_setCell (ownsRow_setCell (ownsRow_setCell (ownsRow_setCell (ownsRow_setCell (ownsRow_setCell hBl9 ⟨w.heap.size + 1, 8, none⟩ (.slice eea x.ents.length eec) hne) ⟨w.heap.size, 0, none⟩ (.int .i64 x.height) neB) ⟨w.heap.size, 1, none⟩ (.slice bba x.bal.length bbc) neB) ⟨w.heap.size, 2, none⟩ (.int .i64 x.fees) neB) ⟨w.heap.size, 3, none⟩ (.int .i64 x.pool) neB) ⟨w.heap.size, 4, none⟩ (.int .i64 (bondedN x.vals)) neB) ⟨w.heap.size, 5, none⟩ (.int .i64 (looseV x.vals + sumE x.ents)) neB) ⟨w.heap.size, 6, none⟩ (.slice vva x.vals.length vvc) neB) ⟨w.heap.size, 7, none⟩ (.slice da dn dc) neB) ⟨w.heap.size, 8, none⟩ (.slice eea x.ents.length eec) neB)
  have zv := (ownsRow_setCell (ownsRow_setCell (ownsRow_setCell (ownsRow_setCell (ownsRow_setCell (ownsRow_setCell (ownsRow_setCell (ownsRow_setCell (ownsRow_setCell (ownsRow_setCell hvr9 ⟨w.heap.size + 1, 8, none⟩ (.slice eea x.ents.length eec) hne5) ⟨w.heap.size, 0, none⟩ (.int .i64 x.height) neV) ⟨w.heap.size, 1, none⟩ (.slice bba x.bal.length bbc) neV) ⟨w.heap.size, 2, none⟩ (.int .i64 x.fees) neV) ⟨w.heap.size, 3, none⟩ (.int .i64 x.pool) neV) ⟨w.heap.size, 4, none⟩ (.int .i64 (bondedN x.vals)) neV) ⟨w.heap.size, 5, none⟩ (.int .i64 (looseV x.vals + sumE x.ents)) neV) ⟨w.heap.size, 6, none⟩ (.slice vva x.vals.length vvc) neV) ⟨w.heap.size, 7, none⟩ (.slice da dn dc) neV) ⟨w.heap.size, 8, none⟩ (.slice eea x.ents.length eec) neV)
  have ze := (ownsRow_setCell (ownsRow_setCell (ownsRow_setCell (ownsRow_setCell (ownsRow_setCell (ownsRow_setCell (ownsRow_setCell (ownsRow_setCell (ownsRow_setCell (ownsRow_setCell her9 ⟨w.heap.size + 1, 8, none⟩ (.slice eea x.ents.length eec) hne9) ⟨w.heap.size, 0, none⟩ (.int .i64 x.height) hne0) ⟨w.heap.size, 1, none⟩ (.slice bba x.bal.length bbc) hne0) ⟨w.heap.size, 2, none⟩ (.int .i64 x.fees) hne0) ⟨w.heap.size, 3, none⟩ (.int .i64 x.pool) hne0) ⟨w.heap.size, 4, none⟩ (.int .i64 (bondedN x.vals)) hne0) ⟨w.heap.size, 5, none⟩ (.int .i64 (looseV x.vals + sumE x.ents)) hne0) ⟨w.heap.size, 6, none⟩ (.slice vva x.vals.length vvc) hne0) ⟨w.heap.size, 7, none⟩ (.slice da dn dc) hne0) ⟨w.heap.size, 8, none⟩ (.slice eea x.ents.length eec) hne0)
  have zw := ((((((((((hw9.setCell (p := ⟨w.heap.size + 1, 8, none⟩) (by simp) (.slice eea x.ents.length eec)).setCell (p := ⟨w.heap.size, 0, none⟩) (Nat.le_refl _) (.int .i64 x.height)).setCell (p := ⟨w.heap.size, 1, none⟩) (Nat.le_refl _) (.slice bba x.bal.length bbc)).setCell (p := ⟨w.heap.size, 2, none⟩) (Nat.le_refl _) (.int .i64 x.fees)).setCell (p := ⟨w.heap.size, 3, none⟩) (Nat.le_refl _) (.int .i64 x.pool)).setCell (p := ⟨w.heap.size, 4, none⟩) (Nat.le_refl _) (.int .i64 (bondedN x.vals))).setCell (p := ⟨w.heap.size, 5, none⟩) (Nat.le_refl _) (.int .i64 (looseV x.vals + sumE x.ents))).setCell (p := ⟨w.heap.size, 6, none⟩) (Nat.le_refl _) (.slice vva x.vals.length vvc)).setCell (p := ⟨w.heap.size, 7, none⟩) (Nat.le_refl _) (.slice da dn dc)).setCell (p := ⟨w.heap.size, 8, none⟩) (Nat.le_refl _) (.slice eea x.ents.length eec))
  generalize ((((((((((w9.setCell ⟨w.heap.size + 1, 8, none⟩ (.slice eea x.ents.length eec)).setCell ⟨w.heap.size, 0, none⟩ (.int .i64 x.height)).setCell ⟨w.heap.size, 1, none⟩ (.slice bba x.bal.length bbc)).setCell ⟨w.heap.size, 2, none⟩ (.int .i64 x.fees)).setCell ⟨w.heap.size, 3, none⟩ (.int .i64 x.pool)).setCell ⟨w.heap.size, 4, none⟩ (.int .i64 (bondedN x.vals))).setCell ⟨w.heap.size, 5, none⟩ (.int .i64 (looseV x.vals + sumE x.ents))).setCell ⟨w.heap.size, 6, none⟩ (.slice vva x.vals.length vvc)).setCell ⟨w.heap.size, 7, none⟩ (.slice da dn dc)).setCell ⟨w.heap.size, 8, none⟩ (.slice eea x.ents.length eec)) = wF at zR zb zv ze zw ⊢
  have z0 : wF.cell? ⟨w.heap.size, 0, none⟩ = some (.int .i64 x.height) := zR.cell 0
  have z1 : wF.cell? ⟨w.heap.size, 1, none⟩ = some (.slice bba x.bal.length bbc) := zR.cell 1
  have z2 : wF.cell? ⟨w.heap.size, 2, none⟩ = some (.int .i64 x.fees) := zR.cell 2
  have z3 : wF.cell? ⟨w.heap.size, 3, none⟩ = some (.int .i64 x.pool) := zR.cell 3
  have z4 : wF.cell? ⟨w.heap.size, 4, none⟩ = some (.int .i64 (bondedN x.vals)) := zR.cell 4
  have z5 : wF.cell? ⟨w.heap.size, 5, none⟩ = some (.int .i64 (looseV x.vals + sumE x.ents)) := zR.cell 5
  have z6 : wF.cell? ⟨w.heap.size, 6, none⟩ = some (.slice vva x.vals.length vvc) := zR.cell 6
  have z7 : wF.cell? ⟨w.heap.size, 7, none⟩ = some (.slice da dn dc) := zR.cell 7
  have z8 : wF.cell? ⟨w.heap.size, 8, none⟩ = some (.slice eea x.ents.length eec) := zR.cell 8
  refine bodyPost_ret (v := .agg #[.int .i64 x.height, .slice bba x.bal.length bbc, .int .i64 x.fees, .int .i64 x.pool, .int .i64 (bondedN x.vals), .int .i64 (looseV x.vals + sumE x.ents), .slice vva x.vals.length vvc, .slice da dn dc, .slice eea x.ents.length eec]) (by simp [results, Tryz.results42, go_sem, z0, z1, z2, z3, z4, z5, z6, z7, z8]) rfl ?_
  exact ⟨_, _, _, _, _, _, rfl, zb, zv, ze, ⟨_, _, _, rfl⟩, zw⟩
end Go.Proofs.YtohjjgefklhmaaaGreatDoor

namespace Go.Proofs.YtohjjgefklhmaaaGreatDoor
open Go.ChangeShapes Go.WideShapes Go.ChangeAt Go.RowKit
set_option linter.unusedVariables false

/-- what See hands out, as far as it is looked at -/
def SeeQ (w w' : World) (e : Ending) (x : EC) : Prop :=
  ∃ bv vv dv ev, e = .returned (.agg #[.int .i64 x.height, bv, .int .i64 x.fees, .int .i64 x.pool, .int .i64 (bondedN x.vals), .int .i64 (looseV x.vals + sumE x.ents), vv, dv, ev]) ∧
    w'.ownsRow w.heap.size 3 1 bv x.bal.length (ints x.bal) ∧ w'.ownsRow w.heap.size 122 8 vv x.vals.length (vrow x.vals) ∧ w'.ownsRow w.heap.size 125 4 ev x.ents.length (erow x.ents) ∧ (∃ a n c, dv = .slice a n c) ∧ Below w.heap.size w w'

set_option maxHeartbeats 2000000 in
set_option maxRecDepth 100000 in
theorem kseeQ {S : Nat → Prop} {W0 : World} (g : Nat) (x : EC) (bv vv ev : Value) (w : World) (hC : PE S W0 w g x bv vv ev) (hB : VB x.vals) (hBe : EB x.ents) (l1 : x.bal.length ≤ 6) (l2 : x.vals.length ≤ 5) (l3 : x.ents.length ≤ 1000) :
    Calls Tryz.prog 42 #[.pointer (some ⟨g, 0, none⟩)] w fun e w' => SeeQ w w' e x := by
  obtain ⟨ba, bc, rfl⟩ := ownsRow_slice hC.b
  obtain ⟨va, vc, rfl⟩ := ownsRow_slice hC.v
  obtain ⟨ea, ec, rfl⟩ := ownsRow_slice hC.e
  have c3 : w.cell? ⟨g, 3, none⟩ = some (.int .i64 x.height) := hC.L.cell 3
  have c4 : w.cell? ⟨g, 4, none⟩ = some (.slice ba x.bal.length bc) := hC.L.cell 4
  have c5 : w.cell? ⟨g, 5, none⟩ = some (.int .i64 x.fees) := hC.L.cell 5
  have c6 : w.cell? ⟨g, 6, none⟩ = some (.int .i64 x.pool) := hC.L.cell 6
  have hlt := hC.L.lt
  have hlt1 : g < w.heap.size + 1 := by omega
  have hlt2 : g < w.heap.size + 1 + 1 := by omega
  go_enter Tryz.func42, Tryz.ntmps42
  go_wp2_with fail
  go_region
  go_wp2_with fail
  refine (copyNumbers_any _ x.bal _ (((Rd.of_owns hC.b).ints).below (B := w.heap.size) (((Below.refl _ _).alloc (Nat.le_refl _) _).alloc (by simp) _).drew (Nat.le_refl _)) (by omega)).mono ?_
  rintro e w1 ⟨rfl, rfl⟩
  go_wp2_with fail
  have hR : Has (((w.alloc (.cells #[.int .i64 0, .slice none 0 0, .int .i64 0, .int .i64 0, .int .i64 0, .int .i64 0, .slice none 0 0, .slice none 0 0, .slice none 0 0] 89)).alloc (.cells #[.int .i64 x.height, .slice (some ⟨w.heap.size + 1 + 1, 0, none⟩) x.bal.length x.bal.length, .int .i64 x.fees, .int .i64 x.pool, .int .i64 0, .int .i64 0, .slice none 0 0, .slice none 0 0, .slice none 0 0] 89)).alloc (.cells (ints x.bal).toArray 3)).drew w.heap.size 89 [.int .i64 0, .slice none 0 0, .int .i64 0, .int .i64 0, .int .i64 0, .int .i64 0, .slice none 0 0, .slice none 0 0, .slice none 0 0] := (((Has.newA w _ _).alloc _).alloc _).drew
  have hV : Has (((w.alloc (.cells #[.int .i64 0, .slice none 0 0, .int .i64 0, .int .i64 0, .int .i64 0, .int .i64 0, .slice none 0 0, .slice none 0 0, .slice none 0 0] 89)).alloc (.cells #[.int .i64 x.height, .slice (some ⟨w.heap.size + 1 + 1, 0, none⟩) x.bal.length x.bal.length, .int .i64 x.fees, .int .i64 x.pool, .int .i64 0, .int .i64 0, .slice none 0 0, .slice none 0 0, .slice none 0 0] 89)).alloc (.cells (ints x.bal).toArray 3)).drew (w.heap.size + 1) 89 [.int .i64 x.height, .slice (some ⟨w.heap.size + 1 + 1, 0, none⟩) x.bal.length x.bal.length, .int .i64 x.fees, .int .i64 x.pool, .int .i64 0, .int .i64 0, .slice none 0 0, .slice none 0 0, .slice none 0 0] := by
    have h := (Has.newA (w.alloc (.cells #[.int .i64 0, .slice none 0 0, .int .i64 0, .int .i64 0, .int .i64 0, .int .i64 0, .slice none 0 0, .slice none 0 0, .slice none 0 0] 89)) 89 #[.int .i64 x.height, .slice (some ⟨w.heap.size + 1 + 1, 0, none⟩) x.bal.length x.bal.length, .int .i64 x.fees, .int .i64 x.pool, .int .i64 0, .int .i64 0, .slice none 0 0, .slice none 0 0, .slice none 0 0]).alloc (.cells (ints x.bal).toArray 3)
    rw [World.size_alloc] at h
    exact h.drew
  have hBl : (((w.alloc (.cells #[.int .i64 0, .slice none 0 0, .int .i64 0, .int .i64 0, .int .i64 0, .int .i64 0, .slice none 0 0, .slice none 0 0, .slice none 0 0] 89)).alloc (.cells #[.int .i64 x.height, .slice (some ⟨w.heap.size + 1 + 1, 0, none⟩) x.bal.length x.bal.length, .int .i64 x.fees, .int .i64 x.pool, .int .i64 0, .int .i64 0, .slice none 0 0, .slice none 0 0, .slice none 0 0] 89)).alloc (.cells (ints x.bal).toArray 3)).drew.ownsRow w.heap.size 3 1 (.slice (some ⟨w.heap.size + 1 + 1, 0, none⟩) x.bal.length x.bal.length) x.bal.length (ints x.bal) := by
    have h := ownsRow_new ((w.alloc (.cells #[.int .i64 0, .slice none 0 0, .int .i64 0, .int .i64 0, .int .i64 0, .int .i64 0, .slice none 0 0, .slice none 0 0, .slice none 0 0] 89)).alloc (.cells #[.int .i64 x.height, .slice (some ⟨w.heap.size + 1 + 1, 0, none⟩) x.bal.length x.bal.length, .int .i64 x.fees, .int .i64 x.pool, .int .i64 0, .int .i64 0, .slice none 0 0, .slice none 0 0, .slice none 0 0] 89)) 3 1 x.bal.length (ints x.bal) (by simp [ints]) (by simp [maxLen]; omega)
    simp only [World.size_alloc] at h
    exact ownsRow_base h (by omega)
  have hw : Below w.heap.size w (((w.alloc (.cells #[.int .i64 0, .slice none 0 0, .int .i64 0, .int .i64 0, .int .i64 0, .int .i64 0, .slice none 0 0, .slice none 0 0, .slice none 0 0] 89)).alloc (.cells #[.int .i64 x.height, .slice (some ⟨w.heap.size + 1 + 1, 0, none⟩) x.bal.length x.bal.length, .int .i64 x.fees, .int .i64 x.pool, .int .i64 0, .int .i64 0, .slice none 0 0, .slice none 0 0, .slice none 0 0] 89)).alloc (.cells (ints x.bal).toArray 3)).drew := ((((Below.refl _ _).alloc (Nat.le_refl _) _).alloc (by simp) _).alloc (by simp; omega) _).drew
  generalize (((w.alloc (.cells #[.int .i64 0, .slice none 0 0, .int .i64 0, .int .i64 0, .int .i64 0, .int .i64 0, .slice none 0 0, .slice none 0 0, .slice none 0 0] 89)).alloc (.cells #[.int .i64 x.height, .slice (some ⟨w.heap.size + 1 + 1, 0, none⟩) x.bal.length x.bal.length, .int .i64 x.fees, .int .i64 x.pool, .int .i64 0, .int .i64 0, .slice none 0 0, .slice none 0 0, .slice none 0 0] 89)).alloc (.cells (ints x.bal).toArray 3)).drew = wA at hR hV hBl hw ⊢
  generalize hbvv : Value.slice (some ⟨w.heap.size + 1 + 1, 0, none⟩) x.bal.length x.bal.length = bvn at hV hBl
  have hCw : ∀ {w'}, Below w.heap.size w w' → PE S W0 w' g x (.slice ba x.bal.length bc) (.slice va x.vals.length vc) (.slice ea x.ents.length ec) := fun hb => hC.below hb
  have hvw : ∀ {w'}, Below w.heap.size w w' → Rd w' (.slice va x.vals.length vc) x.vals.length 8 (vrow x.vals) := fun hb => (Rd.of_owns hC.v).below hb (Nat.le_refl _)
  have HCw : Hid (∀ {w'}, Below w.heap.size w w' → PE S W0 w' g x (.slice ba x.bal.length bc) (.slice va x.vals.length vc) (.slice ea x.ents.length ec)) := @hCw
  have Hvw : Hid (∀ {w'}, Below w.heap.size w w' → Rd w' (.slice va x.vals.length vc) x.vals.length 8 (vrow x.vals)) := @hvw
  clear hCw hvw hC c3 c4 c5 c6 hlt1 hlt2
  refine (pbonded_anyE g x.vals _ _ ((HCw.out hw).L.cell 7) (Hvw.out hw) hB (by omega)).mono ?_
  rintro e w1 ⟨rfl, hb1⟩
  have hR1 := hR.below hb1 hR.lt
  have hV1 := hV.below hb1 hV.lt
  have hBl1 := ownsRow_below hBl hb1 (Nat.le_refl _)
  have hw1 := hw.trans (hb1.mono hw.size)
  clear hR hV hBl hw hb1
  have p4 : w1.cell? ⟨w.heap.size + 1, 4, none⟩ = some (.int .i64 0) := hV1.cell 4
  have f4 := hV1.frozen 4
  have hne : bvn.ownBlock ≠ some (w.heap.size + 1) := by rw [← hbvv]; simp [Value.ownBlock]
  go_wp2_with fail
  have hR2 := hR1.other ⟨w.heap.size + 1, 4, none⟩ (.int .i64 (bondedN x.vals)) (by simp)
  have hV2 := hV1.set 4 (.int .i64 (bondedN x.vals))
  have hBl2 := ownsRow_setCell hBl1 ⟨w.heap.size + 1, 4, none⟩ (.int .i64 (bondedN x.vals)) hne
  have hw2 := hw1.setCell (p := ⟨w.heap.size + 1, 4, none⟩) (by simp) (.int .i64 (bondedN x.vals))
  clear hR1 hV1 hBl1 hw1 p4 f4
  refine (kloose g x.vals _ _ ((HCw.out hw2).L.cell 7) (.slice ea x.ents.length ec) x.ents ((HCw.out hw2).evAt) (Rd.of_owns (HCw.out hw2).e) hBe l3 (Hvw.out hw2) hB (by omega)).mono ?_
  rintro e w3 ⟨rfl, hb3⟩
  have hR3 := hR2.below hb3 hR2.lt
  have hV3 := hV2.below hb3 hV2.lt
  have hBl3 := ownsRow_below hBl2 hb3 (Nat.le_refl _)
  have hw3 := hw2.trans (hb3.mono hw2.size)
  clear hR2 hV2 hBl2 hw2 hb3
  have p5 : w3.cell? ⟨w.heap.size + 1, 5, none⟩ = some (.int .i64 0) := hV3.cell 5
  have f5 := hV3.frozen 5
  have q7 : w3.cell? ⟨g, 7, none⟩ = some (.slice va x.vals.length vc) := (HCw.out hw3).L.cell 7
  have hg1 : g ≠ w.heap.size + 1 := by omega
  have hg2 : w.heap.size + 1 ≠ g := by omega
  go_wp2_with fail
  have hR4 := hR3.other ⟨w.heap.size + 1, 5, none⟩ (.int .i64 (looseV x.vals + sumE x.ents)) (by simp)
  have hV4 := hV3.set 5 (.int .i64 (looseV x.vals + sumE x.ents))
  have hBl4 := ownsRow_setCell hBl3 ⟨w.heap.size + 1, 5, none⟩ (.int .i64 (looseV x.vals + sumE x.ents)) hne
  have hw4 := hw3.setCell (p := ⟨w.heap.size + 1, 5, none⟩) (by simp) (.int .i64 (looseV x.vals + sumE x.ents))
  clear hR3 hV3 hBl3 hw3 p5 f5 q7
  refine (copyValidators_any _ x.vals.length (vrow x.vals) _ (Hvw.out hw4) (by omega) (vrow_one _)).mono ?_
  rintro e w5 ⟨rfl, rfl⟩
  have hsz := hV4.lt
  have hR5 := hR4.alloc (.cells (vrow x.vals).toArray 122)
  have hV5 := hV4.alloc (.cells (vrow x.vals).toArray 122)
  have hBl5 := hBl4.alloc (.cells (vrow x.vals).toArray 122)
  have hw5 := hw4.alloc hw4.size (.cells (vrow x.vals).toArray 122)
  have hvr5 := ownsRow_base (ownsRow_new _ 122 8 x.vals.length (vrow x.vals) (vrow_length _) (by simp [maxLen]; omega)) hw4.size
  obtain ⟨vvn, hvvn⟩ : ∃ z, z = Value.slice (some ⟨((w3.setCell ⟨w.heap.size + 1, 5, none⟩ (.int .i64 (looseV x.vals + sumE x.ents)))).heap.size, 0, none⟩) x.vals.length x.vals.length := ⟨_, rfl⟩
  have hne5 : vvn.ownBlock ≠ some (w.heap.size + 1) := by rw [hvvn]; simp [Value.ownBlock]; simp at hsz; omega
  rw [← hvvn] at hvr5 ⊢
  generalize ((w3.setCell ⟨w.heap.size + 1, 5, none⟩ (.int .i64 (looseV x.vals + sumE x.ents))).alloc (.cells (vrow x.vals).toArray 122)) = w5 at hR5 hV5 hBl5 hw5 hvr5 ⊢
  clear hR4 hV4 hBl4 hw4 hsz
  have p6 : w5.cell? ⟨w.heap.size + 1, 6, none⟩ = some (.slice none 0 0) := hV5.cell 6
  have f6 := hV5.frozen 6
  obtain ⟨vva, vvc, hvs⟩ := ownsRow_slice hvr5
  clear hvvn
  subst hvs
  go_wp2_with fail
  have hR6 := hR5.other ⟨w.heap.size + 1, 6, none⟩ (.slice vva x.vals.length vvc) (by simp)
  have hV6 := hV5.set 6 (.slice vva x.vals.length vvc)
  have hBl6 := ownsRow_setCell hBl5 ⟨w.heap.size + 1, 6, none⟩ (.slice vva x.vals.length vvc) hne
  have hvr6 := ownsRow_setCell hvr5 ⟨w.heap.size + 1, 6, none⟩ (.slice vva x.vals.length vvc) hne5
  have hw6 := hw5.setCell (p := ⟨w.heap.size + 1, 6, none⟩) (by simp) (.slice vva x.vals.length vvc)
  clear hR5 hV5 hBl5 hvr5 hw5 p6 f6
  refine (kdels g x.bal.length x.vals.length ba va bc vc x.tab _ ((HCw.out hw6).L.cell 4) ((HCw.out hw6).L.cell 7) (fun j hj => ((HCw.out hw6).L.cell (8 + j)).trans (eL_tab _ _ _ _ j (by rw [(HCw.out hw6).ht]; omega))) l1 l2).mono ?_
  rintro e w7 ⟨⟨da, dn, dc, rfl⟩, hb7⟩
  have hR7 := hR6.below hb7 hR6.lt
  have hV7 := hV6.below hb7 hV6.lt
  have hBl7 := ownsRow_below hBl6 hb7 (Nat.le_refl _)
  have hvr7 := ownsRow_below hvr6 hb7 (Nat.le_refl _)
  have hw7 := hw6.trans (hb7.mono hw6.size)
  clear hR6 hV6 hBl6 hvr6 hw6 hb7
  have p7 : w7.cell? ⟨w.heap.size + 1, 7, none⟩ = some (.slice none 0 0) := hV7.cell 7
  have f7 := hV7.frozen 7
  have q38 : w7.cell? ⟨g, 73, none⟩ = some (.slice ea x.ents.length ec) := (HCw.out hw7).evAt
  go_wp2_with fail
  have hR8 := hR7.other ⟨w.heap.size + 1, 7, none⟩ (.slice da dn dc) (by simp)
  have hV8 := hV7.set 7 (.slice da dn dc)
  have hBl8 := ownsRow_setCell hBl7 ⟨w.heap.size + 1, 7, none⟩ (.slice da dn dc) hne
  have hvr8 := ownsRow_setCell hvr7 ⟨w.heap.size + 1, 7, none⟩ (.slice da dn dc) hne5
  have hw8 := hw7.setCell (p := ⟨w.heap.size + 1, 7, none⟩) (by simp) (.slice da dn dc)
  clear hR7 hV7 hBl7 hvr7 hw7 p7 f7 q38
  refine (copyEntries_anyE _ x.ents.length (erow x.ents) _ (Rd.of_owns (HCw.out hw8).e) (by omega) (erow_one _)).mono ?_
  rintro e w9 ⟨rfl, rfl⟩
  have hsz := hV8.lt
  have hR9 := hR8.alloc (.cells (erow x.ents).toArray 125)
  have hV9 := hV8.alloc (.cells (erow x.ents).toArray 125)
  have hBl9 := hBl8.alloc (.cells (erow x.ents).toArray 125)
  have hvr9 := hvr8.alloc (.cells (erow x.ents).toArray 125)
  have hw9 := hw8.alloc hw8.size (.cells (erow x.ents).toArray 125)
  have her9 := ownsRow_base (ownsRow_new _ 125 4 x.ents.length (erow x.ents) (erow_length _) (by simp [maxLen]; omega)) hw8.size
  obtain ⟨een, heen⟩ : ∃ z, z = Value.slice (some ⟨((w7.setCell ⟨w.heap.size + 1, 7, none⟩ (.slice da dn dc))).heap.size, 0, none⟩) x.ents.length x.ents.length := ⟨_, rfl⟩
  have hne9 : een.ownBlock ≠ some (w.heap.size + 1) := by rw [heen]; simp [Value.ownBlock]; simp at hsz; omega
  have hne0 : een.ownBlock ≠ some w.heap.size := by rw [heen]; simp [Value.ownBlock]; simp at hsz; omega
  rw [← heen] at her9 ⊢
  generalize ((w7.setCell ⟨w.heap.size + 1, 7, none⟩ (.slice da dn dc)).alloc (.cells (erow x.ents).toArray 125)) = w9 at hR9 hV9 hBl9 hvr9 hw9 her9 ⊢
  clear hR8 hV8 hBl8 hvr8 hw8 hsz
  have p8 : w9.cell? ⟨w.heap.size + 1, 8, none⟩ = some (.slice none 0 0) := hV9.cell 8
  have f8 := hV9.frozen 8
  obtain ⟨eea, eec, hes⟩ := ownsRow_slice her9
  obtain ⟨bba, bbc, hbs⟩ := ownsRow_slice hBl9
  clear heen hbvv
  subst hes hbs
  have p0 : w9.cell? ⟨w.heap.size + 1, 0, none⟩ = some (.int .i64 x.height) := hV9.cell 0
  have p1 : w9.cell? ⟨w.heap.size + 1, 1, none⟩ = some (.slice bba x.bal.length bbc) := hV9.cell 1
  have p2 : w9.cell? ⟨w.heap.size + 1, 2, none⟩ = some (.int .i64 x.fees) := hV9.cell 2
  have p3 : w9.cell? ⟨w.heap.size + 1, 3, none⟩ = some (.int .i64 x.pool) := hV9.cell 3
  have p4 : w9.cell? ⟨w.heap.size + 1, 4, none⟩ = some (.int .i64 (bondedN x.vals)) := hV9.cell 4
  have p5 : w9.cell? ⟨w.heap.size + 1, 5, none⟩ = some (.int .i64 (looseV x.vals + sumE x.ents)) := hV9.cell 5
  have p6 : w9.cell? ⟨w.heap.size + 1, 6, none⟩ = some (.slice vva x.vals.length vvc) := hV9.cell 6
  have p7 : w9.cell? ⟨w.heap.size + 1, 7, none⟩ = some (.slice da dn dc) := hV9.cell 7
  have r0 : w9.cell? ⟨w.heap.size, 0, none⟩ = some (.int .i64 0) := hR9.cell 0
  have r1 : w9.cell? ⟨w.heap.size, 1, none⟩ = some (.slice none 0 0) := hR9.cell 1
  have r2 : w9.cell? ⟨w.heap.size, 2, none⟩ = some (.int .i64 0) := hR9.cell 2
  have r3 : w9.cell? ⟨w.heap.size, 3, none⟩ = some (.int .i64 0) := hR9.cell 3
  have r4 : w9.cell? ⟨w.heap.size, 4, none⟩ = some (.int .i64 0) := hR9.cell 4
  have r5 : w9.cell? ⟨w.heap.size, 5, none⟩ = some (.int .i64 0) := hR9.cell 5
  have r6 : w9.cell? ⟨w.heap.size, 6, none⟩ = some (.slice none 0 0) := hR9.cell 6
  have r7 : w9.cell? ⟨w.heap.size, 7, none⟩ = some (.slice none 0 0) := hR9.cell 7
  have r8 : w9.cell? ⟨w.heap.size, 8, none⟩ = some (.slice none 0 0) := hR9.cell 8
  have k0 := hR9.frozen 0
  have k1 := hR9.frozen 1
  have k2 := hR9.frozen 2
  have k3 := hR9.frozen 3
  have k4 := hR9.frozen 4
  have k5 := hR9.frozen 5
  have k6 := hR9.frozen 6
  have k7 := hR9.frozen 7
  have k8 := hR9.frozen 8
  go_wp2
  have neB : (Value.slice bba x.bal.length bbc).ownBlock ≠ some w.heap.size := fun h => Has.apart hR9 hBl9 (by decide) h.symm
  have neV : (Value.slice vva x.vals.length vvc).ownBlock ≠ some w.heap.size := fun h => Has.apart hR9 hvr9 (by decide) h.symm
  have zR : Has ((((((((((w9.setCell ⟨w.heap.size + 1, 8, none⟩ (.slice eea x.ents.length eec)).setCell ⟨w.heap.size, 0, none⟩ (.int .i64 x.height)).setCell ⟨w.heap.size, 1, none⟩ (.slice bba x.bal.length bbc)).setCell ⟨w.heap.size, 2, none⟩ (.int .i64 x.fees)).setCell ⟨w.heap.size, 3, none⟩ (.int .i64 x.pool)).setCell ⟨w.heap.size, 4, none⟩ (.int .i64 (bondedN x.vals))).setCell ⟨w.heap.size, 5, none⟩ (.int .i64 (looseV x.vals + sumE x.ents))).setCell ⟨w.heap.size, 6, none⟩ (.slice vva x.vals.length vvc)).setCell ⟨w.heap.size, 7, none⟩ (.slice da dn dc)).setCell ⟨w.heap.size, 8, none⟩ (.slice eea x.ents.length eec)) w.heap.size 89 [.int .i64 x.height, .slice bba x.bal.length bbc, .int .i64 x.fees, .int .i64 x.pool, .int .i64 (bondedN x.vals), .int .i64 (looseV x.vals + sumE x.ents), .slice vva x.vals.length vvc, .slice da dn dc, .slice eea x.ents.length eec] := ((((((((((hR9.other ⟨w.heap.size + 1, 8, none⟩ (.slice eea x.ents.length eec) (by simp)).set 0 (.int .i64 x.height)).set 1 (.slice bba x.bal.length bbc)).set 2 (.int .i64 x.fees)).set 3 (.int .i64 x.pool)).set 4 (.int .i64 (bondedN x.vals))).set 5 (.int .i64 (looseV x.vals + sumE x.ents))).set 6 (.slice vva x.vals.length vvc)).set 7 (.slice da dn dc)).set 8 (.slice eea x.ents.length eec))
  have zb := (ownsRow_setCell (ownsRow_setCell (ownsRow_setCell (ownsRow_setCell (ownsRow_setCell (ownsRow_setCell (ownsRow_setCell (ownsRow_setCell (ownsRow_setCell (ownsRow_setCell hBl9 ⟨w.heap.size + 1, 8, none⟩ (.slice eea x.ents.length eec) hne) ⟨w.heap.size, 0, none⟩ (.int .i64 x.height) neB) ⟨w.heap.size, 1, none⟩ (.slice bba x.bal.length bbc) neB) ⟨w.heap.size, 2, none⟩ (.int .i64 x.fees) neB) ⟨w.heap.size, 3, none⟩ (.int .i64 x.pool) neB) ⟨w.heap.size, 4, none⟩ (.int .i64 (bondedN x.vals)) neB) ⟨w.heap.size, 5, none⟩ (.int .i64 (looseV x.vals + sumE x.ents)) neB) ⟨w.heap.size, 6, none⟩ (.slice vva x.vals.length vvc) neB) ⟨w.heap.size, 7, none⟩ (.slice da dn dc) neB) ⟨w.heap.size, 8, none⟩ (.slice eea x.ents.length eec) neB)
  have zv := (ownsRow_setCell (ownsRow_setCell (ownsRow_setCell (ownsRow_setCell (ownsRow_setCell (ownsRow_setCell (ownsRow_setCell (ownsRow_setCell (ownsRow_setCell (ownsRow_setCell hvr9 ⟨w.heap.size + 1, 8, none⟩ (.slice eea x.ents.length eec) hne5) ⟨w.heap.size, 0, none⟩ (.int .i64 x.height) neV) ⟨w.heap.size, 1, none⟩ (.slice bba x.bal.length bbc) neV) ⟨w.heap.size, 2, none⟩ (.int .i64 x.fees) neV) ⟨w.heap.size, 3, none⟩ (.int .i64 x.pool) neV) ⟨w.heap.size, 4, none⟩ (.int .i64 (bondedN x.vals)) neV) ⟨w.heap.size, 5, none⟩ (.int .i64 (looseV x.vals + sumE x.ents)) neV) ⟨w.heap.size, 6, none⟩ (.slice vva x.vals.length vvc) neV) ⟨w.heap.size, 7, none⟩ (.slice da dn dc) neV) ⟨w.heap.size, 8, none⟩ (.slice eea x.ents.length eec) neV)
  have ze := (ownsRow_setCell (ownsRow_setCell (ownsRow_setCell (ownsRow_setCell (ownsRow_setCell (ownsRow_setCell (ownsRow_setCell (ownsRow_setCell (ownsRow_setCell (ownsRow_setCell her9 ⟨w.heap.size + 1, 8, none⟩ (.slice eea x.ents.length eec) hne9) ⟨w.heap.size, 0, none⟩ (.int .i64 x.height) hne0) ⟨w.heap.size, 1, none⟩ (.slice bba x.bal.length bbc) hne0) ⟨w.heap.size, 2, none⟩ (.int .i64 x.fees) hne0) ⟨w.heap.size, 3, none⟩ (.int .i64 x.pool) hne0) ⟨w.heap.size, 4, none⟩ (.int .i64 (bondedN x.vals)) hne0) ⟨w.heap.size, 5, none⟩ (.int .i64 (looseV x.vals + sumE x.ents)) hne0) ⟨w.heap.size, 6, none⟩ (.slice vva x.vals.length vvc) hne0) ⟨w.heap.size, 7, none⟩ (.slice da dn dc) hne0) ⟨w.heap.size, 8, none⟩ (.slice eea x.ents.length eec) hne0)
  have zw := ((((((((((hw9.setCell (p := ⟨w.heap.size + 1, 8, none⟩) (by simp) (.slice eea x.ents.length eec)).setCell (p := ⟨w.heap.size, 0, none⟩) (Nat.le_refl _) (.int .i64 x.height)).setCell (p := ⟨w.heap.size, 1, none⟩) (Nat.le_refl _) (.slice bba x.bal.length bbc)).setCell (p := ⟨w.heap.size, 2, none⟩) (Nat.le_refl _) (.int .i64 x.fees)).setCell (p := ⟨w.heap.size, 3, none⟩) (Nat.le_refl _) (.int .i64 x.pool)).setCell (p := ⟨w.heap.size, 4, none⟩) (Nat.le_refl _) (.int .i64 (bondedN x.vals))).setCell (p := ⟨w.heap.size, 5, none⟩) (Nat.le_refl _) (.int .i64 (looseV x.vals + sumE x.ents))).setCell (p := ⟨w.heap.size, 6, none⟩) (Nat.le_refl _) (.slice vva x.vals.length vvc)).setCell (p := ⟨w.heap.size, 7, none⟩) (Nat.le_refl _) (.slice da dn dc)).setCell (p := ⟨w.heap.size, 8, none⟩) (Nat.le_refl _) (.slice eea x.ents.length eec))
  generalize ((((((((((w9.setCell ⟨w.heap.size + 1, 8, none⟩ (.slice eea x.ents.length eec)).setCell ⟨w.heap.size, 0, none⟩ (.int .i64 x.height)).setCell ⟨w.heap.size, 1, none⟩ (.slice bba x.bal.length bbc)).setCell ⟨w.heap.size, 2, none⟩ (.int .i64 x.fees)).setCell ⟨w.heap.size, 3, none⟩ (.int .i64 x.pool)).setCell ⟨w.heap.size, 4, none⟩ (.int .i64 (bondedN x.vals))).setCell ⟨w.heap.size, 5, none⟩ (.int .i64 (looseV x.vals + sumE x.ents))).setCell ⟨w.heap.size, 6, none⟩ (.slice vva x.vals.length vvc)).setCell ⟨w.heap.size, 7, none⟩ (.slice da dn dc)).setCell ⟨w.heap.size, 8, none⟩ (.slice eea x.ents.length eec)) = wF at zR zb zv ze zw ⊢
  have z0 : wF.cell? ⟨w.heap.size, 0, none⟩ = some (.int .i64 x.height) := zR.cell 0
  have z1 : wF.cell? ⟨w.heap.size, 1, none⟩ = some (.slice bba x.bal.length bbc) := zR.cell 1
  have z2 : wF.cell? ⟨w.heap.size, 2, none⟩ = some (.int .i64 x.fees) := zR.cell 2
  have z3 : wF.cell? ⟨w.heap.size, 3, none⟩ = some (.int .i64 x.pool) := zR.cell 3
  have z4 : wF.cell? ⟨w.heap.size, 4, none⟩ = some (.int .i64 (bondedN x.vals)) := zR.cell 4
  have z5 : wF.cell? ⟨w.heap.size, 5, none⟩ = some (.int .i64 (looseV x.vals + sumE x.ents)) := zR.cell 5
  have z6 : wF.cell? ⟨w.heap.size, 6, none⟩ = some (.slice vva x.vals.length vvc) := zR.cell 6
  have z7 : wF.cell? ⟨w.heap.size, 7, none⟩ = some (.slice da dn dc) := zR.cell 7
  have z8 : wF.cell? ⟨w.heap.size, 8, none⟩ = some (.slice eea x.ents.length eec) := zR.cell 8
  refine bodyPost_ret (v := .agg #[.int .i64 x.height, .slice bba x.bal.length bbc, .int .i64 x.fees, .int .i64 x.pool, .int .i64 (bondedN x.vals), .int .i64 (looseV x.vals + sumE x.ents), .slice vva x.vals.length vvc, .slice da dn dc, .slice eea x.ents.length eec]) (by simp [results, Tryz.results42, go_sem, z0, z1, z2, z3, z4, z5, z6, z7, z8]) rfl ?_
  exact ⟨_, _, _, _, rfl, zb, zv, ze, ⟨_, _, _, rfl⟩, zw⟩
end Go.Proofs.YtohjjgefklhmaaaGreatDoor
