import Derived.Test.YtenjjneobkodbaaGreatLed
namespace Go.Proofs.YtenjjneobkodbaaGreat
open Go.ChangeShapes Go.WideShapes Go.ChangeAt Go.RowKit
set_option linter.unusedVariables false

theorem LedRd.lt {w : World} {g : Nat} {S : ViewS} (h : LedRd w g S) : g < w.heap.size := by
  obtain ⟨top, mature, fee, bv, vv, dv, ev, ps, hH, _⟩ := h
  exact hH.lt
theorem LedRd.below {w w' : World} {B g : Nat} {S : ViewS} (h : LedRd w g S) (hb : Below B w w') (hB : w.heap.size ≤ B) : LedRd w' g S := by
  obtain ⟨top, mature, fee, bv, vv, dv, ev, ps, hH, h1, h2, h3, h4, h5⟩ := h
  exact ⟨top, mature, fee, bv, vv, dv, ev, ps, hH.below hb (Nat.lt_of_lt_of_le hH.lt hB), h1.below hb hB, h2.below hb hB, h3.below hb hB, h4.below hb hB, h5⟩

set_option maxHeartbeats 4000000 in
set_option maxRecDepth 100000 in
theorem validators_any (ge gl : Nat) (px py hv0 mk v : Value) (S : ViewS) (w : World) (hG : Has w ge 54 [px, py, .pointer (some ⟨gl, 0, none⟩), hv0, mk]) (hR : LedRd w gl S) (hv : Rd w v S.vals.length 8 (vrow S.vals)) (l2 : S.vals.length ≤ 1048576) :
    Calls Tryz.prog 35 #[.pointer (some ⟨ge, 0, none⟩), v] w fun e w' => e = .returned (.bool true) ∧ Below w.heap.size w w' := by
  obtain ⟨height, bal, fees, pool, bonded, loose, vals, dels, ents⟩ := S
  have hR' := hR
  obtain ⟨top, mature, fee, bv, vv, dv, ev, ps, hH, hb, hw, hd, he, hp⟩ := hR
  simp only at hH hb hv hd he hw l2
  obtain ⟨va, vc, rfl⟩ := hv.form
  obtain ⟨ua, uc, rfl⟩ := hw.form
  have c2 := hG.cell 2
  have c7 := hH.cell 7
  simp only [List.getElem?_cons_succ, List.getElem?_cons_zero] at c7 c2
  clear hb hd he hR' hp
  go_enter Tryz.func35, Tryz.ntmps35
  go_wp2
  go_loopw [5, 6] (fun ok i wr => ∃ k : Nat, k ≤ vals.length ∧ i = .int .i64 k ∧ ok = .bool true ∧ Below w.heap.size w wr) (fun _ i _ => vals.length - (intOf i).toNat)
  case atStart => exact ⟨0, Nat.zero_le _, rfl, rfl, Below.refl _ _⟩
  case round =>
    obtain ⟨k, hk, rfl, rfl, hbw⟩ := hrel
    have hG2 := hG.below hbw hG.lt
    have hH2 := hH.below hbw hH.lt
    have d2 := hG2.cell 2
    have d7 := hH2.cell 7
    simp only [List.getElem?_cons_succ, List.getElem?_cons_zero] at d7 d2
    have g1 := hG2.lt
    have g2 := hH2.lt
    have g3 : ge < wr.heap.size + 1 := by omega
    have g4 : gl < wr.heap.size + 1 := by omega
    by_cases hlt : k < vals.length
    · obtain ⟨gv, rfl, hc⟩ := (hv.below hbw (Nat.le_refl _)).get (by omega)
      obtain ⟨gu, rfl, hd⟩ := (hw.below hbw (Nat.le_refl _)).get (by omega)
      have x0 := hc _ _ (vrow_at vals k hlt 0 (by omega))
      have x1 := hc _ _ (vrow_at vals k hlt 1 (by omega))
      have x2 := hc _ _ (vrow_at vals k hlt 2 (by omega))
      have x3 := hc _ _ (vrow_at vals k hlt 3 (by omega))
      have x4 := hc _ _ (vrow_at vals k hlt 4 (by omega))
      have x5 := hc _ _ (vrow_at vals k hlt 5 (by omega))
      have x6 := hc _ _ (vrow_at vals k hlt 6 (by omega))
      have x7 := hc _ _ (vrow_at vals k hlt 7 (by omega))
      have y0 := hd _ _ (vrow_at vals k hlt 0 (by omega))
      have y1 := hd _ _ (vrow_at vals k hlt 1 (by omega))
      have y2 := hd _ _ (vrow_at vals k hlt 2 (by omega))
      have y3 := hd _ _ (vrow_at vals k hlt 3 (by omega))
      have y4 := hd _ _ (vrow_at vals k hlt 4 (by omega))
      have y5 := hd _ _ (vrow_at vals k hlt 5 (by omega))
      have y6 := hd _ _ (vrow_at vals k hlt 6 (by omega))
      have y7 := hd _ _ (vrow_at vals k hlt 7 (by omega))
      simp only [Nat.add_zero] at x0 y0
      have g5 : gu < wr.heap.size := World.block_lt_of_cell? wr _ y0
      have g6 : gv < wr.heap.size := World.block_lt_of_cell? wr _ x0
      generalize vals[k] = x at *
      clear hc hd hv hw hG hH hG2 hH2 c2 c7
      have g7 : gu < wr.heap.size + 1 := by omega
      go_wp2
      go_roundw
      case rel => first | exact ⟨k + 1, by omega, by go_num, by simp, (hbw.alloc hbw.size _).alloc (Nat.le_trans hbw.size (by simp)) _⟩ | ((repeat apply Exists.intro); exact ⟨⟨k + 1, by omega, by go_num, by simp, (hbw.alloc hbw.size _).alloc (Nat.le_trans hbw.size (by simp)) _⟩, rfl⟩)
      case measure => simp [intOf]; omega
    · go_wp2
      go_ret
      exact ⟨rfl, hbw⟩
end Go.Proofs.YtenjjneobkodbaaGreat
