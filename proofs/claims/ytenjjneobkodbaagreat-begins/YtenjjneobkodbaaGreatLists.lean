import Derived.Test.YtenjjneobkodbaaGreatCmp
namespace Go.Proofs.YtenjjneobkodbaaGreat
open Go.ChangeShapes Go.WideShapes Go.ChangeAt Go.RowKit
set_option linter.unusedVariables false

theorem dprow_at (l : List DS) (ps : List Value) (hl : (dprow l ps).length = l.length * 4) (k : Nat) (h : k < l.length) (i : Nat) (hi : i < 3) : (dprow l ps)[k * 4 + i]? = l[k].cells[i]? := by
  induction l generalizing k ps with
  | nil => simp at h
  | cons v l ih =>
    cases ps with
    | nil => simp [dprow] at hl
    | cons p ps =>
      have hl' : (dprow l ps).length = l.length * 4 := by simp [dprow, DS.cells] at hl; omega
      cases k with
      | zero => simp [dprow, List.getElem?_append_left (show i < v.cells.length by simpa [DS.cells] using hi)]
      | succ k =>
        rw [dprow, List.getElem?_append_right (by simp [DS.cells]; omega)]
        have e : (k + 1) * 4 + i - v.cells.length = (k * 4 + i) + 1 := by simp [DS.cells]; omega
        rw [e, List.getElem?_cons_succ, ih ps hl' k (by simpa using h)]
        simp

set_option maxHeartbeats 4000000 in
set_option maxRecDepth 100000 in
theorem lists_any (ge gl : Nat) (px py hv0 mk : Value) (h0 f0 p0 bo lo xv bv' dv' ev' : Value) (S : ViewS) (w : World) (hG : Has w ge 54 [px, py, .pointer (some ⟨gl, 0, none⟩), hv0, mk]) (hR : LedRd w gl S)
    (hvb : Rd w bv' S.bal.length 1 (ints S.bal)) (hvd : Rd w dv' S.dels.length 3 (drow S.dels)) (hve : Rd w ev' S.ents.length 4 (erow S.ents)) (l1 : S.bal.length ≤ 1048576) (l2 : S.dels.length ≤ 1048576) (l3 : S.ents.length ≤ 1048576) :
    Calls Tryz.prog 36 #[.pointer (some ⟨ge, 0, none⟩), .agg #[h0, bv', f0, p0, bo, lo, xv, dv', ev']] w fun e w' => e = .returned (.bool true) ∧ Below w.heap.size w w' := by
  obtain ⟨height, bal, fees, pool, bonded, loose, vals, dels, ents⟩ := S
  obtain ⟨top, mature, fee, bv, vv, dv, ev, ps, hH, hb, hw, hd, he, hp0⟩ := hR
  have HP : Hid (∀ (k : Nat) p, (dprow dels ps)[k * 4 + 3]? = some p → ∃ a n c, p = .slice a n c) := hp0
  clear hp0
  simp only at hH hb hvb hd hvd he hve hw l1 l2 l3
  obtain ⟨ba', bc', rfl⟩ := hvb.form
  obtain ⟨da', dc', rfl⟩ := hvd.form
  obtain ⟨ea', ec', rfl⟩ := hve.form
  obtain ⟨ba, bc, rfl⟩ := hb.form
  obtain ⟨da, dc, rfl⟩ := hd.form
  obtain ⟨ea, ec, rfl⟩ := he.form
  have c2 := hG.cell 2
  have c4 := hH.cell 4
  have c8 := hH.cell 8
  have c9 := hH.cell 9
  simp only [List.getElem?_cons_succ, List.getElem?_cons_zero] at c4 c2 c8 c9
  have g1 := hG.lt
  have g2 := hH.lt
  clear hw
  go_enter Tryz.func36, Tryz.ntmps36
  go_wp2_with fail
  go_quiet (fail)
  go_wp2
  have hBox : Has ((w.alloc (.cells #[h0, .slice ba' bal.length bc', f0, p0, bo, lo, xv, .slice da' dels.length dc', .slice ea' ents.length ec'] 83)).drewN nq) w.heap.size 83 [h0, .slice ba' bal.length bc', f0, p0, bo, lo, xv, .slice da' dels.length dc', .slice ea' ents.length ec'] := Has.newA w _ _
  have hB0 : Below w.heap.size w ((w.alloc (.cells #[h0, .slice ba' bal.length bc', f0, p0, bo, lo, xv, .slice da' dels.length dc', .slice ea' ents.length ec'] 83)).drewN nq) := below_drewN ((Below.refl _ _).alloc (Nat.le_refl _) _) nq
  have HBox : Hid (Has ((w.alloc (.cells #[h0, .slice ba' bal.length bc', f0, p0, bo, lo, xv, .slice da' dels.length dc', .slice ea' ents.length ec'] 83)).drewN nq) w.heap.size 83 [h0, .slice ba' bal.length bc', f0, p0, bo, lo, xv, .slice da' dels.length dc', .slice ea' ents.length ec']) := hBox
  clear hBox
  go_loopw [5, 6] (fun ok i wr => ∃ k : Nat, k ≤ bal.length ∧ i = .int .i64 k ∧ ok = .bool true ∧ Below w.heap.size w wr ∧ Has wr w.heap.size 83 [h0, .slice ba' bal.length bc', f0, p0, bo, lo, xv, .slice da' dels.length dc', .slice ea' ents.length ec']) (fun _ i _ => bal.length - (intOf i).toNat)
  case atStart => exact ⟨0, Nat.zero_le _, rfl, rfl, hB0, HBox.out⟩
  case round =>
    obtain ⟨k, hk, rfl, rfl, hbw, hX⟩ := hrel
    have d2 := (hG.below hbw hG.lt).cell 2
    have d4 := (hH.below hbw hH.lt).cell 4
    have e1 := hX.cell 1
    simp only [List.getElem?_cons_succ, List.getElem?_cons_zero] at d2 d4 e1
    by_cases hlt : k < bal.length
    · obtain ⟨gv, rfl, hc⟩ := (hvb.below hbw (Nat.le_refl _)).get (by omega)
      obtain ⟨gu, rfl, hc2⟩ := (hb.below hbw (Nat.le_refl _)).get (by omega)
      have x0 := hc k (.int .i64 bal[k]) (by simp [ints, hlt])
      have y0 := hc2 k (.int .i64 bal[k]) (by simp [ints, hlt])
      generalize bal[k] = x at *
      clear hc hc2 hvb hb hvd hd hve he hG hH c2 c4 c8 c9 hB0
      go_wp2_with fail
      go_quiet (fail)
      go_wp2
      go_roundw
      case rel => first | exact ⟨k + 1, by omega, by go_num, by simp, below_drewN hbw nq, hX⟩ | ((repeat apply Exists.intro); exact ⟨⟨k + 1, by omega, by go_num, by simp, below_drewN hbw nq, hX⟩, rfl⟩)
      case measure => simp [intOf]; omega
    · clear hvb hb hB0 HBox
      have e7 := hX.cell 7
      simp only [List.getElem?_cons_succ, List.getElem?_cons_zero] at e7
      go_wp2
      have hlts : w.heap.size < wr.heap.size := hX.lt
      obtain ⟨wo, hwo⟩ : ∃ wo : World, wo = wr := ⟨_, rfl⟩
      rw [← hwo] at hbw hX
      clear d2 d4 e1 e7 hlts
      subst hwo
      go_loopw [5, 7] (fun ok i wr => ∃ k2 : Nat, k2 ≤ dels.length ∧ i = .int .i64 k2 ∧ ok = .bool true ∧ Below w.heap.size w wr ∧ Has wr w.heap.size 83 [h0, .slice ba' bal.length bc', f0, p0, bo, lo, xv, .slice da' dels.length dc', .slice ea' ents.length ec']) (fun _ i _ => dels.length - (intOf i).toNat)
      case atStart => exact ⟨0, Nat.zero_le _, rfl, rfl, hbw, hX⟩
      case round =>
        clear hX hbw
        obtain ⟨k2, hk2, rfl, rfl, hbw, hX⟩ := hrel
        have d2 := (hG.below hbw hG.lt).cell 2
        have d8 := (hH.below hbw hH.lt).cell 8
        have e7 := hX.cell 7
        simp only [List.getElem?_cons_succ, List.getElem?_cons_zero] at d2 d8 e7
        have g3 := (hG.below hbw hG.lt).lt
        have g4 := (hH.below hbw hH.lt).lt
        have g5 : ge < wr.heap.size + 1 := by omega
        have g6 : gl < wr.heap.size + 1 := by omega
        have g7 := hX.lt
        have g8 : w.heap.size < wr.heap.size + 1 := by omega
        by_cases hlt2 : k2 < dels.length
        · obtain ⟨gv, rfl, hc⟩ := (hvd.below hbw (Nat.le_refl _)).get (by omega)
          obtain ⟨gu, rfl, hc2⟩ := (hd.below hbw (Nat.le_refl _)).get (by omega)
          have x0 := hc _ _ (drow_at dels k2 hlt2 0 (by omega))
          have x1 := hc _ _ (drow_at dels k2 hlt2 1 (by omega))
          have x2 := hc _ _ (drow_at dels k2 hlt2 2 (by omega))
          have y0 := hc2 _ _ (dprow_at dels ps hd.1 k2 hlt2 0 (by omega))
          have y1 := hc2 _ _ (dprow_at dels ps hd.1 k2 hlt2 1 (by omega))
          have y2 := hc2 _ _ (dprow_at dels ps hd.1 k2 hlt2 2 (by omega))
          obtain ⟨p3, hp3⟩ : ∃ p3, (dprow dels ps)[k2 * 4 + 3]? = some p3 := ⟨_, List.getElem?_eq_getElem (by rw [hd.1]; omega)⟩
          have y3 := hc2 _ _ hp3
          obtain ⟨pa, pn, pc, rfl⟩ := HP.out k2 p3 hp3
          clear hp3
          simp only [Nat.add_zero] at x0 y0
          have g9 : gv < wr.heap.size := World.block_lt_of_cell? wr _ x0
          have g10 : gu < wr.heap.size := World.block_lt_of_cell? wr _ y0
          have g11 : gu < wr.heap.size + 1 := by omega
          generalize dels[k2] = x at *
          clear hc hc2 hvd hd hve he hG hH c2 c4 c8 c9
          go_wp2
          go_roundw
          case rel => first | exact ⟨k2 + 1, by omega, by go_num, by simp, (hbw.alloc hbw.size _).alloc (Nat.le_trans hbw.size (by simp)) _, (hX.alloc _).alloc _⟩ | ((repeat apply Exists.intro); exact ⟨⟨k2 + 1, by omega, by go_num, by simp, (hbw.alloc hbw.size _).alloc (Nat.le_trans hbw.size (by simp)) _, (hX.alloc _).alloc _⟩, rfl⟩)
          case measure => simp [intOf]; omega
        · clear hvd hd
          have e8 := hX.cell 8
          simp only [List.getElem?_cons_succ, List.getElem?_cons_zero] at e8
          go_wp2
          obtain ⟨wo2, hwo⟩ : ∃ wo2 : World, wo2 = wr := ⟨_, rfl⟩
          rw [← hwo] at hbw hX
          clear d2 d8 e7 e8 g3 g4 g5 g6 g7 g8
          subst hwo
          go_loopw [5, 10] (fun ok i wr => ∃ k3 : Nat, k3 ≤ ents.length ∧ i = .int .i64 k3 ∧ ok = .bool true ∧ Below w.heap.size w wr ∧ Has wr w.heap.size 83 [h0, .slice ba' bal.length bc', f0, p0, bo, lo, xv, .slice da' dels.length dc', .slice ea' ents.length ec']) (fun _ i _ => ents.length - (intOf i).toNat)
          case atStart => exact ⟨0, Nat.zero_le _, rfl, rfl, hbw, hX⟩
          case round =>
            clear hX hbw
            obtain ⟨k3, hk3, rfl, rfl, hbw, hX⟩ := hrel
            have d2 := (hG.below hbw hG.lt).cell 2
            have d9 := (hH.below hbw hH.lt).cell 9
            have e8 := hX.cell 8
            simp only [List.getElem?_cons_succ, List.getElem?_cons_zero] at d2 d9 e8
            have g3 := (hG.below hbw hG.lt).lt
            have g4 := (hH.below hbw hH.lt).lt
            have g5 : ge < wr.heap.size + 1 := by omega
            have g6 : gl < wr.heap.size + 1 := by omega
            have g7 := hX.lt
            have g8 : w.heap.size < wr.heap.size + 1 := by omega
            by_cases hlt3 : k3 < ents.length
            · obtain ⟨gv, rfl, hc⟩ := (hve.below hbw (Nat.le_refl _)).get (by omega)
              obtain ⟨gu, rfl, hc2⟩ := (he.below hbw (Nat.le_refl _)).get (by omega)
              have x0 := hc _ _ (erow_at ents k3 hlt3 0 (by omega))
              have x1 := hc _ _ (erow_at ents k3 hlt3 1 (by omega))
              have x2 := hc _ _ (erow_at ents k3 hlt3 2 (by omega))
              have x3 := hc _ _ (erow_at ents k3 hlt3 3 (by omega))
              have y0 := hc2 _ _ (erow_at ents k3 hlt3 0 (by omega))
              have y1 := hc2 _ _ (erow_at ents k3 hlt3 1 (by omega))
              have y2 := hc2 _ _ (erow_at ents k3 hlt3 2 (by omega))
              have y3 := hc2 _ _ (erow_at ents k3 hlt3 3 (by omega))
              simp only [Nat.add_zero] at x0 y0
              have g9 : gv < wr.heap.size := World.block_lt_of_cell? wr _ x0
              have g10 : gu < wr.heap.size := World.block_lt_of_cell? wr _ y0
              have g11 : gu < wr.heap.size + 1 := by omega
              generalize ents[k3] = x at *
              clear hc hc2 hve he hG hH c2 c4 c8 c9
              go_wp2
              go_roundw
              case rel => first | exact ⟨k3 + 1, by omega, by go_num, by simp, (hbw.alloc hbw.size _).alloc (Nat.le_trans hbw.size (by simp)) _, (hX.alloc _).alloc _⟩ | ((repeat apply Exists.intro); exact ⟨⟨k3 + 1, by omega, by go_num, by simp, (hbw.alloc hbw.size _).alloc (Nat.le_trans hbw.size (by simp)) _, (hX.alloc _).alloc _⟩, rfl⟩)
              case measure => simp [intOf]; omega
            · go_wp2
              go_ret
              exact ⟨rfl, hbw⟩
end Go.Proofs.YtenjjneobkodbaaGreat
