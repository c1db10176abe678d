import Derived.Test.YtenjjneobkodbaaGreatLists
namespace Go.Proofs.YtenjjneobkodbaaGreat
open Go.ChangeShapes Go.WideShapes Go.ChangeAt Go.RowKit
set_option linter.unusedVariables false

/-- the mark of the i-th of n cells -/
def atN (mk bh i n : Int) : Int := if 0 < bh ∧ n - 2 ≤ i then bh + i - (n - 2) else mk + i

set_option maxHeartbeats 1000000 in
set_option maxRecDepth 100000 in
theorem at_any (b v d e : Value) (mk bh i n : Int) (w : World) (m1 : 0 ≤ mk) (m2 : mk ≤ 1000000000000) (b1 : 0 ≤ bh) (b2 : bh ≤ 1000000000000) (i1 : 0 ≤ i) (i2 : i ≤ 1048576) (n1 : 0 ≤ n) (n2 : n ≤ 1048580) :
    Calls Tryz.prog 75 #[.agg #[b, v, d, e, .int .i64 mk, .int .i64 bh], .int .i64 i, .int .i64 n] w fun e w' => e = .returned (.int .i64 (atN mk bh i n)) ∧ Below w.heap.size w w' := by
  by_cases h : 0 < bh
  · by_cases h2 : n - 2 ≤ i
    · have HA : Hid (atN mk bh i n = bh + i - (n - 2)) := by unfold atN; exact if_pos ⟨h, h2⟩
      go_enter Tryz.func75, Tryz.ntmps75
      go_wp2
      go_ret
      rw [HA.out]
      exact ⟨rfl, (Below.refl _ _).alloc (Nat.le_refl _) _⟩
    · have HA : Hid (atN mk bh i n = mk + i) := by unfold atN; exact if_neg (fun h => h2 h.2)
      go_enter Tryz.func75, Tryz.ntmps75
      go_wp2
      go_ret
      rw [HA.out]
      exact ⟨rfl, (Below.refl _ _).alloc (Nat.le_refl _) _⟩
  · have HA : Hid (atN mk bh i n = mk + i) := by unfold atN; exact if_neg (fun h' => h h'.1)
    go_enter Tryz.func75, Tryz.ntmps75
    go_wp2
    go_ret
    rw [HA.out]
    exact ⟨rfl, (Below.refl _ _).alloc (Nat.le_refl _) _⟩

/-- a list that was handed out still has its marks: elements of sz cells, the first and the o-th are looked at -/
def MS (w : World) (v : Value) (n sz o : Nat) (mk bh : Int) : Prop :=
  n ≤ 1048576 ∧ ∃ a cap, v = .slice a n cap ∧ (0 < n → ∃ g, a = some ⟨g, 0, none⟩ ∧ ∀ j, j < n → w.cell? ⟨g, j * sz, none⟩ = some (.int .i64 (atN mk bh j n)) ∧ w.cell? ⟨g, j * sz + o, none⟩ = some (.int .i64 (atN mk bh j n)))
theorem MS.form {w : World} {v : Value} {n sz o : Nat} {mk bh : Int} (h : MS w v n sz o mk bh) : ∃ a cap, v = .slice a n cap := by
  obtain ⟨_, a', c', he, hx⟩ := h
  exact ⟨a', c', he⟩
theorem MS.get {w : World} {a : Option Addr} {n cap sz o : Nat} {mk bh : Int} (h : MS w (.slice a n cap) n sz o mk bh) (h0 : 0 < n) : ∃ g, a = some ⟨g, 0, none⟩ ∧ ∀ j, j < n → w.cell? ⟨g, j * sz, none⟩ = some (.int .i64 (atN mk bh j n)) ∧ w.cell? ⟨g, j * sz + o, none⟩ = some (.int .i64 (atN mk bh j n)) := by
  obtain ⟨_, a', c', he, hx⟩ := h
  simp only [Value.slice.injEq, true_and] at he
  obtain ⟨rfl, rfl⟩ := he
  exact hx h0
theorem MS.kp {S : Nat → Prop} {w w' : World} {v : Value} {n sz o : Nat} {mk bh : Int} (h : MS w v n sz o mk bh) (k : Kp S w w') (ho : IntSl.off v S) : MS w' v n sz o mk bh := by
  obtain ⟨hn, a, cap, rfl, hx⟩ := h
  refine ⟨hn, a, cap, rfl, fun h0 => ?_⟩
  obtain ⟨g, rfl, hc⟩ := hx h0
  exact ⟨g, rfl, fun j hj => ⟨k.cell (hc j hj).1 (ho ⟨g, 0, none⟩ _ _ rfl), k.cell (hc j hj).2 (ho ⟨g, 0, none⟩ _ _ rfl)⟩⟩
theorem MS.below {w w' : World} {B : Nat} {v : Value} {n sz o : Nat} {mk bh : Int} (h : MS w v n sz o mk bh) (hb : Below B w w') (hB : w.heap.size ≤ B) : MS w' v n sz o mk bh := by
  obtain ⟨hn, a, cap, rfl, hx⟩ := h
  refine ⟨hn, a, cap, rfl, fun h0 => ?_⟩
  obtain ⟨g, rfl, hc⟩ := hx h0
  refine ⟨g, rfl, fun j hj => ⟨?_, ?_⟩⟩
  · have h1 := (hc j hj).1
    rw [hb.cell (p := ⟨g, j * sz, none⟩) (Nat.lt_of_lt_of_le (World.block_lt_of_cell? w _ h1) hB)]
    exact h1
  · have h1 := (hc j hj).2
    rw [hb.cell (p := ⟨g, j * sz + o, none⟩) (Nat.lt_of_lt_of_le (World.block_lt_of_cell? w _ h1) hB)]
    exact h1

/-- a view that was handed out, with its marks -/
def VOk (w : World) (b v d e : Value) (mk bh : Int) : Prop :=
  0 ≤ mk ∧ mk ≤ 1000000000000 ∧ 0 ≤ bh ∧ bh ≤ 1000000000000 ∧ ∃ n1 n2 n3 n4, MS w b n1 1 0 mk bh ∧ MS w v n2 8 2 mk bh ∧ MS w d n3 3 2 mk bh ∧ MS w e n4 4 3 mk bh

set_option maxHeartbeats 4000000 in
set_option maxRecDepth 100000 in
theorem unchanged_any (b v d e : Value) (mk bh : Int) (w : World) (hV : VOk w b v d e mk bh) :
    Calls Tryz.prog 40 #[.agg #[b, v, d, e, .int .i64 mk, .int .i64 bh]] w fun e w' => e = .returned (.bool true) ∧ Below w.heap.size w w' := by
  obtain ⟨m1, m2, b1, b2, n1, n2, n3, n4, hb, hv, hd, he⟩ := hV
  obtain ⟨ba, bc, rfl⟩ := hb.form
  obtain ⟨va, vc, rfl⟩ := hv.form
  obtain ⟨da, dc, rfl⟩ := hd.form
  obtain ⟨ea, ec, rfl⟩ := he.form
  have l1 := hb.1
  have l2 := hv.1
  have l3 := hd.1
  have l4 := he.1
  go_enter Tryz.func40, Tryz.ntmps40
  go_wp2
  have hBox : Has (w.alloc (.cells #[.slice ba n1 bc, .slice va n2 vc, .slice da n3 dc, .slice ea n4 ec, .int .i64 mk, .int .i64 bh] 90)) w.heap.size 90 [.slice ba n1 bc, .slice va n2 vc, .slice da n3 dc, .slice ea n4 ec, .int .i64 mk, .int .i64 bh] := Has.newA w _ _
  have hB0 : Below w.heap.size w (w.alloc (.cells #[.slice ba n1 bc, .slice va n2 vc, .slice da n3 dc, .slice ea n4 ec, .int .i64 mk, .int .i64 bh] 90)) := (Below.refl _ _).alloc (Nat.le_refl _) _
  have HBox : Hid (Has (w.alloc (.cells #[.slice ba n1 bc, .slice va n2 vc, .slice da n3 dc, .slice ea n4 ec, .int .i64 mk, .int .i64 bh] 90)) w.heap.size 90 [.slice ba n1 bc, .slice va n2 vc, .slice da n3 dc, .slice ea n4 ec, .int .i64 mk, .int .i64 bh]) := hBox
  clear hBox
  go_loopw [3, 4] (fun ok i wr => ∃ k1 : Nat, k1 ≤ n1 ∧ i = .int .i64 k1 ∧ ok = .bool true ∧ Below w.heap.size w wr ∧ Has wr w.heap.size 90 [.slice ba n1 bc, .slice va n2 vc, .slice da n3 dc, .slice ea n4 ec, .int .i64 mk, .int .i64 bh]) (fun _ i _ => n1 - (intOf i).toNat)
  case atStart => exact ⟨0, Nat.zero_le _, rfl, rfl, hB0, HBox.out⟩
  case round =>
    clear hB0 HBox
    obtain ⟨k1, hk0, rfl, rfl, hbw, hX⟩ := hrel
    have f0 := hX.cell 0
    have f1 := hX.cell 1
    have f2 := hX.cell 2
    have f3 := hX.cell 3
    have f4 := hX.cell 4
    have f5 := hX.cell 5
    simp only [List.getElem?_cons_succ, List.getElem?_cons_zero] at f0 f1 f2 f3 f4 f5
    by_cases hlt0 : k1 < n1
    · obtain ⟨gv, rfl, hc⟩ := (hb.below hbw (Nat.le_refl _)).get (by omega)
      have x0 := (hc k1 hlt0).1
      simp only [Nat.mul_one] at x0
      clear hc hb hv hd he
      go_wp2_with fail
      refine (at_any _ _ _ _ mk bh k1 n1 _ m1 m2 b1 b2 (by omega) (by omega) (by omega) (by omega)).mono ?_
      rintro e2 w2 ⟨rfl, hb2⟩
      have hX2 := hX.below hb2 hX.lt
      have f' := hX2.cell 0
      simp only [List.getElem?_cons_zero] at f'
      have x0' : w2.cell? ⟨gv, k1, none⟩ = some (.int .i64 (atN mk bh k1 n1)) := (hb2.cell (p := ⟨gv, k1, none⟩) (World.block_lt_of_cell? wr _ x0)).trans x0
      have HW2 : Hid (Below w.heap.size w w2) := hbw.trans (hb2.mono hbw.size)
      clear f0 f1 f2 f3 f4 f5 x0
      go_wp2
      refine And.intro ?_ ?_
      · first | exact ⟨k1 + 1, by omega, by go_num, by simp, HW2.out, hX2⟩ | ((repeat apply Exists.intro); exact ⟨⟨k1 + 1, by omega, by go_num, by simp, HW2.out, hX2⟩, rfl⟩)
      · simp [intOf]; omega
    · clear hb
      go_wp2
      clear f0 f1 f2 f3 f4 f5
      obtain ⟨wo0, hwo⟩ : ∃ wo : World, wo = wr := ⟨_, rfl⟩
      rw [← hwo] at hbw hX
      subst hwo
      go_loopw [3, 6] (fun ok i wr => ∃ k2 : Nat, k2 ≤ n2 ∧ i = .int .i64 k2 ∧ ok = .bool true ∧ Below w.heap.size w wr ∧ Has wr w.heap.size 90 [.slice ba n1 bc, .slice va n2 vc, .slice da n3 dc, .slice ea n4 ec, .int .i64 mk, .int .i64 bh]) (fun _ i _ => n2 - (intOf i).toNat)
      case atStart => exact ⟨0, Nat.zero_le _, rfl, rfl, hbw, hX⟩
      case round =>
        clear hX hbw
        obtain ⟨k2, hk1, rfl, rfl, hbw, hX⟩ := hrel
        have f0 := hX.cell 0
        have f1 := hX.cell 1
        have f2 := hX.cell 2
        have f3 := hX.cell 3
        have f4 := hX.cell 4
        have f5 := hX.cell 5
        simp only [List.getElem?_cons_succ, List.getElem?_cons_zero] at f0 f1 f2 f3 f4 f5
        by_cases hlt1 : k2 < n2
        · obtain ⟨gv, rfl, hc⟩ := (hv.below hbw (Nat.le_refl _)).get (by omega)
          have x0 := (hc k2 hlt1).1
          have x1 := (hc k2 hlt1).2
          clear hc hv hd he
          go_wp2_with fail
          refine (at_any _ _ _ _ mk bh k2 n2 _ m1 m2 b1 b2 (by omega) (by omega) (by omega) (by omega)).mono ?_
          rintro e2 w2 ⟨rfl, hb2⟩
          have hX2 := hX.below hb2 hX.lt
          have f' := hX2.cell 1
          simp only [List.getElem?_cons_succ, List.getElem?_cons_zero] at f'
          have x0' : w2.cell? ⟨gv, k2 * 8, none⟩ = some (.int .i64 (atN mk bh k2 n2)) := (hb2.cell (p := ⟨gv, k2 * 8, none⟩) (World.block_lt_of_cell? wr _ x0)).trans x0
          have x1' : w2.cell? ⟨gv, k2 * 8 + 2, none⟩ = some (.int .i64 (atN mk bh k2 n2)) := (hb2.cell (p := ⟨gv, k2 * 8 + 2, none⟩) (World.block_lt_of_cell? wr _ x1)).trans x1
          have HW2 : Hid (Below w.heap.size w w2) := hbw.trans (hb2.mono hbw.size)
          clear f0 f1 f2 f3 f4 f5 x0 x1
          go_wp2
          refine And.intro ?_ ?_
          · first | exact ⟨k2 + 1, by omega, by go_num, by simp, HW2.out, hX2⟩ | ((repeat apply Exists.intro); exact ⟨⟨k2 + 1, by omega, by go_num, by simp, HW2.out, hX2⟩, rfl⟩)
          · simp [intOf]; omega
        · clear hv
          go_wp2
          clear f0 f1 f2 f3 f4 f5
          obtain ⟨wo1, hwo⟩ : ∃ wo : World, wo = wr := ⟨_, rfl⟩
          rw [← hwo] at hbw hX
          subst hwo
          go_loopw [3, 8] (fun ok i wr => ∃ k3 : Nat, k3 ≤ n3 ∧ i = .int .i64 k3 ∧ ok = .bool true ∧ Below w.heap.size w wr ∧ Has wr w.heap.size 90 [.slice ba n1 bc, .slice va n2 vc, .slice da n3 dc, .slice ea n4 ec, .int .i64 mk, .int .i64 bh]) (fun _ i _ => n3 - (intOf i).toNat)
          case atStart => exact ⟨0, Nat.zero_le _, rfl, rfl, hbw, hX⟩
          case round =>
            clear hX hbw
            obtain ⟨k3, hk2, rfl, rfl, hbw, hX⟩ := hrel
            have f0 := hX.cell 0
            have f1 := hX.cell 1
            have f2 := hX.cell 2
            have f3 := hX.cell 3
            have f4 := hX.cell 4
            have f5 := hX.cell 5
            simp only [List.getElem?_cons_succ, List.getElem?_cons_zero] at f0 f1 f2 f3 f4 f5
            by_cases hlt2 : k3 < n3
            · obtain ⟨gv, rfl, hc⟩ := (hd.below hbw (Nat.le_refl _)).get (by omega)
              have x0 := (hc k3 hlt2).1
              have x1 := (hc k3 hlt2).2
              clear hc hd he
              go_wp2_with fail
              refine (at_any _ _ _ _ mk bh k3 n3 _ m1 m2 b1 b2 (by omega) (by omega) (by omega) (by omega)).mono ?_
              rintro e2 w2 ⟨rfl, hb2⟩
              have hX2 := hX.below hb2 hX.lt
              have f' := hX2.cell 2
              simp only [List.getElem?_cons_succ, List.getElem?_cons_zero] at f'
              have x0' : w2.cell? ⟨gv, k3 * 3, none⟩ = some (.int .i64 (atN mk bh k3 n3)) := (hb2.cell (p := ⟨gv, k3 * 3, none⟩) (World.block_lt_of_cell? wr _ x0)).trans x0
              have x1' : w2.cell? ⟨gv, k3 * 3 + 2, none⟩ = some (.int .i64 (atN mk bh k3 n3)) := (hb2.cell (p := ⟨gv, k3 * 3 + 2, none⟩) (World.block_lt_of_cell? wr _ x1)).trans x1
              have HW2 : Hid (Below w.heap.size w w2) := hbw.trans (hb2.mono hbw.size)
              clear f0 f1 f2 f3 f4 f5 x0 x1
              go_wp2
              refine And.intro ?_ ?_
              · first | exact ⟨k3 + 1, by omega, by go_num, by simp, HW2.out, hX2⟩ | ((repeat apply Exists.intro); exact ⟨⟨k3 + 1, by omega, by go_num, by simp, HW2.out, hX2⟩, rfl⟩)
              · simp [intOf]; omega
            · clear hd
              go_wp2
              clear f0 f1 f2 f3 f4 f5
              obtain ⟨wo2, hwo⟩ : ∃ wo : World, wo = wr := ⟨_, rfl⟩
              rw [← hwo] at hbw hX
              subst hwo
              go_loopw [3, 10] (fun ok i wr => ∃ k4 : Nat, k4 ≤ n4 ∧ i = .int .i64 k4 ∧ ok = .bool true ∧ Below w.heap.size w wr ∧ Has wr w.heap.size 90 [.slice ba n1 bc, .slice va n2 vc, .slice da n3 dc, .slice ea n4 ec, .int .i64 mk, .int .i64 bh]) (fun _ i _ => n4 - (intOf i).toNat)
              case atStart => exact ⟨0, Nat.zero_le _, rfl, rfl, hbw, hX⟩
              case round =>
                clear hX hbw
                obtain ⟨k4, hk3, rfl, rfl, hbw, hX⟩ := hrel
                have f0 := hX.cell 0
                have f1 := hX.cell 1
                have f2 := hX.cell 2
                have f3 := hX.cell 3
                have f4 := hX.cell 4
                have f5 := hX.cell 5
                simp only [List.getElem?_cons_succ, List.getElem?_cons_zero] at f0 f1 f2 f3 f4 f5
                by_cases hlt3 : k4 < n4
                · obtain ⟨gv, rfl, hc⟩ := (he.below hbw (Nat.le_refl _)).get (by omega)
                  have x0 := (hc k4 hlt3).1
                  have x1 := (hc k4 hlt3).2
                  clear hc he
                  go_wp2_with fail
                  refine (at_any _ _ _ _ mk bh k4 n4 _ m1 m2 b1 b2 (by omega) (by omega) (by omega) (by omega)).mono ?_
                  rintro e2 w2 ⟨rfl, hb2⟩
                  have hX2 := hX.below hb2 hX.lt
                  have f' := hX2.cell 3
                  simp only [List.getElem?_cons_succ, List.getElem?_cons_zero] at f'
                  have x0' : w2.cell? ⟨gv, k4 * 4, none⟩ = some (.int .i64 (atN mk bh k4 n4)) := (hb2.cell (p := ⟨gv, k4 * 4, none⟩) (World.block_lt_of_cell? wr _ x0)).trans x0
                  have x1' : w2.cell? ⟨gv, k4 * 4 + 3, none⟩ = some (.int .i64 (atN mk bh k4 n4)) := (hb2.cell (p := ⟨gv, k4 * 4 + 3, none⟩) (World.block_lt_of_cell? wr _ x1)).trans x1
                  have HW2 : Hid (Below w.heap.size w w2) := hbw.trans (hb2.mono hbw.size)
                  clear f0 f1 f2 f3 f4 f5 x0 x1
                  go_wp2
                  refine And.intro ?_ ?_
                  · first | exact ⟨k4 + 1, by omega, by go_num, by simp, HW2.out, hX2⟩ | ((repeat apply Exists.intro); exact ⟨⟨k4 + 1, by omega, by go_num, by simp, HW2.out, hX2⟩, rfl⟩)
                  · simp [intOf]; omega
                · clear he
                  go_wp2
                  go_ret
                  exact ⟨rfl, hbw⟩
end Go.Proofs.YtenjjneobkodbaaGreat
