import Derived.Test.YtohjjgefklhmaabGreatDoorESee4M
namespace Go.Proofs.YtohjjgefklhmaabGreatDoor
open Go.ChangeShapes Go.WideShapes Go.ChangeAt Go.RowKit
set_option linter.unusedVariables false

set_option maxHeartbeats 4000000 in
set_option maxRecDepth 100000 in
theorem alike_any (ht fe po bo lo fe2 : Int) (bal bal2 : List Int) (vals : List VS) (dels : List DS) (ents : List ES) (ba bb va vb da db ea eb : Value) (w : World) (who fee : Int)
    (h1 : IntSl w ba bal) (h2 : IntSl w bb bal2) (h3 : Rd w va vals.length 8 (vrow vals)) (h4 : Rd w vb vals.length 8 (vrow vals)) (h5 : Rd w da dels.length 3 (drow dels)) (h6 : Rd w db dels.length 3 (drow dels)) (h7 : Rd w ea ents.length 4 (erow ents)) (h8 : Rd w eb ents.length 4 (erow ents))
    (hl : bal2.length = bal.length) (l1 : bal.length ≤ 6) (l2 : vals.length ≤ 5) (l3 : dels.length ≤ 30) (l4 : ents.length ≤ 1000) (hf : fe = fe2 - fee) (f0 : 0 ≤ fee) (f1 : fee ≤ 100) (g0 : 0 ≤ fe2) (g1 : fe2 ≤ 1000000)
    (hb : ∀ k, k < bal.length → bal.getD k 0 = bal2.getD k 0 + (if (k : Int) = who then fee else 0)) (hb0 : ∀ k, k < bal.length → 0 ≤ bal2.getD k 0 ∧ bal2.getD k 0 ≤ 1000000) :
    Calls Tryz.prog 12 #[.agg #[.int .i64 ht, ba, .int .i64 fe, .int .i64 po, .int .i64 bo, .int .i64 lo, va, da, ea], .agg #[.int .i64 ht, bb, .int .i64 fe2, .int .i64 po, .int .i64 bo, .int .i64 lo, vb, db, eb], .int .i64 who, .int .i64 fee] w fun e w' => e = .returned (.bool true) ∧ Below w.heap.size w w' := by
  subst hf
  obtain ⟨ba1, ba2, rfl, hbx⟩ := id h1
  obtain ⟨bb1, bb2, hbb, hbx2⟩ := id h2
  rw [hl] at hbb
  subst hbb
  obtain ⟨va1, va2, rfl⟩ := h3.form
  obtain ⟨vb1, vb2, rfl⟩ := h4.form
  obtain ⟨da1, da2, rfl⟩ := h5.form
  obtain ⟨db1, db2, rfl⟩ := h6.form
  obtain ⟨ea1, ea2, rfl⟩ := h7.form
  obtain ⟨eb1, eb2, rfl⟩ := h8.form
  have hX : Has ((w.alloc (.cells #[.int .i64 ht, .slice ba1 bal.length ba2, .int .i64 (fe2 - fee), .int .i64 po, .int .i64 bo, .int .i64 lo, .slice va1 vals.length va2, .slice da1 dels.length da2, .slice ea1 ents.length ea2] 41)).alloc (.cells #[.int .i64 ht, .slice bb1 bal.length bb2, .int .i64 fe2, .int .i64 po, .int .i64 bo, .int .i64 lo, .slice vb1 vals.length vb2, .slice db1 dels.length db2, .slice eb1 ents.length eb2] 41)) w.heap.size 41 [.int .i64 ht, .slice ba1 bal.length ba2, .int .i64 (fe2 - fee), .int .i64 po, .int .i64 bo, .int .i64 lo, .slice va1 vals.length va2, .slice da1 dels.length da2, .slice ea1 ents.length ea2] := (Has.newA w _ _).alloc _
  have hY : Has ((w.alloc (.cells #[.int .i64 ht, .slice ba1 bal.length ba2, .int .i64 (fe2 - fee), .int .i64 po, .int .i64 bo, .int .i64 lo, .slice va1 vals.length va2, .slice da1 dels.length da2, .slice ea1 ents.length ea2] 41)).alloc (.cells #[.int .i64 ht, .slice bb1 bal.length bb2, .int .i64 fe2, .int .i64 po, .int .i64 bo, .int .i64 lo, .slice vb1 vals.length vb2, .slice db1 dels.length db2, .slice eb1 ents.length eb2] 41)) (w.heap.size + 1) 41 [.int .i64 ht, .slice bb1 bal.length bb2, .int .i64 fe2, .int .i64 po, .int .i64 bo, .int .i64 lo, .slice vb1 vals.length vb2, .slice db1 dels.length db2, .slice eb1 ents.length eb2] := by
    have h := Has.newA (w.alloc (.cells #[.int .i64 ht, .slice ba1 bal.length ba2, .int .i64 (fe2 - fee), .int .i64 po, .int .i64 bo, .int .i64 lo, .slice va1 vals.length va2, .slice da1 dels.length da2, .slice ea1 ents.length ea2] 41)) 41 #[.int .i64 ht, .slice bb1 bal.length bb2, .int .i64 fe2, .int .i64 po, .int .i64 bo, .int .i64 lo, .slice vb1 vals.length vb2, .slice db1 dels.length db2, .slice eb1 ents.length eb2]
    rw [World.size_alloc] at h
    exact h
  have hA : Below w.heap.size w ((w.alloc (.cells #[.int .i64 ht, .slice ba1 bal.length ba2, .int .i64 (fe2 - fee), .int .i64 po, .int .i64 bo, .int .i64 lo, .slice va1 vals.length va2, .slice da1 dels.length da2, .slice ea1 ents.length ea2] 41)).alloc (.cells #[.int .i64 ht, .slice bb1 bal.length bb2, .int .i64 fe2, .int .i64 po, .int .i64 bo, .int .i64 lo, .slice vb1 vals.length vb2, .slice db1 dels.length db2, .slice eb1 ents.length eb2] 41)) := ((Below.refl _ _).alloc (Nat.le_refl _) _).alloc (by simp) _
  have k1 := h1.below hA (Nat.le_refl _)
  have k2 := h2.below hA (Nat.le_refl _)
  have k3 := h3.below hA (Nat.le_refl _)
  have k4 := h4.below hA (Nat.le_refl _)
  have k5 := h5.below hA (Nat.le_refl _)
  have k6 := h6.below hA (Nat.le_refl _)
  have k7 := h7.below hA (Nat.le_refl _)
  have k8 := h8.below hA (Nat.le_refl _)
  clear h1 h2 h3 h4 h5 h6 h7 h8
  clear hbx hbx2
  have HL : Hid (bal2.length = bal.length) := hl
  clear hl
  go_enter Tryz.func12, Tryz.ntmps12
  go_wp2
  generalize ((w.alloc (.cells #[.int .i64 ht, .slice ba1 bal.length ba2, .int .i64 (fe2 - fee), .int .i64 po, .int .i64 bo, .int .i64 lo, .slice va1 vals.length va2, .slice da1 dels.length da2, .slice ea1 ents.length ea2] 41)).alloc (.cells #[.int .i64 ht, .slice bb1 bal.length bb2, .int .i64 fe2, .int .i64 po, .int .i64 bo, .int .i64 lo, .slice vb1 vals.length vb2, .slice db1 dels.length db2, .slice eb1 ents.length eb2] 41)) = wA at hX hY hA k1 k2 k3 k4 k5 k6 k7 k8 ⊢
  have HX : Hid (∀ wr, Below wA.heap.size wA wr → Has wr w.heap.size 41 [.int .i64 ht, .slice ba1 bal.length ba2, .int .i64 (fe2 - fee), .int .i64 po, .int .i64 bo, .int .i64 lo, .slice va1 vals.length va2, .slice da1 dels.length da2, .slice ea1 ents.length ea2]) := fun wr hb => hX.below hb hX.lt
  have HY : Hid (∀ wr, Below wA.heap.size wA wr → Has wr (w.heap.size + 1) 41 [.int .i64 ht, .slice bb1 bal.length bb2, .int .i64 fe2, .int .i64 po, .int .i64 bo, .int .i64 lo, .slice vb1 vals.length vb2, .slice db1 dels.length db2, .slice eb1 ents.length eb2]) := fun wr hb => hY.below hb hY.lt
  clear hX hY
  go_loopw [9, 10] (fun o i wr => ∃ k : Nat, k ≤ bal.length ∧ i = .int .i64 k ∧ o = .bool true ∧ Below wA.heap.size wA wr) (fun _ i _ => bal.length - (intOf i).toNat)
  case atStart => exact ⟨0, Nat.zero_le _, rfl, rfl, Below.refl _ _⟩
  case round =>
    obtain ⟨k, hk, rfl, rfl, hbw⟩ := hrel
    have HBw : Hid (Below wA.heap.size wA wr) := hbw
    have a1 : wr.cell? ⟨w.heap.size, 1, none⟩ = some (.slice ba1 bal.length ba2) := (HX.out wr hbw).cell 1
    have b1 : wr.cell? ⟨w.heap.size + 1, 1, none⟩ = some (.slice bb1 bal.length bb2) := (HY.out wr hbw).cell 1
    have a6 : wr.cell? ⟨w.heap.size, 6, none⟩ = some (.slice va1 vals.length va2) := (HX.out wr hbw).cell 6
    by_cases hlt : k < bal.length
    · obtain ⟨_, _, e1, hc1⟩ := k1.below hbw (Nat.le_refl _)
      simp only [Value.slice.injEq, true_and] at e1
      obtain ⟨rfl, rfl⟩ := e1
      obtain ⟨ga, rfl, hd1⟩ := hc1 (by omega)
      obtain ⟨_, _, e2, hc2⟩ := k2.below hbw (Nat.le_refl _)
      rw [HL.out] at e2
      simp only [Value.slice.injEq, true_and] at e2
      obtain ⟨rfl, rfl⟩ := e2
      obtain ⟨gb, rfl, hd2⟩ := hc2 (by rw [HL.out]; omega)
      have y1 : wr.cell? ⟨ga, k, none⟩ = some (.int .i64 (bal.getD k 0)) := hd1 k _ (by simp [List.getD, hlt])
      have y2 : wr.cell? ⟨gb, k, none⟩ = some (.int .i64 (bal2.getD k 0)) := hd2 k _ (by simp [List.getD, show k < bal2.length by rw [HL.out]; exact hlt])
      have hbk := hb k hlt
      obtain ⟨z0, z1⟩ := hb0 k hlt
      clear hc1 hc2 hd1 hd2 hbw k1 k2 k3 k4 k5 k6 k7 k8 a6
      generalize bal.getD k 0 = u at *
      generalize bal2.getD k 0 = v at *
      by_cases hw : (k : Int) = who
      · rw [if_pos hw] at hbk
        have e3 : ((k : Int) == who) = true := by simp [hw]
        have e4 : (u == v + fee) = true := by simp [hbk]
        clear hw hbk
        go_wp2
        all_goals try go_region
        all_goals try go_wp2
        all_goals
          refine And.intro ?_ ?_
          · first | exact ⟨k + 1, by omega, by go_num, rfl, HBw.out⟩ | exact ⟨k + 1, by omega, by go_num, rfl, HBw.out.drew⟩ | ((repeat apply Exists.intro); first | exact ⟨⟨k + 1, by omega, by go_num, rfl, HBw.out⟩, rfl⟩ | exact ⟨⟨k + 1, by omega, by go_num, rfl, HBw.out.drew⟩, rfl⟩)
          · simp [intOf]; omega
      · rw [if_neg hw] at hbk
        have e3 : ((k : Int) == who) = false := by simp [hw]
        have e4 : (u == v) = true := by simp [hbk]
        clear hw hbk
        go_wp2
        all_goals try go_region
        all_goals try go_wp2
        all_goals
          refine And.intro ?_ ?_
          · first | exact ⟨k + 1, by omega, by go_num, rfl, HBw.out⟩ | exact ⟨k + 1, by omega, by go_num, rfl, HBw.out.drew⟩ | ((repeat apply Exists.intro); first | exact ⟨⟨k + 1, by omega, by go_num, rfl, HBw.out⟩, rfl⟩ | exact ⟨⟨k + 1, by omega, by go_num, rfl, HBw.out.drew⟩, rfl⟩)
          · simp [intOf]; omega
    · go_wp2
      obtain ⟨wo, rfl⟩ : ∃ wo : World, wo = wr := ⟨_, rfl⟩
      go_loopw [9, 12] (fun o i wr => ∃ k : Nat, k ≤ vals.length ∧ i = .int .i64 k ∧ o = .bool true ∧ Below wA.heap.size wA wr) (fun _ i _ => vals.length - (intOf i).toNat)
      case atStart => exact ⟨0, Nat.zero_le _, rfl, rfl, HBw.out⟩
      case round =>
        clear HBw a1 b1 a6
        obtain ⟨q, hq, rfl, rfl, hbw⟩ := hrel
        have HBw : Hid (Below wA.heap.size wA wr) := hbw
        have a6 : wr.cell? ⟨w.heap.size, 6, none⟩ = some (.slice va1 vals.length va2) := (HX.out wr hbw).cell 6
        have b6 : wr.cell? ⟨w.heap.size + 1, 6, none⟩ = some (.slice vb1 vals.length vb2) := (HY.out wr hbw).cell 6
        have a7 : wr.cell? ⟨w.heap.size, 7, none⟩ = some (.slice da1 dels.length da2) := (HX.out wr hbw).cell 7
        by_cases hlt2 : q < vals.length
        · obtain ⟨ga, rfl, hc1⟩ := (k3.below hbw (Nat.le_refl _)).get (by omega)
          obtain ⟨gb, rfl, hc2⟩ := (k4.below hbw (Nat.le_refl _)).get (by omega)
          have y0 := hc1 _ _ (vrow_at vals q hlt2 0 (by omega))
          have y1 := hc1 _ _ (vrow_at vals q hlt2 1 (by omega))
          have y2 := hc1 _ _ (vrow_at vals q hlt2 2 (by omega))
          have y3 := hc1 _ _ (vrow_at vals q hlt2 3 (by omega))
          have y4 := hc1 _ _ (vrow_at vals q hlt2 4 (by omega))
          have y5 := hc1 _ _ (vrow_at vals q hlt2 5 (by omega))
          have y6 := hc1 _ _ (vrow_at vals q hlt2 6 (by omega))
          have y7 := hc1 _ _ (vrow_at vals q hlt2 7 (by omega))
          have z0 := hc2 _ _ (vrow_at vals q hlt2 0 (by omega))
          have z1 := hc2 _ _ (vrow_at vals q hlt2 1 (by omega))
          have z2 := hc2 _ _ (vrow_at vals q hlt2 2 (by omega))
          have z3 := hc2 _ _ (vrow_at vals q hlt2 3 (by omega))
          have z4 := hc2 _ _ (vrow_at vals q hlt2 4 (by omega))
          have z5 := hc2 _ _ (vrow_at vals q hlt2 5 (by omega))
          have z6 := hc2 _ _ (vrow_at vals q hlt2 6 (by omega))
          have z7 := hc2 _ _ (vrow_at vals q hlt2 7 (by omega))
          rw [Nat.add_zero] at y0 z0
          clear hc1 hc2 hbw k1 k2 k3 k4 k5 k6 k7 k8
          generalize vals[q] = x at *
          obtain ⟨xo, xr, xt, xs, xc, xou, xj, xi⟩ := x
          dsimp only at y0 y1 y2 y3 y4 y5 y6 y7 z0 z1 z2 z3 z4 z5 z6 z7
          go_wp2
          go_region
          go_wp2
          refine And.intro ?_ ?_
          · first | exact ⟨q + 1, by omega, by go_num, rfl, HBw.out.drew⟩ | exact ⟨q + 1, by omega, by go_num, rfl, HBw.out⟩ | ((repeat apply Exists.intro); first | exact ⟨⟨q + 1, by omega, by go_num, rfl, HBw.out.drew⟩, rfl⟩ | exact ⟨⟨q + 1, by omega, by go_num, rfl, HBw.out⟩, rfl⟩)
          · simp [intOf]; omega
        · go_wp2
          obtain ⟨wo, rfl⟩ : ∃ wo : World, wo = wr := ⟨_, rfl⟩
          go_loopw [9, 13] (fun o i wr => ∃ k : Nat, k ≤ dels.length ∧ i = .int .i64 k ∧ o = .bool true ∧ Below wA.heap.size wA wr) (fun _ i _ => dels.length - (intOf i).toNat)
          case atStart => exact ⟨0, Nat.zero_le _, rfl, rfl, HBw.out⟩
          case round =>
            clear HBw a6 b6 a7
            obtain ⟨q3, hq3, rfl, rfl, hbw⟩ := hrel
            have HBw : Hid (Below wA.heap.size wA wr) := hbw
            have a7 : wr.cell? ⟨w.heap.size, 7, none⟩ = some (.slice da1 dels.length da2) := (HX.out wr hbw).cell 7
            have b7 : wr.cell? ⟨w.heap.size + 1, 7, none⟩ = some (.slice db1 dels.length db2) := (HY.out wr hbw).cell 7
            have a8 : wr.cell? ⟨w.heap.size, 8, none⟩ = some (.slice ea1 ents.length ea2) := (HX.out wr hbw).cell 8
            by_cases hlt3 : q3 < dels.length
            · obtain ⟨ga, rfl, hc1⟩ := (k5.below hbw (Nat.le_refl _)).get (by omega)
              obtain ⟨gb, rfl, hc2⟩ := (k6.below hbw (Nat.le_refl _)).get (by omega)
              have y0 := hc1 _ _ (drow_at dels q3 hlt3 0 (by omega))
              have y1 := hc1 _ _ (drow_at dels q3 hlt3 1 (by omega))
              have y2 := hc1 _ _ (drow_at dels q3 hlt3 2 (by omega))
              have z0 := hc2 _ _ (drow_at dels q3 hlt3 0 (by omega))
              have z1 := hc2 _ _ (drow_at dels q3 hlt3 1 (by omega))
              have z2 := hc2 _ _ (drow_at dels q3 hlt3 2 (by omega))
              rw [Nat.add_zero] at y0 z0
              clear hc1 hc2 hbw k1 k2 k3 k4 k5 k6 k7 k8
              generalize dels[q3] = x at *
              obtain ⟨xo, xr, xt⟩ := x
              dsimp only at y0 y1 y2 z0 z1 z2
              go_wp2
              go_region
              go_wp2
              refine And.intro ?_ ?_
              · first | exact ⟨q3 + 1, by omega, by go_num, rfl, HBw.out.drew⟩ | exact ⟨q3 + 1, by omega, by go_num, rfl, HBw.out⟩ | ((repeat apply Exists.intro); first | exact ⟨⟨q3 + 1, by omega, by go_num, rfl, HBw.out.drew⟩, rfl⟩ | exact ⟨⟨q3 + 1, by omega, by go_num, rfl, HBw.out⟩, rfl⟩)
              · simp [intOf]; omega
            · go_wp2
              obtain ⟨wo, rfl⟩ : ∃ wo : World, wo = wr := ⟨_, rfl⟩
              go_loopw [9, 14] (fun o i wr => ∃ k : Nat, k ≤ ents.length ∧ i = .int .i64 k ∧ o = .bool true ∧ Below wA.heap.size wA wr) (fun _ i _ => ents.length - (intOf i).toNat)
              case atStart => exact ⟨0, Nat.zero_le _, rfl, rfl, HBw.out⟩
              case round =>
                clear HBw a7 b7 a8
                obtain ⟨q4, hq4, rfl, rfl, hbw⟩ := hrel
                have HBw : Hid (Below wA.heap.size wA wr) := hbw
                have a8 : wr.cell? ⟨w.heap.size, 8, none⟩ = some (.slice ea1 ents.length ea2) := (HX.out wr hbw).cell 8
                have b8 : wr.cell? ⟨w.heap.size + 1, 8, none⟩ = some (.slice eb1 ents.length eb2) := (HY.out wr hbw).cell 8
                by_cases hlt4 : q4 < ents.length
                · obtain ⟨ga, rfl, hc1⟩ := (k7.below hbw (Nat.le_refl _)).get (by omega)
                  obtain ⟨gb, rfl, hc2⟩ := (k8.below hbw (Nat.le_refl _)).get (by omega)
                  have y0 := hc1 _ _ (erow_at ents q4 hlt4 0 (by omega))
                  have y1 := hc1 _ _ (erow_at ents q4 hlt4 1 (by omega))
                  have y2 := hc1 _ _ (erow_at ents q4 hlt4 2 (by omega))
                  have y3 := hc1 _ _ (erow_at ents q4 hlt4 3 (by omega))
                  have z0 := hc2 _ _ (erow_at ents q4 hlt4 0 (by omega))
                  have z1 := hc2 _ _ (erow_at ents q4 hlt4 1 (by omega))
                  have z2 := hc2 _ _ (erow_at ents q4 hlt4 2 (by omega))
                  have z3 := hc2 _ _ (erow_at ents q4 hlt4 3 (by omega))
                  rw [Nat.add_zero] at y0 z0
                  clear hc1 hc2 hbw k1 k2 k3 k4 k5 k6 k7 k8
                  generalize ents[q4] = x at *
                  obtain ⟨xo, xr, xt, xs⟩ := x
                  dsimp only at y0 y1 y2 y3 z0 z1 z2 z3
                  go_wp2
                  go_region
                  go_wp2
                  refine And.intro ?_ ?_
                  · first | exact ⟨q4 + 1, by omega, by go_num, rfl, HBw.out.drew⟩ | exact ⟨q4 + 1, by omega, by go_num, rfl, HBw.out⟩ | ((repeat apply Exists.intro); first | exact ⟨⟨q4 + 1, by omega, by go_num, rfl, HBw.out.drew⟩, rfl⟩ | exact ⟨⟨q4 + 1, by omega, by go_num, rfl, HBw.out⟩, rfl⟩)
                  · simp [intOf]; omega
                · have HFin : Hid (Below w.heap.size w wr) := hA.trans (hbw.mono hA.size)
                  clear hbw k1 k2 k3 k4 k5 k6 k7 k8 hA
                  go_wp2
                  go_ret
                  exact ⟨rfl, HFin.out⟩
end Go.Proofs.YtohjjgefklhmaabGreatDoor
