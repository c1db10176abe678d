import Derived.Test.YtohjjgefklhmaaaGStepM
namespace Go.Proofs.Ytohjjgefklhmaaa
open Go.ChangeShapes Go.WideShapes Go.ChangeAt Go.RowKit
set_option linter.unusedVariables false

set_option maxHeartbeats 4000000 in
set_option maxRecDepth 100000 in
theorem whole_walk (c : Int) (v : Value) (ops : List StepD) (w : World) (hc1 : -9223372036854775808 ≤ c) (hc2 : c ≤ 9223372036854775807) (hs : StepSl w v ops) :
    Calls Try.prog 3 #[.int .i64 c, v] w fun e w' => e = .returned (.bool true) ∧ Below w.heap.size w w' := by
  obtain ⟨sa, scap, rfl, hh0⟩ := id hs
  clear hh0
  have HB : Hid (∀ u, Calls Try.prog 9 #[.int .i64 c] u fun e w' => BegP u w' e) := fun u => beginning_any c u hc1 hc2
  have HLi : Hid (∀ u, Calls Try.prog 10 #[] u fun e w' => e = .returned (.bool true) ∧ Below u.heap.size u w') := lives_any
  have HSt : Hid (StepSl w (.slice sa ops.length scap) ops) := hs
  clear hc1 hc2 hs
  go_enter Try.func3, Try.ntmps3
  go_wp2_with fail
  refine (HB.out _).mono ?_
  rintro e w1 ⟨vb, vo, vr, bs, os, rs, top, mature, fee, rfl, hb1, ho1, hr1, hgood, hbl1⟩
  clear HB
  obtain ⟨ba, bc, rfl, _⟩ := id hb1
  obtain ⟨oa, oc, rfl, _⟩ := id ho1
  obtain ⟨ra, rc, rfl, _⟩ := id hr1
  have HGo : Hid (GoodGen bs os rs top mature fee) := hgood
  clear hgood
  have hX : Has (w1.alloc (.cells #[.slice ba bs.length bc, .slice oa os.length oc, .slice ra rs.length rc, .int .i64 top, .int .i64 mature, .int .i64 fee] 25)) w1.heap.size 25 [.slice ba bs.length bc, .slice oa os.length oc, .slice ra rs.length rc, .int .i64 top, .int .i64 mature, .int .i64 fee] := Has.newA w1 _ _
  have hA : Below w1.heap.size w1 (w1.alloc (.cells #[.slice ba bs.length bc, .slice oa os.length oc, .slice ra rs.length rc, .int .i64 top, .int .i64 mature, .int .i64 fee] 25)) := (Below.refl _ _).alloc (Nat.le_refl _) _
  go_wp2_with fail
  refine (HLi.out _).mono ?_
  rintro e w2 ⟨rfl, hb2⟩
  clear HLi
  have hA2 : Below w1.heap.size w1 w2 := hA.trans (hb2.mono hA.size)
  have hX2 := hX.below hb2 hX.lt
  have hIb := hb1.below hA2 (Nat.le_refl _)
  have hIo := ho1.below hA2 (Nat.le_refl _)
  have hIr := hr1.below hA2 (Nat.le_refl _)
  have hw2 : Below w.heap.size w w2 := hbl1.trans (hA2.mono hbl1.size)
  have x0 : w2.cell? ⟨w1.heap.size, 0, none⟩ = some (.slice ba bs.length bc) := hX2.cell 0
  have x1 : w2.cell? ⟨w1.heap.size, 1, none⟩ = some (.slice oa os.length oc) := hX2.cell 1
  have x2 : w2.cell? ⟨w1.heap.size, 2, none⟩ = some (.slice ra rs.length rc) := hX2.cell 2
  have x3 : w2.cell? ⟨w1.heap.size, 3, none⟩ = some (.int .i64 top) := hX2.cell 3
  have x4 : w2.cell? ⟨w1.heap.size, 4, none⟩ = some (.int .i64 mature) := hX2.cell 4
  have x5 : w2.cell? ⟨w1.heap.size, 5, none⟩ = some (.int .i64 fee) := hX2.cell 5
  have hgl1 : bs.length ≤ 6 := HGo.out.1.2.1
  have hgl2 : os.length ≤ 5 := HGo.out.2.1.2.1
  have hgl3 : rs.length = os.length := HGo.out.2.1.2.2.1
  have HNew : Hid (Calls Try.prog 11 #[.agg #[.slice ba bs.length bc, .slice oa os.length oc, .slice ra rs.length rc, .int .i64 top, .int .i64 mature, .int .i64 fee]] w2 fun e w' => Begun w2 w' e bs os rs top mature fee) := new_good _ _ _ bs os rs top mature fee w2 hIb hIo hIr (by omega) (by omega) (by omega) HGo.out
  clear hA hX hb2 hA2 hb1 ho1 hr1 hIo hIr hbl1 hgl3
  go_wp2_with fail
  refine HNew.out.mono ?_
  intro e w3 hbg
  obtain ⟨g, bv, vv, rfl, hP3⟩ := begun_pe hbg HGo.out
  have hb3 : Below w2.heap.size w2 w3 := hP3.fr.toBelow (Nat.le_refl _) (fun k hk h => by omega)
  have hX3 := hX2.below hb3 hX2.lt
  have hI3 := hIb.below hb3 (Nat.le_refl _)
  have hw3 : Below w.heap.size w w3 := hw2.trans (hb3.mono hw2.size)
  obtain ⟨f1, f2, f3⟩ := xN_fine HGo.out
  have HP3 : Hid (Eng (fun k => w.heap.size ≤ k) w w3 g (xN bs os rs top mature fee) bv vv) := ⟨_, hP3.rebase (Kp.of_below hw3 _) (fun k hk => hk) (fun k hk => Nat.le_trans hw2.size (hP3.own k hk))⟩
  have HFi : Hid (Fine (xN bs os rs top mature fee) ∧ (xN bs os rs top mature fee).tot = sumI bs ∧ (xN bs os rs top mature fee).ents.length ≤ 0) := ⟨f1, f2, Nat.le_refl _⟩
  have y0 : w3.cell? ⟨w1.heap.size, 0, none⟩ = some (.slice ba bs.length bc) := hX3.cell 0
  have HI : Hid (IntSl w3 (.slice ba bs.length bc) bs) := hI3
  have HN : Hid (∀ k, k < bs.length → 0 ≤ bs.getD k 0) := fun k hk => by
    have h := (HFi.out.1.bal k hk)
    exact h
  have HT : Hid (sumI bs ≤ 1000000) := by
    have h1 := HFi.out.1.tot
    rw [HFi.out.2.1] at h1
    exact h1
  generalize xN bs os rs top mature fee = xx at *
  clear hbg hP3 hb3 hX3 hX2 hI3 hIb hw2 x0 x1 x2 x3 x4 x5 HNew HGo f1 f2 f3
  go_wp2
  go_loopw [9, 10] (fun n i wr => ∃ k : Nat, k ≤ bs.length ∧ i = .int .i64 k ∧ n = .int .i64 (sumI (bs.take k)) ∧ Below w3.heap.size w3 wr) (fun _ i _ => bs.length - (intOf i).toNat)
  case atStart => exact ⟨0, Nat.zero_le _, rfl, by simp [sumI], Below.refl _ _⟩
  case round =>
    obtain ⟨k, hk, rfl, rfl, hbw⟩ := hrel
    have y0' : wr.cell? ⟨w1.heap.size, 0, none⟩ = some (.slice ba bs.length bc) := by
      rw [hbw.cell (p := ⟨w1.heap.size, 0, none⟩) (World.block_lt_of_cell? w3 _ y0)]; exact y0
    have HBw : Hid (Below w3.heap.size w3 wr) := hbw
    obtain ⟨q1, q2⟩ := sumI_tk HN.out k hk
    have hT := HT.out
    by_cases hlt : k < bs.length
    · obtain ⟨a', c', he', hcell⟩ := (HI.out.below hbw (Nat.le_refl _))
      simp only [Value.slice.injEq] at he'
      obtain ⟨rfl, _, rfl⟩ := he'
      obtain ⟨gb, rfl, hc⟩ := hcell (by omega)
      have y : wr.cell? ⟨gb, k, none⟩ = some (.int .i64 (bs.getD k 0)) := hc k _ (by simp [List.getD, hlt])
      have HS : Hid (sumI (bs.take (k + 1)) = sumI (bs.take k) + bs.getD k 0) := sumI_take bs k hlt
      obtain ⟨q3, q4⟩ := sumI_tk HN.out (k + 1) (by omega)
      rw [sumI_take bs k hlt] at q3 q4
      clear hcell hc hbw HI
      generalize bs.getD k 0 = z at *
      go_wp2
      refine And.intro ?_ ?_
      · first | exact ⟨k + 1, by omega, by go_num, by rw [HS.out], HBw.out⟩ | ((repeat apply Exists.intro); exact ⟨⟨k + 1, by omega, by go_num, by rw [HS.out], HBw.out⟩, rfl⟩)
      · simp [intOf]; omega
    · have HSb : Hid (sumI (bs.take k) = sumI bs) := by
        have h1 : sumI (bs.take k) = sumI bs := by rw [List.take_of_length_le (by omega)]
        exact h1
      have HE : Hid (∃ y, Fine y ∧ y.tot = sumI (bs.take k) ∧ y.ents.length ≤ 0 ∧ Eng (fun k => w.heap.size ≤ k) w wr g y bv vv) := ⟨xx, HFi.out.1, by rw [HFi.out.2.1]; exact HSb.out.symm, HFi.out.2.2, HP3.out.below hbw⟩
      clear HP3 HFi HI hbw HSb HN HT y0 HBw
      generalize sumI (bs.take k) = tt at *
      have t1 : tt ≤ 1000000 := by omega
      clear q2 hT
      go_wp2
      obtain ⟨wo, rfl⟩ : ∃ wo : World, wo = wr := ⟨_, rfl⟩
      go_loopw [11] (fun i wr => ∃ (q : Nat) (y : EC), q ≤ 200 ∧ i = .int .i64 q ∧ Fine y ∧ y.tot = tt ∧ y.ents.length ≤ q ∧ Eng (fun k => w.heap.size ≤ k) w wr g y bv vv) (fun i _ => 200 - (intOf i).toNat)
      case atStart =>
        obtain ⟨y, h1, h2, h3, h4⟩ := HE.out
        exact ⟨0, y, by omega, rfl, h1, h2, h3, h4⟩
      case round =>
        clear HE
        obtain ⟨q, y, hq, rfl, hfi, hto, hen, hE⟩ := hrel
        have hfr : Below w.heap.size w wr := by
          obtain ⟨ev, hP⟩ := hE
          exact hP.fr.toBelow (Nat.le_refl _) (fun k hk h => by omega)
        have hst := HSt.out.below hfr (Nat.le_refl _)
        have HFi : Hid (Fine y ∧ y.tot = tt ∧ y.ents.length ≤ q) := ⟨hfi, hto, hen⟩
        have HEn : Hid (Eng (fun k => w.heap.size ≤ k) w wr g y bv vv) := hE
        have HFr : Hid (Below w.heap.size w wr) := hfr
        have fin : ∀ {wr : World} {y : EC}, Fine y → y.tot = tt → y.ents.length ≤ 200 → Eng (fun k => w.heap.size ≤ k) w wr g y bv vv → Calls Try.prog 13 #[.pointer (some ⟨g, 0, none⟩)] wr fun e w' => e = .returned (.int .i64 tt) ∧ Below wr.heap.size wr w' := fun h1 h2 h3 h4 => by
          have := total_any h4 h1 (by omega)
          rw [h2] at this
          exact this
        have HFin : Hid (∀ {wr : World} {y : EC}, Fine y → y.tot = tt → y.ents.length ≤ 200 → Eng (fun k => w.heap.size ≤ k) w wr g y bv vv → Calls Try.prog 13 #[.pointer (some ⟨g, 0, none⟩)] wr fun e w' => e = .returned (.int .i64 tt) ∧ Below wr.heap.size wr w') := @fin
        clear hfi hto hen hE hfr fin
        by_cases hlt : q < ops.length
        · by_cases hl2 : q < 200
          · obtain ⟨gs, off, rfl, hc⟩ := hst.get (by omega)
            have z0 : wr.cell? ⟨gs, off + q * 5, none⟩ = some (.int .i64 ops[q].k) := hc q hlt 0 (by omega)
            have z1 : wr.cell? ⟨gs, off + q * 5 + 1, none⟩ = some (.int .i64 ops[q].a) := hc q hlt 1 (by omega)
            have z2 : wr.cell? ⟨gs, off + q * 5 + 2, none⟩ = some (.int .i64 ops[q].b) := hc q hlt 2 (by omega)
            have z3 : wr.cell? ⟨gs, off + q * 5 + 3, none⟩ = some (.int .i64 ops[q].c) := hc q hlt 3 (by omega)
            have z4 : wr.cell? ⟨gs, off + q * 5 + 4, none⟩ = some (.int .i64 ops[q].d) := hc q hlt 4 (by omega)
            clear hc hst
            generalize ops[q] = st at *
            go_wp2_with fail
            refine (does_any HEn.out HFi.out.1 q HFi.out.2.2 (by omega) st.k st.a st.b st.c st.d).mono ?_
            rintro e w5 ⟨rfl, hE5, hL5⟩
            have HE5 : Hid (∃ y', Fine y' ∧ y'.tot = tt ∧ y'.ents.length ≤ q + 1 ∧ Eng (fun k => w.heap.size ≤ k) w w5 g y' bv vv) := ⟨_, hL5.fine, hL5.tot.trans HFi.out.2.1, hL5.el, hE5⟩
            generalize (doesR y st.k st.a st.b st.c st.d).1 = rc at *
            clear hE5 hL5 HEn HFi HFr z0 z1 z2 z3 z4
            obtain ⟨y', h1, h2, h3, h4⟩ := HE5.out
            have HY : Hid (Fine y' ∧ y'.tot = tt ∧ y'.ents.length ≤ q + 1 ∧ Eng (fun k => w.heap.size ≤ k) w w5 g y' bv vv) := ⟨h1, h2, h3, h4⟩
            clear h1 h2 h3 h4 HE5
            go_wp2_with fail
            refine (HFin.out HY.out.1 HY.out.2.1 (by have := HY.out.2.2.1; omega) HY.out.2.2.2).mono ?_
            rintro e w6 ⟨rfl, hb6⟩
            have HE6 : Hid (Eng (fun k => w.heap.size ≤ k) w w6 g y' bv vv) := HY.out.2.2.2.below hb6
            clear hb6
            go_wp2
            refine And.intro ?_ ?_
            · first | exact ⟨q + 1, y', by omega, by go_num, HY.out.1, HY.out.2.1, HY.out.2.2.1, HE6.out⟩ | ((repeat apply Exists.intro); exact ⟨⟨q + 1, y', by omega, by go_num, HY.out.1, HY.out.2.1, HY.out.2.2.1, HE6.out⟩, rfl⟩)
            · simp [intOf]; omega
          · clear hst
            go_wp2_with fail
            refine (HFin.out HFi.out.1 HFi.out.2.1 (by have := HFi.out.2.2; omega) HEn.out).mono ?_
            rintro e w6 ⟨rfl, hb6⟩
            have HF : Hid (Below w.heap.size w w6) := HFr.out.trans (hb6.mono HFr.out.size)
            clear hb6 HFin
            go_wp2
            go_ret
            refine ⟨?_, HF.out⟩
            simp
        · clear hst
          go_wp2_with fail
          refine (HFin.out HFi.out.1 HFi.out.2.1 (by have := HFi.out.2.2; omega) HEn.out).mono ?_
          rintro e w6 ⟨rfl, hb6⟩
          have HF : Hid (Below w.heap.size w w6) := HFr.out.trans (hb6.mono HFr.out.size)
          clear hb6 HFin
          go_wp2
          go_ret
          refine ⟨?_, HF.out⟩
          simp

set_option maxRecDepth 100000 in
theorem whole_lifted (os : Os) (started : os.Started) (H : Type) (enc : TypeId × Value → H) :
    ReturnsInHanded {} Try.checked os 3 .any (Rows.wholeSpec.pre6 enc Try.prog Try.f3 Rows.wholeRow.domain false) (Rows.wholeSpec.post enc Try.prog Try.f3 false true false false) := by
  refine returnsInHanded_of_change (C := Try.checked) own0 started (by kernel_rfl) Try.func3
    (ChangeSpec.witness6 (enc := enc) (C := Try.checked) false ⟨#[], #[.int .i64 0, .slice none 0 0], []⟩ 8 (by kernel_rfl) (by kernel_rfl) (by kernel_rfl) (by kernel_rfl)) ?_
  intro W base args ds gs before hval0 hW hcnd _
  have hval : ∀ (j : Nat) t v, Try.f3.params[j]? = some t → args[j]? = some v → Value.okWide Try.prog W .any base t v := hval0
  have hW' := hW
  obtain ⟨p, q, hA0, hV, rfl, hfz, hnd⟩ := hW
  have hA : DataW.TrodAll enc Try.prog W 0 (fun _ => true) true Try.f3.params.toList args.toList ds p := hA0
  rw [Try.params3] at hA hval
  obtain ⟨v0, vs0, d0, ds0, p0, q0, hargs, rfl, rfl, h0, r0⟩ := trodAll_cons hA
  obtain ⟨v1, vs1, d1, ds1, p1, q1, rfl, rfl, rfl, h1, r1⟩ := trodAll_cons r0
  obtain ⟨rfl, rfl, rfl⟩ := trodAll_nil r1
  obtain rfl : args = #[v0, v1] := by cases args; simp_all
  obtain ⟨rfl, rfl⟩ := trodVars_none hV
  obtain ⟨a0, rfl, rfl, rfl, w0⟩ := open_int Try.underlying3 (hval 0 3 v0 rfl rfl) h0
  obtain ⟨a1, len1, cap1, rfl⟩ := okWide_slice Try.underlying22 (hval 1 22 v1 rfl rfl)
  have k1 := h1
  have lt1 : ∀ x ∈ p1, x.block < W.heap.size := by obtain ⟨m, hm⟩ := k1; exact DataW.trod_lt m _ _ _ hm
  obtain ⟨ops, ho⟩ := steps_read h1 ⟨_, _, _, rfl⟩
  clear hA0 hval0
  have q0 := wf_i64 w0
  refine (whole_walk a0 _ ops W q0.1 q0.2 ho).mono fun e W' ⟨he, bel⟩ => ?_
  subst he
  exact ⟨_, rfl, _, _, _, [], _, [], hW', trodAll_mk1 (shut_bool Try.underlying4 _), (trodAll_cons_mk (shut_int Try.underlying3 w0) (trodAll_cons_mk (Below.trod laidOut0 (by kernel_rfl) (of_decide_eq_true (by kernel_rfl)) k1 bel lt1) trodAll_mk0)), rfl, bel.frame _, fun h => by cases h⟩

theorem whole_over : Rows.wholeRow.holds Try.pinned (OpenSpec.ofChange Rows.wholeSpec) :=
  OpenClaim.holds_of_wide 3 Try.f3 rfl rfl rfl rfl rfl rfl rfl ⟨rfl, rfl, rfl, rfl, rfl⟩ rfl rfl rfl rfl rfl (by kernel_rfl) Try.func3 (by kernel_rfl)
    (of_decide_eq_true (by kernel_rfl)) (by unfold Func.isWrapper; first | (rw [if_pos (by decide +kernel)]; kernel_rfl) | (rw [if_neg (by decide +kernel)]; exact ⟨rfl, rfl⟩))
    (fun os started H enc _ => whole_lifted os started H enc)

theorem whole_proved : Rows.WholeSaid := whole_over
end Go.Proofs.Ytohjjgefklhmaaa
