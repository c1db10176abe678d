import Derived.Test.YtohjjgefklhmaaaGSetM
namespace Go.Proofs.Ytohjjgefklhmaaa
open Go.ChangeShapes Go.WideShapes Go.ChangeAt Go.RowKit
set_option linter.unusedVariables false

set_option maxHeartbeats 4000000 in
set_option maxRecDepth 100000 in
theorem set_walk (c : Int) (v : Value) (ops : List StepD) (w : World) (hc1 : -9223372036854775808 ≤ c) (hc2 : c ≤ 9223372036854775807) (hs : StepSl w v ops) :
    Calls Try.prog 6 #[.int .i64 c, v] w fun e w' => e = .returned (.bool true) ∧ Below w.heap.size w w' := by
  obtain ⟨sa, scap, rfl, hh0⟩ := id hs
  clear hh0
  have HB : Hid (∀ u, Calls Try.prog 9 #[.int .i64 c] u fun e w' => BegP u w' e) := fun u => beginning_any c u hc1 hc2
  have HLi : Hid (∀ u, Calls Try.prog 10 #[] u fun e w' => e = .returned (.bool true) ∧ Below u.heap.size u w') := lives_any
  have HSt : Hid (StepSl w (.slice sa ops.length scap) ops) := hs
  clear hc1 hc2 hs
  go_enter Try.func6, Try.ntmps6
  go_wp2_with fail
  refine (HB.out _).mono ?_
  rintro e w1 ⟨vb, vo, vr, bs, os, rs, top, mature, fee, rfl, hb1, ho1, hr1, hgood, hbl1⟩
  clear HB
  obtain ⟨ba, bc, rfl, _⟩ := id hb1
  obtain ⟨oa, oc, rfl, _⟩ := id ho1
  obtain ⟨ra, rc, rfl, _⟩ := id hr1
  have HGo : Hid (GoodGen bs os rs top mature fee) := hgood
  clear hgood
  have hX : Has (w1.alloc (.cells #[.slice ba bs.length bc, .slice oa os.length oc, .slice ra rs.length rc, .int .i64 top, .int .i64 mature, .int .i64 fee] 25)) w1.heap.size 25 [.slice ba bs.length bc, .slice oa os.length oc, .slice ra rs.length rc, .int .i64 top, .int .i64 mature, .int .i64 fee] := Has.newA w1 _ _
  have hA : Below w1.heap.size w1 (w1.alloc (.cells #[.slice ba bs.length bc, .slice oa os.length oc, .slice ra rs.length rc, .int .i64 top, .int .i64 mature, .int .i64 fee] 25)) := (Below.refl _ _).alloc (Nat.le_refl _) _
  go_wp2_with fail
  refine (HLi.out _).mono ?_
  rintro e w2 ⟨rfl, hb2⟩
  clear HLi
  have hA2 : Below w1.heap.size w1 w2 := hA.trans (hb2.mono hA.size)
  have hX2 := hX.below hb2 hX.lt
  have hIb := hb1.below hA2 (Nat.le_refl _)
  have hIo := ho1.below hA2 (Nat.le_refl _)
  have hIr := hr1.below hA2 (Nat.le_refl _)
  have hw2 : Below w.heap.size w w2 := hbl1.trans (hA2.mono hbl1.size)
  have x0 : w2.cell? ⟨w1.heap.size, 0, none⟩ = some (.slice ba bs.length bc) := hX2.cell 0
  have x1 : w2.cell? ⟨w1.heap.size, 1, none⟩ = some (.slice oa os.length oc) := hX2.cell 1
  have x2 : w2.cell? ⟨w1.heap.size, 2, none⟩ = some (.slice ra rs.length rc) := hX2.cell 2
  have x3 : w2.cell? ⟨w1.heap.size, 3, none⟩ = some (.int .i64 top) := hX2.cell 3
  have x4 : w2.cell? ⟨w1.heap.size, 4, none⟩ = some (.int .i64 mature) := hX2.cell 4
  have x5 : w2.cell? ⟨w1.heap.size, 5, none⟩ = some (.int .i64 fee) := hX2.cell 5
  have hgl1 : bs.length ≤ 6 := HGo.out.1.2.1
  have hgl2 : os.length ≤ 5 := HGo.out.2.1.2.1
  have hgl3 : rs.length = os.length := HGo.out.2.1.2.2.1
  have HNew : Hid (Calls Try.prog 11 #[.agg #[.slice ba bs.length bc, .slice oa os.length oc, .slice ra rs.length rc, .int .i64 top, .int .i64 mature, .int .i64 fee]] w2 fun e w' => Begun w2 w' e bs os rs top mature fee) := new_good _ _ _ bs os rs top mature fee w2 hIb hIo hIr (by omega) (by omega) (by omega) HGo.out
  clear hA hX hb2 hA2 hb1 ho1 hr1 hIo hIr hbl1 hgl3
  go_wp2_with fail
  refine HNew.out.mono ?_
  intro e w3 hbg
  obtain ⟨g, bv, vv, rfl, hP3⟩ := begun_pe hbg HGo.out
  have hb3 : Below w2.heap.size w2 w3 := hP3.fr.toBelow (Nat.le_refl _) (fun k hk h => by omega)
  have hX3 := hX2.below hb3 hX2.lt
  have hI3 := hIb.below hb3 (Nat.le_refl _)
  have hw3 : Below w.heap.size w w3 := hw2.trans (hb3.mono hw2.size)
  obtain ⟨f1, f2, f3⟩ := xN_fine HGo.out
  have HEn0 : Hid (Eng (fun k => w2.heap.size ≤ k) w2 w3 g (xN bs os rs top mature fee) bv vv) := ⟨_, hP3⟩
  have HSt0 : Hid (StepSl w2 (.slice sa ops.length scap) ops) := HSt.out.below hw2 (Nat.le_refl _)
  have HFi0 : Hid (Fine (xN bs os rs top mature fee) ∧ (xN bs os rs top mature fee).ents.length ≤ 0 ∧ (xN bs os rs top mature fee).height ≤ 0 ∧ (xN bs os rs top mature fee).vals.length = os.length ∧ (xN bs os rs top mature fee).top = top) := ⟨f1, Nat.le_refl _, Int.le_refl _, f3, rfl⟩
  have HX2 : Hid (Has w2 w1.heap.size 25 [.slice ba bs.length bc, .slice oa os.length oc, .slice ra rs.length rc, .int .i64 top, .int .i64 mature, .int .i64 fee]) := hX2
  have HW2 : Hid (Below w.heap.size w w2) := hw2
  generalize xN bs os rs top mature fee = xx at *
  clear hbg hP3 hb3 hX3 hX2 hI3 hIb hw2 hw3 x0 x1 x2 x3 x4 x5 HNew HGo f1 f2 f3 HSt
  go_wp2
  go_loopw [9] (fun i wr => ∃ (q : Nat) (y : EC), q ≤ 200 ∧ i = .int .i64 q ∧ Fine y ∧ y.ents.length ≤ q ∧ y.height ≤ q ∧ y.vals.length = os.length ∧ y.top = top ∧ Eng (fun k => w2.heap.size ≤ k) w2 wr g y bv vv) (fun i _ => 200 - (intOf i).toNat)
  case atStart => exact ⟨0, xx, by omega, rfl, HFi0.out.1, HFi0.out.2.1, HFi0.out.2.2.1, HFi0.out.2.2.2.1, HFi0.out.2.2.2.2, HEn0.out⟩
  case round =>
    clear HEn0 HFi0
    obtain ⟨q, y, hq, rfl, hfi, hen, hhg, hvl, htp, hE⟩ := hrel
    have hfr : Below w2.heap.size w2 wr := by
      obtain ⟨ev, hP⟩ := hE
      exact hP.fr.toBelow (Nat.le_refl _) (fun k hk h => by omega)
    have hst := HSt0.out.below hfr (Nat.le_refl _)
    have HFi : Hid (Fine y ∧ y.ents.length ≤ q ∧ y.height ≤ q ∧ y.vals.length = os.length ∧ y.top = top) := ⟨hfi, hen, hhg, hvl, htp⟩
    have HEn : Hid (Eng (fun k => w2.heap.size ≤ k) w2 wr g y bv vv) := hE
    have stop : Below w2.heap.size w2 wr := hfr
    clear hfi hen hhg hvl htp hE hfr
    by_cases hlt : q < ops.length ∧ q < 200
    · obtain ⟨hl1, hl2⟩ := hlt
      obtain ⟨gs, off, rfl, hc⟩ := hst.get (by omega)
      have z0 : wr.cell? ⟨gs, off + q * 5, none⟩ = some (.int .i64 ops[q].k) := hc q hl1 0 (by omega)
      have z1 : wr.cell? ⟨gs, off + q * 5 + 1, none⟩ = some (.int .i64 ops[q].a) := hc q hl1 1 (by omega)
      have z2 : wr.cell? ⟨gs, off + q * 5 + 2, none⟩ = some (.int .i64 ops[q].b) := hc q hl1 2 (by omega)
      have z3 : wr.cell? ⟨gs, off + q * 5 + 3, none⟩ = some (.int .i64 ops[q].c) := hc q hl1 3 (by omega)
      have z4 : wr.cell? ⟨gs, off + q * 5 + 4, none⟩ = some (.int .i64 ops[q].d) := hc q hl1 4 (by omega)
      clear hc hst stop
      generalize ops[q] = st at *
      go_wp2_with fail
      refine (does_any HEn.out HFi.out.1 q HFi.out.2.1 (by omega) st.k st.a st.b st.c st.d).mono ?_
      rintro e w5 ⟨rfl, hE5, hL5⟩
      have HE5 : Hid (∃ y', Fine y' ∧ y'.ents.length ≤ q + 1 ∧ y'.height ≤ ((q + 1 : Nat) : Int) ∧ y'.vals.length = os.length ∧ y'.top = top ∧ Eng (fun k => w2.heap.size ≤ k) w2 w5 g y' bv vv) := ⟨_, hL5.fine, hL5.el, by have h1 := hL5.hg; have h2 := HFi.out.2.2.1; omega, hL5.vl.trans HFi.out.2.2.2.1, hL5.top.trans HFi.out.2.2.2.2, hE5⟩
      generalize (doesR y st.k st.a st.b st.c st.d).1 = rc at *
      clear hE5 hL5 HEn HFi z0 z1 z2 z3 z4
      go_wp2
      refine And.intro ?_ ?_
      · obtain ⟨y', h1, h2, h3, h4, h5, h6⟩ := HE5.out
        first | exact ⟨q + 1, y', by omega, by go_num, h1, h2, h3, h4, h5, h6⟩ | ((repeat apply Exists.intro); exact ⟨⟨q + 1, y', by omega, by go_num, h1, h2, h3, h4, h5, h6⟩, rfl⟩)
      · simp [intOf]; omega
    · clear hst
      have hsp : ¬ q < ops.length ∨ (q < ops.length ∧ ¬ q < 200) := by omega
      have key : ∀ w4, Below w2.heap.size w2 w4 → Eng (fun k => w2.heap.size ≤ k) w2 w4 g y bv vv → True := fun _ _ _ => trivial
      clear key
      have HBl : Hid (Calls Try.prog 17 #[.pointer (some ⟨g, 0, none⟩)] wr fun e w' => e = .returned (.int .i64 0) ∧ ∃ z, Fine z ∧ z.ents.length ≤ 201 ∧ z.vals.length = os.length ∧ Best z.vals ∧ sumV inI z.vals ≤ top ∧ (sumV inI z.vals = top ∨ sumV inI z.vals = sumV mayI z.vals) ∧ Eng (fun k => w2.heap.size ≤ k) w2 w' g z bv vv) := by
        obtain ⟨ev, hP⟩ := HEn.out
        obtain ⟨h1, h2, h3, h4, h5⟩ := HFi.out
        have okx : Ok y.height y := h1
        refine (fBlock hP h1 q h2 (by omega)).mono ?_
        rintro e w' ⟨rfl, hE', hL'⟩
        have hh : ¬ 1000 ≤ y.height := by omega
        have e1 : blkR y = (0, setF (payEF (upF y))) := by unfold blkR; rw [if_neg hh]
        rw [e1] at hE' hL' ⊢
        have hs := okx.share (by have := okx.hgt1; omega)
        have htp : (payEF (upF y)).top = top := hs.2.2.2.2.2.1.trans h5
        have ht0 := okx.top0
        obtain ⟨g1, g2, g3, g4⟩ := chooseF_best (payEF (upF y)).vals (payEF (upF y)).top (by rw [htp, ← h5]; omega)
        have hvv : (setF (payEF (upF y))).vals = chooseF (payEF (upF y)).vals (payEF (upF y)).top := rfl
        have hel : (setF (payEF (upF y))).ents.length ≤ q + 1 := hL'.el
        refine ⟨rfl, setF (payEF (upF y)), hL'.fine, by omega, hL'.vl.trans h4, g1, ?_, ?_, hE'⟩
        · rw [hvv]; exact Int.le_trans g3 (by rw [htp]; exact Int.le_refl _)
        · rw [hvv, ← htp]; exact g4
      clear HFi HEn
      rcases hsp with hsp | ⟨hsp, hsp2⟩
      all_goals
        go_wp2_with fail
        refine HBl.out.mono ?_
        rintro e w5 ⟨rfl, z, hzf, hze, hzl, hzB, hzt, hzm, hzE⟩
        obtain ⟨ev, hzP⟩ := hzE
        have okz : Ok z.height z := hzf
        have hEB : EB z.ents := fun k hk => ⟨(okz.ent _ (List.getElem_mem hk)).a0, okz.bds.2.2.2.2 k hk⟩
        have HSee : Hid (Calls Try.prog 15 #[.pointer (some ⟨g, 0, none⟩)] w5 fun e w' => SeeQ w5 w' e z) := kseeQ g z bv vv ev w5 hzP okz.feeOk.vb hEB okz.b6 okz.v5 (by omega)
        have hf5 : Below w2.heap.size w2 w5 := hzP.fr.toBelow (Nat.le_refl _) (fun k hk h => by omega)
        have HZ : Hid (Best z.vals ∧ sumV inI z.vals ≤ top ∧ (sumV inI z.vals = top ∨ sumV inI z.vals = sumV mayI z.vals) ∧ z.vals.length = os.length) := ⟨hzB, hzt, hzm, hzl⟩
        have HF5 : Hid (Below w2.heap.size w2 w5) := hf5
        clear hzf hze hzl hzB hzt hzm hzP okz hEB hf5 HBl
        go_wp2_with fail
        refine HSee.out.mono ?_
        rintro e w6 ⟨sb, sv, sd, se, rfl, hsb, hsv, hse, ⟨da, dn, dc, rfl⟩, hb6⟩
        obtain ⟨b0, bc', rfl⟩ := ownsRow_slice hsb
        obtain ⟨va, vc, rfl⟩ := ownsRow_slice hsv
        obtain ⟨e0', ec, rfl⟩ := ownsRow_slice hse
        have hfd : ∀ u : World, (Instr.field 42 (.agg #[.int .i64 z.height, .slice b0 z.bal.length bc', .int .i64 z.fees, .int .i64 z.pool, .int .i64 (bondedN z.vals), .int .i64 (looseV z.vals + sumE z.ents), .slice va z.vals.length vc, .slice da dn dc, .slice e0' z.ents.length ec]) 6).run Try.prog u = .ok (.slice va z.vals.length vc) u := fun _ => by kernel_rfl
        have hf6 : Below w2.heap.size w2 w6 := HF5.out.trans (hb6.mono HF5.out.size)
        have hX6 := HX2.out.below hf6 HX2.out.lt
        have x1 : w6.cell? ⟨w1.heap.size, 1, none⟩ = some (.slice oa os.length oc) := hX6.cell 1
        have x3 : w6.cell? ⟨w1.heap.size, 3, none⟩ = some (.int .i64 top) := hX6.cell 3
        have HRd : Hid (Rd w6 (.slice va z.vals.length vc) z.vals.length 8 (vrow z.vals)) := Rd.of_owns hsv
        have HFin : Hid (Below w.heap.size w w6) := HW2.out.trans (hf6.mono HW2.out.size)
        have hzl : ((z.vals.length : Int) != (os.length : Int)) = false := by have := HZ.out.2.2.2; simp; omega
        have hv5 : z.vals.length ≤ 5 := by have := HZ.out.2.2.2; omega
        clear hsb hsv hse hb6 hf6 hX6 HSee HF5
        have HZB : Hid (∀ i k (hi : i < z.vals.length) (hk : k < z.vals.length), z.vals[i].inset = true → z.vals[k].inset = false → z.vals[k].jailed = false → z.vals[k].tokens ≤ z.vals[i].tokens) := fun i k hi hk h1 h2 h3 => by
          have := HZ.out.1.le i k hi hk
          have e1 : z.vals.getD i v0 = z.vals[i] := by simp [hi]
          have e2 : z.vals.getD k v0 = z.vals[k] := by simp [hk]
          rw [e1, e2] at this
          exact this h1 h2 h3
        have HT : Hid (sumV inI z.vals ≤ top ∧ (sumV inI z.vals = top ∨ sumV inI z.vals = sumV mayI z.vals)) := ⟨HZ.out.2.1, HZ.out.2.2.1⟩
        have HIb : Hid (∀ k, k ≤ z.vals.length → (0 ≤ sumV inI (z.vals.take k) ∧ sumV inI (z.vals.take k) ≤ k) ∧ 0 ≤ sumV mayI (z.vals.take k) ∧ sumV mayI (z.vals.take k) ≤ k) := fun k hk => ⟨ind_bd inI inI_bd z.vals k hk, ind_bd mayI mayI_bd z.vals k hk⟩
        have HXg : Hid (∀ wr, Below w6.heap.size w6 wr → wr.cell? ⟨w1.heap.size, 3, none⟩ = some (.int .i64 top)) := fun wr hb => by
          rw [hb.cell (p := ⟨w1.heap.size, 3, none⟩) (World.block_lt_of_cell? w6 _ x3)]; exact x3
        clear HZ
        go_wp2
        go_loopw [12, 13, 14] (fun n m i wr => ∃ k : Nat, k ≤ z.vals.length ∧ i = .int .i64 k ∧ n = .int .i64 (sumV inI (z.vals.take k)) ∧ m = .int .i64 (sumV mayI (z.vals.take k)) ∧ Below w6.heap.size w6 wr) (fun _ _ i _ => z.vals.length - (intOf i).toNat)
        case atStart => exact ⟨0, Nat.zero_le _, rfl, by simp [sumV, sumI], by simp [sumV, sumI], Below.refl _ _⟩
        case round =>
          clear x1 x3 hzl
          obtain ⟨k, hk, rfl, rfl, rfl, hbw⟩ := hrel
          obtain ⟨⟨q1, q2⟩, q3, q4⟩ := HIb.out k hk
          have HBw : Hid (Below w6.heap.size w6 wr) := hbw
          by_cases hlt3 : k < z.vals.length
          · obtain ⟨gv, rfl, hc⟩ := (HRd.out.below hbw (Nat.le_refl _)).get (by omega)
            have y2 := hc _ _ (vrow_at z.vals k hlt3 2 (by omega))
            have y6 := hc _ _ (vrow_at z.vals k hlt3 6 (by omega))
            have y7 := hc _ _ (vrow_at z.vals k hlt3 7 (by omega))
            have HS1 : Hid (sumV inI (z.vals.take (k + 1)) = sumV inI (z.vals.take k) + inI z.vals[k]) := sumV_take _ z.vals k hlt3
            have HS2 : Hid (sumV mayI (z.vals.take (k + 1)) = sumV mayI (z.vals.take k) + mayI z.vals[k]) := sumV_take _ z.vals k hlt3
            have HLe : Hid (∀ i (hi : i < z.vals.length), z.vals[k].inset = true → z.vals[i].inset = false → z.vals[i].jailed = false → z.vals[i].tokens ≤ z.vals[k].tokens) := fun i hi => HZB.out k i hlt3 hi
            clear hc hbw
            generalize hxk : z.vals[k] = x at *
            have HXk : Hid (z.vals[k] = x) := hxk
            clear hxk
            obtain ⟨xo, xr, xt, xs, xc, xou, xj, xi⟩ := x
            dsimp only at y2 y6 y7 HLe
            by_cases hm : 0 < xt
            all_goals
              cases xi <;> cases xj
              all_goals
                have hs1 := HS1.out
                have hs2 := HS2.out
                clear HS1 HS2
                simp [inI] at hs1
                simp [mayI, hm] at hs2
                have HS1 : Hid _ := hs1
                have HS2 : Hid _ := hs2
                clear hs1 hs2
                go_wp2
                obtain ⟨wo, rfl⟩ : ∃ wo : World, wo = wr := ⟨_, rfl⟩
                go_loopw [15] (fun i wr => ∃ k2 : Nat, k2 ≤ z.vals.length ∧ i = .int .i64 k2 ∧ Below w6.heap.size w6 wr) (fun i _ => z.vals.length - (intOf i).toNat)
                case atStart => exact ⟨0, Nat.zero_le _, rfl, HBw.out⟩
                case round =>
                  clear HBw y2 y6 y7
                  obtain ⟨k2, hk2, rfl, hbw⟩ := hrel
                  obtain ⟨gv', he', hc⟩ := (HRd.out.below hbw (Nat.le_refl _)).get (by omega)
                  simp only [Option.some.injEq, Addr.mk.injEq, and_true] at he'
                  subst he'
                  have HBw : Hid (Below w6.heap.size w6 wr) := hbw
                  have y2 := hc _ _ (vrow_at z.vals k hlt3 2 (by omega))
                  have y7 := hc _ _ (vrow_at z.vals k hlt3 7 (by omega))
                  rw [HXk.out] at y2 y7
                  dsimp only at y2 y7
                  by_cases hlt4 : k2 < z.vals.length
                  · have u2 := hc _ _ (vrow_at z.vals k2 hlt4 2 (by omega))
                    have u6 := hc _ _ (vrow_at z.vals k2 hlt4 6 (by omega))
                    have u7 := hc _ _ (vrow_at z.vals k2 hlt4 7 (by omega))
                    have HL4 := HLe.out k2 hlt4
                    clear hc hbw HXk
                    generalize z.vals[k2] = x2 at *
                    obtain ⟨xo2, xr2, xt2, xs2, xc2, xou2, xj2, xi2⟩ := x2
                    dsimp only at u2 u6 u7 HL4
                    have HL5 : Hid _ := HL4
                    clear HL4
                    cases xi2 <;> cases xj2
                    all_goals
                      try (have hle : xt2 ≤ xt := by simpa using HL5.out)
                      clear HL5
                      go_wp2
                      go_region
                      try go_wp2
                      refine And.intro ?_ ?_
                      · first | exact ⟨k2 + 1, by omega, by go_num, HBw.out.drew⟩ | exact ⟨k2 + 1, by omega, by go_num, HBw.out⟩ | ((repeat apply Exists.intro); first | exact ⟨⟨k2 + 1, by omega, by go_num, HBw.out.drew⟩, rfl⟩ | exact ⟨⟨k2 + 1, by omega, by go_num, HBw.out⟩, rfl⟩)
                      · simp [intOf]; omega
                  · clear hc hbw
                    go_wp2
                    refine And.intro ?_ ?_
                    · first
                        | exact ⟨k + 1, by omega, by go_num, by rw [HS1.out], by rw [HS2.out], HBw.out⟩
                        | ((repeat apply Exists.intro); exact ⟨⟨k + 1, by omega, by go_num, by rw [HS1.out], by rw [HS2.out], HBw.out⟩, rfl⟩)
                    · simp [intOf]; omega
          · have c3 := HXg.out wr hbw
            have HSn : Hid (sumV inI (z.vals.take k) = sumV inI z.vals ∧ sumV mayI (z.vals.take k) = sumV mayI z.vals) := by
              have h1 : sumV inI (z.vals.take k) = sumV inI z.vals ∧ sumV mayI (z.vals.take k) = sumV mayI z.vals := by rw [List.take_of_length_le (by omega)]; exact ⟨rfl, rfl⟩
              exact h1
            have hT := HT.out
            rw [← HSn.out.1, ← HSn.out.2] at hT
            have HFw : Hid (Below w.heap.size w wr) := HFin.out.trans (hbw.mono HFin.out.size)
            clear hbw HSn HT
            obtain ⟨hT1, hT2⟩ := hT
            generalize sumV inI (z.vals.take k) = nn at *
            generalize sumV mayI (z.vals.take k) = mm at *
            by_cases hnt : nn = top
            · have e1 : (nn == top) = true := by simp [hnt]
              clear hT2 hnt
              go_wp2
              go_ret
              refine ⟨?_, HFw.out⟩
              simp
            · have hnm : nn = mm := hT2.resolve_left hnt
              have e1 : (nn == top) = false := by simp [hnt]
              have e2 : (nn == mm) = true := by simp [hnm]
              clear hT2 hnt hnm
              go_wp2
              go_ret
              refine ⟨?_, HFw.out⟩
              simp

set_option maxRecDepth 100000 in
theorem set_lifted (os : Os) (started : os.Started) (H : Type) (enc : TypeId × Value → H) :
    ReturnsInHanded {} Try.checked os 6 .any (Rows.setSpec.pre6 enc Try.prog Try.f6 Rows.setRow.domain false) (Rows.setSpec.post enc Try.prog Try.f6 false true false false) := by
  refine returnsInHanded_of_change (C := Try.checked) own0 started (by kernel_rfl) Try.func6
    (ChangeSpec.witness6 (enc := enc) (C := Try.checked) false ⟨#[], #[.int .i64 0, .slice none 0 0], []⟩ 8 (by kernel_rfl) (by kernel_rfl) (by kernel_rfl) (by kernel_rfl)) ?_
  intro W base args ds gs before hval0 hW hcnd _
  have hval : ∀ (j : Nat) t v, Try.f6.params[j]? = some t → args[j]? = some v → Value.okWide Try.prog W .any base t v := hval0
  have hW' := hW
  obtain ⟨p, q, hA0, hV, rfl, hfz, hnd⟩ := hW
  have hA : DataW.TrodAll enc Try.prog W 0 (fun _ => true) true Try.f6.params.toList args.toList ds p := hA0
  rw [Try.params6] at hA hval
  obtain ⟨v0, vs0, d0, ds0, p0, q0, hargs, rfl, rfl, h0, r0⟩ := trodAll_cons hA
  obtain ⟨v1, vs1, d1, ds1, p1, q1, rfl, rfl, rfl, h1, r1⟩ := trodAll_cons r0
  obtain ⟨rfl, rfl, rfl⟩ := trodAll_nil r1
  obtain rfl : args = #[v0, v1] := by cases args; simp_all
  obtain ⟨rfl, rfl⟩ := trodVars_none hV
  obtain ⟨a0, rfl, rfl, rfl, w0⟩ := open_int Try.underlying3 (hval 0 3 v0 rfl rfl) h0
  obtain ⟨a1, len1, cap1, rfl⟩ := okWide_slice Try.underlying22 (hval 1 22 v1 rfl rfl)
  have k1 := h1
  have lt1 : ∀ x ∈ p1, x.block < W.heap.size := by obtain ⟨m, hm⟩ := k1; exact DataW.trod_lt m _ _ _ hm
  obtain ⟨ops, ho⟩ := steps_read h1 ⟨_, _, _, rfl⟩
  clear hA0 hval0
  have q0 := wf_i64 w0
  refine (set_walk a0 _ ops W q0.1 q0.2 ho).mono fun e W' ⟨he, bel⟩ => ?_
  subst he
  exact ⟨_, rfl, _, _, _, [], _, [], hW', trodAll_mk1 (shut_bool Try.underlying4 _), (trodAll_cons_mk (shut_int Try.underlying3 w0) (trodAll_cons_mk (Below.trod laidOut0 (by kernel_rfl) (of_decide_eq_true (by kernel_rfl)) k1 bel lt1) trodAll_mk0)), rfl, bel.frame _, fun h => by cases h⟩

theorem set_over : Rows.setRow.holds Try.pinned (OpenSpec.ofChange Rows.setSpec) :=
  OpenClaim.holds_of_wide 6 Try.f6 rfl rfl rfl rfl rfl rfl rfl ⟨rfl, rfl, rfl, rfl, rfl⟩ rfl rfl rfl rfl rfl (by kernel_rfl) Try.func6 (by kernel_rfl)
    (of_decide_eq_true (by kernel_rfl)) (by unfold Func.isWrapper; first | (rw [if_pos (by decide +kernel)]; kernel_rfl) | (rw [if_neg (by decide +kernel)]; exact ⟨rfl, rfl⟩))
    (fun os started H enc _ => set_lifted os started H enc)

theorem set_proved : Rows.SetSaid := set_over
end Go.Proofs.Ytohjjgefklhmaaa
