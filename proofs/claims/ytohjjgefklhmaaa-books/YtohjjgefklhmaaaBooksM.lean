import Derived.Test.YtohjjgefklhmaaaGBookM
import Derived.Deep.RegionWith
namespace Go.Proofs.Ytohjjgefklhmaaa
open Go.ChangeShapes Go.WideShapes Go.ChangeAt Go.RowKit
set_option linter.unusedVariables false

set_option maxHeartbeats 4000000 in
set_option maxRecDepth 100000 in
theorem books_walk (c : Int) (v : Value) (ops : List StepD) (w : World) (hc1 : -9223372036854775808 ≤ c) (hc2 : c ≤ 9223372036854775807) (hs : StepSl w v ops) :
    Calls Try.prog 4 #[.int .i64 c, v] w fun e w' => e = .returned (.bool true) ∧ Below w.heap.size w w' := by
  obtain ⟨sa, scap, rfl, hh0⟩ := id hs
  clear hh0
  have HB : Hid (∀ u, Calls Try.prog 9 #[.int .i64 c] u fun e w' => BegP u w' e) := fun u => beginning_any c u hc1 hc2
  have HLi : Hid (∀ u, Calls Try.prog 10 #[] u fun e w' => e = .returned (.bool true) ∧ Below u.heap.size u w') := lives_any
  have HSt : Hid (StepSl w (.slice sa ops.length scap) ops) := hs
  clear hc1 hc2 hs
  go_enter Try.func4, Try.ntmps4
  go_wp2_with fail
  refine (HB.out _).mono ?_
  rintro e w1 ⟨vb, vo, vr, bs, os, rs, top, mature, fee, rfl, hb1, ho1, hr1, hgood, hbl1⟩
  clear HB
  obtain ⟨ba, bc, rfl, _⟩ := id hb1
  obtain ⟨oa, oc, rfl, _⟩ := id ho1
  obtain ⟨ra, rc, rfl, _⟩ := id hr1
  have HGo : Hid (GoodGen bs os rs top mature fee) := hgood
  clear hgood
  have hX : Has (w1.alloc (.cells #[.slice ba bs.length bc, .slice oa os.length oc, .slice ra rs.length rc, .int .i64 top, .int .i64 mature, .int .i64 fee] 25)) w1.heap.size 25 [.slice ba bs.length bc, .slice oa os.length oc, .slice ra rs.length rc, .int .i64 top, .int .i64 mature, .int .i64 fee] := Has.newA w1 _ _
  have hA : Below w1.heap.size w1 (w1.alloc (.cells #[.slice ba bs.length bc, .slice oa os.length oc, .slice ra rs.length rc, .int .i64 top, .int .i64 mature, .int .i64 fee] 25)) := (Below.refl _ _).alloc (Nat.le_refl _) _
  go_wp2_with fail
  refine (HLi.out _).mono ?_
  rintro e w2 ⟨rfl, hb2⟩
  clear HLi
  have hA2 : Below w1.heap.size w1 w2 := hA.trans (hb2.mono hA.size)
  have hX2 := hX.below hb2 hX.lt
  have hIb := hb1.below hA2 (Nat.le_refl _)
  have hIo := ho1.below hA2 (Nat.le_refl _)
  have hIr := hr1.below hA2 (Nat.le_refl _)
  have hw2 : Below w.heap.size w w2 := hbl1.trans (hA2.mono hbl1.size)
  have x0 : w2.cell? ⟨w1.heap.size, 0, none⟩ = some (.slice ba bs.length bc) := hX2.cell 0
  have x1 : w2.cell? ⟨w1.heap.size, 1, none⟩ = some (.slice oa os.length oc) := hX2.cell 1
  have x2 : w2.cell? ⟨w1.heap.size, 2, none⟩ = some (.slice ra rs.length rc) := hX2.cell 2
  have x3 : w2.cell? ⟨w1.heap.size, 3, none⟩ = some (.int .i64 top) := hX2.cell 3
  have x4 : w2.cell? ⟨w1.heap.size, 4, none⟩ = some (.int .i64 mature) := hX2.cell 4
  have x5 : w2.cell? ⟨w1.heap.size, 5, none⟩ = some (.int .i64 fee) := hX2.cell 5
  have hgl1 : bs.length ≤ 6 := HGo.out.1.2.1
  have hgl2 : os.length ≤ 5 := HGo.out.2.1.2.1
  have hgl3 : rs.length = os.length := HGo.out.2.1.2.2.1
  have HNew : Hid (Calls Try.prog 11 #[.agg #[.slice ba bs.length bc, .slice oa os.length oc, .slice ra rs.length rc, .int .i64 top, .int .i64 mature, .int .i64 fee]] w2 fun e w' => Begun w2 w' e bs os rs top mature fee) := new_good _ _ _ bs os rs top mature fee w2 hIb hIo hIr (by omega) (by omega) (by omega) HGo.out
  clear hA hX hb2 hA2 hb1 ho1 hr1 hIo hIr hbl1 hgl3
  go_wp2_with fail
  refine HNew.out.mono ?_
  intro e w3 hbg
  obtain ⟨g, bv, vv, rfl, hP3⟩ := begun_pe hbg HGo.out
  have hb3 : Below w2.heap.size w2 w3 := hP3.fr.toBelow (Nat.le_refl _) (fun k hk h => by omega)
  have hX3 := hX2.below hb3 hX2.lt
  have hI3 := hIb.below hb3 (Nat.le_refl _)
  have hw3 : Below w.heap.size w w3 := hw2.trans (hb3.mono hw2.size)
  obtain ⟨f1, f2, f3⟩ := xN_fine HGo.out
  have HEn0 : Hid (Eng (fun k => w2.heap.size ≤ k) w2 w3 g (xN bs os rs top mature fee) bv vv) := ⟨_, hP3⟩
  have HSt0 : Hid (StepSl w2 (.slice sa ops.length scap) ops) := HSt.out.below hw2 (Nat.le_refl _)
  have HFi0 : Hid (Fine (xN bs os rs top mature fee) ∧ (xN bs os rs top mature fee).ents.length ≤ 0 ∧ (xN bs os rs top mature fee).bal.length = bs.length ∧ InvB (xN bs os rs top mature fee) ∧ (xN bs os rs top mature fee).top = top) := ⟨f1, Nat.le_refl _, rfl, xN_inv HGo.out, rfl⟩
  have HX2 : Hid (Has w2 w1.heap.size 25 [.slice ba bs.length bc, .slice oa os.length oc, .slice ra rs.length rc, .int .i64 top, .int .i64 mature, .int .i64 fee]) := hX2
  have HW2 : Hid (Below w.heap.size w w2) := hw2
  generalize xN bs os rs top mature fee = xx at *
  clear hbg hP3 hb3 hX3 hX2 hI3 hIb hw2 hw3 x0 x1 x2 x3 x4 x5 HNew HGo f1 f2 f3 HSt
  go_wp2
  go_loopw [9] (fun i wr => ∃ (q : Nat) (y : EC), q ≤ 200 ∧ i = .int .i64 q ∧ Fine y ∧ y.ents.length ≤ q ∧ y.bal.length = bs.length ∧ InvB y ∧ y.top = top ∧ Eng (fun k => w2.heap.size ≤ k) w2 wr g y bv vv) (fun i _ => 200 - (intOf i).toNat)
  case atStart => exact ⟨0, xx, by omega, rfl, HFi0.out.1, HFi0.out.2.1, HFi0.out.2.2.1, HFi0.out.2.2.2.1, HFi0.out.2.2.2.2, HEn0.out⟩
  case round =>
    clear HEn0 HFi0
    obtain ⟨q, y, hq, rfl, hfi, hen, hbl, hib, htp, hE⟩ := hrel
    have hfr : Below w2.heap.size w2 wr := by
      obtain ⟨ev, hP⟩ := hE
      exact hP.fr.toBelow (Nat.le_refl _) (fun k hk h => by omega)
    have hst := HSt0.out.below hfr (Nat.le_refl _)
    have HFi : Hid (Fine y ∧ y.ents.length ≤ q ∧ y.bal.length = bs.length ∧ InvB y ∧ y.top = top) := ⟨hfi, hen, hbl, hib, htp⟩
    have HEn : Hid (Eng (fun k => w2.heap.size ≤ k) w2 wr g y bv vv) := hE
    have HFr : Hid (Below w2.heap.size w2 wr) := hfr
    have HBk : Hid (∀ {wr : World} {y : EC}, Fine y → InvB y → y.ents.length ≤ 200 → y.top = top → Eng (fun k => w2.heap.size ≤ k) w2 wr g y bv vv → Calls Try.prog 14 #[.pointer (some ⟨g, 0, none⟩), .int .i64 top] wr fun e w' => e = .returned (.bool true) ∧ Below wr.heap.size wr w') := fun h1 h2 h3 h4 h5 => booked_any h5 h1 h2 (by omega) top (by rw [h4]; exact Int.le_refl _)
    have HGx : Hid (∀ u, Below w2.heap.size w2 u → Has u w1.heap.size 25 [.slice ba bs.length bc, .slice oa os.length oc, .slice ra rs.length rc, .int .i64 top, .int .i64 mature, .int .i64 fee]) := fun u hu => HX2.out.below hu HX2.out.lt
    have HFx : Hid (∀ {u : World} {y : EC}, Eng (fun k => w2.heap.size ≤ k) w2 u g y bv vv → Below w2.heap.size w2 u) := fun h => by
      obtain ⟨ev, hP⟩ := h
      exact hP.fr.toBelow (Nat.le_refl _) (fun k hk h => by omega)
    have hX := HGx.out wr hfr
    have x0 : wr.cell? ⟨w1.heap.size, 0, none⟩ = some (.slice ba bs.length bc) := hX.cell 0
    have x3 : wr.cell? ⟨w1.heap.size, 3, none⟩ = some (.int .i64 top) := hX.cell 3
    clear hfi hen hbl hib htp hE hfr hX
    by_cases hlt : q < ops.length ∧ q < 200
    · obtain ⟨hl1, hl2⟩ := hlt
      obtain ⟨gs, off, rfl, hc⟩ := hst.get (by omega)
      have z0 : wr.cell? ⟨gs, off + q * 5, none⟩ = some (.int .i64 ops[q].k) := hc q hl1 0 (by omega)
      have z1 : wr.cell? ⟨gs, off + q * 5 + 1, none⟩ = some (.int .i64 ops[q].a) := hc q hl1 1 (by omega)
      have z2 : wr.cell? ⟨gs, off + q * 5 + 2, none⟩ = some (.int .i64 ops[q].b) := hc q hl1 2 (by omega)
      have z3 : wr.cell? ⟨gs, off + q * 5 + 3, none⟩ = some (.int .i64 ops[q].c) := hc q hl1 3 (by omega)
      have z4 : wr.cell? ⟨gs, off + q * 5 + 4, none⟩ = some (.int .i64 ops[q].d) := hc q hl1 4 (by omega)
      clear hc hst x0 x3
      generalize ops[q] = st at *
      go_wp2_with fail
      refine (does_any HEn.out HFi.out.1 q HFi.out.2.1 (by omega) st.k st.a st.b st.c st.d).mono ?_
      rintro e w5 ⟨rfl, hE5, hL5⟩
      have HE5 : Hid (∃ y', Fine y' ∧ y'.ents.length ≤ q + 1 ∧ y'.bal.length = bs.length ∧ InvB y' ∧ y'.top = top ∧ Eng (fun k => w2.heap.size ≤ k) w2 w5 g y' bv vv) := ⟨_, hL5.fine, hL5.el, hL5.bl.trans HFi.out.2.2.1, HFi.out.2.2.2.1.does HFi.out.1 st.k st.a st.b st.c st.d, hL5.top.trans HFi.out.2.2.2.2, hE5⟩
      generalize (doesR y st.k st.a st.b st.c st.d).1 = rc at *
      clear hE5 hL5 HEn HFi HFr z0 z1 z2 z3 z4
      obtain ⟨y', h1, h2, h3, h4, h5, h6⟩ := HE5.out
      have HY : Hid (Fine y' ∧ y'.ents.length ≤ q + 1 ∧ y'.bal.length = bs.length ∧ InvB y' ∧ y'.top = top ∧ Eng (fun k => w2.heap.size ≤ k) w2 w5 g y' bv vv) := ⟨h1, h2, h3, h4, h5, h6⟩
      have hX5 := HGx.out w5 (HFx.out h6)
      have x3 : w5.cell? ⟨w1.heap.size, 3, none⟩ = some (.int .i64 top) := hX5.cell 3
      clear h1 h2 h3 h4 h5 h6 HE5 hX5
      go_wp2_with fail
      refine (HBk.out HY.out.1 HY.out.2.2.2.1 (by have := HY.out.2.1; omega) HY.out.2.2.2.2.1 HY.out.2.2.2.2.2).mono ?_
      rintro e w6 ⟨rfl, hb6⟩
      have HE6 : Hid (Eng (fun k => w2.heap.size ≤ k) w2 w6 g y' bv vv) := HY.out.2.2.2.2.2.below hb6
      clear hb6 x3
      go_wp2
      refine And.intro ?_ ?_
      · first | exact ⟨q + 1, y', by omega, by go_num, HY.out.1, HY.out.2.1, HY.out.2.2.1, HY.out.2.2.2.1, HY.out.2.2.2.2.1, HE6.out⟩ | ((repeat apply Exists.intro); exact ⟨⟨q + 1, y', by omega, by go_num, HY.out.1, HY.out.2.1, HY.out.2.2.1, HY.out.2.2.2.1, HY.out.2.2.2.2.1, HE6.out⟩, rfl⟩)
      · simp [intOf]; omega
    · clear hst
      have hsp : ¬ q < ops.length ∨ (q < ops.length ∧ ¬ q < 200) := by omega
      clear hlt
      rcases hsp with hsp | ⟨hsp, hsp2⟩
      all_goals
        go_wp2_with fail
        refine (HBk.out HFi.out.1 HFi.out.2.2.2.1 (by have := HFi.out.2.1; omega) HFi.out.2.2.2.2 HEn.out).mono ?_
        rintro e w6 ⟨rfl, hb6⟩
        have HE6 : Hid (Eng (fun k => w2.heap.size ≤ k) w2 w6 g y bv vv) := HEn.out.below hb6
        have hF6 := HFx.out HE6.out
        have hX6 := HGx.out w6 hF6
        have u0 : w6.cell? ⟨w1.heap.size, 0, none⟩ = some (.slice ba bs.length bc) := hX6.cell 0
        have hg6 := hX6.lt
        have HW6 : Hid (∀ u, Below w6.heap.size w6 u → Below w.heap.size w u) := fun u hu => HW2.out.trans ((hF6.trans (hu.mono hF6.size)).mono HW2.out.size)
        have HSee : Hid (Calls Try.prog 15 #[.pointer (some ⟨g, 0, none⟩)] w6.drew fun e w' => SeeR w6.drew w' e y) := by
          obtain ⟨ev, hP⟩ := HE6.out
          have okx : Ok y.height y := HFi.out.1
          exact kseeR g y bv vv ev w6.drew hP.drew okx.feeOk.vb (fun k hk => ⟨(okx.ent _ (List.getElem_mem hk)).a0, okx.bds.2.2.2.2 k hk⟩) okx.b6 okx.v5 (by have := HFi.out.2.1; omega)
        have hbb : bs.length ≤ 6 := by have := HFi.out.2.2.1; have := HFi.out.1.b6; omega
        have HWd : Hid (∀ u, Below w6.drew.heap.size w6.drew u → Below w.heap.size w u ∧ u.cell? ⟨w1.heap.size, 0, none⟩ = some (.slice ba bs.length bc)) := fun u hu => by
          have h1 : Below w6.heap.size w6 u := ((Below.refl _ _).drew).trans hu
          exact ⟨HW6.out u h1, by rw [h1.cell (p := ⟨w1.heap.size, 0, none⟩) hg6]; exact u0⟩
        have HBl : Hid (y.bal.length = bs.length) := HFi.out.2.2.1
        clear hb6 hF6 hX6 HEn HE6 HFi HFr HBk x0 x3 HGx HFx HW6
        go_wp2_with fail
        go_region_with (go_at_call 15; refine HSee.out.mono ?_; rintro e w7 ⟨sb, sv, sd, se, rfl, hsb, hsv, hse, hsd, hb7⟩; obtain ⟨tb, tc, rfl⟩ := ownsRow_slice hsb; obtain ⟨tv, tvc, rfl⟩ := ownsRow_slice hsv; obtain ⟨te, tec, rfl⟩ := ownsRow_slice hse; obtain ⟨td, tdc, rfl⟩ := ownsRow_slice hsd; rw [HBl.out]; have hfd : ∀ u : World, (Instr.field 42 (.agg #[.int .i64 y.height, .slice tb bs.length tc, .int .i64 y.fees, .int .i64 y.pool, .int .i64 (bondedN y.vals), .int .i64 (looseV y.vals + sumE y.ents), .slice tv y.vals.length tvc, .slice td (dAll y.sh y.vals.length bs.length).length tdc, .slice te y.ents.length tec]) 1).run Try.prog u = .ok (.slice tb bs.length tc) u := fun _ => (by kernel_rfl); have u7 := (HWd.out w7 hb7).2; have HF : Hid (Below w.heap.size w w7) := (HWd.out w7 hb7).1; clear hsb hsv hse hsd hb7)
        all_goals
          go_wp2
          go_ret
          first | exact ⟨rfl, HF.out⟩ | (refine ⟨?_, HF.out⟩; first | rfl | (simp; done) | (simp; rfl))

set_option maxRecDepth 100000 in
theorem books_lifted (os : Os) (started : os.Started) (H : Type) (enc : TypeId × Value → H) :
    ReturnsInHanded {} Try.checked os 4 .any (Rows.booksSpec.pre6 enc Try.prog Try.f4 Rows.booksRow.domain false) (Rows.booksSpec.post enc Try.prog Try.f4 false true false false) := by
  refine returnsInHanded_of_change (C := Try.checked) own0 started (by kernel_rfl) Try.func4
    (ChangeSpec.witness6 (enc := enc) (C := Try.checked) false ⟨#[], #[.int .i64 0, .slice none 0 0], []⟩ 8 (by kernel_rfl) (by kernel_rfl) (by kernel_rfl) (by kernel_rfl)) ?_
  intro W base args ds gs before hval0 hW hcnd _
  have hval : ∀ (j : Nat) t v, Try.f4.params[j]? = some t → args[j]? = some v → Value.okWide Try.prog W .any base t v := hval0
  have hW' := hW
  obtain ⟨p, q, hA0, hV, rfl, hfz, hnd⟩ := hW
  have hA : DataW.TrodAll enc Try.prog W 0 (fun _ => true) true Try.f4.params.toList args.toList ds p := hA0
  rw [Try.params4] at hA hval
  obtain ⟨v0, vs0, d0, ds0, p0, q0, hargs, rfl, rfl, h0, r0⟩ := trodAll_cons hA
  obtain ⟨v1, vs1, d1, ds1, p1, q1, rfl, rfl, rfl, h1, r1⟩ := trodAll_cons r0
  obtain ⟨rfl, rfl, rfl⟩ := trodAll_nil r1
  obtain rfl : args = #[v0, v1] := by cases args; simp_all
  obtain ⟨rfl, rfl⟩ := trodVars_none hV
  obtain ⟨a0, rfl, rfl, rfl, w0⟩ := open_int Try.underlying3 (hval 0 3 v0 rfl rfl) h0
  obtain ⟨a1, len1, cap1, rfl⟩ := okWide_slice Try.underlying22 (hval 1 22 v1 rfl rfl)
  have k1 := h1
  have lt1 : ∀ x ∈ p1, x.block < W.heap.size := by obtain ⟨m, hm⟩ := k1; exact DataW.trod_lt m _ _ _ hm
  obtain ⟨ops, ho⟩ := steps_read h1 ⟨_, _, _, rfl⟩
  clear hA0 hval0
  have q0 := wf_i64 w0
  refine (books_walk a0 _ ops W q0.1 q0.2 ho).mono fun e W' ⟨he, bel⟩ => ?_
  subst he
  exact ⟨_, rfl, _, _, _, [], _, [], hW', trodAll_mk1 (shut_bool Try.underlying4 _), (trodAll_cons_mk (shut_int Try.underlying3 w0) (trodAll_cons_mk (Below.trod laidOut0 (by kernel_rfl) (of_decide_eq_true (by kernel_rfl)) k1 bel lt1) trodAll_mk0)), rfl, bel.frame _, fun h => by cases h⟩

theorem books_over : Rows.booksRow.holds Try.pinned (OpenSpec.ofChange Rows.booksSpec) :=
  OpenClaim.holds_of_wide 4 Try.f4 rfl rfl rfl rfl rfl rfl rfl ⟨rfl, rfl, rfl, rfl, rfl⟩ rfl rfl rfl rfl rfl (by kernel_rfl) Try.func4 (by kernel_rfl)
    (of_decide_eq_true (by kernel_rfl)) (by unfold Func.isWrapper; first | (rw [if_pos (by decide +kernel)]; kernel_rfl) | (rw [if_neg (by decide +kernel)]; exact ⟨rfl, rfl⟩))
    (fun os started H enc _ => books_lifted os started H enc)

theorem books_proved : Rows.BooksSaid := books_over
end Go.Proofs.Ytohjjgefklhmaaa
