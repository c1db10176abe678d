import Derived.Test.YtohjjgefklhmaaaGRefM
namespace Go.Proofs.Ytohjjgefklhmaaa
open Go.ChangeShapes Go.WideShapes Go.ChangeAt Go.RowKit
set_option linter.unusedVariables false

set_option maxHeartbeats 4000000 in
set_option maxRecDepth 100000 in
theorem refused_walk (c : Int) (v : Value) (ops : List StepD) (w : World) (hc1 : -9223372036854775808 ≤ c) (hc2 : c ≤ 9223372036854775807) (hs : StepSl w v ops) :
    Calls Try.prog 5 #[.int .i64 c, v] w fun e w' => e = .returned (.bool true) ∧ Below w.heap.size w w' := by
  obtain ⟨sa, scap, rfl, hh0⟩ := id hs
  clear hh0
  have HB : Hid (∀ u, Calls Try.prog 9 #[.int .i64 c] u fun e w' => BegP u w' e) := fun u => beginning_any c u hc1 hc2
  have HLi : Hid (∀ u, Calls Try.prog 10 #[] u fun e w' => e = .returned (.bool true) ∧ Below u.heap.size u w') := lives_any
  have HSt : Hid (StepSl w (.slice sa ops.length scap) ops) := hs
  clear hc1 hc2 hs
  go_enter Try.func5, Try.ntmps5
  go_wp2_with fail
  refine (HB.out _).mono ?_
  rintro e w1 ⟨vb, vo, vr, bs, os, rs, top, mature, fee, rfl, hb1, ho1, hr1, hgood, hbl1⟩
  clear HB
  obtain ⟨ba, bc, rfl, _⟩ := id hb1
  obtain ⟨oa, oc, rfl, _⟩ := id ho1
  obtain ⟨ra, rc, rfl, _⟩ := id hr1
  have HGo : Hid (GoodGen bs os rs top mature fee) := hgood
  clear hgood
  have hX : Has (w1.alloc (.cells #[.slice ba bs.length bc, .slice oa os.length oc, .slice ra rs.length rc, .int .i64 top, .int .i64 mature, .int .i64 fee] 25)) w1.heap.size 25 [.slice ba bs.length bc, .slice oa os.length oc, .slice ra rs.length rc, .int .i64 top, .int .i64 mature, .int .i64 fee] := Has.newA w1 _ _
  have hA : Below w1.heap.size w1 (w1.alloc (.cells #[.slice ba bs.length bc, .slice oa os.length oc, .slice ra rs.length rc, .int .i64 top, .int .i64 mature, .int .i64 fee] 25)) := (Below.refl _ _).alloc (Nat.le_refl _) _
  go_wp2_with fail
  refine (HLi.out _).mono ?_
  rintro e w2 ⟨rfl, hb2⟩
  clear HLi
  have hA2 : Below w1.heap.size w1 w2 := hA.trans (hb2.mono hA.size)
  have hX2 := hX.below hb2 hX.lt
  have hIb := hb1.below hA2 (Nat.le_refl _)
  have hIo := ho1.below hA2 (Nat.le_refl _)
  have hIr := hr1.below hA2 (Nat.le_refl _)
  have hw2 : Below w.heap.size w w2 := hbl1.trans (hA2.mono hbl1.size)
  have x0 : w2.cell? ⟨w1.heap.size, 0, none⟩ = some (.slice ba bs.length bc) := hX2.cell 0
  have x1 : w2.cell? ⟨w1.heap.size, 1, none⟩ = some (.slice oa os.length oc) := hX2.cell 1
  have x2 : w2.cell? ⟨w1.heap.size, 2, none⟩ = some (.slice ra rs.length rc) := hX2.cell 2
  have x3 : w2.cell? ⟨w1.heap.size, 3, none⟩ = some (.int .i64 top) := hX2.cell 3
  have x4 : w2.cell? ⟨w1.heap.size, 4, none⟩ = some (.int .i64 mature) := hX2.cell 4
  have x5 : w2.cell? ⟨w1.heap.size, 5, none⟩ = some (.int .i64 fee) := hX2.cell 5
  have hgl1 : bs.length ≤ 6 := HGo.out.1.2.1
  have hgl2 : os.length ≤ 5 := HGo.out.2.1.2.1
  have hgl3 : rs.length = os.length := HGo.out.2.1.2.2.1
  have HNew : Hid (Calls Try.prog 11 #[.agg #[.slice ba bs.length bc, .slice oa os.length oc, .slice ra rs.length rc, .int .i64 top, .int .i64 mature, .int .i64 fee]] w2 fun e w' => Begun w2 w' e bs os rs top mature fee) := new_good _ _ _ bs os rs top mature fee w2 hIb hIo hIr (by omega) (by omega) (by omega) HGo.out
  clear hA hX hb2 hA2 hb1 ho1 hr1 hIo hIr hbl1 hgl3
  go_wp2_with fail
  refine HNew.out.mono ?_
  intro e w3 hbg
  obtain ⟨g, bv, vv, rfl, hP3⟩ := begun_pe hbg HGo.out
  have hb3 : Below w2.heap.size w2 w3 := hP3.fr.toBelow (Nat.le_refl _) (fun k hk h => by omega)
  have hX3 := hX2.below hb3 hX2.lt
  have hI3 := hIb.below hb3 (Nat.le_refl _)
  have hw3 : Below w.heap.size w w3 := hw2.trans (hb3.mono hw2.size)
  obtain ⟨f1, f2, f3⟩ := xN_fine HGo.out
  have HEn0 : Hid (Eng (fun k => w2.heap.size ≤ k) w2 w3 g (xN bs os rs top mature fee) bv vv) := ⟨_, hP3⟩
  have HSt0 : Hid (StepSl w2 (.slice sa ops.length scap) ops) := HSt.out.below hw2 (Nat.le_refl _)
  have HFi0 : Hid (Fine (xN bs os rs top mature fee) ∧ (xN bs os rs top mature fee).ents.length ≤ 0 ∧ (xN bs os rs top mature fee).bal.length = bs.length ∧ (xN bs os rs top mature fee).fee = fee) := ⟨f1, Nat.le_refl _, rfl, rfl⟩
  have HX2 : Hid (Has w2 w1.heap.size 25 [.slice ba bs.length bc, .slice oa os.length oc, .slice ra rs.length rc, .int .i64 top, .int .i64 mature, .int .i64 fee]) := hX2
  have HW2 : Hid (Below w.heap.size w w2) := hw2
  generalize xN bs os rs top mature fee = xx at *
  clear hbg hP3 hb3 hX3 hX2 hI3 hIb hw2 hw3 x0 x1 x2 x3 x4 x5 HNew HGo f1 f2 f3 HSt
  go_wp2
  go_loopw [9] (fun i wr => ∃ (q : Nat) (y : EC), q ≤ 200 ∧ i = .int .i64 q ∧ Fine y ∧ y.ents.length ≤ q ∧ y.bal.length = bs.length ∧ y.fee = fee ∧ Eng (fun k => w2.heap.size ≤ k) w2 wr g y bv vv) (fun i _ => 200 - (intOf i).toNat)
  case atStart => exact ⟨0, xx, by omega, rfl, HFi0.out.1, HFi0.out.2.1, HFi0.out.2.2.1, HFi0.out.2.2.2, HEn0.out⟩
  case round =>
    clear HEn0 HFi0
    obtain ⟨q, y, hq, rfl, hfi, hen, hbl, hfe, hE⟩ := hrel
    obtain ⟨ev, hP⟩ := hE
    have hfr : Below w2.heap.size w2 wr := hP.fr.toBelow (Nat.le_refl _) (fun k hk h => by omega)
    have hst := HSt0.out.below hfr (Nat.le_refl _)
    have HFi : Hid (Fine y ∧ y.ents.length ≤ q ∧ y.bal.length = bs.length ∧ y.fee = fee) := ⟨hfi, hen, hbl, hfe⟩
    have HP : Hid (PE (fun k => w2.heap.size ≤ k) w2 wr g y bv vv ev) := hP
    have HFr : Hid (Below w2.heap.size w2 wr) := hfr
    clear hfi hen hbl hfe hP hfr
    by_cases hlt : q < ops.length ∧ q < 200
    · obtain ⟨hl1, hl2⟩ := hlt
      obtain ⟨gs, off, rfl, hc⟩ := hst.get (by omega)
      have z0 : wr.cell? ⟨gs, off + q * 5, none⟩ = some (.int .i64 ops[q].k) := hc q hl1 0 (by omega)
      have z1 : wr.cell? ⟨gs, off + q * 5 + 1, none⟩ = some (.int .i64 ops[q].a) := hc q hl1 1 (by omega)
      have z2 : wr.cell? ⟨gs, off + q * 5 + 2, none⟩ = some (.int .i64 ops[q].b) := hc q hl1 2 (by omega)
      have z3 : wr.cell? ⟨gs, off + q * 5 + 3, none⟩ = some (.int .i64 ops[q].c) := hc q hl1 3 (by omega)
      have z4 : wr.cell? ⟨gs, off + q * 5 + 4, none⟩ = some (.int .i64 ops[q].d) := hc q hl1 4 (by omega)
      clear hc hst
      generalize ops[q] = st at *
      obtain ⟨sk, ka, kb, kc, kd⟩ := st
      dsimp only at z0 z1 z2 z3 z4
      have HOwn : Hid (∀ k, Own g bv vv ev k → k < wr.heap.size) := by
        rintro k (rfl | h | h | h)
        · exact HP.out.L.lt
        · exact (HP.out.b.lt k h).2
        · exact (HP.out.v.lt k h).2
        · exact (HP.out.e.lt k h).2
      go_wp2_with fail
      have hS0 : Has (wr.alloc (.cells #[.int .i64 sk, .int .i64 ka, .int .i64 kb, .int .i64 kc, .int .i64 kd] 34)) wr.heap.size 34 [.int .i64 sk, .int .i64 ka, .int .i64 kb, .int .i64 kc, .int .i64 kd] := Has.newA wr _ _
      have hA0 : Below wr.heap.size wr (wr.alloc (.cells #[.int .i64 sk, .int .i64 ka, .int .i64 kb, .int .i64 kc, .int .i64 kd] 34)) := (Below.refl _ _).alloc (Nat.le_refl _) _
      have hz0 : wr.heap.size < (wr.alloc (.cells #[.int .i64 sk, .int .i64 ka, .int .i64 kb, .int .i64 kc, .int .i64 kd] 34)).heap.size := by simp
      generalize wr.alloc (.cells #[.int .i64 sk, .int .i64 ka, .int .i64 kb, .int .i64 kc, .int .i64 kd] 34) = wA at hS0 hA0 hz0 ⊢
      have hPA := HP.out.below hA0
      have hSeeA : Calls Try.prog 15 #[.pointer (some ⟨g, 0, none⟩)] wA fun e w' => SeeR wA w' e y := by
        have okY : Ok y.height y := HFi.out.1
        exact kseeR g y bv vv ev wA hPA okY.feeOk.vb (fun k hk => ⟨(okY.ent _ (List.getElem_mem hk)).a0, okY.bds.2.2.2.2 k hk⟩) okY.b6 okY.v5 (by have := HFi.out.2.1; omega)
      clear z0 z1 z2 z3 z4
      refine hSeeA.mono ?_
      clear hSeeA
      rintro e wB ⟨sb, sv, sd, se, rfl, hsb, hsv, hse, hsd, hbB⟩
      obtain ⟨b0, b1, rfl⟩ := ownsRow_slice hsb
      obtain ⟨v0', v1, rfl⟩ := ownsRow_slice hsv
      obtain ⟨d0, d1, rfl⟩ := ownsRow_slice hsd
      obtain ⟨e0, e1, rfl⟩ := ownsRow_slice hse
      have hSB := hS0.below hbB hS0.lt
      have hPB := hPA.below hbB
      have hszB := hbB.size
      have hltB : wr.heap.size < wB.heap.size := by omega
      have s0 : wB.cell? ⟨wr.heap.size, 0, none⟩ = some (.int .i64 sk) := hSB.cell 0
      have s1 : wB.cell? ⟨wr.heap.size, 1, none⟩ = some (.int .i64 ka) := hSB.cell 1
      have s2 : wB.cell? ⟨wr.heap.size, 2, none⟩ = some (.int .i64 kb) := hSB.cell 2
      have s3 : wB.cell? ⟨wr.heap.size, 3, none⟩ = some (.int .i64 kc) := hSB.cell 3
      have s4 : wB.cell? ⟨wr.heap.size, 4, none⟩ = some (.int .i64 kd) := hSB.cell 4
      have HSB : Hid (Has wB wr.heap.size 34 [.int .i64 sk, .int .i64 ka, .int .i64 kb, .int .i64 kc, .int .i64 kd]) := hSB
      have HPB : Hid (PE (fun k => w2.heap.size ≤ k) w2 wB g y bv vv ev) := hPB
      have Hsb : Hid (wB.ownsRow wA.heap.size 3 1 (.slice b0 y.bal.length b1) y.bal.length (ints y.bal)) := hsb
      have Hsv : Hid (wB.ownsRow wA.heap.size 47 8 (.slice v0' y.vals.length v1) y.vals.length (vrow y.vals)) := hsv
      have Hse : Hid (wB.ownsRow wA.heap.size 52 4 (.slice e0 y.ents.length e1) y.ents.length (erow y.ents)) := hse
      have Hsd : Hid (wB.ownsRow wA.heap.size 75 3 (.slice d0 (dAll y.sh y.vals.length y.bal.length).length d1) (dAll y.sh y.vals.length y.bal.length).length (drow (dAll y.sh y.vals.length y.bal.length))) := hsd
      clear hS0 hA0 hPA hbB hSB hPB hsb hsv hse hsd
      go_wp2_with fail
      have hVC : Has (wB.alloc (.cells #[.int .i64 y.height, .slice b0 y.bal.length b1, .int .i64 y.fees, .int .i64 y.pool, .int .i64 (bondedN y.vals), .int .i64 (looseV y.vals + sumE y.ents), .slice v0' y.vals.length v1, .slice d0 (dAll y.sh y.vals.length y.bal.length).length d1, .slice e0 y.ents.length e1] 42)) wB.heap.size 42 [.int .i64 y.height, .slice b0 y.bal.length b1, .int .i64 y.fees, .int .i64 y.pool, .int .i64 (bondedN y.vals), .int .i64 (looseV y.vals + sumE y.ents), .slice v0' y.vals.length v1, .slice d0 (dAll y.sh y.vals.length y.bal.length).length d1, .slice e0 y.ents.length e1] := Has.newA wB _ _
      have hSC := HSB.out.alloc (.cells #[.int .i64 y.height, .slice b0 y.bal.length b1, .int .i64 y.fees, .int .i64 y.pool, .int .i64 (bondedN y.vals), .int .i64 (looseV y.vals + sumE y.ents), .slice v0' y.vals.length v1, .slice d0 (dAll y.sh y.vals.length y.bal.length).length d1, .slice e0 y.ents.length e1] 42)
      have hPC := HPB.out.alloc (.cells #[.int .i64 y.height, .slice b0 y.bal.length b1, .int .i64 y.fees, .int .i64 y.pool, .int .i64 (bondedN y.vals), .int .i64 (looseV y.vals + sumE y.ents), .slice v0' y.vals.length v1, .slice d0 (dAll y.sh y.vals.length y.bal.length).length d1, .slice e0 y.ents.length e1] 42)
      have hsbC := Hsb.out.alloc (.cells #[.int .i64 y.height, .slice b0 y.bal.length b1, .int .i64 y.fees, .int .i64 y.pool, .int .i64 (bondedN y.vals), .int .i64 (looseV y.vals + sumE y.ents), .slice v0' y.vals.length v1, .slice d0 (dAll y.sh y.vals.length y.bal.length).length d1, .slice e0 y.ents.length e1] 42)
      have hsvC := Hsv.out.alloc (.cells #[.int .i64 y.height, .slice b0 y.bal.length b1, .int .i64 y.fees, .int .i64 y.pool, .int .i64 (bondedN y.vals), .int .i64 (looseV y.vals + sumE y.ents), .slice v0' y.vals.length v1, .slice d0 (dAll y.sh y.vals.length y.bal.length).length d1, .slice e0 y.ents.length e1] 42)
      have hseC := Hse.out.alloc (.cells #[.int .i64 y.height, .slice b0 y.bal.length b1, .int .i64 y.fees, .int .i64 y.pool, .int .i64 (bondedN y.vals), .int .i64 (looseV y.vals + sumE y.ents), .slice v0' y.vals.length v1, .slice d0 (dAll y.sh y.vals.length y.bal.length).length d1, .slice e0 y.ents.length e1] 42)
      have hsdC := Hsd.out.alloc (.cells #[.int .i64 y.height, .slice b0 y.bal.length b1, .int .i64 y.fees, .int .i64 y.pool, .int .i64 (bondedN y.vals), .int .i64 (looseV y.vals + sumE y.ents), .slice v0' y.vals.length v1, .slice d0 (dAll y.sh y.vals.length y.bal.length).length d1, .slice e0 y.ents.length e1] 42)
      have hltC : wB.heap.size < (wB.alloc (.cells #[.int .i64 y.height, .slice b0 y.bal.length b1, .int .i64 y.fees, .int .i64 y.pool, .int .i64 (bondedN y.vals), .int .i64 (looseV y.vals + sumE y.ents), .slice v0' y.vals.length v1, .slice d0 (dAll y.sh y.vals.length y.bal.length).length d1, .slice e0 y.ents.length e1] 42)).heap.size := by simp
      generalize wB.alloc (.cells #[.int .i64 y.height, .slice b0 y.bal.length b1, .int .i64 y.fees, .int .i64 y.pool, .int .i64 (bondedN y.vals), .int .i64 (looseV y.vals + sumE y.ents), .slice v0' y.vals.length v1, .slice d0 (dAll y.sh y.vals.length y.bal.length).length d1, .slice e0 y.ents.length e1] 42) = wC at hVC hSC hPC hsbC hsvC hseC hsdC hltC ⊢
      clear s0 s1 s2 s3 s4 HSB HPB Hsb Hsv Hse Hsd
      refine (does_any ⟨_, hPC.rest⟩ HFi.out.1 q HFi.out.2.1 (by omega) sk ka kb kc kd).mono ?_
      rintro e w5 ⟨rfl, hE5, hL5⟩
      have HAl : Hid (¬ (doesR y sk ka kb kc kd).1 = 0 → AlikeOk y (doesR y sk ka kb kc kd).2 ka (feeOf y sk ka)) := doesR_alike y sk ka kb kc kd
      generalize doesR y sk ka kb kc kd = R at *
      obtain ⟨ev5, hP5⟩ := hE5
      have hK := hP5.fr
      have hno : ∀ k, wr.heap.size ≤ k → k < wC.heap.size → ¬ (Own g bv vv ev k ∨ wC.heap.size ≤ k) := by
        rintro k h1 h2 (h | h)
        · have := HOwn.out k h; omega
        · omega
      have hS5 := hSC.kp hK (hno _ (Nat.le_refl _) (by omega))
      have hV5 := hVC.kp hK (hno _ (by omega) hltC)
      have hsb5 := ownsRow_kp hsbC hK (fun b hb => hno b (by have := (hsbC.lt b hb).1; omega) (hsbC.lt b hb).2)
      have hsv5 := ownsRow_kp hsvC hK (fun b hb => hno b (by have := (hsvC.lt b hb).1; omega) (hsvC.lt b hb).2)
      have hse5 := ownsRow_kp hseC hK (fun b hb => hno b (by have := (hseC.lt b hb).1; omega) (hseC.lt b hb).2)
      have hsd5 := ownsRow_kp hsdC hK (fun b hb => hno b (by have := (hsdC.lt b hb).1; omega) (hsdC.lt b hb).2)
      have hfr2 := HFr.out.size
      have hf5 : Kp (fun k => w2.heap.size ≤ k) w2 w5 := hPC.fr.trans (hK.mono (fun b hb h => by
        rcases h with h | h
        · exact HP.out.own b h
        · omega))
      have hQ5 : PE (fun k => w2.heap.size ≤ k) w2 w5 g R.2 bv vv ev5 := hP5.rebase hf5 (fun k hk => hk) (fun k hk => by
        rcases hP5.own k hk with h | h
        · exact HP.out.own k h
        · have : w2.heap.size ≤ k := by omega
          exact this)
      have hsz5 := hK.size
      have hSee5 : Calls Try.prog 15 #[.pointer (some ⟨g, 0, none⟩)] w5 fun e w' => SeeR w5 w' e R.2 := by
        have okR : Ok R.2.height R.2 := hL5.fine
        exact kseeR g R.2 bv vv ev5 w5 hQ5 okR.feeOk.vb (fun k hk => ⟨(okR.ent _ (List.getElem_mem hk)).a0, okR.bds.2.2.2.2 k hk⟩) okR.b6 okR.v5 (by have := hL5.el; omega)
      have HSee5 : Hid (Calls Try.prog 15 #[.pointer (some ⟨g, 0, none⟩)] w5 fun e w' => SeeR w5 w' e R.2) := hSee5
      have HL5 : Hid (Left y R.2 q) := hL5
      have HQ5 : Hid (Eng (fun k => w2.heap.size ≤ k) w2 w5 g R.2 bv vv) := ⟨_, hQ5⟩
      have HB5 : Hid (Below w2.heap.size w2 w5) := hf5.toBelow (Nat.le_refl _) (fun k hk h => by omega)
      have HS5 : Hid (Has w5 wr.heap.size 34 [.int .i64 sk, .int .i64 ka, .int .i64 kb, .int .i64 kc, .int .i64 kd]) := hS5
      have HV5 : Hid (Has w5 wB.heap.size 42 [.int .i64 y.height, .slice b0 y.bal.length b1, .int .i64 y.fees, .int .i64 y.pool, .int .i64 (bondedN y.vals), .int .i64 (looseV y.vals + sumE y.ents), .slice v0' y.vals.length v1, .slice d0 (dAll y.sh y.vals.length y.bal.length).length d1, .slice e0 y.ents.length e1]) := hV5
      have Hsb : Hid (w5.ownsRow wA.heap.size 3 1 (.slice b0 y.bal.length b1) y.bal.length (ints y.bal)) := hsb5
      have Hsv : Hid (w5.ownsRow wA.heap.size 47 8 (.slice v0' y.vals.length v1) y.vals.length (vrow y.vals)) := hsv5
      have Hse : Hid (w5.ownsRow wA.heap.size 52 4 (.slice e0 y.ents.length e1) y.ents.length (erow y.ents)) := hse5
      have Hsd : Hid (w5.ownsRow wA.heap.size 75 3 (.slice d0 (dAll y.sh y.vals.length y.bal.length).length d1) (dAll y.sh y.vals.length y.bal.length).length (drow (dAll y.sh y.vals.length y.bal.length))) := hsd5
      have hlt5 : wB.heap.size < w5.heap.size := by omega
      have hlt5' : wr.heap.size < w5.heap.size := by omega
      have hbR : R.2.bal.length = bs.length := hL5.bl.trans HFi.out.2.2.1
      have HbR : Hid (R.2.bal.length = bs.length) := hbR
      clear hK hno hS5 hV5 hsb5 hsv5 hse5 hsd5 hf5 hQ5 hSee5 hL5 hP5 hVC hSC hPC hsbC hsvC hseC hsdC hltC hszB hltB hz0 hsz5 hfr2 hbR HOwn HP HFr
      go_wp2_with fail
      refine HSee5.out.mono ?_
      clear HSee5
      rintro e w6 ⟨tb, tv, td, te, rfl, htb, htv, hte, htd, hb6⟩
      obtain ⟨tb0, tb1, rfl⟩ := ownsRow_slice htb
      obtain ⟨tv0, tv1, rfl⟩ := ownsRow_slice htv
      obtain ⟨td0, td1, rfl⟩ := ownsRow_slice htd
      obtain ⟨te0, te1, rfl⟩ := ownsRow_slice hte
      have hsz6 := hb6.size
      have hS6 := HS5.out.below hb6 HS5.out.lt
      have hV6 := HV5.out.below hb6 HV5.out.lt
      have hB6 : Below w2.heap.size w2 w6 := HB5.out.trans (hb6.mono HB5.out.size)
      have hX6 := HX2.out.below hB6 HX2.out.lt
      have hXl : w1.heap.size < w6.heap.size := hX6.lt
      have hlt6 : wB.heap.size < w6.heap.size := by omega
      have hlt6' : wr.heap.size < w6.heap.size := by omega
      have HE6 : Hid (Eng (fun k => w2.heap.size ≤ k) w2 w6 g R.2 bv vv) := HQ5.out.below hb6
      have hRdB : Rd w6 (.slice b0 y.bal.length b1) y.bal.length 1 (ints y.bal) := (Rd.of_owns Hsb.out).below hb6 (Nat.le_refl _)
      have HC : Hid (∀ F, AlikeOk y R.2 ka F → 0 ≤ F → F ≤ 100 → ∀ u, Below w6.heap.size w6 u → Calls Try.prog 16 #[.agg #[.int .i64 y.height, .slice b0 y.bal.length b1, .int .i64 y.fees, .int .i64 y.pool, .int .i64 (bondedN y.vals), .int .i64 (looseV y.vals + sumE y.ents), .slice v0' y.vals.length v1, .slice d0 (dAll y.sh y.vals.length y.bal.length).length d1, .slice e0 y.ents.length e1], .agg #[.int .i64 R.2.height, .slice tb0 R.2.bal.length tb1, .int .i64 R.2.fees, .int .i64 R.2.pool, .int .i64 (bondedN R.2.vals), .int .i64 (looseV R.2.vals + sumE R.2.ents), .slice tv0 R.2.vals.length tv1, .slice td0 (dAll R.2.sh R.2.vals.length R.2.bal.length).length td1, .slice te0 R.2.ents.length te1], .int .i64 ka, .int .i64 F] u fun e w' => e = .returned (.bool true) ∧ Below u.heap.size u w') := fun F A f0 f1 u hu =>
        alike_call HFi.out.1 HL5.out.fine A f0 f1 (by have := HFi.out.2.1; omega) (ownsRow_below (ownsRow_below Hsb.out hb6 (Nat.le_refl _)) hu (Nat.le_refl _)) (ownsRow_below (ownsRow_below Hsv.out hb6 (Nat.le_refl _)) hu (Nat.le_refl _)) (ownsRow_below (ownsRow_below Hse.out hb6 (Nat.le_refl _)) hu (Nat.le_refl _)) (ownsRow_below (ownsRow_below Hsd.out hb6 (Nat.le_refl _)) hu (Nat.le_refl _)) (ownsRow_below htb hu (Nat.le_refl _)) (ownsRow_below htv hu (Nat.le_refl _)) (ownsRow_below hte hu (Nat.le_refl _)) (ownsRow_below htd hu (Nat.le_refl _))
      have x0 : w6.cell? ⟨w1.heap.size, 0, none⟩ = some (.slice ba bs.length bc) := hX6.cell 0
      have x5 : w6.cell? ⟨w1.heap.size, 5, none⟩ = some (.int .i64 fee) := hX6.cell 5
      have s0 : w6.cell? ⟨wr.heap.size, 0, none⟩ = some (.int .i64 sk) := hS6.cell 0
      have s1 : w6.cell? ⟨wr.heap.size, 1, none⟩ = some (.int .i64 ka) := hS6.cell 1
      have p0 : w6.cell? ⟨wB.heap.size, 0, none⟩ = some (.int .i64 y.height) := hV6.cell 0
      have p1 : w6.cell? ⟨wB.heap.size, 1, none⟩ = some (.slice b0 y.bal.length b1) := hV6.cell 1
      have p2 : w6.cell? ⟨wB.heap.size, 2, none⟩ = some (.int .i64 y.fees) := hV6.cell 2
      have p3 : w6.cell? ⟨wB.heap.size, 3, none⟩ = some (.int .i64 y.pool) := hV6.cell 3
      have p4 : w6.cell? ⟨wB.heap.size, 4, none⟩ = some (.int .i64 (bondedN y.vals)) := hV6.cell 4
      have p5 : w6.cell? ⟨wB.heap.size, 5, none⟩ = some (.int .i64 (looseV y.vals + sumE y.ents)) := hV6.cell 5
      have p6 : w6.cell? ⟨wB.heap.size, 6, none⟩ = some (.slice v0' y.vals.length v1) := hV6.cell 6
      have p7 : w6.cell? ⟨wB.heap.size, 7, none⟩ = some (.slice d0 (dAll y.sh y.vals.length y.bal.length).length d1) := hV6.cell 7
      have p8 : w6.cell? ⟨wB.heap.size, 8, none⟩ = some (.slice e0 y.ents.length e1) := hV6.cell 8
      have hbq : ((R.2.bal.length : Int) != (bs.length : Int)) = false := by have := HbR.out; simp; omega
      have HEnd : Hid (∀ u, Below w6.heap.size w6 u → ∃ y', Fine y' ∧ y'.ents.length ≤ q + 1 ∧ y'.bal.length = bs.length ∧ y'.fee = fee ∧ Eng (fun k => w2.heap.size ≤ k) w2 u g y' bv vv) := fun u hu => ⟨R.2, HL5.out.fine, HL5.out.el, HbR.out, HL5.out.fee.trans HFi.out.2.2.2, HE6.out.below hu⟩
      have HYb : Hid (y.bal.length = bs.length ∧ y.fee = fee ∧ 0 ≤ fee ∧ fee ≤ 100) := ⟨HFi.out.2.2.1, HFi.out.2.2.2, by rw [← HFi.out.2.2.2]; exact HFi.out.1.fee0, by rw [← HFi.out.2.2.2]; exact HFi.out.1.fee1⟩
      have HgL : Hid (∀ b, (Value.slice b0 y.bal.length b1).ownBlock = some b → b < w6.heap.size) := fun b hb => ((ownsRow_below Hsb.out hb6 (Nat.le_refl _)).lt b hb).2
      clear htb htv hte htd hb6 hS6 hV6 hB6 hX6 HS5 HV5 HB5 HQ5 HE6 HL5 HFi HbR Hsb Hsv Hse Hsd hsz6 hlt5 hlt5'
      have HU : Hid (∀ o, Below w6.heap.size w6 (w6.alloc o)) := fun o => (Below.refl _ _).alloc (Nat.le_refl _) o
      by_cases hM : (1 ≤ sk ∧ sk ≤ 9 ∧ sk ≠ 2 ∧ sk ≠ 8) ∧ 0 ≤ ka ∧ ka < bs.length ∧ fee ≤ y.balAt ka.toNat
      · obtain ⟨⟨m1, m2, m3, m4⟩, m5, m6, m7⟩ := hM
        have hF : feeOf y sk ka = fee := by
          unfold feeOf
          rw [if_pos ⟨m1, m2, m3, m4, m5, by have := HYb.out.1; omega, by rw [HYb.out.2.1]; exact m7⟩]
          exact HYb.out.2.1
        have HA0 : Hid (¬ R.1 = 0 → AlikeOk y R.2 ka fee) := by have h := HAl.out; rw [hF] at h; exact h
        clear hF HAl
        obtain ⟨n, rfl⟩ : ∃ n : Nat, ka = n := ⟨ka.toNat, by omega⟩
        rw [Int.toNat_natCast] at m7
        have m8 : fee ≤ y.bal.getD n 0 := m7
        have n3 : (sk != 2) = true := by simp [m3]
        have n4 : (sk != 8) = true := by simp [m4]
        have hny : n < y.bal.length := by have := HYb.out.1; omega
        obtain ⟨_, _, ei, hci⟩ := hRdB.ints
        simp only [Value.slice.injEq, true_and] at ei
        obtain ⟨rfl, rfl⟩ := ei
        obtain ⟨gb, rfl, hd⟩ := hci (by omega)
        have hgb : gb < w6.heap.size := HgL.out gb (by simp [Value.ownBlock])
        have yb : w6.cell? ⟨gb, n, none⟩ = some (.int .i64 (y.bal.getD n 0)) := hd n _ (by simp [List.getD, hny])
        clear hd hci hRdB m3 m4 m5 m7
        generalize y.bal.getD n 0 = ub at m8 yb
        have m9 : ub ≥ fee := m8
        by_cases hR : R.1 = 0
        · have r1 : (R.1 != 0) = false := by simp [hR]
          clear hR HA0 HC
          go_wp2
          go_region
          go_wp2
          refine And.intro ?_ ?_
          · obtain ⟨y', h1, h2, h3, h4, h5⟩ := HEnd.out _ (HU.out (.cells #[.int .i64 R.2.height, .slice tb0 R.2.bal.length tb1, .int .i64 R.2.fees, .int .i64 R.2.pool, .int .i64 (bondedN R.2.vals), .int .i64 (looseV R.2.vals + sumE R.2.ents), .slice tv0 R.2.vals.length tv1, .slice td0 (dAll R.2.sh R.2.vals.length R.2.bal.length).length td1, .slice te0 R.2.ents.length te1] 42)).drew
            first | exact ⟨q + 1, y', by omega, by go_num, h1, h2, h3, h4, h5⟩ | ((repeat apply Exists.intro); exact ⟨⟨q + 1, y', by omega, by go_num, h1, h2, h3, h4, h5⟩, rfl⟩)
          · simp [intOf]; omega
        · have r1 : (R.1 != 0) = true := by simp [hR]
          have HnR : Hid (AlikeOk y R.2 n fee) := HA0.out hR
          clear hR HA0
          go_wp2_with fail
          go_region
          go_wp2_with fail
          refine (HC.out fee HnR.out HYb.out.2.2.1 HYb.out.2.2.2 _ (by first | exact (HU.out _).drew | exact HU.out _ | exact (HU.out _).drew.drew)).mono ?_
          rintro e w8 ⟨rfl, hb8⟩
          have HE8 : Hid (∃ y', Fine y' ∧ y'.ents.length ≤ q + 1 ∧ y'.bal.length = bs.length ∧ y'.fee = fee ∧ Eng (fun k => w2.heap.size ≤ k) w2 w8 g y' bv vv) := by first | exact HEnd.out _ ((HU.out _).drew.trans (hb8.mono (HU.out _).drew.size)) | exact HEnd.out _ ((HU.out _).trans (hb8.mono (HU.out _).size))
          clear hb8
          go_wp2
          refine And.intro ?_ ?_
          · obtain ⟨y', h1, h2, h3, h4, h5⟩ := HE8.out
            first | exact ⟨q + 1, y', by omega, by go_num, h1, h2, h3, h4, h5⟩ | ((repeat apply Exists.intro); exact ⟨⟨q + 1, y', by omega, by go_num, h1, h2, h3, h4, h5⟩, rfl⟩)
          · simp [intOf]; omega
      · have hF : feeOf y sk ka = 0 := by
          unfold feeOf
          rw [if_neg (fun h => hM ⟨⟨h.1, h.2.1, h.2.2.1, h.2.2.2.1⟩, h.2.2.2.2.1, by have h1 := HYb.out.1; have h2 := h.2.2.2.2.2.1; omega, by have h3 := h.2.2.2.2.2.2; rw [HYb.out.2.1] at h3; exact h3⟩)]
        have HA0 : Hid (¬ R.1 = 0 → AlikeOk y R.2 ka 0) := by have h := HAl.out; rw [hF] at h; exact h
        have hcs : sk < 1 ∨ (1 ≤ sk ∧ 9 < sk) ∨ (1 ≤ sk ∧ sk ≤ 9 ∧ (sk != 2) = false) ∨ (1 ≤ sk ∧ sk ≤ 9 ∧ (sk != 2) = true ∧ (sk != 8) = false) ∨ (1 ≤ sk ∧ sk ≤ 9 ∧ (sk != 2) = true ∧ (sk != 8) = true ∧ ka < 0) ∨ (1 ≤ sk ∧ sk ≤ 9 ∧ (sk != 2) = true ∧ (sk != 8) = true ∧ 0 ≤ ka ∧ (bs.length : Int) ≤ ka) ∨ (1 ≤ sk ∧ sk ≤ 9 ∧ (sk != 2) = true ∧ (sk != 8) = true ∧ 0 ≤ ka ∧ ka < bs.length ∧ y.balAt ka.toNat < fee) := by
          by_cases a1 : sk < 1
          · exact .inl a1
          by_cases a2 : 9 < sk
          · exact .inr (.inl ⟨by omega, a2⟩)
          by_cases a3 : sk = 2
          · exact .inr (.inr (.inl ⟨by omega, by omega, by simp [a3]⟩))
          by_cases a4 : sk = 8
          · exact .inr (.inr (.inr (.inl ⟨by omega, by omega, by simp [a3], by simp [a4]⟩)))
          by_cases a5 : ka < 0
          · exact .inr (.inr (.inr (.inr (.inl ⟨by omega, by omega, by simp [a3], by simp [a4], a5⟩))))
          by_cases a6 : (bs.length : Int) ≤ ka
          · exact .inr (.inr (.inr (.inr (.inr (.inl ⟨by omega, by omega, by simp [a3], by simp [a4], by omega, a6⟩)))))
          refine .inr (.inr (.inr (.inr (.inr (.inr ⟨by omega, by omega, by simp [a3], by simp [a4], by omega, by omega, ?_⟩)))))
          by_cases a7 : y.balAt ka.toNat < fee
          · exact a7
          · exact absurd ⟨⟨by omega, by omega, a3, a4⟩, by omega, by omega, by omega⟩ hM
        clear hF HAl hM
        rcases hcs with m1 | ⟨m1, m2⟩ | ⟨m1, m2, m3⟩ | ⟨m1, m2, m3, m4⟩ | ⟨m1, m2, m3, m4, m5⟩ | ⟨m1, m2, m3, m4, m5, m6⟩ | ⟨m1, m2, m3, m4, m5, m6, m7⟩
        · clear hRdB
          by_cases hR : R.1 = 0
          · have r1 : (R.1 != 0) = false := by simp [hR]
            clear hR HA0 HC
            go_wp2
            go_region
            go_wp2
            refine And.intro ?_ ?_
            · obtain ⟨y', h1, h2, h3, h4, h5⟩ := HEnd.out _ (HU.out (.cells #[.int .i64 R.2.height, .slice tb0 R.2.bal.length tb1, .int .i64 R.2.fees, .int .i64 R.2.pool, .int .i64 (bondedN R.2.vals), .int .i64 (looseV R.2.vals + sumE R.2.ents), .slice tv0 R.2.vals.length tv1, .slice td0 (dAll R.2.sh R.2.vals.length R.2.bal.length).length td1, .slice te0 R.2.ents.length te1] 42)).drew
              first | exact ⟨q + 1, y', by omega, by go_num, h1, h2, h3, h4, h5⟩ | ((repeat apply Exists.intro); exact ⟨⟨q + 1, y', by omega, by go_num, h1, h2, h3, h4, h5⟩, rfl⟩)
            · simp [intOf]; omega
          · have r1 : (R.1 != 0) = true := by simp [hR]
            have HnR : Hid (AlikeOk y R.2 ka 0) := HA0.out hR
            clear hR HA0
            go_wp2_with fail
            go_region
            go_wp2_with fail
            refine (HC.out 0 HnR.out (Int.le_refl 0) (by decide) _ (by first | exact (HU.out _).drew | exact HU.out _ | exact (HU.out _).drew.drew)).mono ?_
            rintro e w8 ⟨rfl, hb8⟩
            have HE8 : Hid (∃ y', Fine y' ∧ y'.ents.length ≤ q + 1 ∧ y'.bal.length = bs.length ∧ y'.fee = fee ∧ Eng (fun k => w2.heap.size ≤ k) w2 w8 g y' bv vv) := by first | exact HEnd.out _ ((HU.out _).drew.trans (hb8.mono (HU.out _).drew.size)) | exact HEnd.out _ ((HU.out _).trans (hb8.mono (HU.out _).size))
            clear hb8
            go_wp2
            refine And.intro ?_ ?_
            · obtain ⟨y', h1, h2, h3, h4, h5⟩ := HE8.out
              first | exact ⟨q + 1, y', by omega, by go_num, h1, h2, h3, h4, h5⟩ | ((repeat apply Exists.intro); exact ⟨⟨q + 1, y', by omega, by go_num, h1, h2, h3, h4, h5⟩, rfl⟩)
            · simp [intOf]; omega
        · clear hRdB
          by_cases hR : R.1 = 0
          · have r1 : (R.1 != 0) = false := by simp [hR]
            clear hR HA0 HC
            go_wp2
            go_region
            go_wp2
            refine And.intro ?_ ?_
            · obtain ⟨y', h1, h2, h3, h4, h5⟩ := HEnd.out _ (HU.out (.cells #[.int .i64 R.2.height, .slice tb0 R.2.bal.length tb1, .int .i64 R.2.fees, .int .i64 R.2.pool, .int .i64 (bondedN R.2.vals), .int .i64 (looseV R.2.vals + sumE R.2.ents), .slice tv0 R.2.vals.length tv1, .slice td0 (dAll R.2.sh R.2.vals.length R.2.bal.length).length td1, .slice te0 R.2.ents.length te1] 42)).drew
              first | exact ⟨q + 1, y', by omega, by go_num, h1, h2, h3, h4, h5⟩ | ((repeat apply Exists.intro); exact ⟨⟨q + 1, y', by omega, by go_num, h1, h2, h3, h4, h5⟩, rfl⟩)
            · simp [intOf]; omega
          · have r1 : (R.1 != 0) = true := by simp [hR]
            have HnR : Hid (AlikeOk y R.2 ka 0) := HA0.out hR
            clear hR HA0
            go_wp2_with fail
            go_region
            go_wp2_with fail
            refine (HC.out 0 HnR.out (Int.le_refl 0) (by decide) _ (by first | exact (HU.out _).drew | exact HU.out _ | exact (HU.out _).drew.drew)).mono ?_
            rintro e w8 ⟨rfl, hb8⟩
            have HE8 : Hid (∃ y', Fine y' ∧ y'.ents.length ≤ q + 1 ∧ y'.bal.length = bs.length ∧ y'.fee = fee ∧ Eng (fun k => w2.heap.size ≤ k) w2 w8 g y' bv vv) := by first | exact HEnd.out _ ((HU.out _).drew.trans (hb8.mono (HU.out _).drew.size)) | exact HEnd.out _ ((HU.out _).trans (hb8.mono (HU.out _).size))
            clear hb8
            go_wp2
            refine And.intro ?_ ?_
            · obtain ⟨y', h1, h2, h3, h4, h5⟩ := HE8.out
              first | exact ⟨q + 1, y', by omega, by go_num, h1, h2, h3, h4, h5⟩ | ((repeat apply Exists.intro); exact ⟨⟨q + 1, y', by omega, by go_num, h1, h2, h3, h4, h5⟩, rfl⟩)
            · simp [intOf]; omega
        · clear hRdB
          by_cases hR : R.1 = 0
          · have r1 : (R.1 != 0) = false := by simp [hR]
            clear hR HA0 HC
            go_wp2
            go_region
            go_wp2
            refine And.intro ?_ ?_
            · obtain ⟨y', h1, h2, h3, h4, h5⟩ := HEnd.out _ (HU.out (.cells #[.int .i64 R.2.height, .slice tb0 R.2.bal.length tb1, .int .i64 R.2.fees, .int .i64 R.2.pool, .int .i64 (bondedN R.2.vals), .int .i64 (looseV R.2.vals + sumE R.2.ents), .slice tv0 R.2.vals.length tv1, .slice td0 (dAll R.2.sh R.2.vals.length R.2.bal.length).length td1, .slice te0 R.2.ents.length te1] 42)).drew
              first | exact ⟨q + 1, y', by omega, by go_num, h1, h2, h3, h4, h5⟩ | ((repeat apply Exists.intro); exact ⟨⟨q + 1, y', by omega, by go_num, h1, h2, h3, h4, h5⟩, rfl⟩)
            · simp [intOf]; omega
          · have r1 : (R.1 != 0) = true := by simp [hR]
            have HnR : Hid (AlikeOk y R.2 ka 0) := HA0.out hR
            clear hR HA0
            go_wp2_with fail
            go_region
            go_wp2_with fail
            refine (HC.out 0 HnR.out (Int.le_refl 0) (by decide) _ (by first | exact (HU.out _).drew | exact HU.out _ | exact (HU.out _).drew.drew)).mono ?_
            rintro e w8 ⟨rfl, hb8⟩
            have HE8 : Hid (∃ y', Fine y' ∧ y'.ents.length ≤ q + 1 ∧ y'.bal.length = bs.length ∧ y'.fee = fee ∧ Eng (fun k => w2.heap.size ≤ k) w2 w8 g y' bv vv) := by first | exact HEnd.out _ ((HU.out _).drew.trans (hb8.mono (HU.out _).drew.size)) | exact HEnd.out _ ((HU.out _).trans (hb8.mono (HU.out _).size))
            clear hb8
            go_wp2
            refine And.intro ?_ ?_
            · obtain ⟨y', h1, h2, h3, h4, h5⟩ := HE8.out
              first | exact ⟨q + 1, y', by omega, by go_num, h1, h2, h3, h4, h5⟩ | ((repeat apply Exists.intro); exact ⟨⟨q + 1, y', by omega, by go_num, h1, h2, h3, h4, h5⟩, rfl⟩)
            · simp [intOf]; omega
        · clear hRdB
          by_cases hR : R.1 = 0
          · have r1 : (R.1 != 0) = false := by simp [hR]
            clear hR HA0 HC
            go_wp2
            go_region
            go_wp2
            refine And.intro ?_ ?_
            · obtain ⟨y', h1, h2, h3, h4, h5⟩ := HEnd.out _ (HU.out (.cells #[.int .i64 R.2.height, .slice tb0 R.2.bal.length tb1, .int .i64 R.2.fees, .int .i64 R.2.pool, .int .i64 (bondedN R.2.vals), .int .i64 (looseV R.2.vals + sumE R.2.ents), .slice tv0 R.2.vals.length tv1, .slice td0 (dAll R.2.sh R.2.vals.length R.2.bal.length).length td1, .slice te0 R.2.ents.length te1] 42)).drew
              first | exact ⟨q + 1, y', by omega, by go_num, h1, h2, h3, h4, h5⟩ | ((repeat apply Exists.intro); exact ⟨⟨q + 1, y', by omega, by go_num, h1, h2, h3, h4, h5⟩, rfl⟩)
            · simp [intOf]; omega
          · have r1 : (R.1 != 0) = true := by simp [hR]
            have HnR : Hid (AlikeOk y R.2 ka 0) := HA0.out hR
            clear hR HA0
            go_wp2_with fail
            go_region
            go_wp2_with fail
            refine (HC.out 0 HnR.out (Int.le_refl 0) (by decide) _ (by first | exact (HU.out _).drew | exact HU.out _ | exact (HU.out _).drew.drew)).mono ?_
            rintro e w8 ⟨rfl, hb8⟩
            have HE8 : Hid (∃ y', Fine y' ∧ y'.ents.length ≤ q + 1 ∧ y'.bal.length = bs.length ∧ y'.fee = fee ∧ Eng (fun k => w2.heap.size ≤ k) w2 w8 g y' bv vv) := by first | exact HEnd.out _ ((HU.out _).drew.trans (hb8.mono (HU.out _).drew.size)) | exact HEnd.out _ ((HU.out _).trans (hb8.mono (HU.out _).size))
            clear hb8
            go_wp2
            refine And.intro ?_ ?_
            · obtain ⟨y', h1, h2, h3, h4, h5⟩ := HE8.out
              first | exact ⟨q + 1, y', by omega, by go_num, h1, h2, h3, h4, h5⟩ | ((repeat apply Exists.intro); exact ⟨⟨q + 1, y', by omega, by go_num, h1, h2, h3, h4, h5⟩, rfl⟩)
            · simp [intOf]; omega
        · clear hRdB
          have m6 : decide (ka ≥ 0) = false := by simp; omega
          have m7 : decide ((0 : Int) ≤ ka) = false := by simp; omega
          by_cases hR : R.1 = 0
          · have r1 : (R.1 != 0) = false := by simp [hR]
            clear hR HA0 HC
            go_wp2
            go_region
            go_wp2
            refine And.intro ?_ ?_
            · obtain ⟨y', h1, h2, h3, h4, h5⟩ := HEnd.out _ (HU.out (.cells #[.int .i64 R.2.height, .slice tb0 R.2.bal.length tb1, .int .i64 R.2.fees, .int .i64 R.2.pool, .int .i64 (bondedN R.2.vals), .int .i64 (looseV R.2.vals + sumE R.2.ents), .slice tv0 R.2.vals.length tv1, .slice td0 (dAll R.2.sh R.2.vals.length R.2.bal.length).length td1, .slice te0 R.2.ents.length te1] 42)).drew
              first | exact ⟨q + 1, y', by omega, by go_num, h1, h2, h3, h4, h5⟩ | ((repeat apply Exists.intro); exact ⟨⟨q + 1, y', by omega, by go_num, h1, h2, h3, h4, h5⟩, rfl⟩)
            · simp [intOf]; omega
          · have r1 : (R.1 != 0) = true := by simp [hR]
            have HnR : Hid (AlikeOk y R.2 ka 0) := HA0.out hR
            clear hR HA0
            go_wp2_with fail
            go_region
            go_wp2_with fail
            refine (HC.out 0 HnR.out (Int.le_refl 0) (by decide) _ (by first | exact (HU.out _).drew | exact HU.out _ | exact (HU.out _).drew.drew)).mono ?_
            rintro e w8 ⟨rfl, hb8⟩
            have HE8 : Hid (∃ y', Fine y' ∧ y'.ents.length ≤ q + 1 ∧ y'.bal.length = bs.length ∧ y'.fee = fee ∧ Eng (fun k => w2.heap.size ≤ k) w2 w8 g y' bv vv) := by first | exact HEnd.out _ ((HU.out _).drew.trans (hb8.mono (HU.out _).drew.size)) | exact HEnd.out _ ((HU.out _).trans (hb8.mono (HU.out _).size))
            clear hb8
            go_wp2
            refine And.intro ?_ ?_
            · obtain ⟨y', h1, h2, h3, h4, h5⟩ := HE8.out
              first | exact ⟨q + 1, y', by omega, by go_num, h1, h2, h3, h4, h5⟩ | ((repeat apply Exists.intro); exact ⟨⟨q + 1, y', by omega, by go_num, h1, h2, h3, h4, h5⟩, rfl⟩)
            · simp [intOf]; omega
        · clear hRdB
          have m7 : ¬ ka < (bs.length : Int) := by omega
          obtain ⟨n, rfl⟩ : ∃ n : Nat, ka = n := ⟨ka.toNat, by omega⟩
          have m8 : ¬ n < bs.length := by omega
          clear m5
          by_cases hR : R.1 = 0
          · have r1 : (R.1 != 0) = false := by simp [hR]
            clear hR HA0 HC
            go_wp2
            go_region
            go_wp2
            refine And.intro ?_ ?_
            · obtain ⟨y', h1, h2, h3, h4, h5⟩ := HEnd.out _ (HU.out (.cells #[.int .i64 R.2.height, .slice tb0 R.2.bal.length tb1, .int .i64 R.2.fees, .int .i64 R.2.pool, .int .i64 (bondedN R.2.vals), .int .i64 (looseV R.2.vals + sumE R.2.ents), .slice tv0 R.2.vals.length tv1, .slice td0 (dAll R.2.sh R.2.vals.length R.2.bal.length).length td1, .slice te0 R.2.ents.length te1] 42)).drew
              first | exact ⟨q + 1, y', by omega, by go_num, h1, h2, h3, h4, h5⟩ | ((repeat apply Exists.intro); exact ⟨⟨q + 1, y', by omega, by go_num, h1, h2, h3, h4, h5⟩, rfl⟩)
            · simp [intOf]; omega
          · have r1 : (R.1 != 0) = true := by simp [hR]
            have HnR : Hid (AlikeOk y R.2 n 0) := HA0.out hR
            clear hR HA0
            go_wp2_with fail
            go_region
            go_wp2_with fail
            refine (HC.out 0 HnR.out (Int.le_refl 0) (by decide) _ (by first | exact (HU.out _).drew | exact HU.out _ | exact (HU.out _).drew.drew)).mono ?_
            rintro e w8 ⟨rfl, hb8⟩
            have HE8 : Hid (∃ y', Fine y' ∧ y'.ents.length ≤ q + 1 ∧ y'.bal.length = bs.length ∧ y'.fee = fee ∧ Eng (fun k => w2.heap.size ≤ k) w2 w8 g y' bv vv) := by first | exact HEnd.out _ ((HU.out _).drew.trans (hb8.mono (HU.out _).drew.size)) | exact HEnd.out _ ((HU.out _).trans (hb8.mono (HU.out _).size))
            clear hb8
            go_wp2
            refine And.intro ?_ ?_
            · obtain ⟨y', h1, h2, h3, h4, h5⟩ := HE8.out
              first | exact ⟨q + 1, y', by omega, by go_num, h1, h2, h3, h4, h5⟩ | ((repeat apply Exists.intro); exact ⟨⟨q + 1, y', by omega, by go_num, h1, h2, h3, h4, h5⟩, rfl⟩)
            · simp [intOf]; omega
        · obtain ⟨n, rfl⟩ : ∃ n : Nat, ka = n := ⟨ka.toNat, by omega⟩
          rw [Int.toNat_natCast] at m7
          have m8 : y.bal.getD n 0 < fee := m7
          have hny : n < y.bal.length := by have := HYb.out.1; omega
          obtain ⟨_, _, ei, hci⟩ := hRdB.ints
          simp only [Value.slice.injEq, true_and] at ei
          obtain ⟨rfl, rfl⟩ := ei
          obtain ⟨gb, rfl, hd⟩ := hci (by omega)
          have hgb : gb < w6.heap.size := HgL.out gb (by simp [Value.ownBlock])
          have yb : w6.cell? ⟨gb, n, none⟩ = some (.int .i64 (y.bal.getD n 0)) := hd n _ (by simp [List.getD, hny])
          clear hd hci hRdB m5 m7
          generalize y.bal.getD n 0 = ub at m8 yb
          have m9 : ¬ ub ≥ fee := by omega
          by_cases hR : R.1 = 0
          · have r1 : (R.1 != 0) = false := by simp [hR]
            clear hR HA0 HC
            go_wp2
            go_region
            go_wp2
            refine And.intro ?_ ?_
            · obtain ⟨y', h1, h2, h3, h4, h5⟩ := HEnd.out _ (HU.out (.cells #[.int .i64 R.2.height, .slice tb0 R.2.bal.length tb1, .int .i64 R.2.fees, .int .i64 R.2.pool, .int .i64 (bondedN R.2.vals), .int .i64 (looseV R.2.vals + sumE R.2.ents), .slice tv0 R.2.vals.length tv1, .slice td0 (dAll R.2.sh R.2.vals.length R.2.bal.length).length td1, .slice te0 R.2.ents.length te1] 42)).drew
              first | exact ⟨q + 1, y', by omega, by go_num, h1, h2, h3, h4, h5⟩ | ((repeat apply Exists.intro); exact ⟨⟨q + 1, y', by omega, by go_num, h1, h2, h3, h4, h5⟩, rfl⟩)
            · simp [intOf]; omega
          · have r1 : (R.1 != 0) = true := by simp [hR]
            have HnR : Hid (AlikeOk y R.2 n 0) := HA0.out hR
            clear hR HA0
            go_wp2_with fail
            go_region
            go_wp2_with fail
            refine (HC.out 0 HnR.out (Int.le_refl 0) (by decide) _ (by first | exact (HU.out _).drew | exact HU.out _ | exact (HU.out _).drew.drew)).mono ?_
            rintro e w8 ⟨rfl, hb8⟩
            have HE8 : Hid (∃ y', Fine y' ∧ y'.ents.length ≤ q + 1 ∧ y'.bal.length = bs.length ∧ y'.fee = fee ∧ Eng (fun k => w2.heap.size ≤ k) w2 w8 g y' bv vv) := by first | exact HEnd.out _ ((HU.out _).drew.trans (hb8.mono (HU.out _).drew.size)) | exact HEnd.out _ ((HU.out _).trans (hb8.mono (HU.out _).size))
            clear hb8
            go_wp2
            refine And.intro ?_ ?_
            · obtain ⟨y', h1, h2, h3, h4, h5⟩ := HE8.out
              first | exact ⟨q + 1, y', by omega, by go_num, h1, h2, h3, h4, h5⟩ | ((repeat apply Exists.intro); exact ⟨⟨q + 1, y', by omega, by go_num, h1, h2, h3, h4, h5⟩, rfl⟩)
            · simp [intOf]; omega
    · clear hst
      have HFin : Hid (Below w.heap.size w wr) := HW2.out.trans (HFr.out.mono HW2.out.size)
      have hsp : ¬ q < ops.length ∨ (q < ops.length ∧ ¬ q < 200) := by omega
      clear HP HFi HFr hlt
      rcases hsp with hsp | ⟨hsp, hsp2⟩
      all_goals
        go_wp2
        go_ret
        exact ⟨rfl, HFin.out⟩

set_option maxRecDepth 100000 in
theorem refused_lifted (os : Os) (started : os.Started) (H : Type) (enc : TypeId × Value → H) :
    ReturnsInHanded {} Try.checked os 5 .any (Rows.refusedSpec.pre6 enc Try.prog Try.f5 Rows.refusedRow.domain false) (Rows.refusedSpec.post enc Try.prog Try.f5 false true false false) := by
  refine returnsInHanded_of_change (C := Try.checked) own0 started (by kernel_rfl) Try.func5
    (ChangeSpec.witness6 (enc := enc) (C := Try.checked) false ⟨#[], #[.int .i64 0, .slice none 0 0], []⟩ 8 (by kernel_rfl) (by kernel_rfl) (by kernel_rfl) (by kernel_rfl)) ?_
  intro W base args ds gs before hval0 hW hcnd _
  have hval : ∀ (j : Nat) t v, Try.f5.params[j]? = some t → args[j]? = some v → Value.okWide Try.prog W .any base t v := hval0
  have hW' := hW
  obtain ⟨p, q, hA0, hV, rfl, hfz, hnd⟩ := hW
  have hA : DataW.TrodAll enc Try.prog W 0 (fun _ => true) true Try.f5.params.toList args.toList ds p := hA0
  rw [Try.params5] at hA hval
  obtain ⟨v0, vs0, d0, ds0, p0, q0, hargs, rfl, rfl, h0, r0⟩ := trodAll_cons hA
  obtain ⟨v1, vs1, d1, ds1, p1, q1, rfl, rfl, rfl, h1, r1⟩ := trodAll_cons r0
  obtain ⟨rfl, rfl, rfl⟩ := trodAll_nil r1
  obtain rfl : args = #[v0, v1] := by cases args; simp_all
  obtain ⟨rfl, rfl⟩ := trodVars_none hV
  obtain ⟨a0, rfl, rfl, rfl, w0⟩ := open_int Try.underlying3 (hval 0 3 v0 rfl rfl) h0
  obtain ⟨a1, len1, cap1, rfl⟩ := okWide_slice Try.underlying22 (hval 1 22 v1 rfl rfl)
  have k1 := h1
  have lt1 : ∀ x ∈ p1, x.block < W.heap.size := by obtain ⟨m, hm⟩ := k1; exact DataW.trod_lt m _ _ _ hm
  obtain ⟨ops, ho⟩ := steps_read h1 ⟨_, _, _, rfl⟩
  clear hA0 hval0
  have q0 := wf_i64 w0
  refine (refused_walk a0 _ ops W q0.1 q0.2 ho).mono fun e W' ⟨he, bel⟩ => ?_
  subst he
  exact ⟨_, rfl, _, _, _, [], _, [], hW', trodAll_mk1 (shut_bool Try.underlying4 _), (trodAll_cons_mk (shut_int Try.underlying3 w0) (trodAll_cons_mk (Below.trod laidOut0 (by kernel_rfl) (of_decide_eq_true (by kernel_rfl)) k1 bel lt1) trodAll_mk0)), rfl, bel.frame _, fun h => by cases h⟩

theorem refused_over : Rows.refusedRow.holds Try.pinned (OpenSpec.ofChange Rows.refusedSpec) :=
  OpenClaim.holds_of_wide 5 Try.f5 rfl rfl rfl rfl rfl rfl rfl ⟨rfl, rfl, rfl, rfl, rfl⟩ rfl rfl rfl rfl rfl (by kernel_rfl) Try.func5 (by kernel_rfl)
    (of_decide_eq_true (by kernel_rfl)) (by unfold Func.isWrapper; first | (rw [if_pos (by decide +kernel)]; kernel_rfl) | (rw [if_neg (by decide +kernel)]; exact ⟨rfl, rfl⟩))
    (fun os started H enc _ => refused_lifted os started H enc)

theorem refused_proved : Rows.RefusedSaid := refused_over
end Go.Proofs.Ytohjjgefklhmaaa
