import Derived.Test.YtohjjgefklhmaabGreatDoorXSameM
import Derived.Test.YtohjjgefklhmaabGreatDoorCards
import Derived.Test.YtohjjgefklhmaabGreatDoorTie
import Derived.Deep.DeepHandedRow
import Derived.Stop.LaidErr
import Derived.ShutString
import Derived.ChangeMaps5
namespace Go.Proofs.YtohjjgefklhmaabGreatDoor
open Go.ChangeShapes Go.WideShapes Go.ChangeAt Go.RowKit
set_option linter.unusedVariables false

set_option maxHeartbeats 8000000 in
set_option maxRecDepth 100000 in
theorem same_walk (c : Int) (va' vb' : Value) (ops ops2 : List StepD) (w : World) (hc1 : -9223372036854775808 ≤ c) (hc2 : c ≤ 9223372036854775807) (hs : StepSl w va' ops) (hs2 : StepSl w vb' ops2) (hI : ItoaOk w.heap.size w) :
    Calls Tryz.prog 3 #[.int .i64 c, va', vb'] w fun e w' => e = .returned (.bool true) ∧ Below w.heap.size w w' := by
  obtain ⟨sa, scap, rfl, hh0⟩ := id hs
  obtain ⟨sa2, scap2, rfl, hh2⟩ := id hs2
  clear hh0 hh2
  have HB : Hid (∀ u, Calls Tryz.prog 5 #[.int .i64 c] u fun e w' => BegP u w' e) := fun u => beginning_any c u hc1 hc2
  have HLi : Hid (∀ u, Calls Tryz.prog 6 #[] u fun e w' => e = .returned (.bool true) ∧ Below u.heap.size u w') := lives_any
  have HSt : Hid (StepSl w (.slice sa ops.length scap) ops) := hs
  have HSu : Hid (StepSl w (.slice sa2 ops2.length scap2) ops2) := hs2
  have HIt : Hid (ItoaOk w.heap.size w) := hI
  clear hc1 hc2 hs hs2 hI
  go_enter Tryz.func3, Tryz.ntmps3
  go_wp2_with fail
  refine (HB.out _).mono ?_
  rintro e w1 ⟨vb, vo, vr, bs, os, rs, top, mature, fee, rfl, hb1, ho1, hr1, hgood, hbl1⟩
  clear HB
  obtain ⟨ba, bc, rfl, _⟩ := id hb1
  obtain ⟨oa, oc, rfl, _⟩ := id ho1
  obtain ⟨ra, rc, rfl, _⟩ := id hr1
  have HGo : Hid (GoodGen bs os rs top mature fee) := hgood
  clear hgood
  have hX : Has (w1.alloc (.cells #[.slice ba bs.length bc, .slice oa os.length oc, .slice ra rs.length rc, .int .i64 top, .int .i64 mature, .int .i64 fee] 25)) w1.heap.size 25 [.slice ba bs.length bc, .slice oa os.length oc, .slice ra rs.length rc, .int .i64 top, .int .i64 mature, .int .i64 fee] := Has.newA w1 _ _
  have hA : Below w1.heap.size w1 (w1.alloc (.cells #[.slice ba bs.length bc, .slice oa os.length oc, .slice ra rs.length rc, .int .i64 top, .int .i64 mature, .int .i64 fee] 25)) := (Below.refl _ _).alloc (Nat.le_refl _) _
  go_wp2_with fail
  refine (HLi.out _).mono ?_
  rintro e w2 ⟨rfl, hb2⟩
  clear HLi
  have hA2 : Below w1.heap.size w1 w2 := hA.trans (hb2.mono hA.size)
  have hX2 := hX.below hb2 hX.lt
  have hIb := hb1.below hA2 (Nat.le_refl _)
  have hIo := ho1.below hA2 (Nat.le_refl _)
  have hIr := hr1.below hA2 (Nat.le_refl _)
  have hw2 : Below w.heap.size w w2 := hbl1.trans (hA2.mono hbl1.size)
  have x0 : w2.cell? ⟨w1.heap.size, 0, none⟩ = some (.slice ba bs.length bc) := hX2.cell 0
  have x1 : w2.cell? ⟨w1.heap.size, 1, none⟩ = some (.slice oa os.length oc) := hX2.cell 1
  have x2 : w2.cell? ⟨w1.heap.size, 2, none⟩ = some (.slice ra rs.length rc) := hX2.cell 2
  have x3 : w2.cell? ⟨w1.heap.size, 3, none⟩ = some (.int .i64 top) := hX2.cell 3
  have x4 : w2.cell? ⟨w1.heap.size, 4, none⟩ = some (.int .i64 mature) := hX2.cell 4
  have x5 : w2.cell? ⟨w1.heap.size, 5, none⟩ = some (.int .i64 fee) := hX2.cell 5
  have hgl1 : bs.length ≤ 6 := HGo.out.1.2.1
  have hgl2 : os.length ≤ 5 := HGo.out.2.1.2.1
  have hgl3 : rs.length = os.length := HGo.out.2.1.2.2.1
  have HNew : Hid (Calls Tryz.prog 7 #[.agg #[.slice ba bs.length bc, .slice oa os.length oc, .slice ra rs.length rc, .int .i64 top, .int .i64 mature, .int .i64 fee]] w2 fun e w' => Begun w2 w' e bs os rs top mature fee) := new_good _ _ _ bs os rs top mature fee w2 hIb hIo hIr (by omega) (by omega) (by omega) HGo.out
  clear hA hX hb2 hA2 hb1 ho1 hr1 hIo hIr hIb hbl1 hgl3 hX2
  go_wp2_with fail
  refine HNew.out.mono ?_
  intro e w3 hbg
  obtain ⟨g, bv, vv, rfl, hP3⟩ := begun_pe hbg HGo.out
  obtain ⟨f1, f2, f3⟩ := xN_fine HGo.out
  have HEn0 : Hid (Eng (fun k => w2.heap.size ≤ k) w2 w3 g (xN bs os rs top mature fee) bv vv) := ⟨_, hP3⟩
  have HSt0 : Hid (StepSl w2 (.slice sa ops.length scap) ops) := HSt.out.below hw2 (Nat.le_refl _)
  have HSu0 : Hid (StepSl w2 (.slice sa2 ops2.length scap2) ops2) := HSu.out.below hw2 (Nat.le_refl _)
  have HFi0 : Hid (Fine (xN bs os rs top mature fee) ∧ InvB (xN bs os rs top mature fee) ∧ InvE (xN bs os rs top mature fee)) := ⟨f1, xN_inv HGo.out, xN_invE HGo.out⟩
  have HW2 : Hid (Below w.heap.size w w2) := hw2
  have HI2 : Hid (ItoaOk w.heap.size w2) := HIt.out.on hw2
  generalize xN bs os rs top mature fee = xx at *
  clear hbg hP3 hw2 x0 x1 x2 x3 x4 x5 HNew HGo f1 f2 f3 HSt HSu HIt
  go_wp2
  go_loopw [11] (fun i wr => ∃ (q : Nat) (y : EC), q ≤ 200 ∧ i = .int .i64 q ∧ Fine y ∧ InvB y ∧ InvE y ∧ Eng (fun k => w2.heap.size ≤ k) w2 wr g y bv vv) (fun i _ => 200 - (intOf i).toNat)
  case atStart => exact ⟨0, xx, by omega, rfl, HFi0.out.1, HFi0.out.2.1, HFi0.out.2.2, HEn0.out⟩
  case round =>
    clear HEn0 HFi0
    obtain ⟨q, y, hq, rfl, hfi, hib, hie, hE⟩ := hrel
    have hfr : Below w2.heap.size w2 wr := by
      obtain ⟨ev, hP⟩ := hE
      exact hP.fr.toBelow (Nat.le_refl _) (fun k hk h => by omega)
    have hst := HSt0.out.below hfr (Nat.le_refl _)
    have hen := ents_le hfi hie
    have HFi : Hid (Fine y ∧ InvB y ∧ InvE y) := ⟨hfi, hib, hie⟩
    have HEn : Hid (Eng (fun k => w2.heap.size ≤ k) w2 wr g y bv vv) := hE
    have HFr : Hid (Below w2.heap.size w2 wr) := hfr
    clear hfi hib hie hE hfr
    by_cases hlt : q < ops.length ∧ q < 200
    · obtain ⟨hl1, hl2⟩ := hlt
      obtain ⟨gs, off, rfl, hc⟩ := hst.get (by omega)
      have z0 : wr.cell? ⟨gs, off + q * 5, none⟩ = some (.int .i64 ops[q].k) := hc q hl1 0 (by omega)
      have z1 : wr.cell? ⟨gs, off + q * 5 + 1, none⟩ = some (.int .i64 ops[q].a) := hc q hl1 1 (by omega)
      have z2 : wr.cell? ⟨gs, off + q * 5 + 2, none⟩ = some (.int .i64 ops[q].b) := hc q hl1 2 (by omega)
      have z3 : wr.cell? ⟨gs, off + q * 5 + 3, none⟩ = some (.int .i64 ops[q].c) := hc q hl1 3 (by omega)
      have z4 : wr.cell? ⟨gs, off + q * 5 + 4, none⟩ = some (.int .i64 ops[q].d) := hc q hl1 4 (by omega)
      clear hc hst
      generalize ops[q] = st at *
      go_wp2_with fail
      refine (does_any HEn.out HFi.out.1 120 hen (by omega) st.k st.a st.b st.c st.d).mono ?_
      rintro e w5 ⟨rfl, hE5, hL5⟩
      have HE5 : Hid (∃ y', Fine y' ∧ InvB y' ∧ InvE y' ∧ Eng (fun k => w2.heap.size ≤ k) w2 w5 g y' bv vv) := ⟨_, hL5.fine, HFi.out.2.1.does HFi.out.1 st.k st.a st.b st.c st.d, HFi.out.2.2.does HFi.out.1 st.k st.a st.b st.c st.d, hE5⟩
      generalize (doesR y st.k st.a st.b st.c st.d).1 = rc at *
      clear hE5 hL5 HEn HFi HFr z0 z1 z2 z3 z4
      go_wp2
      refine And.intro ?_ ?_
      · obtain ⟨y', h1, h2, h3, h4⟩ := HE5.out
        first | exact ⟨q + 1, y', by omega, by go_num, h1, h2, h3, h4⟩ | ((repeat apply Exists.intro); exact ⟨⟨q + 1, y', by omega, by go_num, h1, h2, h3, h4⟩, rfl⟩)
      · simp [intOf]; omega
    · clear hst
      obtain ⟨ex, hPx⟩ := HEn.out
      have hbw : Below w.heap.size w2 wr := HFr.out.mono HW2.out.size
      have HX : Hid (Calls Tryz.prog 9 #[.pointer (some ⟨g, 0, none⟩)] wr fun e w' => e = .returned (.string ⟨(txt (nums y)).toArray⟩) ∧ Below wr.heap.size wr w') := export_any g y bv vv ex hPx w.heap.size (HI2.out.on hbw) (Nat.le_trans HW2.out.size HFr.out.size) (wbd_of HFi.out.1 HFi.out.2.1 HFi.out.2.2)
      have HPx : Hid (PE (fun k => w2.heap.size ≤ k) w2 wr g y bv vv ex) := hPx
      have hlen := txt_len HFi.out.1 HFi.out.2.1 HFi.out.2.2
      have hsz : (⟨(txt (nums y)).toArray⟩ : ByteArray).size = (txt (nums y)).length := by simp [ByteArray.size]
      obtain ⟨S, hS⟩ : ∃ S : ByteArray, S = ⟨(txt (nums y)).toArray⟩ := ⟨_, rfl⟩
      have HSd : Hid (S.data.toList = txt (nums y)) := by show S.data.toList = txt (nums y); rw [hS]
      rw [← hS] at HX hsz
      have hsl : S.size ≤ 8192 := by omega
      have HII : Hid (ItoaOk w.heap.size wr) := HI2.out.on hbw
      clear hPx hbw hlen hsz hS HEn
      have hsp : ¬ q < ops.length ∨ (q < ops.length ∧ ¬ q < 200) := by omega
      clear hlt
      rcases hsp with hsp | ⟨hsp, hsp2⟩
      all_goals
        go_wp2_with fail
        refine HX.out.mono ?_
        rintro e w5 ⟨rfl, hb5⟩
        have HP5 : Hid (PE (fun k => w2.heap.size ≤ k) w2 w5 g y bv vv ex) := HPx.out.below hb5
        have hbw5 : Below w.heap.size wr w5 := hb5.mono (Nat.le_trans HW2.out.size HFr.out.size)
        have HIm : Hid (Calls Tryz.prog 10 #[.string S] w5 fun e w' => ImpPost S w5 w' e) := import_any w5 S (by omega) w.heap.size (HII.out.on hbw5) (Nat.le_trans (Nat.le_trans HW2.out.size HFr.out.size) hb5.size)
        clear hb5 HX HPx hbw5 HII
        go_wp2_with fail
        refine HIm.out.mono ?_
        rintro e w6 hpost
        clear HIm
        rcases hpost with ⟨_, _, hno⟩ | ⟨g2, bY, vY, eY, rfl, hP6, hfi2, hib2, _, _⟩
        · exact absurd ⟨y, HFi.out.1, HFi.out.2.1, HFi.out.2.2, HSd.out⟩ hno
        have hsim := (wrote_rd HFi.out.1 HFi.out.2.1 HFi.out.2.2 HSd.out).2.2.2
        have HT6 : Hid (Two w2 w6 g y bv vv ex g2 (rdX S.data.toList).1 bY vY eY) := Two.begin HP5.out hP6
        have HY6 : Hid (Fine (rdX S.data.toList).1 ∧ Sim y (rdX S.data.toList).1) := ⟨hfi2, hsim⟩
        generalize (rdX S.data.toList).1 = y2 at *
        clear hP6 hfi2 hib2 hsim HP5 HSd HFr HSt0
        go_wp2
        go_loopw [15] (fun i wr => ∃ (q : Nat) (y y2 : EC) (ex eY : Value), q ≤ 201 ∧ i = .int .i64 q ∧ Fine y ∧ InvB y ∧ InvE y ∧ Fine y2 ∧ Sim y y2 ∧ Two w2 wr g y bv vv ex g2 y2 bY vY eY) (fun i _ => 201 - (intOf i).toNat)
        case atStart => exact ⟨0, y, y2, ex, eY, by omega, rfl, HFi.out.1, HFi.out.2.1, HFi.out.2.2, HY6.out.1, HY6.out.2, HT6.out⟩
        case round =>
          clear HT6 HY6 HFi hen
          obtain ⟨q, y, y2, ex, eY, hq, rfl, hfi, hib, hie, hfi2, hsim, hT⟩ := hrel
          have hfr := hT.fr
          have okx : Ok y.height y := hfi
          have b6 := okx.b6
          have v5 := okx.v5
          have hen := ents_le hfi hie
          have hen2 : y2.ents.length ≤ 120 := by rw [hsim.refl'.2.2.1]; exact hen
          have HFi : Hid (Fine y ∧ InvB y ∧ InvE y ∧ Fine y2 ∧ Sim y y2) := ⟨hfi, hib, hie, hfi2, hsim⟩
          have HT : Hid (Two w2 wr g y bv vv ex g2 y2 bY vY eY) := hT
          have HFr : Hid (Below w2.heap.size w2 wr) := hfr
          have dl : (dAll y.sh y.vals.length y.bal.length).length ≤ 30 := Nat.le_trans (dAll_len0 _ _ _) (Nat.mul_le_mul b6 v5)
          have HSx : Hid (∀ u ex, PE (fun k => w2.heap.size ≤ k) w2 u g y bv vv ex → Calls Tryz.prog 11 #[.pointer (some ⟨g, 0, none⟩)] u fun e w' => SeeR u w' e y) := fun u ex hP => kseeR g y bv vv ex u hP okx.feeOk.vb (fun k hk => ⟨(okx.ent _ (List.getElem_mem hk)).a0, okx.bds.2.2.2.2 k hk⟩) b6 v5 (by omega)
          have oky : Ok y2.height y2 := hfi2
          have HSy : Hid (∀ u eY, PE (fun k => w2.heap.size ≤ k) w2 u g2 y2 bY vY eY → Calls Tryz.prog 11 #[.pointer (some ⟨g2, 0, none⟩)] u fun e w' => SeeR u w' e y) := fun u eY hP => (kseeR g2 y2 bY vY eY u hP oky.feeOk.vb (fun k hk => ⟨(oky.ent _ (List.getElem_mem hk)).a0, oky.bds.2.2.2.2 k hk⟩) oky.b6 oky.v5 (by omega)).mono (fun e w' h => SeeR.sim hsim b6 v5 h)
          have hbd := okx.bds
          have HAl : Hid (∀ (u : World) (sb sv sd se tb tv td te : Value), IntSl u sb y.bal → IntSl u tb y.bal → Rd u sv y.vals.length 8 (vrow y.vals) → Rd u tv y.vals.length 8 (vrow y.vals) → Rd u sd (dAll y.sh y.vals.length y.bal.length).length 3 (drow (dAll y.sh y.vals.length y.bal.length)) → Rd u td (dAll y.sh y.vals.length y.bal.length).length 3 (drow (dAll y.sh y.vals.length y.bal.length)) → Rd u se y.ents.length 4 (erow y.ents) → Rd u te y.ents.length 4 (erow y.ents) → Calls Tryz.prog 12 #[.agg #[.int .i64 y.height, sb, .int .i64 y.fees, .int .i64 y.pool, .int .i64 (bondedN y.vals), .int .i64 (looseV y.vals + sumE y.ents), sv, sd, se], .agg #[.int .i64 y.height, tb, .int .i64 y.fees, .int .i64 y.pool, .int .i64 (bondedN y.vals), .int .i64 (looseV y.vals + sumE y.ents), tv, td, te], .int .i64 (-1), .int .i64 0] u fun e w' => e = .returned (.bool true) ∧ Below u.heap.size u w') := fun u sb sv sd se tb tv td te h1 h2 h3 h4 h5 h6 h7 h8 => alike_any y.height y.fees y.pool _ _ y.fees y.bal y.bal y.vals _ y.ents sb tb sv tv sd td se te u (-1) 0 h1 h2 h3 h4 h5 h6 h7 h8 rfl b6 v5 dl (by omega) (by omega) (by omega) (by omega) okx.fees hbd.2.1 (fun k hk => by rw [if_neg (by omega)]; omega) (fun k hk => ⟨okx.bal k hk, hbd.1 k hk⟩)
          have HDu : Hid (∀ u, Two w2 u g y bv vv ex g2 y2 bY vY eY → Calls Tryz.prog 13 #[.pointer (some ⟨g, 0, none⟩), .pointer (some ⟨g2, 0, none⟩)] u fun e w' => e = .returned (.bool true) ∧ Below u.heap.size u w') := fun u h => dues_any g g2 y y2 _ _ _ _ _ _ u h.px h.py hfi hfi2 hsim (by omega)
          have HXx : Hid (∀ u ex, PE (fun k => w2.heap.size ≤ k) w2 u g y bv vv ex → Below w2.heap.size w2 u → Calls Tryz.prog 9 #[.pointer (some ⟨g, 0, none⟩)] u fun e w' => e = .returned (.string ⟨(txt (nums y)).toArray⟩) ∧ Below u.heap.size u w') := fun u ex hP hb => export_any g y bv vv ex hP w.heap.size (HI2.out.on (hb.mono HW2.out.size)) (Nat.le_trans HW2.out.size hb.size) (wbd_of hfi hib hie)
          have HXy : Hid (∀ u eY, PE (fun k => w2.heap.size ≤ k) w2 u g2 y2 bY vY eY → Below w2.heap.size w2 u → Calls Tryz.prog 9 #[.pointer (some ⟨g2, 0, none⟩)] u fun e w' => e = .returned (.string ⟨(txt (nums y)).toArray⟩) ∧ Below u.heap.size u w') := fun u eY hP hb => by
            have h := export_any g2 y2 bY vY eY hP w.heap.size (HI2.out.on (hb.mono HW2.out.size)) (Nat.le_trans HW2.out.size hb.size) (wbd_of hfi2 (InvB.sim hsim hib b6) (InvE.sim hsim hie))
            rw [nums_sim hsim b6 v5] at h
            exact h
          clear hfi hib hie hfi2 hsim hT hfr okx oky hbd
          by_cases hlt : q ≤ ops2.length ∧ q ≤ 200
          · obtain ⟨hl1, hl2⟩ := hlt
            go_wp2_with fail
            refine (HSx.out wr ex HT.out.px).mono ?_
            rintro e wB ⟨sb, sv, sd, se, rfl, hsb, hsv, hse, hsd, hbB⟩
            obtain ⟨b0, b1, rfl⟩ := ownsRow_slice hsb
            obtain ⟨v0', v1, rfl⟩ := ownsRow_slice hsv
            obtain ⟨e0, e1, rfl⟩ := ownsRow_slice hse
            obtain ⟨d0, d1, rfl⟩ := ownsRow_slice hsd
            have HTB : Hid (Two w2 wB g y bv vv ex g2 y2 bY vY eY) := HT.out.below hbB
            have hszB := hbB.size
            have Hsb : Hid (wB.ownsRow wr.heap.size 3 1 (.slice b0 y.bal.length b1) y.bal.length (ints y.bal)) := hsb
            have Hsv : Hid (wB.ownsRow wr.heap.size 76 8 (.slice v0' y.vals.length v1) y.vals.length (vrow y.vals)) := hsv
            have Hse : Hid (wB.ownsRow wr.heap.size 80 4 (.slice e0 y.ents.length e1) y.ents.length (erow y.ents)) := hse
            have Hsd : Hid (wB.ownsRow wr.heap.size 78 3 (.slice d0 (dAll y.sh y.vals.length y.bal.length).length d1) (dAll y.sh y.vals.length y.bal.length).length (drow (dAll y.sh y.vals.length y.bal.length))) := hsd
            clear hsb hsv hse hsd hbB HT HSx
            go_wp2_with fail
            have hVC : Has (wB.alloc (.cells #[.int .i64 y.height, .slice b0 y.bal.length b1, .int .i64 y.fees, .int .i64 y.pool, .int .i64 (bondedN y.vals), .int .i64 (looseV y.vals + sumE y.ents), .slice v0' y.vals.length v1, .slice d0 (dAll y.sh y.vals.length y.bal.length).length d1, .slice e0 y.ents.length e1] 41)) wB.heap.size 41 [.int .i64 y.height, .slice b0 y.bal.length b1, .int .i64 y.fees, .int .i64 y.pool, .int .i64 (bondedN y.vals), .int .i64 (looseV y.vals + sumE y.ents), .slice v0' y.vals.length v1, .slice d0 (dAll y.sh y.vals.length y.bal.length).length d1, .slice e0 y.ents.length e1] := Has.newA wB _ _
            have hTC := HTB.out.below ((Below.refl _ _).alloc (Nat.le_refl _) (.cells #[.int .i64 y.height, .slice b0 y.bal.length b1, .int .i64 y.fees, .int .i64 y.pool, .int .i64 (bondedN y.vals), .int .i64 (looseV y.vals + sumE y.ents), .slice v0' y.vals.length v1, .slice d0 (dAll y.sh y.vals.length y.bal.length).length d1, .slice e0 y.ents.length e1] 41))
            have hsbC := Hsb.out.alloc (.cells #[.int .i64 y.height, .slice b0 y.bal.length b1, .int .i64 y.fees, .int .i64 y.pool, .int .i64 (bondedN y.vals), .int .i64 (looseV y.vals + sumE y.ents), .slice v0' y.vals.length v1, .slice d0 (dAll y.sh y.vals.length y.bal.length).length d1, .slice e0 y.ents.length e1] 41)
            have hsvC := Hsv.out.alloc (.cells #[.int .i64 y.height, .slice b0 y.bal.length b1, .int .i64 y.fees, .int .i64 y.pool, .int .i64 (bondedN y.vals), .int .i64 (looseV y.vals + sumE y.ents), .slice v0' y.vals.length v1, .slice d0 (dAll y.sh y.vals.length y.bal.length).length d1, .slice e0 y.ents.length e1] 41)
            have hseC := Hse.out.alloc (.cells #[.int .i64 y.height, .slice b0 y.bal.length b1, .int .i64 y.fees, .int .i64 y.pool, .int .i64 (bondedN y.vals), .int .i64 (looseV y.vals + sumE y.ents), .slice v0' y.vals.length v1, .slice d0 (dAll y.sh y.vals.length y.bal.length).length d1, .slice e0 y.ents.length e1] 41)
            have hsdC := Hsd.out.alloc (.cells #[.int .i64 y.height, .slice b0 y.bal.length b1, .int .i64 y.fees, .int .i64 y.pool, .int .i64 (bondedN y.vals), .int .i64 (looseV y.vals + sumE y.ents), .slice v0' y.vals.length v1, .slice d0 (dAll y.sh y.vals.length y.bal.length).length d1, .slice e0 y.ents.length e1] 41)
            generalize wB.alloc (.cells #[.int .i64 y.height, .slice b0 y.bal.length b1, .int .i64 y.fees, .int .i64 y.pool, .int .i64 (bondedN y.vals), .int .i64 (looseV y.vals + sumE y.ents), .slice v0' y.vals.length v1, .slice d0 (dAll y.sh y.vals.length y.bal.length).length d1, .slice e0 y.ents.length e1] 41) = wC at hVC hTC hsbC hsvC hseC hsdC ⊢
            refine (HSy.out wC eY hTC.py).mono ?_
            rintro e wD ⟨tb, tv, td, te, rfl, htb, htv, hte, htd, hbD⟩
            obtain ⟨tb0, tb1, rfl⟩ := ownsRow_slice htb
            obtain ⟨tv0, tv1, rfl⟩ := ownsRow_slice htv
            obtain ⟨te0, te1, rfl⟩ := ownsRow_slice hte
            obtain ⟨td0, td1, rfl⟩ := ownsRow_slice htd
            have hVD := hVC.below hbD hVC.lt
            have m0 : wD.cell? ⟨wB.heap.size, 0, none⟩ = some (.int .i64 y.height) := hVD.cell 0
            have m1 : wD.cell? ⟨wB.heap.size, 1, none⟩ = some (.slice b0 y.bal.length b1) := hVD.cell 1
            have m2 : wD.cell? ⟨wB.heap.size, 2, none⟩ = some (.int .i64 y.fees) := hVD.cell 2
            have m3 : wD.cell? ⟨wB.heap.size, 3, none⟩ = some (.int .i64 y.pool) := hVD.cell 3
            have m4 : wD.cell? ⟨wB.heap.size, 4, none⟩ = some (.int .i64 (bondedN y.vals)) := hVD.cell 4
            have m5 : wD.cell? ⟨wB.heap.size, 5, none⟩ = some (.int .i64 (looseV y.vals + sumE y.ents)) := hVD.cell 5
            have m6 : wD.cell? ⟨wB.heap.size, 6, none⟩ = some (.slice v0' y.vals.length v1) := hVD.cell 6
            have m7 : wD.cell? ⟨wB.heap.size, 7, none⟩ = some (.slice d0 (dAll y.sh y.vals.length y.bal.length).length d1) := hVD.cell 7
            have m8 : wD.cell? ⟨wB.heap.size, 8, none⟩ = some (.slice e0 y.ents.length e1) := hVD.cell 8
            have ltD := hVD.lt
            have HTD : Hid (Two w2 wD g y bv vv ex g2 y2 bY vY eY) := hTC.below hbD
            have HAc : Hid (∀ o, Calls Tryz.prog 12 #[.agg #[.int .i64 y.height, .slice b0 y.bal.length b1, .int .i64 y.fees, .int .i64 y.pool, .int .i64 (bondedN y.vals), .int .i64 (looseV y.vals + sumE y.ents), .slice v0' y.vals.length v1, .slice d0 (dAll y.sh y.vals.length y.bal.length).length d1, .slice e0 y.ents.length e1], .agg #[.int .i64 y.height, .slice tb0 y.bal.length tb1, .int .i64 y.fees, .int .i64 y.pool, .int .i64 (bondedN y.vals), .int .i64 (looseV y.vals + sumE y.ents), .slice tv0 y.vals.length tv1, .slice td0 (dAll y.sh y.vals.length y.bal.length).length td1, .slice te0 y.ents.length te1], .int .i64 (-1), .int .i64 0] (wD.alloc o) fun e w' => e = .returned (.bool true) ∧ Below (wD.alloc o).heap.size (wD.alloc o) w') := fun o => by
              have hu : Below wD.heap.size wD (wD.alloc o) := (Below.refl _ _).alloc (Nat.le_refl _) o
              exact HAl.out (wD.alloc o) _ _ _ _ _ _ _ _ (Rd.of_owns (ownsRow_below (ownsRow_below hsbC hbD (Nat.le_refl _)) hu (Nat.le_refl _))).ints (Rd.of_owns (ownsRow_below htb hu (Nat.le_refl _))).ints (Rd.of_owns (ownsRow_below (ownsRow_below hsvC hbD (Nat.le_refl _)) hu (Nat.le_refl _))) (Rd.of_owns (ownsRow_below htv hu (Nat.le_refl _))) (Rd.of_owns (ownsRow_below (ownsRow_below hsdC hbD (Nat.le_refl _)) hu (Nat.le_refl _))) (Rd.of_owns (ownsRow_below htd hu (Nat.le_refl _))) (Rd.of_owns (ownsRow_below (ownsRow_below hseC hbD (Nat.le_refl _)) hu (Nat.le_refl _))) (Rd.of_owns (ownsRow_below hte hu (Nat.le_refl _)))
            clear hVC hTC hsbC hsvC hseC hsdC htb htv hte htd hbD hVD HTB Hsb Hsv Hse Hsd HSy HAl
            go_wp2_with fail
            refine (HAc.out _).mono ?_
            rintro e wE ⟨rfl, hbE⟩
            have HTE : Hid (Two w2 wE g y bv vv ex g2 y2 bY vY eY) := (HTD.out.below ((Below.refl _ _).alloc (Nat.le_refl _) _)).below hbE
            clear hbE HAc HTD m0 m1 m2 m3 m4 m5 m6 m7 m8 ltD
            go_wp2_with fail
            refine (HDu.out wE HTE.out).mono ?_
            rintro e wF ⟨rfl, hbF⟩
            have HTF : Hid (Two w2 wF g y bv vv ex g2 y2 bY vY eY) := HTE.out.below hbF
            clear hbF HTE HDu
            by_cases hl3 : q < ops2.length
            · have hst := HSu0.out.below HTF.out.fr (Nat.le_refl _)
              obtain ⟨gs, off, rfl, hc⟩ := hst.get (by omega)
              have z0 : wF.cell? ⟨gs, off + q * 5, none⟩ = some (.int .i64 ops2[q].k) := hc q hl3 0 (by omega)
              have z1 : wF.cell? ⟨gs, off + q * 5 + 1, none⟩ = some (.int .i64 ops2[q].a) := hc q hl3 1 (by omega)
              have z2 : wF.cell? ⟨gs, off + q * 5 + 2, none⟩ = some (.int .i64 ops2[q].b) := hc q hl3 2 (by omega)
              have z3 : wF.cell? ⟨gs, off + q * 5 + 3, none⟩ = some (.int .i64 ops2[q].c) := hc q hl3 3 (by omega)
              have z4 : wF.cell? ⟨gs, off + q * 5 + 4, none⟩ = some (.int .i64 ops2[q].d) := hc q hl3 4 (by omega)
              have HZ : Hid (∀ u, Below w2.heap.size w2 u → u.cell? ⟨gs, off + q * 5, none⟩ = some (.int .i64 ops2[q].k) ∧ u.cell? ⟨gs, off + q * 5 + 1, none⟩ = some (.int .i64 ops2[q].a) ∧ u.cell? ⟨gs, off + q * 5 + 2, none⟩ = some (.int .i64 ops2[q].b) ∧ u.cell? ⟨gs, off + q * 5 + 3, none⟩ = some (.int .i64 ops2[q].c) ∧ u.cell? ⟨gs, off + q * 5 + 4, none⟩ = some (.int .i64 ops2[q].d)) := fun u hu => by
                obtain ⟨gs', off', e, hc'⟩ := (HSu0.out.below hu (Nat.le_refl _)).get (by omega)
                simp only [Option.some.injEq, Addr.mk.injEq, and_true] at e
                obtain ⟨rfl, rfl⟩ := e
                exact ⟨hc' q hl3 0 (by omega), hc' q hl3 1 (by omega), hc' q hl3 2 (by omega), hc' q hl3 3 (by omega), hc' q hl3 4 (by omega)⟩
              clear hc hst
              generalize ops2[q] = st at *
              go_wp2_with fail
              refine (does_any ⟨_, HTF.out.px.rest⟩ HFi.out.1 120 hen (by omega) st.k st.a st.b st.c st.d).mono ?_
              rintro e wG ⟨rfl, ⟨exG, hEG⟩, hLG⟩
              have hTG := HTF.out.left hEG
              obtain ⟨n0, n1, n2, n3, n4⟩ := HZ.out wG hTG.fr
              have HTG : Hid (Two w2 wG g (doesR y st.k st.a st.b st.c st.d).2 bv vv exG g2 y2 bY vY eY) := hTG
              have HLG : Hid (Fine (doesR y st.k st.a st.b st.c st.d).2) := hLG.fine
              clear hEG hLG hTG z0 z1 z2 z3 z4 HTF HZ
              go_wp2_with fail
              refine (does_any ⟨_, HTG.out.py.rest⟩ HFi.out.2.2.2.1 120 hen2 (by omega) st.k st.a st.b st.c st.d).mono ?_
              rintro e wH ⟨rfl, ⟨eYH, hEH⟩, hLH⟩
              have hTH := (HTG.out.symm.left hEH).symm
              have hsr := HFi.out.2.2.2.2.does b6 v5 st.k st.a st.b st.c st.d
              rw [hsr.1]
              have HEnd : Hid (∃ (y' y2' : EC) (ex' eY' : Value), Fine y' ∧ InvB y' ∧ InvE y' ∧ Fine y2' ∧ Sim y' y2' ∧ Two w2 wH g y' bv vv ex' g2 y2' bY vY eY') := ⟨_, _, _, _, HLG.out, HFi.out.2.1.does HFi.out.1 st.k st.a st.b st.c st.d, HFi.out.2.2.1.does HFi.out.1 st.k st.a st.b st.c st.d, hLH.fine, hsr.2, hTH⟩
              generalize (doesR y st.k st.a st.b st.c st.d).1 = rc at *
              clear hEH hLH hTH hsr n0 n1 n2 n3 n4 HTG HLG HXx HXy HFi
              go_wp2
              refine And.intro ?_ ?_
              · obtain ⟨y', y2', ex', eY', h1, h2, h3, h4, h5, h6⟩ := HEnd.out
                first | exact ⟨q + 1, y', y2', ex', eY', by omega, by go_num, h1, h2, h3, h4, h5, h6⟩ | ((repeat apply Exists.intro); exact ⟨⟨q + 1, y', y2', ex', eY', by omega, by go_num, h1, h2, h3, h4, h5, h6⟩, rfl⟩)
              · simp [intOf]; omega
            · go_wp2
              refine And.intro ?_ ?_
              · first | exact ⟨q + 1, y, y2, ex, eY, by omega, by go_num, HFi.out.1, HFi.out.2.1, HFi.out.2.2.1, HFi.out.2.2.2.1, HFi.out.2.2.2.2, HTF.out⟩ | ((repeat apply Exists.intro); exact ⟨⟨q + 1, y, y2, ex, eY, by omega, by go_num, HFi.out.1, HFi.out.2.1, HFi.out.2.2.1, HFi.out.2.2.2.1, HFi.out.2.2.2.2, HTF.out⟩, rfl⟩)
              · simp [intOf]; omega
          · have hsp : ¬ q ≤ ops2.length ∨ (q ≤ ops2.length ∧ ¬ q ≤ 200) := by omega
            clear hlt HSx HSy HAl HDu
            rcases hsp with hsp | ⟨hsp, hsp2⟩
            all_goals
              go_wp2_with fail
              refine (HXx.out wr ex HT.out.px HFr.out).mono ?_
              rintro e wB ⟨rfl, hbB⟩
              have HTB : Hid (Two w2 wB g y bv vv ex g2 y2 bY vY eY) := HT.out.below hbB
              have HFB : Hid (Below w2.heap.size w2 wB) := HTB.out.fr
              clear hbB
              go_wp2_with fail
              refine (HXy.out wB eY HTB.out.py HFB.out).mono ?_
              rintro e wC ⟨rfl, hbC⟩
              have HF : Hid (Below w.heap.size w wC) := HW2.out.trans ((HFB.out.trans (hbC.mono HFB.out.size)).mono HW2.out.size)
              clear hbC HXx HXy
              go_wp2
              go_ret
              exact ⟨rfl, HF.out⟩
end Go.Proofs.YtohjjgefklhmaabGreatDoor

namespace Go.Proofs.YtohjjgefklhmaabGreatDoor
open Go.ChangeShapes Go.WideShapes Go.ChangeAt Go.RowKit
set_option linter.unusedVariables false

theorem gTab : Tryz.prog.globalNamed "internal/strconv.uint64pow10" = some 0 := by kernel_rfl
theorem gTabType : (Tryz.prog.globals[0]?).map (·.type) = some 112 := by kernel_rfl
theorem cellsTab : Tryz.prog.cellsOf 112 = 20 := by kernel_rfl
theorem cellsU64 : Tryz.prog.cellsOf 106 = 1 := by kernel_rfl
set_option maxRecDepth 100000 in
theorem tab_of {W : World} (h : laidMetH Tryz.prog Rows.sameRow.laid W) : Lib.TabIs Tryz.prog W "internal/strconv.uint64pow10" .u64 Lib.pow10Tab := by
  have h1 : laidMet Tryz.prog [("math/bits.deBruijn32tab", Rows.laid_math_bits_deBruijn32tab), ("math/bits.deBruijn64tab", Rows.laid_math_bits_deBruijn64tab), ("internal/strconv.uint64pow10", Rows.laid_internal_strconv_uint64pow10)] W := h
  have e : (Rows.laid_internal_strconv_uint64pow10 : DataW Unit) = Lib.tabData .u64 Lib.pow10Tab := by kernel_rfl
  have h2 : laidMet Tryz.prog [("internal/strconv.uint64pow10", Rows.laid_internal_strconv_uint64pow10)] W := h1.tail.tail
  rw [e] at h2
  generalize Lib.pow10Tab = zs at *
  exact Lib.tabIs_of_head (name := "internal/strconv.uint64pow10") (k := .u64) (zs := zs) (rest := []) gTab gTabType Tryz.underlying112 Tryz.underlying106 cellsU64 cellsTab h2
set_option maxRecDepth 100000 in
theorem same_contract (H : Type) (enc : TypeId × Value → H) (W : World) (base : Nat) (args : Array Value) (ds gs : List (DataW H)) (before : List MemPlace)
    (hval0 : ∀ (j : Nat) t v, Tryz.f3.params[j]? = some t → args[j]? = some v → Value.okWide Tryz.prog W .any base t v)
    (hW : DataW.Whole enc Tryz.prog Tryz.f3.params.toList Rows.sameSpec.vars false W args.toList ds gs before) (hL : laidMetH Tryz.prog Rows.sameRow.laid W) :
    Calls Tryz.prog 3 args W fun e W' => ∃ v, e = .returned v ∧ Rows.sameSpec.post enc Tryz.prog Tryz.f3 false true false false W args v W' := by
  have hval : ∀ (j : Nat) t v, Tryz.f3.params[j]? = some t → args[j]? = some v → Value.okWide Tryz.prog W .any base t v := hval0
  have hW' := hW
  obtain ⟨p, q, hA0, hV, rfl, hfz, hnd⟩ := hW
  have hA : DataW.TrodAll enc Tryz.prog W 0 (fun _ => true) true Tryz.f3.params.toList args.toList ds p := hA0
  rw [Tryz.params3] at hA hval
  obtain ⟨v0, vs0, d0, ds0, p0, q0, hargs, rfl, rfl, h0, r0⟩ := trodAll_cons hA
  obtain ⟨v1, vs1, d1, ds1, p1, q1, rfl, rfl, rfl, h1, r1⟩ := trodAll_cons r0
  obtain ⟨v2, vs2, d2, ds2, p2, q2, rfl, rfl, rfl, h2, r2⟩ := trodAll_cons r1
  obtain ⟨rfl, rfl, rfl⟩ := trodAll_nil r2
  obtain rfl : args = #[v0, v1, v2] := by cases args; simp_all
  obtain ⟨rfl, rfl⟩ := trodVars_none hV
  obtain ⟨a0, rfl, rfl, rfl, w0⟩ := open_int Tryz.underlying3 (hval 0 3 v0 rfl rfl) h0
  obtain ⟨a1, len1, cap1, rfl⟩ := okWide_slice Tryz.underlying22 (hval 1 22 v1 rfl rfl)
  obtain ⟨a2, len2, cap2, rfl⟩ := okWide_slice Tryz.underlying22 (hval 2 22 v2 rfl rfl)
  have k1 := h1
  have k2 := h2
  have lt1 : ∀ x ∈ p1, x.block < W.heap.size := by obtain ⟨m, hm⟩ := k1; exact DataW.trod_lt m _ _ _ hm
  have lt2 : ∀ x ∈ p2, x.block < W.heap.size := by obtain ⟨m, hm⟩ := k2; exact DataW.trod_lt m _ _ _ hm
  obtain ⟨ops, ho⟩ := steps_read h1 ⟨_, _, _, rfl⟩
  obtain ⟨ops2, ho2⟩ := steps_read h2 ⟨_, _, _, rfl⟩
  clear hA0 hval0
  have q0 := wf_i64 w0
  refine (same_walk a0 _ _ ops ops2 W q0.1 q0.2 ho ho2 (itoa_ok W (tab_of hL))).mono fun e W' ⟨he, bel⟩ => ?_
  subst he
  exact ⟨_, rfl, _, _, _, [], _, [], hW', trodAll_mk1 (shut_bool Tryz.underlying4 _), (trodAll_cons_mk (shut_int Tryz.underlying3 w0) (trodAll_cons_mk (Below.trod laidOut0 (by kernel_rfl) (of_decide_eq_true (by kernel_rfl)) k1 bel lt1) (trodAll_cons_mk (Below.trod laidOut0 (by kernel_rfl) (of_decide_eq_true (by kernel_rfl)) k2 bel lt2) trodAll_mk0))), rfl, bel.frame _, fun h => by cases h⟩

/-! ### a world for the witness: the tables as their initialisers lay them -/
def laidCells (d : DataW Unit) : Array Value := match d with
  | .agg ps => (ps.map fun p => match p with
    | .lit (.int k n) => Value.int k n
    | _ => .int .u8 0).toArray
  | _ => #[]
def putCells (c : Array Value) : Obj → Obj
  | .cells _ t frozen => .cells c t frozen
  | o => o
noncomputable def laidWorld (os : Os) : World :=
  { World.holding Tryz.prog os ⟨#[], #[], []⟩ with heap := (((World.holding Tryz.prog os ⟨#[], #[], []⟩).heap.modify 0 (putCells (laidCells Rows.laid_internal_strconv_uint64pow10))).modify 1 (putCells (laidCells Rows.laid_math_bits_deBruijn32tab))).modify 2 (putCells (laidCells Rows.laid_math_bits_deBruijn64tab)) }
theorem same_met (os : Os) : laidMet Tryz.prog Rows.sameRow.laid ((laidWorld os).forCall (fun _ _ => 0) ⟨#[], #[.int .i64 0, .slice none 0 0, .slice none 0 0], []⟩).memory :=
  laidMet_of_run' 8 (by kernel_rfl) (by kernel_rfl)
theorem same_reads (os : Os) {H : Type} (enc : TypeId × Value → H) : ∃ places, DataW.whole enc Tryz.prog ((laidWorld os).forCall (fun _ _ => 0) ⟨#[], #[.int .i64 0, .slice none 0 0, .slice none 0 0], []⟩).memory Tryz.f3.params.toList Rows.sameSpec.vars false #[Value.int .i64 0, .slice none 0 0, .slice none 0 0].toList 8 = some ([.lit (.int .i64 0), .nil, .nil], [], places) :=
  ⟨[], by kernel_rfl⟩
set_option maxRecDepth 100000 in
theorem same_lifted (os : Os) (started : os.Started) (H : Type) (enc : TypeId × Value → H) (F : Stop.Interp) :
    ReturnsInHanded {} Tryz.checked os 3 .any ((OpenSpec.ofChange Rows.sameSpec).preRow enc Tryz.prog Tryz.f3 Rows.sameRow.domain false Rows.sameRow.laid) (((OpenSpec.ofChange Rows.sameSpec).at F).post enc Tryz.prog Tryz.f3 false true false false) := by
  obtain ⟨places, hx⟩ := same_reads os enc
  refine returnsInHanded_of_row (C := Tryz.checked) (s := OpenSpec.ofChange Rows.sameSpec) own0 started (by kernel_rfl) Tryz.func3
    (witness_row_at (enc := enc) (C := Tryz.checked) false (laidWorld os) #[.int .i64 0, .slice none 0 0, .slice none 0 0] rfl (by kernel_rfl) (by kernel_rfl) (by kernel_rfl)
      (OpenSpec.preRow_of_cond 8 hx (by kernel_rfl) (fun k hk => by cases hk) (by kernel_rfl) (same_met os))) ?_
  intro W base args ds gs before hval hW _ _ _ hL _ _
  exact same_contract H enc W base args ds gs before hval hW hL
theorem same_said : Rows.SameSaid :=
  OpenClaim.holds_of_cond 3 Tryz.f3 rfl rfl rfl rfl rfl rfl rfl ⟨rfl, rfl, rfl, rfl, rfl⟩ rfl rfl rfl rfl rfl (by kernel_rfl) Tryz.func3 (by kernel_rfl)
    (of_decide_eq_true (by kernel_rfl)) (by unfold Func.isWrapper; first | (rw [if_pos (by decide +kernel)]; kernel_rfl) | (rw [if_neg (by decide +kernel)]; exact ⟨rfl, rfl⟩))
    (fun os started H enc _ F => by rw [OpenClaim.pre_eq_preRow]; exact same_lifted os started H enc F)
theorem same_plain (f : FuncId) (fn : Func) (hf : Tryz.pinned.checked.prog.funcNamed "staking/stakingkeep.Same" = some f) (hfn : Tryz.pinned.checked.prog.funcs[f]? = some fn) :
    false = Tryz.pinned.checked.prog.looks [] ∧ ∀ (j : Nat) t, fn.params[j]? = some t → Tryz.pinned.checked.prog.wantsStandIn t = false := by
  obtain rfl : f = 3 := Option.some.inj ((show Tryz.prog.funcNamed "staking/stakingkeep.Same" = some 3 by kernel_rfl).symm.trans hf) |>.symm
  obtain rfl : fn = Tryz.f3 := (Option.some.inj (Tryz.func3.symm.trans hfn)).symm
  refine ⟨by kernel_rfl, fun j t ht => ?_⟩
  rw [Tryz.params3] at ht
  have hm : t = 3 ∨ t = 22 := by simpa using Array.mem_of_getElem? ht
  rcases hm with rfl | rfl
  · exact (show Tryz.prog.wantsStandIn 3 = false by kernel_rfl)
  · exact (show Tryz.prog.wantsStandIn 22 = false by kernel_rfl)
theorem same_proved : Rows.SameCardSaid :=
  Claim7.holds_tied_plain_at .later [] _ _ _ _ same_said (fun _ h => by cases h) (by kernel_rfl) (fun _ h => by cases h) same_row_tie rfl ⟨rfl, rfl⟩ (by kernel_rfl) rfl same_plain (by kernel_rfl)
end Go.Proofs.YtohjjgefklhmaabGreatDoor
