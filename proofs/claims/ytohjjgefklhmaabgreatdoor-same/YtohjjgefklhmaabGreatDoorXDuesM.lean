import Derived.Test.YtohjjgefklhmaabGreatDoorXItoaBM
import Derived.Deep.RegionWith
import Derived.Deep.DeepCutAuto
namespace Go.Proofs.YtohjjgefklhmaabGreatDoor
open Go.ChangeShapes Go.WideShapes Go.ChangeAt Go.RowKit
set_option linter.unusedVariables false

set_option maxHeartbeats 4000000 in
set_option maxRecDepth 100000 in
theorem dues_any {S S' : Nat → Prop} {W0 W0' : World} (gx gy : Nat) (x y : EC) (bx vx ex bY vY eY : Value) (w : World) (hx : PE S W0 w gx x bx vx ex) (hy : PE S' W0' w gy y bY vY eY) (fx : Fine x) (fy : Fine y) (hs : Sim x y) (hel : x.ents.length ≤ 1000) :
    Calls Tryz.prog 13 #[.pointer (some ⟨gx, 0, none⟩), .pointer (some ⟨gy, 0, none⟩)] w fun e w' => e = .returned (.bool true) ∧ Below w.heap.size w w' := by
  have okx : Ok x.height x := fx
  have oky : Ok y.height y := fy
  have hEB : EB x.ents := fun k hk => ⟨(okx.ent _ (List.getElem_mem hk)).a0, okx.bds.2.2.2.2 k hk⟩
  have HS : Hid (Calls Tryz.prog 11 #[.pointer (some ⟨gx, 0, none⟩)] w fun e w' => SeeR w w' e x) := kseeR gx x bx vx ex w hx okx.feeOk.vb hEB okx.b6 okx.v5 hel
  have b6 := okx.b6
  have v5 := okx.v5
  have dl : (dels x).length ≤ 30 := Nat.le_trans (dAll_len0 _ _ _) (Nat.mul_le_mul b6 v5)
  obtain ⟨eb, ev, _⟩ := hs.refl'
  have HD : Hid (∀ q (hq : q < (dels x).length) wr, Below w.heap.size w wr → Calls Tryz.prog 21 #[.pointer (some ⟨gx, 0, none⟩), .int .i64 (dels x)[q].who, .int .i64 (dels x)[q].val] wr (fun e w' => e = .returned (.tuple #[.int .i64 (dueD x (dels x)[q]), .int .i64 0]) ∧ w' = wr.drew) ∧ Calls Tryz.prog 21 #[.pointer (some ⟨gy, 0, none⟩), .int .i64 (dels x)[q].who, .int .i64 (dels x)[q].val] wr (fun e w' => e = .returned (.tuple #[.int .i64 (dueD x (dels x)[q]), .int .i64 0]) ∧ w' = wr.drew)) := fun q hq wr hb => by
    obtain ⟨k, j, hk, hj, hd, hpos⟩ := dAll_mem x.sh x.vals.length x.bal.length _ (List.getElem_mem hq)
    rw [hd]
    have e1 : dueD x ⟨k, j, x.sh k j⟩ = x.due k j := by simp [dueD]
    have e2 : y.due k j = x.due k j := hs.due (by omega) (by omega)
    have e3 : y.sh k j = x.sh k j := hs.sh (by omega) (by omega)
    rw [e1]
    refine ⟨eDue gx x bx vx ex wr (hx.below hb) k j b6 hk v5 hj (by omega) (okx.dueOk (by omega) hj), ?_⟩
    rw [← e2]
    exact eDue gy y bY vY eY wr (hy.below hb) k j (by rw [eb]; exact b6) (by rw [eb]; exact hk) (by rw [ev]; exact v5) (by rw [ev]; exact hj) (by rw [e3]; omega) (oky.dueOk (by omega) (by rw [ev]; exact hj))
  clear hx hy okx oky hEB fx fy hs hel eb ev
  go_enter Tryz.func13, Tryz.ntmps13
  go_wp2_with fail
  refine HS.out.mono ?_
  rintro e w1 ⟨sb, sv, sd, se, rfl, hsb, hsv, hse, hsd, hb1⟩
  obtain ⟨ba, bc, rfl⟩ := ownsRow_slice hsb
  obtain ⟨va, vc, rfl⟩ := ownsRow_slice hsv
  obtain ⟨ea, ec, rfl⟩ := ownsRow_slice hse
  rw [show dAll x.sh x.vals.length x.bal.length = dels x from rfl] at hsd
  obtain ⟨da, dc, rfl⟩ := ownsRow_slice hsd
  clear HS
  have hX : Has (w1.alloc (.cells #[.int .i64 x.height, .slice ba x.bal.length bc, .int .i64 x.fees, .int .i64 x.pool, .int .i64 (bondedN x.vals), .int .i64 (looseV x.vals + sumE x.ents), .slice va x.vals.length vc, .slice da (dels x).length dc, .slice ea x.ents.length ec] 41)) w1.heap.size 41 [.int .i64 x.height, .slice ba x.bal.length bc, .int .i64 x.fees, .int .i64 x.pool, .int .i64 (bondedN x.vals), .int .i64 (looseV x.vals + sumE x.ents), .slice va x.vals.length vc, .slice da (dels x).length dc, .slice ea x.ents.length ec] := Has.newA w1 _ _
  have hA : Below w1.heap.size w1 (w1.alloc (.cells #[.int .i64 x.height, .slice ba x.bal.length bc, .int .i64 x.fees, .int .i64 x.pool, .int .i64 (bondedN x.vals), .int .i64 (looseV x.vals + sumE x.ents), .slice va x.vals.length vc, .slice da (dels x).length dc, .slice ea x.ents.length ec] 41)) := (Below.refl _ _).alloc (Nat.le_refl _) _
  have hA0 : Below w.heap.size w (w1.alloc (.cells #[.int .i64 x.height, .slice ba x.bal.length bc, .int .i64 x.fees, .int .i64 x.pool, .int .i64 (bondedN x.vals), .int .i64 (looseV x.vals + sumE x.ents), .slice va x.vals.length vc, .slice da (dels x).length dc, .slice ea x.ents.length ec] 41)) := hb1.trans (hA.mono hb1.size)
  have hRd0 : Rd w1 (.slice da (dels x).length dc) (dels x).length 3 (drow (dels x)) := Rd.of_owns hsd
  have hRd := hRd0.below hA (Nat.le_refl _)
  clear hsb hsv hse hsd hb1 hA hRd0
  go_wp2
  generalize (w1.alloc (.cells #[.int .i64 x.height, .slice ba x.bal.length bc, .int .i64 x.fees, .int .i64 x.pool, .int .i64 (bondedN x.vals), .int .i64 (looseV x.vals + sumE x.ents), .slice va x.vals.length vc, .slice da (dels x).length dc, .slice ea x.ents.length ec] 41)) = wA at hX hA0 hRd ⊢
  have HX : Hid (∀ wr, Below wA.heap.size wA wr → Has wr w1.heap.size 41 [.int .i64 x.height, .slice ba x.bal.length bc, .int .i64 x.fees, .int .i64 x.pool, .int .i64 (bondedN x.vals), .int .i64 (looseV x.vals + sumE x.ents), .slice va x.vals.length vc, .slice da (dels x).length dc, .slice ea x.ents.length ec]) := fun wr hb => hX.below hb hX.lt
  have HA : Hid (∀ wr, Below wA.heap.size wA wr → Below w.heap.size w wr) := fun wr hb => hA0.trans (hb.mono hA0.size)
  have HRd : Hid (Rd wA (.slice da (dels x).length dc) (dels x).length 3 (drow (dels x))) := hRd
  clear hX hA0 hRd
  generalize dels x = L at *
  go_loopw [6] (fun i wr => ∃ k : Nat, k ≤ L.length ∧ i = .int .i64 k ∧ Below wA.heap.size wA wr) (fun i _ => L.length - (intOf i).toNat)
  case atStart => exact ⟨0, Nat.zero_le _, rfl, Below.refl _ _⟩
  case round =>
    obtain ⟨q, hq, rfl, hbw⟩ := hrel
    have a7 : wr.cell? ⟨w1.heap.size, 7, none⟩ = some (.slice da L.length dc) := (HX.out wr hbw).cell 7
    by_cases hlt : q < L.length
    · obtain ⟨ga, rfl, hc1⟩ := (HRd.out.below hbw (Nat.le_refl _)).get (by omega)
      have y0 := hc1 _ _ (drow_at L q hlt 0 (by omega))
      have y1 := hc1 _ _ (drow_at L q hlt 1 (by omega))
      have y2 := hc1 _ _ (drow_at L q hlt 2 (by omega))
      rw [Nat.add_zero] at y0
      have HB : Hid (Below wA.heap.size wA wr) := hbw
      have HC : Hid (∀ wx, Below wA.heap.size wA wx → wx.cell? ⟨w1.heap.size, 7, none⟩ = some (.slice (some ⟨ga, 0, none⟩) L.length dc) ∧ wx.cell? ⟨ga, q * 3, none⟩ = some (.int .i64 L[q].who) ∧ wx.cell? ⟨ga, q * 3 + 1, none⟩ = some (.int .i64 L[q].val)) := fun wx hb => by
        obtain ⟨ga', e, hc⟩ := (HRd.out.below hb (Nat.le_refl _)).get (by omega)
        simp only [Option.some.injEq, Addr.mk.injEq, and_true] at e
        subst e
        have z0 := hc _ _ (drow_at L q hlt 0 (by omega))
        rw [Nat.add_zero] at z0
        exact ⟨(HX.out wx hb).cell 7, z0, hc _ _ (drow_at L q hlt 1 (by omega))⟩
      have HD1 : Hid (∀ wx, Below wA.heap.size wA wx → Calls Tryz.prog 21 #[.pointer (some ⟨gx, 0, none⟩), .int .i64 L[q].who, .int .i64 L[q].val] wx (fun e w' => e = .returned (.tuple #[.int .i64 (dueD x L[q]), .int .i64 0]) ∧ w' = wx.drew)) := fun wx hb => (HD.out q hlt wx (HA.out wx hb)).1
      have HD2 : Hid (∀ wx, Below wA.heap.size wA wx → Calls Tryz.prog 21 #[.pointer (some ⟨gy, 0, none⟩), .int .i64 L[q].who, .int .i64 L[q].val] wx (fun e w' => e = .returned (.tuple #[.int .i64 (dueD x L[q]), .int .i64 0]) ∧ w' = wx.drew)) := fun wx hb => (HD.out q hlt wx (HA.out wx hb)).2
      clear hc1 hbw HD HX HRd y2
      generalize dueD x L[q] = dd at *
      generalize L[q].who = dw at *
      generalize L[q].val = dv at *
      go_wp2_with fail
      go_cut [7, 8] (fun s7 s8 wx => s7 = .int .i64 dd ∧ s8 = .int .i64 0 ∧ Below wA.heap.size wA wx)
      case first =>
        go_region_with (go_at_call 21; refine (HD1.out _ HB.out.drew).mono ?_; rintro e w2 ⟨rfl, rfl⟩)
        all_goals (go_wp2_with fail; go_meet; exact ⟨rfl, rfl, HB.out.drew.drew⟩)
      case rest =>
        obtain ⟨rfl, rfl, hbc⟩ := hcut
        obtain ⟨c7, z0, z1⟩ := HC.out wc hbc
        have HB2 : Hid (Below wA.heap.size wA wc) := hbc
        clear hbc HB HD1 a7 y0 y1
        obtain ⟨wd, hwd⟩ : ∃ wd, wd = wc := ⟨_, rfl⟩
        rw [← hwd] at HB2 c7 z0 z1 ⊢
        clear hwd
        go_wp2_with fail
        go_cut [9, 10] (fun s7 s8 wx => s7 = .int .i64 dd ∧ s8 = .int .i64 0 ∧ Below wA.heap.size wA wx)
        case first =>
          go_region_with (go_at_call 21; refine (HD2.out _ HB2.out.drew).mono ?_; rintro e w2 ⟨rfl, rfl⟩)
          all_goals (go_wp2_with fail; go_meet; exact ⟨rfl, rfl, HB2.out.drew.drew⟩)
        case rest =>
          obtain ⟨rfl, rfl, hbc⟩ := hcut
          have HB3 : Hid (Below wA.heap.size wA wc) := hbc
          clear hbc HB2 HD2 c7 z0 z1 HC
          go_wp2
          refine And.intro ?_ ?_
          · first | exact ⟨q + 1, by omega, by go_num, HB3.out⟩ | ((repeat apply Exists.intro); exact ⟨⟨q + 1, by omega, by go_num, HB3.out⟩, rfl⟩)
          · simp [intOf]; omega
    · have HF : Hid (Below w.heap.size w wr) := HA.out wr hbw
      clear hbw
      go_wp2
      go_ret
      exact ⟨rfl, HF.out⟩
end Go.Proofs.YtohjjgefklhmaabGreatDoor
