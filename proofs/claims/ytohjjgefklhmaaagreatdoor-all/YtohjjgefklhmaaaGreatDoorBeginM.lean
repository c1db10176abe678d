import Derived.Test.YtohjjgefklhmaaaGreatDoorAppM
namespace Go.Proofs.YtohjjgefklhmaaaGreatDoor
open Go.ChangeShapes Go.WideShapes Go.ChangeAt Go.RowKit
set_option linter.unusedVariables false
set_option maxHeartbeats 40000000
set_option maxRecDepth 100000
variable {w w' : World} {bs os rs : List Int} {top mature fee : Int}
theorem JD : (Tryz.prog.info? 114).map (fun i => (i.zero, i.size, i.bytes)) = some (some (.agg #[.int .i64 0, .int .i64 0, .int .i64 0, .int .i64 0, .int .i64 0, .int .i64 0, .bool false, .bool false]), 8, 56) := by kernel_rfl
def P8 (w w' : World) (g : Nat) (bs os rs : List Int) (top mature fee : Int) : Prop :=
 ∃ bv vv, w.heap.size <= g ∧
  Has w' g 81 [.int .i64 top, .int .i64 mature, .int .i64 fee, .int .i64 0, bv, .int .i64 0, .int .i64 0, vv, .slice none 0 0, .slice none 0 0] ∧
  w'.ownsRow w.heap.size 3 1 bv bs.length (Ai bs) ∧ w'.ownsRow w.heap.size 114 8 vv os.length (A5 (vs0 os rs)) ∧ Below w.heap.size w w'
def DH (w w' : World) (e : Ending) (bs os rs : List Int) (top mature fee : Int) : Prop :=
 (¬ Bm bs os rs top mature fee ∧ e = .returned (.tuple #[.pointer none, .int .i64 1]) ∧ Below w.heap.size w w') ∨
 (Bm bs os rs top mature fee ∧ ∃ g, e = .returned (.tuple #[.pointer (some ⟨g, 0, none⟩), .int .i64 0]) ∧ P8 w w' g bs os rs top mature fee)
theorem DH.bad (h : ¬ Bm bs os rs top mature fee) (hb : Below w.heap.size w w') : DH w w' (.returned (.tuple #[.pointer none, .int .i64 1])) bs os rs top mature fee := .inl ⟨h, rfl, hb⟩
theorem DH.good {g : Nat} (h : Bm bs os rs top mature fee) (hb : P8 w w' g bs os rs top mature fee) : DH w w' (.returned (.tuple #[.pointer (some ⟨g, 0, none⟩), .int .i64 0])) bs os rs top mature fee := .inr ⟨h, g, rfl, hb⟩
theorem Bm.ins (h : Bm bs os rs top mature fee) :
  inN bs.length 1 6 = true ∧ inN os.length 1 5 = true ∧ inN top 1 5 = true ∧ inN mature 1 20 = true ∧ inN fee 0 100 = true ∧ ((rs.length : Int) != (os.length : Int)) = false := by
 obtain ⟨⟨h1, h2, h3, h4⟩, ⟨h5, h6, h7, h8, h9⟩, ⟨a1, a2, a3, a4, a5, a6⟩⟩ := h
 exact ⟨GQ (by omega) (by omega), GQ (by omega) (by omega), GQ a1 a2, GQ a3 a4, GQ a5 a6, by simp [h7]⟩
theorem Kq (vb vo vr : Value) (bs os rs : List Int) (top mature fee : Int) (w : World) (hb : AM w vb bs) (ho : AM w vo os) (hr : AM w vr rs)
  (l1 : bs.length <= 1048576) (l2 : os.length <= 1048576) (l3 : rs.length <= 1048576)
  (hno : ¬ (inN bs.length 1 6 = true ∧ inN os.length 1 5 = true ∧ inN top 1 5 = true ∧ inN mature 1 20 = true ∧ inN fee 0 100 = true ∧ ((rs.length : Int) != (os.length : Int)) = false)) :
  Calls Tryz.prog 34 #[vb, vo, vr, .int .i64 top, .int .i64 mature, .int .i64 fee] w fun e w' => DH w w' e bs os rs top mature fee := by
 obtain ⟨ab, cb, rfl, hxb⟩ := id hb
 obtain ⟨ao, co, rfl, hxo⟩ := id ho
 obtain ⟨ar, cr, rfl, hxr⟩ := id hr
 clear hxb hxo hxr
 have HNO := Hd hno
 clear hno
 go_enter Tryz.func34, Tryz.ntmps34
 go_wp2_with (go_at_call 76; refine (EK _ _ _ _).mono ?_; rintro e w' ⟨rfl, rfl⟩)
 all_goals try (go_ret2; exact DH.bad (fun h => by have := Bm.ins h; simp_all) (Below.refl _ _))
 exact absurd ⟨by assumption, by assumption, by assumption, by assumption, by assumption, by assumption⟩ HNO.out
theorem JQ (vb vo vr : Value) (bs os rs : List Int) (top mature fee : Int) (w : World) (hb : AM w vb bs) (ho : AM w vo os) (hr : AM w vr rs)
  (l1 : bs.length <= 1048576) (l2 : os.length <= 1048576) (l3 : rs.length <= 1048576) :
  Calls Tryz.prog 34 #[vb, vo, vr, .int .i64 top, .int .i64 mature, .int .i64 fee] w fun e w' => DH w w' e bs os rs top mature fee := by
 obtain ⟨ab, cb, rfl, hxb⟩ := id hb
 obtain ⟨ao, co, rfl, hxo⟩ := id ho
 obtain ⟨ar, cr, rfl, hxr⟩ := id hr
 clear hxb hxo hxr
 by_cases hno : (inN bs.length 1 6 = true ∧ inN os.length 1 5 = true ∧ inN top 1 5 = true ∧ inN mature 1 20 = true ∧ inN fee 0 100 = true ∧ ((rs.length : Int) != (os.length : Int)) = false)
 case neg => exact Kq _ _ _ bs os rs top mature fee w hb ho hr l1 l2 l3 hno
 obtain ⟨i1, i2, i3, i4, i5, i6⟩ := hno
 obtain ⟨b1, b2⟩ := AQ.1 i1
 obtain ⟨b3, b4⟩ := AQ.1 i2
 have HR : Hid (Br top mature fee) := ⟨(AQ.1 i3).1, (AQ.1 i3).2, (AQ.1 i4).1, (AQ.1 i4).2, (AQ.1 i5).1, (AQ.1 i5).2⟩
 have H3 : Hid (rs.length = os.length) := by simp at i6; exact (by omega : rs.length = os.length)
 have h3a : rs.length <= os.length := by have := H3.out; omega
 have h3b : os.length <= rs.length := by have := H3.out; omega
 obtain ⟨i0, hi, hz0, hz1, hz2⟩ := info_parts Cn
 go_enter Tryz.func34, Tryz.ntmps34
 go_wp2_with (go_at_call 76; refine (EK _ _ _ _).mono ?_; rintro e w' ⟨rfl, rfl⟩)
 go_loopw [20, 21] (fun sm i wr => ∃ k : Nat, k <= bs.length ∧ i = .int .i64 k ∧ sm = .int .i64 (Dd (bs.take k)) ∧ A6 bs k 0 1000000 ∧ Below w.heap.size w wr ∧ ∃ bv,
   Has wr w.heap.size 81 [.int .i64 top, .int .i64 mature, .int .i64 fee, .int .i64 0, bv, .int .i64 0, .int .i64 0, .slice none 0 0, .slice none 0 0, .slice none 0 0] ∧
   wr.ownsRow (w.heap.size + 1) 3 1 bv k (Ai (bs.take k))) (fun _ i _ => bs.length - (intOf i).toNat)
 case atStart =>
  refine ⟨0, Nat.zero_le _, rfl, rfl, A6.zero _ _ _, (Below.refl _ _).alloc (Nat.le_refl _) _, .slice none 0 0, ?_, World.ownsRow_nil _ _ _ _⟩
  exact Has.newA w _ _
 case round =>
  obtain ⟨k, hk, rfl, rfl, hA, hbw, bv, hL, hbv⟩ := hrel
  by_cases hlt : k < bs.length
  ·obtain ⟨a2, c2, he, hx⟩ := hb.below hbw (Nat.le_refl _)
   simp only [Value.slice.injEq, true_and] at he
   obtain ⟨rfl, rfl⟩ := he
   obtain ⟨g, rfl, hc⟩ := hx (by omega)
   have hck := hc k bs[k] (by simp [hlt])
   have HS : Hid (Dd (bs.take (k + 1)) = Dd (bs.take k) + bs[k]) := DY bs k hlt
   have HT : Hid (Ai (bs.take (k + 1)) = Ai (bs.take k) ++ [.int .i64 bs[k]]) := NZ bs k hlt
   have HN : Hid (¬ inN bs[k] 0 1000000 = true -> ¬ Bm bs os rs top mature fee) := fun h h' => h (AQ.2 (A6.le_sum h'.1.2.2.1 h'.1.2.2.2 k _ hlt (by simp [hlt])))
   have HA : Hid (inN bs[k] 0 1000000 = true -> A6 bs (k + 1) 0 1000000) := fun h => A6.succ hA hlt (AQ.1 h).1 (AQ.1 h).2
   have hs1 := E9 bs k hk (hA.mono (by omega))
   have hs2 : Dd (bs.take k) <= 6000000 := by have := A6.sum_le k hk hA; omega
   generalize bs[k] = b at *
   obtain ⟨ba, bc, rfl⟩ := Ac hbv
   have hL4 := hL.cell 4
   simp only [List.getElem?_cons_succ, List.getElem?_cons_zero] at hL4
   have hf4 := hL.frozen 4
   have hlw := hL.lt
   clear hx hc hA
   by_cases hin : inN b 0 1000000 = true
   ·obtain ⟨hb0, hb1⟩ := AQ.1 hin
    go_wp2_with (go_at_call 76; refine (EK _ _ _ _).mono ?_; rintro e w' ⟨rfl, rfl⟩)
    have hne : some w.heap.size ≠ (Value.slice ba k bc).ownBlock := fun h => by have := (hbv.lt _ h.symm).1; omega
    have HNE := Hd hne
    clear hne
    go_region_law (refine D5 rfl (.tmp 91) (.tmp 96) 24 rfl 3 i0 _ 1 8 Tryz.underlying24 hi hz0 hz1 hz2 rfl (by decide) (w.heap.size + 1) (.slice ba k bc) k _ (by first | rfl | simp [Act.eval]) (hbv.alloc _) (by simp; omega) ⟨_, 0, none⟩ 1 1 [.int .i64 b] (by first | rfl | simp [Act.eval]) (by rfl) (Gv _ [.int .i64 b] _) (by simp [Value.oneCell']) (by decide) (by simp [maxLen]; omega) (by omega) ?_; intro g2 cap2 w2 hown2 hgrow2 hor2; have hL2 := Ao hgrow2 (hL.alloc _) HNE.out; have hL24 := hL2.cell 4; have hf24 := hL2.frozen 4; simp only [List.getElem?_cons_succ, List.getElem?_cons_zero] at hL24)
    all_goals
     have hg2 := (hown2.lt g2 rfl).1
     have HL : Hid (Has (w2.setCell ⟨w.heap.size, 4, none⟩ (.slice (some ⟨g2, 0, none⟩) (k + 1) cap2)) w.heap.size 81 [.int .i64 top, .int .i64 mature, .int .i64 fee, .int .i64 0, .slice (some ⟨g2, 0, none⟩) (k + 1) cap2, .int .i64 0, .int .i64 0, .slice none 0 0, .slice none 0 0, .slice none 0 0]) := hL2.set 4 _
     have HO : Hid ((w2.setCell ⟨w.heap.size, 4, none⟩ (.slice (some ⟨g2, 0, none⟩) (k + 1) cap2)).ownsRow (w.heap.size + 1) 3 1 (.slice (some ⟨g2, 0, none⟩) (k + 1) cap2) (k + 1) (Ai (bs.take (k + 1)))) := by
      rw [HT.out]; exact Aa hown2 _ _ (by simp [Value.ownBlock]; omega)
     have HW : Hid (Below w.heap.size w (w2.setCell ⟨w.heap.size, 4, none⟩ (.slice (some ⟨g2, 0, none⟩) (k + 1) cap2))) :=
      (Below.grown (hbw.alloc hbw.size _).drew hgrow2 (Nat.le_trans hbw.size (by simp)) (fun j hj => by have := (hbv.lt j hj).1; omega)).setCell (Nat.le_refl _) _
     clear hL2 hown2 hgrow2 hL hbv hbw
     go_wp2
     go_roundw
     case rel => first | exact ⟨k + 1, by omega, by go_num, by rw [HS.out], HA.out hin, HW.out, _, HL.out, HO.out⟩ | ((repeat apply Exists.intro); exact ⟨⟨k + 1, by omega, by go_num, by rw [HS.out], HA.out hin, HW.out, _, HL.out, HO.out⟩, rfl⟩)
     case measure => simp [intOf]; omega
   ·go_wp2_with (go_at_call 76; refine (EK _ _ _ _).mono ?_; rintro e w' ⟨rfl, rfl⟩)
    go_ret2
    exact DH.bad (HN.out hin) hbw
  ·have hke : k = bs.length := by omega
   have HA : Hid (A6 bs bs.length 0 1000000) := by rw [hke] at hA; exact hA
   have hbv2 : wr.ownsRow (w.heap.size + 1) 3 1 bv bs.length (Ai bs) := by
    rw [hke, List.take_of_length_le (Nat.le_refl _)] at hbv; exact hbv
   have HS0 : Hid (Dd (bs.take k) = Dd bs) := by rw [hke, List.take_of_length_le (Nat.le_refl _)]; exact rfl
   clear hbv
   have hbv := hbv2
   clear hbv2
   have Hbv := Hd hbv
   generalize Dd (bs.take k) = sm at *
   have HSm := Hd HS0.out
   clear HS0 hke
   obtain ⟨ba, bc, rfl⟩ := Ac hbv
   have hL0 := hL
   clear hA hbv hL
   obtain ⟨i1v, hiv, hzv0, hzv1, hzv2⟩ := info_parts JD
   go_wp2
   obtain ⟨wo, rfl⟩ : ∃ wo : World, wo = wr := ⟨_, rfl⟩
   go_loopw [23] (fun i wr => ∃ k2 : Nat, k2 <= os.length ∧ i = .int .i64 k2 ∧ A6 os k2 0 ((bs.length : Int) - 1) ∧ A6 rs k2 0 100 ∧ Below w.heap.size w wr ∧ wr.ownsRow (w.heap.size + 1) 3 1 (.slice ba bs.length bc) bs.length (Ai bs) ∧ ∃ vv,
    Has wr w.heap.size 81 [.int .i64 top, .int .i64 mature, .int .i64 fee, .int .i64 0, .slice ba bs.length bc, .int .i64 0, .int .i64 0, vv, .slice none 0 0, .slice none 0 0] ∧
    wr.ownsRow (w.heap.size + 1) 114 8 vv k2 (A5 (vs0 (os.take k2) (rs.take k2)))) (fun i _ => os.length - (intOf i).toNat)
   case atStart => exact ⟨0, Nat.zero_le _, rfl, A6.zero _ _ _, A6.zero _ _ _, hbw, Hbv.out, _, hL0, World.ownsRow_nil _ _ _ _⟩
   case round =>
    obtain ⟨k2, hk2, rfl, hAo, hAr, hbw2, hbv, vv, hL, hvv⟩ := hrel
    clear Hbv hL0 hbw
    by_cases hlt2 : k2 < os.length
    ·obtain ⟨a2, c2, he, hx⟩ := ho.below hbw2 (Nat.le_refl _)
     simp only [Value.slice.injEq, true_and] at he
     obtain ⟨rfl, rfl⟩ := he
     obtain ⟨g, rfl, hc⟩ := hx (by omega)
     have hck := hc k2 os[k2] (by simp [hlt2])
     obtain ⟨a2, c2, he, hy⟩ := hr.below hbw2 (Nat.le_refl _)
     simp only [Value.slice.injEq, true_and] at he
     obtain ⟨rfl, rfl⟩ := he
     obtain ⟨g', rfl, hc'⟩ := hy (by omega)
     have hck' := hc' k2 rs[k2] (by simp)
     have HS : Hid (A5 (vs0 (os.take (k2 + 1)) (rs.take (k2 + 1))) = A5 (vs0 (os.take k2) (rs.take k2)) ++ Cp os[k2] rs[k2]) := PW os rs H3.out k2 hlt2
     have HN1 : Hid (¬ inN os[k2] 0 ((bs.length : Int) - 1) = true -> ¬ Bm bs os rs top mature fee) := fun h h' => h (AQ.2 (h'.2.1.2.2.2.1 k2 _ hlt2 (by simp [hlt2])))
     have HN2 : Hid (¬ inN rs[k2] 0 100 = true -> ¬ Bm bs os rs top mature fee) := fun h h' => h (AQ.2 (h'.2.1.2.2.2.2 k2 _ (by omega) (by simp)))
     have HA1 : Hid (inN os[k2] 0 ((bs.length : Int) - 1) = true -> A6 os (k2 + 1) 0 ((bs.length : Int) - 1)) := fun h => A6.succ hAo hlt2 (AQ.1 h).1 (AQ.1 h).2
     have HA2 : Hid (inN rs[k2] 0 100 = true -> A6 rs (k2 + 1) 0 100) := fun h => A6.succ hAr (by omega) (AQ.1 h).1 (AQ.1 h).2
     generalize os[k2] = o at *
     generalize rs[k2] = r at *
     obtain ⟨va, vc, rfl⟩ := Ac hvv
     have hL7 := hL.cell 7
     simp only [List.getElem?_cons_succ, List.getElem?_cons_zero] at hL7
     have hf7 := hL.frozen 7
     have hlw := hL.lt
     have hlt2r : k2 < rs.length := by omega
     clear hx hc hy hc' hAo hAr
     by_cases hin : inN o 0 ((bs.length : Int) - 1) = true
     ·by_cases hin2 : inN r 0 100 = true
      ·have HNE : Hid (some w.heap.size ≠ (Value.slice va k2 vc).ownBlock) := hL.apart hvv (by decide)
       have HNB : Hid ((Value.slice ba bs.length bc).ownBlock = none ∨ (Value.slice ba bs.length bc).ownBlock ≠ (Value.slice va k2 vc).ownBlock) := Ae hbv hvv (by decide)
       go_wp2_with (go_at_call 76; refine (EK _ _ _ _).mono ?_; rintro e w' ⟨rfl, rfl⟩)
       go_region_law (refine D5 rfl (.tmp 129) (.tmp 139) 77 rfl 114 i1v _ 8 56 Tryz.underlying77 hiv hzv0 hzv1 hzv2 rfl (by decide) (w.heap.size + 1) (.slice va k2 vc) k2 _ (by first | rfl | simp [Act.eval]) (hvv.alloc _) (by simp; omega) ⟨_, 0, none⟩ 1 1 (Cp o r) (by first | rfl | simp [Act.eval]) (by rfl) (Gv _ (Cp o r) _) (by simp [Cp, Value.oneCell']) (by decide) (by simp [maxLen]; omega) (by omega) ?_; intro g2 cap2 w2 hown2 hgrow2 hor2; have hL2 := Ao hgrow2 (hL.alloc _) HNE.out; have hL27 := hL2.cell 7; have hf27 := hL2.frozen 7; simp only [List.getElem?_cons_succ, List.getElem?_cons_zero] at hL27)
       all_goals
        have hg2 := (hown2.lt g2 rfl).1
        have HL : Hid (Has (w2.setCell ⟨w.heap.size, 7, none⟩ (.slice (some ⟨g2, 0, none⟩) (k2 + 1) cap2)) w.heap.size 81 [.int .i64 top, .int .i64 mature, .int .i64 fee, .int .i64 0, .slice ba bs.length bc, .int .i64 0, .int .i64 0, .slice (some ⟨g2, 0, none⟩) (k2 + 1) cap2, .slice none 0 0, .slice none 0 0]) := hL2.set 7 _
        have HO : Hid ((w2.setCell ⟨w.heap.size, 7, none⟩ (.slice (some ⟨g2, 0, none⟩) (k2 + 1) cap2)).ownsRow (w.heap.size + 1) 114 8 (.slice (some ⟨g2, 0, none⟩) (k2 + 1) cap2) (k2 + 1) (A5 (vs0 (os.take (k2 + 1)) (rs.take (k2 + 1))))) := by
         rw [HS.out]; exact Aa hown2 _ _ (by simp [Value.ownBlock]; omega)
        have HV : Hid ((w2.setCell ⟨w.heap.size, 7, none⟩ (.slice (some ⟨g2, 0, none⟩) (k2 + 1) cap2)).ownsRow (w.heap.size + 1) 3 1 (.slice ba bs.length bc) bs.length (Ai bs)) :=
         Aa ((hbv.alloc _).drew.kept hgrow2 HNB.out) _ _ (fun h => by have := (hbv.lt _ h).1; simp at this; omega)
        have HW : Hid (Below w.heap.size w (w2.setCell ⟨w.heap.size, 7, none⟩ (.slice (some ⟨g2, 0, none⟩) (k2 + 1) cap2))) :=
         (Below.grown (hbw2.alloc hbw2.size _).drew hgrow2 (Nat.le_trans hbw2.size (by simp)) (fun j hj => by have := (hvv.lt j hj).1; omega)).setCell (Nat.le_refl _) _
        clear hL2 hown2 hgrow2 hL hbv hvv hbw2
        go_wp2
        go_roundw
        case rel => first | exact ⟨k2 + 1, by omega, by go_num, HA1.out hin, HA2.out hin2, HW.out, HV.out, _, HL.out, HO.out⟩ | ((repeat apply Exists.intro); exact ⟨⟨k2 + 1, by omega, by go_num, HA1.out hin, HA2.out hin2, HW.out, HV.out, _, HL.out, HO.out⟩, rfl⟩)
        case measure => simp [intOf]; omega
      ·go_wp2_with (go_at_call 76; refine (EK _ _ _ _).mono ?_; rintro e w' ⟨rfl, rfl⟩)
       go_ret2
       exact DH.bad (HN2.out hin2) hbw2
     ·go_wp2_with (go_at_call 76; refine (EK _ _ _ _).mono ?_; rintro e w' ⟨rfl, rfl⟩)
      go_ret2
      exact DH.bad (HN1.out hin) hbw2
    ·have hke2 : k2 = os.length := by omega
     have HAo : Hid (A6 os os.length 0 ((bs.length : Int) - 1)) := by rw [hke2] at hAo; exact hAo
     have HAr : Hid (A6 rs rs.length 0 100) := by rw [H3.out, <- hke2]; exact hAr
     have Hvv : Hid (wr.ownsRow (w.heap.size + 1) 114 8 vv os.length (A5 (vs0 os rs))) := by
      rw [hke2, List.take_of_length_le (Nat.le_refl _), List.take_of_length_le (by omega)] at hvv
      exact hvv
     clear hke2 hAo hAr hvv
     by_cases hsum : 1000000 < sm
     ·go_wp2
      go_ret2
      refine DH.bad (fun h => ?_) hbw2
      have h1 := h.1.2.2.2
      have h2 := HSm.out
      omega
     ·go_wp2
      go_ret2
      exact DH.good ⟨⟨by omega, by omega, HA.out.mono (by omega), by have h2 := HSm.out; omega⟩, ⟨by omega, by omega, H3.out, HAo.out, HAr.out⟩, HR.out⟩ ⟨.slice ba bs.length bc, vv, Nat.le_refl _, hL, Aj hbv (by omega), Aj Hvv.out (by omega), hbw2⟩
end Go.Proofs.YtohjjgefklhmaaaGreatDoor
