import Derived.Test.YtohjjgefklhmaaaGreatDoorMarkedM
namespace Go.Proofs.YtohjjgefklhmaaaGreatDoor
open Go.ChangeShapes Go.WideShapes Go.ChangeAt Go.RowKit
set_option linter.unusedVariables false
set_option maxHeartbeats 40000000
set_option maxRecDepth 100000
def Lr (w : World) (ge : Nat) (hv0 : Value) (nh : Nat) (hcs : List Value) : Prop :=
 ∀ j, j < nh -> ∃ b v d e mk bh, hcs[j * 6]? = some b ∧ hcs[j * 6 + 1]? = some v ∧ hcs[j * 6 + 2]? = some d ∧ hcs[j * 6 + 3]? = some e ∧ hcs[j * 6 + 4]? = some (.int .i64 mk) ∧ hcs[j * 6 + 5]? = some (.int .i64 bh) ∧
  ∀ w', Kp (fun k => k = ge ∨ w.heap.size <= k ∨ hv0.ownBlock = some k) w w' -> VOk w' b v d e mk bh
theorem Below.kp {w w' : World} (h : Below w.heap.size w w') (S : Nat -> Prop) : Kp S w w' := Kp.of_below h S
theorem C5.from {base ge : Nat} {w0 w w' : World} {px py pl hv0 : Value} {nh : Nat} {hcs : List Value} {mk : Int} (h : C5 base ge w w' px py pl hv0 nh hcs mk) (hb : Below w0.heap.size w0 w) : C5 base ge w0 w' px py pl hv0 nh hcs mk := by
 obtain ⟨hv', b, v, d, e, b', v', d', e', h1, h2, h3, h4, h5, h6, h7, h8⟩ := h
 exact ⟨hv', b, v, d, e, b', v', d', e', h1, h2, h3, h4, h5, h6, (Below.kp hb _).trans h7, fun k hk => (h8.1 k hk).imp_right (fun h => Nat.le_trans hb.size h), h8.2⟩
theorem VOk.below {w w' : World} {b v d e : Value} {mk bh : Int} (h : VOk w b v d e mk bh) (hb : Below w.heap.size w w') : VOk w' b v d e mk bh := by
 obtain ⟨h1, h2, h3, h4, n1, n2, n3, n4, q1, q2, q3, q4⟩ := h
 exact ⟨h1, h2, h3, h4, n1, n2, n3, n4, q1.below hb (Nat.le_refl _), q2.below hb (Nat.le_refl _), q3.below hb (Nat.le_refl _), q4.below hb (Nat.le_refl _)⟩
theorem C5.to {base ge : Nat} {w w5 w' : World} {px py pl hv0 : Value} {nh : Nat} {hcs : List Value} {mk : Int} (h : C5 base ge w w5 px py pl hv0 nh hcs mk) (hb : Below w5.heap.size w5 w') : C5 base ge w w' px py pl hv0 nh hcs mk := by
 obtain ⟨hv', b, v, d, e, b', v', d', e', h1, h2, h3, h4, h5, h6, h7, h8⟩ := h
 exact ⟨hv', b, v, d, e, b', v', d', e', h1.below hb h1.lt, Ar h2 hb (Nat.le_refl _), h3.below hb, h4.below hb, fun k hk => ⟨(h5 k hk).1, Nat.lt_of_lt_of_le (h5 k hk).2 hb.size⟩, fun k hk => ⟨(h6 k hk).1, Nat.lt_of_lt_of_le (h6 k hk).2 hb.size⟩, h7.trans (Below.kp hb _), h8⟩
theorem Ow {w w' : World} {ge : Nat} {px py pl hv0 : Value} {nh : Nat} {hcs : List Value} {mk : Int} {hv' b v d e b' v' d' e' : Value} (hH : Lr w ge hv0 nh hcs) (hlen : hcs.length = nh * 6)
  (hk : Kp (fun k => k = ge ∨ w.heap.size <= k ∨ hv0.ownBlock = some k) w w') (h1 : VOk w' b v d e mk 0) (h2 : VOk w' b' v' d' e' mk (mk + 1000)) (j : Nat) (hj : j < nh + 2) :
  ∃ b0 v0 d0 e0 mk0 bh0, (hcs ++ [b, v, d, e, .int .i64 mk, .int .i64 0, b', v', d', e', .int .i64 mk, .int .i64 (mk + 1000)])[j * 6]? = some b0 ∧ (hcs ++ [b, v, d, e, .int .i64 mk, .int .i64 0, b', v', d', e', .int .i64 mk, .int .i64 (mk + 1000)])[j * 6 + 1]? = some v0 ∧
   (hcs ++ [b, v, d, e, .int .i64 mk, .int .i64 0, b', v', d', e', .int .i64 mk, .int .i64 (mk + 1000)])[j * 6 + 2]? = some d0 ∧ (hcs ++ [b, v, d, e, .int .i64 mk, .int .i64 0, b', v', d', e', .int .i64 mk, .int .i64 (mk + 1000)])[j * 6 + 3]? = some e0 ∧
   (hcs ++ [b, v, d, e, .int .i64 mk, .int .i64 0, b', v', d', e', .int .i64 mk, .int .i64 (mk + 1000)])[j * 6 + 4]? = some (.int .i64 mk0) ∧ (hcs ++ [b, v, d, e, .int .i64 mk, .int .i64 0, b', v', d', e', .int .i64 mk, .int .i64 (mk + 1000)])[j * 6 + 5]? = some (.int .i64 bh0) ∧ VOk w' b0 v0 d0 e0 mk0 bh0 := by
 by_cases h : j < nh
 ·obtain ⟨b0, v0, d0, e0, mk0, bh0, q0, q1, q2, q3, q4, q5, q6⟩ := hH j h
  refine ⟨b0, v0, d0, e0, mk0, bh0, ?_, ?_, ?_, ?_, ?_, ?_, q6 w' hk⟩ <;> (rw [List.getElem?_append_left (by omega)]; assumption)
 ·by_cases h' : j = nh
  ·subst h'
   refine ⟨b, v, d, e, mk, 0, ?_, ?_, ?_, ?_, ?_, ?_, h1⟩ <;> (rw [List.getElem?_append_right (by omega), hlen]; simp [Nat.add_sub_cancel_left])
  ·have h'' : j = nh + 1 := by omega
   subst h''
   refine ⟨b', v', d', e', mk, mk + 1000, ?_, ?_, ?_, ?_, ?_, ?_, h2⟩
   ·rw [List.getElem?_append_right (by omega), hlen, show (nh + 1) * 6 - nh * 6 = 6 by omega]; rfl
   ·rw [List.getElem?_append_right (by omega), hlen, show (nh + 1) * 6 + 1 - nh * 6 = 7 by omega]; rfl
   ·rw [List.getElem?_append_right (by omega), hlen, show (nh + 1) * 6 + 2 - nh * 6 = 8 by omega]; rfl
   ·rw [List.getElem?_append_right (by omega), hlen, show (nh + 1) * 6 + 3 - nh * 6 = 9 by omega]; rfl
   ·rw [List.getElem?_append_right (by omega), hlen, show (nh + 1) * 6 + 4 - nh * 6 = 10 by omega]; rfl
   ·rw [List.getElem?_append_right (by omega), hlen, show (nh + 1) * 6 + 5 - nh * 6 = 11 by omega]; rfl
theorem Ng (ge gl gx : Nat) (px py hv0 : Value) (nh : Nat) (hcs : List Value) (mk : Int) (S : ViewS) (w : World)
  (hE : Has w ge 54 [px, py, .pointer (some ⟨gl, 0, none⟩), hv0, .int .i64 mk]) (hX : Calls Tryz.prog 42 #[.pointer (some ⟨gx, 0, none⟩)] w fun e w' => JS w w' e S) (hR : EO w gl S) (hh : w.ownsRow 0 96 6 hv0 nh hcs) (hH : Lr w ge hv0 nh hcs)
  (m1 : 0 <= mk) (m2 : mk <= 100000000000) (hnh : nh <= 1000000) (l1 : S.bal.length <= 1000) (l2 : S.vals.length <= 1000) (l3 : S.dels.length <= 1000) (l4 : S.ents.length <= 1000) (hVB : VB S.vals) (hEB : EB S.ents)
  (hbo : S.bonded = Ad S.vals) (hlo : S.loose = AI S.vals + B2 S.ents) :
  Calls Tryz.prog 24 #[.pointer (some ⟨ge, 0, none⟩), .pointer (some ⟨gx, 0, none⟩)] w fun e w' => e = .returned (.bool true) ∧ C5 w.heap.size ge w w' px py (.pointer (some ⟨gl, 0, none⟩)) hv0 nh hcs mk := by
 have HH := Hd hH
 have HX := Hd hX
 clear hH hX
 go_enter Tryz.func24, Tryz.ntmps24
 go_wp2_with fail
 refine HX.out.mono ?_
 rintro e w1 ⟨bv, vv, dv, ev, rfl, hb, hv, hd, he, hb1⟩
 obtain ⟨ba, bc, rfl⟩ := Ac hb
 obtain ⟨va, vc, rfl⟩ := Ac hv
 obtain ⟨da, dc, rfl⟩ := Ac hd
 obtain ⟨ea, ec, rfl⟩ := Ac he
 have hge := hE.lt
 have hgl := hR.lt
 have hE1 := hE.below hb1 hge
 have hR1 := hR.below hb1 (Nat.le_refl _)
 have hh1 := Ar hh hb1 (Nat.le_refl _)
 go_wp2_with fail
 refine (Im ge gl px py hv0 _ _ S _ (hE1.alloc _) (hR1.below ((Below.refl _ _).alloc (Nat.le_refl _) _) (Nat.le_refl _)) ((Rd.of_owns hv).below ((Below.refl _ _).alloc (Nat.le_refl _) _) (Nat.le_refl _)) (by omega)).mono ?_
 rintro e w2 ⟨rfl, hb2⟩
 have hB1 : Has (w1.alloc (.cells #[.int .i64 S.height, .slice ba S.bal.length bc, .int .i64 S.fees, .int .i64 S.pool, .int .i64 (Ad S.vals), .int .i64 (AI S.vals + B2 S.ents), .slice va S.vals.length vc, .slice da S.dels.length dc, .slice ea S.ents.length ec] 89)) w1.heap.size 89 [.int .i64 S.height, .slice ba S.bal.length bc, .int .i64 S.fees, .int .i64 S.pool, .int .i64 (Ad S.vals), .int .i64 (AI S.vals + B2 S.ents), .slice va S.vals.length vc, .slice da S.dels.length dc, .slice ea S.ents.length ec] := Has.newA w1 _ _
 have hA1 : Below w1.heap.size w1 (w1.alloc (.cells #[.int .i64 S.height, .slice ba S.bal.length bc, .int .i64 S.fees, .int .i64 S.pool, .int .i64 (Ad S.vals), .int .i64 (AI S.vals + B2 S.ents), .slice va S.vals.length vc, .slice da S.dels.length dc, .slice ea S.ents.length ec] 89)) := (Below.refl _ _).alloc (Nat.le_refl _) _
 have hb2' : Below w1.heap.size w1 w2 := hA1.trans (hb2.mono (by simp))
 have hB2 := hB1.below hb2 (by simp)
 have hE2 := hE1.below hb2' hE1.lt
 have hR2 := hR1.below hb2' (Nat.le_refl _)
 clear hB1 hA1 hb2
 have p0 : w2.cell? ⟨w1.heap.size, 0, none⟩ = some (.int .i64 S.height) := hB2.cell 0
 have p1 : w2.cell? ⟨w1.heap.size, 1, none⟩ = some (.slice ba S.bal.length bc) := hB2.cell 1
 have p2 : w2.cell? ⟨w1.heap.size, 2, none⟩ = some (.int .i64 S.fees) := hB2.cell 2
 have p3 : w2.cell? ⟨w1.heap.size, 3, none⟩ = some (.int .i64 S.pool) := hB2.cell 3
 have p4 : w2.cell? ⟨w1.heap.size, 4, none⟩ = some (.int .i64 (Ad S.vals)) := hB2.cell 4
 have p5 : w2.cell? ⟨w1.heap.size, 5, none⟩ = some (.int .i64 (AI S.vals + B2 S.ents)) := hB2.cell 5
 have p6 : w2.cell? ⟨w1.heap.size, 6, none⟩ = some (.slice va S.vals.length vc) := hB2.cell 6
 have p7 : w2.cell? ⟨w1.heap.size, 7, none⟩ = some (.slice da S.dels.length dc) := hB2.cell 7
 have p8 : w2.cell? ⟨w1.heap.size, 8, none⟩ = some (.slice ea S.ents.length ec) := hB2.cell 8
 go_wp2_with fail
 refine (NV ge gl px py hv0 _ _ _ _ _ _ _ _ _ _ S _ hE2 hR2 ((Rd.of_owns hb).below hb2' (Nat.le_refl _)) ((Rd.of_owns hd).below hb2' (Nat.le_refl _)) ((Rd.of_owns he).below hb2' (Nat.le_refl _)) (by omega) (by omega) (by omega)).mono ?_
 rintro e w3 ⟨rfl, hb3⟩
 have hb3' : Below w1.heap.size w1 w3 := hb2'.trans (hb3.mono hb2'.size)
 have hB3 := hB2.below hb3 hB2.lt
 have hE3 := hE2.below hb3 hE2.lt
 have hR3 := hR2.below hb3 (Nat.le_refl _)
 clear p0 p1 p2 p3 p4 p5 p6 p7 p8 hB2 hE2 hR2 hb3 hb2'
 have q2 : w3.cell? ⟨ge, 2, none⟩ = some (.pointer (some ⟨gl, 0, none⟩)) := hE3.cell 2
 go_wp2_with fail
 refine (IR gl S _ hR3 hVB (by omega)).mono ?_
 rintro e w4 ⟨rfl, rfl⟩
 go_wp2_with fail
 refine (Na gl S _ hR3 hVB hEB (by omega) (by omega)).mono ?_
 rintro e w4 ⟨rfl, rfl⟩
 have p0 : w3.cell? ⟨w1.heap.size, 0, none⟩ = some (.int .i64 S.height) := hB3.cell 0
 have p1 : w3.cell? ⟨w1.heap.size, 1, none⟩ = some (.slice ba S.bal.length bc) := hB3.cell 1
 have p2 : w3.cell? ⟨w1.heap.size, 2, none⟩ = some (.int .i64 S.fees) := hB3.cell 2
 have p3 : w3.cell? ⟨w1.heap.size, 3, none⟩ = some (.int .i64 S.pool) := hB3.cell 3
 have p4 : w3.cell? ⟨w1.heap.size, 4, none⟩ = some (.int .i64 (Ad S.vals)) := hB3.cell 4
 have p5 : w3.cell? ⟨w1.heap.size, 5, none⟩ = some (.int .i64 (AI S.vals + B2 S.ents)) := hB3.cell 5
 have p6 : w3.cell? ⟨w1.heap.size, 6, none⟩ = some (.slice va S.vals.length vc) := hB3.cell 6
 have p7 : w3.cell? ⟨w1.heap.size, 7, none⟩ = some (.slice da S.dels.length dc) := hB3.cell 7
 have p8 : w3.cell? ⟨w1.heap.size, 8, none⟩ = some (.slice ea S.ents.length ec) := hB3.cell 8
 obtain ⟨top, mature, fe, bv', vv', dv', ev', ps, hH3, hrest⟩ := hR3
 have r3 : w3.cell? ⟨gl, 3, none⟩ = some (.int .i64 S.height) := hH3.cell 3
 have r5 : w3.cell? ⟨gl, 5, none⟩ = some (.int .i64 S.fees) := hH3.cell 5
 have r6 : w3.cell? ⟨gl, 6, none⟩ = some (.int .i64 S.pool) := hH3.cell 6
 clear hrest hH3
 go_wp2_with fail
 go_quiet (fail)
 go_wp2_with fail
 have hb1' : Below w.heap.size w (w3.drewN nq) := below_drewN (hb1.trans (hb3'.mono hb1.size)) nq
 refine (Lz w.heap.size ge px py _ hv0 nh hcs mk _ _ _ _ _ ba va da ea S.bal.length S.vals.length S.dels.length S.ents.length bc vc dc ec _ _ _ _ _ hb1'.size hge m1 m2 (by omega) (by omega) (by omega) (by omega) (by omega) (hE3.drewN nq) (Ar hh hb1' (Nat.le_refl _)) (fun k hk => (hh.lt k hk).2)
  (Ar hb (below_drewN hb3' nq) (Nat.le_refl _)) (Ar hv (below_drewN hb3' nq) (Nat.le_refl _)) (Ar hd (below_drewN hb3' nq) (Nat.le_refl _)) (Ar he (below_drewN hb3' nq) (Nat.le_refl _))).mono ?_
 rintro e w5 ⟨rfl, hM⟩
 have hM2 := hM.from hb1'
 clear hM
 have HM := Hd hM2
 obtain ⟨hv', b1, v1, d1, e1, b2, v2, d2, e2, k1, k2, k3, k4, k5, k6, k7, k8⟩ := hM2
 have HA := (show Hid _ from Ow (px := px) (py := py) (pl := .pointer none) (hv' := hv') HH.out hh.1 k7 k3 k4)
 obtain ⟨ha, hcp, hhv⟩ := Ac k2
 subst hhv
 clear k3 k4 k5 k6 k7 k8 p0 p1 p2 p3 p4 p5 p6 p7 p8 r3 r5 r6 q2 hb hv hd he hB3 hE3 hE1 hh1 hR1 hb3' hb1'
 have t3 : w5.cell? ⟨ge, 3, none⟩ = some (.slice ha (nh + 2) hcp) := k1.cell 3
 go_wp2
 go_loopw [10, 11] (fun ok i wr => ∃ k : Nat, k <= nh + 2 ∧ i = .int .i64 k ∧ ok = .bool true ∧ Below w5.heap.size w5 wr) (fun _ i _ => nh + 2 - (intOf i).toNat)
 case atStart => exact ⟨0, Nat.zero_le _, rfl, rfl, Below.refl _ _⟩
 case round =>
  obtain ⟨k, hk, rfl, rfl, hbw⟩ := hrel
  have k1' := k1.below hbw k1.lt
  have k2' := Ar k2 hbw (Nat.le_refl _)
  have t3' : wr.cell? ⟨ge, 3, none⟩ = some (.slice ha (nh + 2) hcp) := k1'.cell 3
  by_cases hlt : k < nh + 2
  ·obtain ⟨gh, rfl, _⟩ := Ag k2' (by omega)
   obtain ⟨b0, v0, d0, e0, mk0, bh0, y0, y1, y2, y3, y4, y5, hvo⟩ := HA.out k hlt
   have z0 := (k2'.cellAt (k * 6) (by omega)).trans y0
   have z1 := (k2'.cellAt (k * 6 + 1) (by omega)).trans y1
   have z2 := (k2'.cellAt (k * 6 + 2) (by omega)).trans y2
   have z3 := (k2'.cellAt (k * 6 + 3) (by omega)).trans y3
   have z4 := (k2'.cellAt (k * 6 + 4) (by omega)).trans y4
   have z5 := (k2'.cellAt (k * 6 + 5) (by omega)).trans y5
   clear y0 y1 y2 y3 y4 y5 HA k2 k2' k1 k1' t3
   have hvo' := hvo.below hbw
   go_wp2_with fail
   refine (Jg _ _ _ _ mk0 bh0 _ hvo').mono ?_
   rintro e w6 ⟨rfl, hb6⟩
   have HW : Hid (Below w5.heap.size w5 w6) := hbw.trans (hb6.mono hbw.size)
   clear hb6 hvo hvo' hbw
   go_wp2
   refine And.intro ?_ ?_
   ·first | exact ⟨k + 1, by omega, by go_num, by simp, HW.out⟩ | ((repeat apply Exists.intro); exact ⟨⟨k + 1, by omega, by go_num, by simp, HW.out⟩, rfl⟩)
   ·simp [intOf]; omega
  ·go_wp2
   go_ret
   exact ⟨rfl, HM.out.to hbw⟩
end Go.Proofs.YtohjjgefklhmaaaGreatDoor
