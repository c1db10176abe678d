import Derived.Test.YtohjjgefklhmaabGreatDoorGErrM
namespace Go.Proofs.YtohjjgefklhmaabGreatDoor
open Go.ChangeShapes Go.WideShapes Go.ChangeAt Go.RowKit
set_option linter.unusedVariables false

section
variable {S : Nat → Prop} {W0 : World} (g : Nat) (x : EC) (bv vv ev : Value) (w : World) (h : PE S W0 w g x bv vv ev)
include h

set_option maxHeartbeats 2000000 in
set_option maxRecDepth 100000 in
theorem gunbondError (k : Nat) (val n : Int) (hk : k < 6) (hv : x.vals.length ≤ 5) (hE : x.ents.length ≤ 100000) :
    Calls Tryz.prog 60 #[.pointer (some ⟨g, 0, none⟩), .int .i64 k, .int .i64 val, .int .i64 n] w fun e w' => e = .returned (.int .i64 (unbErrF x k val n)) ∧ Below w.heap.size w w' := by
  obtain ⟨R, hR⟩ : ∃ R, unbErrF x k val n = R := ⟨_, rfl⟩
  rw [hR]
  unfold unbErrF at hR
  obtain ⟨va, vc, rfl⟩ := ownsRow_slice h.v
  have c7 : w.cell? ⟨g, 7, none⟩ = some (.slice va x.vals.length vc) := h.L.cell 7
  by_cases h1 : inB val x.vals.length = true
  case neg =>
    have h1' : inB val x.vals.length = false := by simpa using h1
    rw [if_pos h1'] at hR
    have HR : Hid ((3 : Int) = R) := hR
    clear hR h1 h
    go_enter Tryz.func60, Tryz.ntmps60
    go_wp2_with (go_at_call 84; refine (gval g x.vals.length val _ _ _ c7 (by omega)).mono ?_; rintro e w' ⟨rfl, rfl⟩; rw [h1'])
    go_ret
    exact ⟨ret_int HR.out, Below.refl _ _⟩
  rw [if_neg (by simp [h1])] at hR
  obtain ⟨j, rfl, hj⟩ := inB_tt h1
  rw [Int.toNat_natCast] at hR
  have y := h.shAt hk (j := j) (by omega)
  have HC : Hid (Calls Tryz.prog 89 #[.pointer (some ⟨g, 0, none⟩), .int .i64 k, .int .i64 j] w fun e w' => e = .returned (.int .i64 (countE x.ents k j)) ∧ Below w.heap.size w w') := gcount g x _ _ _ w h k j hE
  clear h
  by_cases h2 : n < 1
  · rw [if_pos (.inl h2)] at hR
    have HR : Hid ((6 : Int) = R) := hR
    clear hR HC
    generalize x.sh k j = s at *
    go_enter Tryz.func60, Tryz.ntmps60
    go_wp2_with (go_at_call 84; refine (kval_any g x.vals.length j _ _ _ c7 hj (by omega)).mono ?_; rintro e w' ⟨rfl, rfl⟩)
    go_ret
    exact ⟨ret_int HR.out, Below.refl _ _⟩
  by_cases h3 : x.sh k j < n
  · rw [if_pos (.inr h3)] at hR
    have HR : Hid ((6 : Int) = R) := hR
    clear hR HC
    generalize x.sh k j = s at *
    go_enter Tryz.func60, Tryz.ntmps60
    go_wp2_with (go_at_call 84; refine (kval_any g x.vals.length j _ _ _ c7 hj (by omega)).mono ?_; rintro e w' ⟨rfl, rfl⟩)
    try go_quiet (fail)
    try go_wp2
    go_ret
    exact ⟨ret_int HR.out, by first | exact Below.refl _ _ | exact below_drewN (Below.refl _ _) _⟩
  rw [if_neg (fun h => h.elim h2 h3)] at hR
  by_cases h4 : 4 ≤ countE x.ents k j
  · rw [if_pos h4] at hR
    have HR : Hid ((9 : Int) = R) := hR
    clear hR
    generalize x.sh k j = s at *
    generalize countE x.ents k j = ct at *
    go_enter Tryz.func60, Tryz.ntmps60
    go_wp2_with (first | (go_at_call 84; refine (kval_any g x.vals.length j _ _ _ c7 hj (by omega)).mono ?_; rintro e w' ⟨rfl, rfl⟩) | fail)
    refine HC.out.mono ?_
    rintro e w2 ⟨rfl, hb2⟩
    have HB : Hid (Below w.heap.size w w2) := hb2
    clear hb2 HC
    go_wp2
    go_ret
    exact ⟨ret_int HR.out, HB.out⟩
  · rw [if_neg h4] at hR
    have HR : Hid ((0 : Int) = R) := hR
    clear hR
    generalize x.sh k j = s at *
    generalize countE x.ents k j = ct at *
    go_enter Tryz.func60, Tryz.ntmps60
    go_wp2_with (first | (go_at_call 84; refine (kval_any g x.vals.length j _ _ _ c7 hj (by omega)).mono ?_; rintro e w' ⟨rfl, rfl⟩) | fail)
    refine HC.out.mono ?_
    rintro e w2 ⟨rfl, hb2⟩
    have HB : Hid (Below w.heap.size w w2) := hb2
    clear hb2 HC
    go_wp2
    go_ret
    exact ⟨ret_int HR.out, HB.out⟩

end
end Go.Proofs.YtohjjgefklhmaabGreatDoor

namespace Go.Proofs.YtohjjgefklhmaabGreatDoor
open Go.ChangeShapes Go.WideShapes Go.ChangeAt Go.RowKit
set_option linter.unusedVariables false

section
variable {S : Nat → Prop} {W0 : World} (g : Nat) (x : EC) (bv vv ev : Value) (w : World) (h : PE S W0 w g x bv vv ev)
include h

set_option maxHeartbeats 4000000 in
set_option maxRecDepth 100000 in
theorem gmoveError (k : Nat) (val to n : Int) (hk : k < 6) (hv : x.vals.length ≤ 5) (hV : ∀ j, j < x.vals.length → ValOk (x.val j)) (hs : ∀ j, j < x.vals.length → x.sh k j ≤ (x.val j).shares) :
    Calls Tryz.prog 63 #[.pointer (some ⟨g, 0, none⟩), .int .i64 k, .int .i64 val, .int .i64 to, .int .i64 n] w fun e w' => e = .returned (.int .i64 (movErrF x k val to n)) ∧ Below w.heap.size w w' := by
  obtain ⟨R, hR⟩ : ∃ R, movErrF x k val to n = R := ⟨_, rfl⟩
  rw [hR]
  unfold movErrF at hR
  obtain ⟨va, vc, rfl⟩ := ownsRow_slice h.v
  have c7 : w.cell? ⟨g, 7, none⟩ = some (.slice va x.vals.length vc) := h.L.cell 7
  by_cases h1 : inB val x.vals.length = true
  case neg =>
    have h1' : inB val x.vals.length = false := by simpa using h1
    rw [if_pos h1'] at hR
    have HR : Hid ((3 : Int) = R) := hR
    clear hR h1 h
    go_enter Tryz.func63, Tryz.ntmps63
    go_wp2_with (go_at_call 84; refine (gval g x.vals.length val _ _ _ c7 (by omega)).mono ?_; rintro e w' ⟨rfl, rfl⟩; rw [h1'])
    go_ret
    exact ⟨ret_int HR.out, Below.refl _ _⟩
  rw [if_neg (by simp [h1])] at hR
  by_cases h2 : inB to x.vals.length = true
  case neg =>
    have h2' : inB to x.vals.length = false := by simpa using h2
    rw [if_pos (.inl h2')] at hR
    have HR : Hid ((3 : Int) = R) := hR
    clear hR h2 h
    go_enter Tryz.func63, Tryz.ntmps63
    go_wp2_with (go_at_call 84; refine (gval g x.vals.length _ _ _ _ c7 (by omega)).mono ?_; rintro e w' ⟨rfl, rfl⟩; first | rw [h2'] | rw [h1])
    go_ret
    exact ⟨ret_int HR.out, Below.refl _ _⟩
  by_cases h3 : to = val
  · rw [if_pos (.inr h3)] at hR
    have HR : Hid ((3 : Int) = R) := hR
    subst h3
    clear hR h h2
    go_enter Tryz.func63, Tryz.ntmps63
    go_wp2_with (go_at_call 84; refine (gval g x.vals.length _ _ _ _ c7 (by omega)).mono ?_; rintro e w' ⟨rfl, rfl⟩; rw [h1])
    go_ret
    exact ⟨ret_int HR.out, Below.refl _ _⟩
  rw [if_neg (fun h => h.elim (fun e => by rw [h2] at e; cases e) h3)] at hR
  obtain ⟨j, rfl, hj⟩ := inB_tt h1
  obtain ⟨t, rfl, ht⟩ := inB_tt h2
  rw [Int.toNat_natCast, Int.toNat_natCast] at hR
  have h3' : ((t : Int) == (j : Int)) = false := by simp; omega
  have y := h.shAt hk (j := j) (by omega)
  have HJ1 : Hid (inB (j : Int) x.vals.length = true) := h1
  have HT1 : Hid (inB (t : Int) x.vals.length = true) := h2
  clear h1 h2 h3
  by_cases h4 : n < 1
  · rw [if_pos (.inl h4)] at hR
    have HR : Hid ((6 : Int) = R) := hR
    clear hR h
    generalize x.sh k j = s at *
    go_enter Tryz.func63, Tryz.ntmps63
    go_wp2_with (go_at_call 84; refine (gval g x.vals.length _ _ _ _ c7 (by omega)).mono ?_; rintro e w' ⟨rfl, rfl⟩; first | rw [HJ1.out] | rw [HT1.out])
    go_ret
    exact ⟨ret_int HR.out, Below.refl _ _⟩
  by_cases h5 : x.sh k j < n
  · rw [if_pos (.inr h5)] at hR
    have HR : Hid ((6 : Int) = R) := hR
    clear hR h
    generalize x.sh k j = s at *
    go_enter Tryz.func63, Tryz.ntmps63
    go_wp2_with (go_at_call 84; refine (gval g x.vals.length _ _ _ _ c7 (by omega)).mono ?_; rintro e w' ⟨rfl, rfl⟩; first | rw [HJ1.out] | rw [HT1.out])
    try go_quiet (fail)
    try go_wp2
    go_ret
    exact ⟨ret_int HR.out, by first | exact Below.refl _ _ | exact below_drewN (Below.refl _ _) _⟩
  rw [if_neg (fun h => h.elim h4 h5)] at hR
  have hsj := hs j hj
  have hVj := hV j hj
  have hVt := hV t ht
  obtain ⟨k0, k1⟩ := tokensForF_bd hVj (show 0 ≤ n by omega) (show n ≤ (x.val j).shares by omega)
  obtain ⟨gv, rfl, hcell, hfr⟩ := h.val8 rfl hj
  have y0 := hcell 0 (by omega)
  have y1 := hcell 1 (by omega)
  have y2 := hcell 2 (by omega)
  have y3 := hcell 3 (by omega)
  have y4 := hcell 4 (by omega)
  have y5 := hcell 5 (by omega)
  have y6 := hcell 6 (by omega)
  have y7 := hcell 7 (by omega)
  rw [x.val_eq hj] at y0 y1 y2 y3 y4 y5 y6 y7
  have t0 := hVj.t0
  have t1 := hVj.t1
  have HT : Hid (∀ u, Calls Tryz.prog 90 #[.agg #[.int .i64 (x.val j).owner, .int .i64 (x.val j).rate, .int .i64 (x.val j).tokens, .int .i64 (x.val j).shares, .int .i64 (x.val j).comm, .int .i64 (x.val j).outs, .bool (x.val j).jailed, .bool (x.val j).inset], .int .i64 n] u fun e w' => e = .returned (.int .i64 (tokensForF (x.val j) n)) ∧ Below u.heap.size u w') := fun u => tokensFor_any (x.val j) n u hVj (by omega) (by have := hVj.s1; omega)
  have HP : Hid (PE S W0 w g x bv (.slice (some ⟨gv, 0, none⟩) x.vals.length vc) ev) := h
  have HJ : Hid (∀ u, Calls Tryz.prog 85 #[.agg #[.int .i64 (x.val t).owner, .int .i64 (x.val t).rate, .int .i64 (x.val t).tokens, .int .i64 (x.val t).shares, .int .i64 (x.val t).comm, .int .i64 (x.val t).outs, .bool (x.val t).jailed, .bool (x.val t).inset], .int .i64 (tokensForF (x.val j) n)] u fun e w' => e = .returned (.int .i64 (joinErrF (x.val t) (tokensForF (x.val j) n))) ∧ Below u.heap.size u w') := fun u => joinError_any (x.val t) _ u hVt k0 (by omega)
  have HVt : Hid (x.vals[t] = x.val t) := x.val_eq ht
  clear h hcell hfr hV hs hVj hVt hsj
  generalize hjv : x.val j = v at *
  clear hjv
  generalize x.sh k j = s at *
  have k2 : tokensForF v n ≤ 1000000 := by omega
  clear k1 t0 t1
  by_cases h6 : tokensForF v n < 1
  · rw [if_pos h6] at hR
    have HR : Hid ((8 : Int) = R) := hR
    clear hR HJ HVt HP
    generalize tokensForF v n = tk at *
    obtain ⟨vo, vr, vt, vs, vcm, vou, vj, vi⟩ := v
    simp only [VS.cells, List.getElem?_cons_succ, List.getElem?_cons_zero, Nat.add_zero] at y0 y1 y2 y3 y4 y5 y6 y7
    go_enter Tryz.func63, Tryz.ntmps63
    go_wp2_with (first | (go_at_call 84; refine (gval g x.vals.length _ _ _ _ c7 (by omega)).mono ?_; rintro e w' ⟨rfl, rfl⟩; first | rw [HJ1.out] | rw [HT1.out]) | fail)
    refine (HT.out _).mono ?_
    rintro e w2 ⟨rfl, hb2⟩
    have HB : Hid (Below w.heap.size w w2) := hb2
    clear hb2 HT
    go_wp2
    go_ret
    exact ⟨ret_int HR.out, HB.out⟩
  · rw [if_neg h6] at hR
    have HR : Hid (joinErrF (x.val t) (tokensForF v n) = R) := hR
    clear hR
    generalize tokensForF v n = tk at *
    generalize joinErrF (x.val t) tk = je at *
    obtain ⟨vo, vr, vt, vs, vcm, vou, vj, vi⟩ := v
    simp only [VS.cells, List.getElem?_cons_succ, List.getElem?_cons_zero, Nat.add_zero] at y0 y1 y2 y3 y4 y5 y6 y7
    go_enter Tryz.func63, Tryz.ntmps63
    go_wp2_with (first | (go_at_call 84; refine (gval g x.vals.length _ _ _ _ c7 (by omega)).mono ?_; rintro e w' ⟨rfl, rfl⟩; first | rw [HJ1.out] | rw [HT1.out]) | fail)
    refine (HT.out _).mono ?_
    rintro e w2 ⟨rfl, hb2⟩
    have hP2 := HP.out.below hb2
    have HB : Hid (Below w.heap.size w w2) := hb2
    clear hb2 HT HP y0 y1 y2 y3 y4 y5 y6 y7 c7 y
    have d7 : w2.cell? ⟨g, 7, none⟩ = some (.slice (some ⟨gv, 0, none⟩) x.vals.length vc) := hP2.L.cell 7
    obtain ⟨gv', he, hcell, hfr⟩ := hP2.val8 rfl ht
    simp only [Option.some.injEq, Addr.mk.injEq, and_true] at he
    subst he
    have y0 := hcell 0 (by omega)
    have y1 := hcell 1 (by omega)
    have y2 := hcell 2 (by omega)
    have y3 := hcell 3 (by omega)
    have y4 := hcell 4 (by omega)
    have y5 := hcell 5 (by omega)
    have y6 := hcell 6 (by omega)
    have y7 := hcell 7 (by omega)
    rw [HVt.out] at y0 y1 y2 y3 y4 y5 y6 y7
    clear hcell hfr hP2 HVt
    generalize x.val t = v2 at *
    obtain ⟨vo2, vr2, vt2, vs2, vcm2, vou2, vj2, vi2⟩ := v2
    simp only [VS.cells, List.getElem?_cons_succ, List.getElem?_cons_zero, Nat.add_zero] at y0 y1 y2 y3 y4 y5 y6 y7
    go_wp2_with fail
    refine (HJ.out _).mono ?_
    rintro e w3 ⟨rfl, hb3⟩
    have HB3 : Hid (Below w.heap.size w w3) := HB.out.trans (hb3.mono HB.out.size)
    clear hb3 HJ HB
    go_wp2
    go_ret
    exact ⟨ret_int HR.out, HB3.out⟩
end
end Go.Proofs.YtohjjgefklhmaabGreatDoor
