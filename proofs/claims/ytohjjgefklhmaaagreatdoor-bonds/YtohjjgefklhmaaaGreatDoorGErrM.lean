import Derived.Test.YtohjjgefklhmaaaGreatDoorGBaseM
namespace Go.Proofs.YtohjjgefklhmaaaGreatDoor
open Go.ChangeShapes Go.WideShapes Go.ChangeAt Go.RowKit
set_option linter.unusedVariables false

def dueErrF (x : EC) (k : Nat) (val : Int) : Int := if inB val x.vals.length = false then 3 else if x.sh k val.toNat < 1 then 6 else 0
def ownErrF (x : EC) (who : Int) (val : Int) : Int := if inB val x.vals.length = false then 3 else if (x.val val.toNat).owner = who then 0 else 10
def bondErrF (x : EC) (k : Nat) (val a : Int) : Int := if inB val x.vals.length = false then 3 else if a < 1 then 5 else if x.balAt k < a then 4 else joinErrF (x.val val.toNat) a
def countE (l : List ES) (who val : Int) : Int := l.foldl (fun n e => if e.who = who ∧ e.val = val then n + 1 else n) 0
theorem countE_snoc (l : List ES) (who val : Int) (k : Nat) (h : k < l.length) : countE (l.take (k + 1)) who val = if l[k].who = who ∧ l[k].val = val then countE (l.take k) who val + 1 else countE (l.take k) who val := by
  unfold countE; rw [foldl_snoc _ _ l k h]
theorem countE_bd (l : List ES) (who val : Int) (k : Nat) (hk : k ≤ l.length) : 0 ≤ countE (l.take k) who val ∧ countE (l.take k) who val ≤ k := by
  induction k with
  | zero => simp [countE]
  | succ k ih =>
    have := ih (by omega)
    rw [countE_snoc l who val k (by omega)]
    split <;> omega
def unbErrF (x : EC) (k : Nat) (val n : Int) : Int := if inB val x.vals.length = false then 3 else if n < 1 ∨ x.sh k val.toNat < n then 6 else if 4 ≤ countE x.ents k val then 9 else 0
def movErrF (x : EC) (k : Nat) (val to n : Int) : Int := if inB val x.vals.length = false then 3 else if inB to x.vals.length = false ∨ to = val then 3 else if n < 1 ∨ x.sh k val.toNat < n then 6 else if tokensForF (x.val val.toNat) n < 1 then 8 else joinErrF (x.val to.toNat) (tokensForF (x.val val.toNat) n)

section
variable {S : Nat → Prop} {W0 : World} (g : Nat) (x : EC) (bv vv ev : Value) (w : World) (h : PE S W0 w g x bv vv ev)
include h

set_option maxHeartbeats 1000000 in
set_option maxRecDepth 100000 in
theorem gdueError (k : Nat) (val : Int) (hk : k < 6) (hv : x.vals.length ≤ 5) :
    Calls Tryz.prog 97 #[.pointer (some ⟨g, 0, none⟩), .int .i64 k, .int .i64 val] w fun e w' => e = .returned (.int .i64 (dueErrF x k val)) ∧ w = w' := by
  obtain ⟨R, hR⟩ : ∃ R, dueErrF x k val = R := ⟨_, rfl⟩
  rw [hR]
  unfold dueErrF at hR
  obtain ⟨va, vc, rfl⟩ := ownsRow_slice h.v
  have c7 : w.cell? ⟨g, 7, none⟩ = some (.slice va x.vals.length vc) := h.L.cell 7
  by_cases h1 : inB val x.vals.length = true
  case neg =>
    have h1' : inB val x.vals.length = false := by simpa using h1
    rw [if_pos h1'] at hR
    have HR : Hid ((3 : Int) = R) := hR
    clear hR h1 h
    go_enter Tryz.func97, Tryz.ntmps97
    go_wp2_with (go_at_call 144; refine (gval g x.vals.length val _ _ _ c7 (by omega)).mono ?_; rintro e w' ⟨rfl, rfl⟩; rw [h1'])
    go_ret
    exact ⟨ret_int HR.out, rfl⟩
  rw [if_neg (by simp [h1])] at hR
  obtain ⟨j, rfl, hj⟩ := inB_tt h1
  rw [Int.toNat_natCast] at hR
  have y := h.shAt hk (j := j) (by omega)
  clear h
  by_cases h2 : x.sh k j < 1
  · rw [if_pos h2] at hR
    have HR : Hid ((6 : Int) = R) := hR
    clear hR
    generalize x.sh k j = s at *
    go_enter Tryz.func97, Tryz.ntmps97
    go_wp2_with (go_at_call 144; refine (kval_any g x.vals.length j _ _ _ c7 hj (by omega)).mono ?_; rintro e w' ⟨rfl, rfl⟩)
    go_ret
    exact ⟨ret_int HR.out, rfl⟩
  · rw [if_neg h2] at hR
    have HR : Hid ((0 : Int) = R) := hR
    clear hR
    generalize x.sh k j = s at *
    go_enter Tryz.func97, Tryz.ntmps97
    go_wp2_with (go_at_call 144; refine (kval_any g x.vals.length j _ _ _ c7 hj (by omega)).mono ?_; rintro e w' ⟨rfl, rfl⟩)
    go_ret
    exact ⟨ret_int HR.out, rfl⟩

set_option maxHeartbeats 1000000 in
set_option maxRecDepth 100000 in
theorem gownerError (who val : Int) (hv : x.vals.length ≤ 5) :
    Calls Tryz.prog 117 #[.pointer (some ⟨g, 0, none⟩), .int .i64 who, .int .i64 val] w fun e w' => e = .returned (.int .i64 (ownErrF x who val)) ∧ w = w' := by
  obtain ⟨R, hR⟩ : ∃ R, ownErrF x who val = R := ⟨_, rfl⟩
  rw [hR]
  unfold ownErrF at hR
  obtain ⟨va, vc, rfl⟩ := ownsRow_slice h.v
  have c7 : w.cell? ⟨g, 7, none⟩ = some (.slice va x.vals.length vc) := h.L.cell 7
  by_cases h1 : inB val x.vals.length = true
  case neg =>
    have h1' : inB val x.vals.length = false := by simpa using h1
    rw [if_pos h1'] at hR
    have HR : Hid ((3 : Int) = R) := hR
    clear hR h1 h
    go_enter Tryz.func117, Tryz.ntmps117
    go_wp2_with (go_at_call 144; refine (gval g x.vals.length val _ _ _ c7 (by omega)).mono ?_; rintro e w' ⟨rfl, rfl⟩; rw [h1'])
    go_ret
    exact ⟨ret_int HR.out, rfl⟩
  rw [if_neg (by simp [h1])] at hR
  obtain ⟨j, rfl, hj⟩ := inB_tt h1
  rw [Int.toNat_natCast] at hR
  obtain ⟨gv, rfl, hcell, hfr⟩ := h.val8 rfl hj
  have y0 := hcell 0 (by omega)
  rw [x.val_eq hj] at y0
  simp only [VS.cells, List.getElem?_cons_zero, Nat.add_zero] at y0
  clear h hcell hfr
  by_cases h2 : (x.val j).owner = who
  · rw [if_pos h2] at hR
    have HR : Hid ((0 : Int) = R) := hR
    rw [h2] at y0
    clear hR h2
    go_enter Tryz.func117, Tryz.ntmps117
    go_wp2_with (go_at_call 144; refine (kval_any g x.vals.length j _ _ _ c7 hj (by omega)).mono ?_; rintro e w' ⟨rfl, rfl⟩)
    go_ret
    exact ⟨ret_int HR.out, rfl⟩
  · rw [if_neg h2] at hR
    have HR : Hid ((10 : Int) = R) := hR
    have h3 : ((x.val j).owner == who) = false := by simp [h2]
    clear hR h2
    generalize (x.val j).owner = ow at *
    go_enter Tryz.func117, Tryz.ntmps117
    go_wp2_with (go_at_call 144; refine (kval_any g x.vals.length j _ _ _ c7 hj (by omega)).mono ?_; rintro e w' ⟨rfl, rfl⟩)
    go_ret
    exact ⟨ret_int HR.out, rfl⟩
end
end Go.Proofs.YtohjjgefklhmaaaGreatDoor

namespace Go.Proofs.YtohjjgefklhmaaaGreatDoor
open Go.ChangeShapes Go.WideShapes Go.ChangeAt Go.RowKit
set_option linter.unusedVariables false

theorem tokensForF_bd {v : VS} (hv : ValOk v) {n : Int} (n0 : 0 ≤ n) (n1 : n ≤ v.shares) : 0 ≤ tokensForF v n ∧ tokensForF v n ≤ v.tokens := by
  unfold tokensForF
  split
  · exact ⟨Int.le_refl _, hv.t0⟩
  · rename_i e
    have hs := hv.s0
    exact ⟨Int.ediv_nonneg (Int.mul_nonneg n0 hv.t0) hs, by
      have h1 : n * v.tokens ≤ v.shares * v.tokens := Int.mul_le_mul_of_nonneg_right n1 hv.t0
      have h2 := Int.ediv_le_ediv (show 0 < v.shares by omega) h1
      rwa [Int.mul_ediv_cancel_left _ e] at h2⟩

section
variable {S : Nat → Prop} {W0 : World} (g : Nat) (x : EC) (bv vv ev : Value) (w : World) (h : PE S W0 w g x bv vv ev)
include h

set_option maxHeartbeats 2000000 in
set_option maxRecDepth 100000 in
theorem gbondError (k : Nat) (val a : Int) (hl : x.bal.length ≤ 6) (hk : k < x.bal.length) (hv : x.vals.length ≤ 5) (hV : ∀ j, j < x.vals.length → ValOk (x.val j)) (hb : x.balAt k ≤ 1000000) :
    Calls Tryz.prog 110 #[.pointer (some ⟨g, 0, none⟩), .int .i64 k, .int .i64 val, .int .i64 a] w fun e w' => e = .returned (.int .i64 (bondErrF x k val a)) ∧ Below w.heap.size w w' := by
  obtain ⟨R, hR⟩ : ∃ R, bondErrF x k val a = R := ⟨_, rfl⟩
  rw [hR]
  unfold bondErrF at hR
  obtain ⟨ba, bc, rfl⟩ := ownsRow_slice h.b
  obtain ⟨gb, rfl, _⟩ := ownsRow_some h.b (by omega)
  obtain ⟨va, vc, rfl⟩ := ownsRow_slice h.v
  have c4 : w.cell? ⟨g, 4, none⟩ = some (.slice (some ⟨gb, 0, none⟩) x.bal.length bc) := h.L.cell 4
  have c7 : w.cell? ⟨g, 7, none⟩ = some (.slice va x.vals.length vc) := h.L.cell 7
  have cb := h.balAt' hk
  by_cases h1 : inB val x.vals.length = true
  case neg =>
    have h1' : inB val x.vals.length = false := by simpa using h1
    rw [if_pos h1'] at hR
    have HR : Hid ((3 : Int) = R) := hR
    clear hR h1 h
    go_enter Tryz.func110, Tryz.ntmps110
    go_wp2_with (go_at_call 144; refine (gval g x.vals.length val _ _ _ c7 (by omega)).mono ?_; rintro e w' ⟨rfl, rfl⟩; rw [h1'])
    go_ret
    exact ⟨ret_int HR.out, Below.refl _ _⟩
  rw [if_neg (by simp [h1])] at hR
  obtain ⟨j, rfl, hj⟩ := inB_tt h1
  rw [Int.toNat_natCast] at hR
  by_cases h2 : a < 1
  · rw [if_pos h2] at hR
    have HR : Hid ((5 : Int) = R) := hR
    clear hR h
    go_enter Tryz.func110, Tryz.ntmps110
    go_wp2_with (go_at_call 144; refine (kval_any g x.vals.length j _ _ _ c7 hj (by omega)).mono ?_; rintro e w' ⟨rfl, rfl⟩)
    go_ret
    exact ⟨ret_int HR.out, Below.refl _ _⟩
  rw [if_neg h2] at hR
  by_cases h3 : x.balAt k < a
  · rw [if_pos h3] at hR
    have HR : Hid ((4 : Int) = R) := hR
    clear hR h
    generalize x.balAt k = y at *
    go_enter Tryz.func110, Tryz.ntmps110
    go_wp2_with (go_at_call 144; refine (kval_any g x.vals.length j _ _ _ c7 hj (by omega)).mono ?_; rintro e w' ⟨rfl, rfl⟩)
    try go_quiet (fail)
    try go_wp2
    go_ret
    exact ⟨ret_int HR.out, by first | exact Below.refl _ _ | exact below_drewN (Below.refl _ _) _⟩
  rw [if_neg h3] at hR
  have HR : Hid (joinErrF (x.val j) a = R) := hR
  obtain ⟨gv, rfl, hcell, hfr⟩ := h.val8 rfl hj
  have y0 := hcell 0 (by omega)
  have y1 := hcell 1 (by omega)
  have y2 := hcell 2 (by omega)
  have y3 := hcell 3 (by omega)
  have y4 := hcell 4 (by omega)
  have y5 := hcell 5 (by omega)
  have y6 := hcell 6 (by omega)
  have y7 := hcell 7 (by omega)
  rw [x.val_eq hj] at y0 y1 y2 y3 y4 y5 y6 y7
  have HJ : Hid (∀ u, Calls Tryz.prog 148 #[.agg #[.int .i64 (x.val j).owner, .int .i64 (x.val j).rate, .int .i64 (x.val j).tokens, .int .i64 (x.val j).shares, .int .i64 (x.val j).comm, .int .i64 (x.val j).outs, .bool (x.val j).jailed, .bool (x.val j).inset], .int .i64 a] u fun e w' => e = .returned (.int .i64 R) ∧ Below u.heap.size u w') := fun u => by
    rw [← hR]; exact joinError_any (x.val j) a u (hV j hj) (by omega) (by omega)
  clear h hcell hfr hV hR
  generalize x.val j = v at *
  generalize x.balAt k = y at *
  obtain ⟨vo, vr, vt, vs, vcm, vou, vj, vi⟩ := v
  simp only [VS.cells, List.getElem?_cons_succ, List.getElem?_cons_zero, Nat.add_zero] at y0 y1 y2 y3 y4 y5 y6 y7
  go_enter Tryz.func110, Tryz.ntmps110
  go_wp2_with (first | (go_at_call 144; refine (kval_any g x.vals.length j _ _ _ c7 hj (by omega)).mono ?_; rintro e w' ⟨rfl, rfl⟩) | fail)
  refine (HJ.out _).mono ?_
  rintro e w2 ⟨rfl, hb2⟩
  have HF : Hid (Below w.heap.size w w2) := hb2
  clear hb2 HJ
  go_wp2
  go_ret
  exact ⟨rfl, HF.out⟩

set_option maxHeartbeats 2000000 in
set_option maxRecDepth 100000 in
theorem gcount (who val : Int) (hl : x.ents.length ≤ 100000) :
    Calls Tryz.prog 142 #[.pointer (some ⟨g, 0, none⟩), .int .i64 who, .int .i64 val] w fun e w' => e = .returned (.int .i64 (countE x.ents who val)) ∧ Below w.heap.size w w' := by
  obtain ⟨ea, ec, rfl⟩ := ownsRow_slice h.e
  have c73 : w.cell? ⟨g, 73, none⟩ = some (.slice ea x.ents.length ec) := h.evAt
  have he := Rd.of_owns h.e
  have HC : Hid (∀ k, k ≤ x.ents.length → 0 ≤ countE (x.ents.take k) who val ∧ countE (x.ents.take k) who val ≤ k) := fun k hk => countE_bd x.ents who val k hk
  clear h
  go_enter Tryz.func142, Tryz.ntmps142
  go_wp2
  go_loopw [7, 15] (fun n i wr => ∃ k : Nat, k ≤ x.ents.length ∧ i = .int .i64 k ∧ n = .int .i64 (countE (x.ents.take k) who val) ∧ Below w.heap.size w wr) (fun _ i _ => x.ents.length - (intOf i).toNat)
  case atStart => exact ⟨0, Nat.zero_le _, rfl, rfl, Below.refl _ _⟩
  case round =>
    obtain ⟨k, hk, rfl, rfl, hbw⟩ := hrel
    obtain ⟨q1, q2⟩ := HC.out k hk
    have he' := he.below hbw (Nat.le_refl _)
    by_cases hlt : k < x.ents.length
    · obtain ⟨ge, rfl, hc⟩ := he'.get (by omega)
      have y0 := hc _ _ (erow_at x.ents k hlt 0 (by omega))
      have y1 := hc _ _ (erow_at x.ents k hlt 1 (by omega))
      have y2 := hc _ _ (erow_at x.ents k hlt 2 (by omega))
      have y3 := hc _ _ (erow_at x.ents k hlt 3 (by omega))
      rw [Nat.add_zero] at y0
      have HS : Hid (countE (x.ents.take (k + 1)) who val = if x.ents[k].who = who ∧ x.ents[k].val = val then countE (x.ents.take k) who val + 1 else countE (x.ents.take k) who val) := countE_snoc x.ents who val k hlt
      have HB : Hid (∀ o, Below w.heap.size w (wr.alloc o)) := fun o => hbw.alloc hbw.size o
      generalize x.ents[k] = en at *
      obtain ⟨ew, evl, em, ea2⟩ := en
      dsimp only at y0 y1 y2 y3
      clear hc he he' hbw HC
      by_cases e1 : ew = who
      · by_cases e2 : evl = val
        · have HS1 : Hid (countE (x.ents.take (k + 1)) who val = countE (x.ents.take k) who val + 1) := by rw [HS.out, if_pos ⟨e1, e2⟩]; exact rfl
          subst e1 e2
          clear HS
          go_wp2
          refine And.intro ?_ ?_
          · first | exact ⟨k + 1, by omega, by go_num, by rw [HS1.out], HB.out _⟩ | ((repeat apply Exists.intro); exact ⟨⟨k + 1, by omega, by go_num, by rw [HS1.out], HB.out _⟩, rfl⟩)
          · simp [intOf]; omega
        · have HS1 : Hid (countE (x.ents.take (k + 1)) who val = countE (x.ents.take k) who val) := by rw [HS.out, if_neg (fun h => e2 h.2)]; exact rfl
          have e3 : (evl == val) = false := by simp [e2]
          subst e1
          clear HS e2
          go_wp2
          refine And.intro ?_ ?_
          · first | exact ⟨k + 1, by omega, by go_num, by rw [HS1.out], HB.out _⟩ | ((repeat apply Exists.intro); exact ⟨⟨k + 1, by omega, by go_num, by rw [HS1.out], HB.out _⟩, rfl⟩)
          · simp [intOf]; omega
      · have HS1 : Hid (countE (x.ents.take (k + 1)) who val = countE (x.ents.take k) who val) := by rw [HS.out, if_neg (fun h => e1 h.1)]; exact rfl
        have e3 : (ew == who) = false := by simp [e1]
        clear HS e1
        go_wp2
        refine And.intro ?_ ?_
        · first | exact ⟨k + 1, by omega, by go_num, by rw [HS1.out], HB.out _⟩ | ((repeat apply Exists.intro); exact ⟨⟨k + 1, by omega, by go_num, by rw [HS1.out], HB.out _⟩, rfl⟩)
        · simp [intOf]; omega
    · have HE : Hid (countE (x.ents.take k) who val = countE x.ents who val) := by rw [List.take_of_length_le (by omega)]; exact rfl
      have HB : Hid (Below w.heap.size w wr) := hbw
      clear hbw he he' HC
      go_wp2
      go_ret
      exact ⟨ret_int HE.out, HB.out⟩
end
end Go.Proofs.YtohjjgefklhmaaaGreatDoor

namespace Go.Proofs.YtohjjgefklhmaaaGreatDoor
open Go.ChangeShapes Go.WideShapes Go.ChangeAt Go.RowKit
set_option linter.unusedVariables false

section
variable {S : Nat → Prop} {W0 : World} (g : Nat) (x : EC) (bv vv ev : Value) (w : World) (h : PE S W0 w g x bv vv ev)
include h

set_option maxHeartbeats 2000000 in
set_option maxRecDepth 100000 in
theorem gunbondError (k : Nat) (val n : Int) (hk : k < 6) (hv : x.vals.length ≤ 5) (hE : x.ents.length ≤ 100000) :
    Calls Tryz.prog 112 #[.pointer (some ⟨g, 0, none⟩), .int .i64 k, .int .i64 val, .int .i64 n] w fun e w' => e = .returned (.int .i64 (unbErrF x k val n)) ∧ Below w.heap.size w w' := by
  obtain ⟨R, hR⟩ : ∃ R, unbErrF x k val n = R := ⟨_, rfl⟩
  rw [hR]
  unfold unbErrF at hR
  obtain ⟨va, vc, rfl⟩ := ownsRow_slice h.v
  have c7 : w.cell? ⟨g, 7, none⟩ = some (.slice va x.vals.length vc) := h.L.cell 7
  by_cases h1 : inB val x.vals.length = true
  case neg =>
    have h1' : inB val x.vals.length = false := by simpa using h1
    rw [if_pos h1'] at hR
    have HR : Hid ((3 : Int) = R) := hR
    clear hR h1 h
    go_enter Tryz.func112, Tryz.ntmps112
    go_wp2_with (go_at_call 144; refine (gval g x.vals.length val _ _ _ c7 (by omega)).mono ?_; rintro e w' ⟨rfl, rfl⟩; rw [h1'])
    go_ret
    exact ⟨ret_int HR.out, Below.refl _ _⟩
  rw [if_neg (by simp [h1])] at hR
  obtain ⟨j, rfl, hj⟩ := inB_tt h1
  rw [Int.toNat_natCast] at hR
  have y := h.shAt hk (j := j) (by omega)
  have HC : Hid (Calls Tryz.prog 142 #[.pointer (some ⟨g, 0, none⟩), .int .i64 k, .int .i64 j] w fun e w' => e = .returned (.int .i64 (countE x.ents k j)) ∧ Below w.heap.size w w') := gcount g x _ _ _ w h k j hE
  clear h
  by_cases h2 : n < 1
  · rw [if_pos (.inl h2)] at hR
    have HR : Hid ((6 : Int) = R) := hR
    clear hR HC
    generalize x.sh k j = s at *
    go_enter Tryz.func112, Tryz.ntmps112
    go_wp2_with (go_at_call 144; refine (kval_any g x.vals.length j _ _ _ c7 hj (by omega)).mono ?_; rintro e w' ⟨rfl, rfl⟩)
    go_ret
    exact ⟨ret_int HR.out, Below.refl _ _⟩
  by_cases h3 : x.sh k j < n
  · rw [if_pos (.inr h3)] at hR
    have HR : Hid ((6 : Int) = R) := hR
    clear hR HC
    generalize x.sh k j = s at *
    go_enter Tryz.func112, Tryz.ntmps112
    go_wp2_with (go_at_call 144; refine (kval_any g x.vals.length j _ _ _ c7 hj (by omega)).mono ?_; rintro e w' ⟨rfl, rfl⟩)
    try go_quiet (fail)
    try go_wp2
    go_ret
    exact ⟨ret_int HR.out, by first | exact Below.refl _ _ | exact below_drewN (Below.refl _ _) _⟩
  rw [if_neg (fun h => h.elim h2 h3)] at hR
  by_cases h4 : 4 ≤ countE x.ents k j
  · rw [if_pos h4] at hR
    have HR : Hid ((9 : Int) = R) := hR
    clear hR
    generalize x.sh k j = s at *
    generalize countE x.ents k j = ct at *
    go_enter Tryz.func112, Tryz.ntmps112
    go_wp2_with (first | (go_at_call 144; refine (kval_any g x.vals.length j _ _ _ c7 hj (by omega)).mono ?_; rintro e w' ⟨rfl, rfl⟩) | fail)
    refine HC.out.mono ?_
    rintro e w2 ⟨rfl, hb2⟩
    have HB : Hid (Below w.heap.size w w2) := hb2
    clear hb2 HC
    go_wp2
    go_ret
    exact ⟨ret_int HR.out, HB.out⟩
  · rw [if_neg h4] at hR
    have HR : Hid ((0 : Int) = R) := hR
    clear hR
    generalize x.sh k j = s at *
    generalize countE x.ents k j = ct at *
    go_enter Tryz.func112, Tryz.ntmps112
    go_wp2_with (first | (go_at_call 144; refine (kval_any g x.vals.length j _ _ _ c7 hj (by omega)).mono ?_; rintro e w' ⟨rfl, rfl⟩) | fail)
    refine HC.out.mono ?_
    rintro e w2 ⟨rfl, hb2⟩
    have HB : Hid (Below w.heap.size w w2) := hb2
    clear hb2 HC
    go_wp2
    go_ret
    exact ⟨ret_int HR.out, HB.out⟩

end
end Go.Proofs.YtohjjgefklhmaaaGreatDoor

namespace Go.Proofs.YtohjjgefklhmaaaGreatDoor
open Go.ChangeShapes Go.WideShapes Go.ChangeAt Go.RowKit
set_option linter.unusedVariables false

section
variable {S : Nat → Prop} {W0 : World} (g : Nat) (x : EC) (bv vv ev : Value) (w : World) (h : PE S W0 w g x bv vv ev)
include h

set_option maxHeartbeats 4000000 in
set_option maxRecDepth 100000 in
theorem gmoveError (k : Nat) (val to n : Int) (hk : k < 6) (hv : x.vals.length ≤ 5) (hV : ∀ j, j < x.vals.length → ValOk (x.val j)) (hs : ∀ j, j < x.vals.length → x.sh k j ≤ (x.val j).shares) :
    Calls Tryz.prog 115 #[.pointer (some ⟨g, 0, none⟩), .int .i64 k, .int .i64 val, .int .i64 to, .int .i64 n] w fun e w' => e = .returned (.int .i64 (movErrF x k val to n)) ∧ Below w.heap.size w w' := by
  obtain ⟨R, hR⟩ : ∃ R, movErrF x k val to n = R := ⟨_, rfl⟩
  rw [hR]
  unfold movErrF at hR
  obtain ⟨va, vc, rfl⟩ := ownsRow_slice h.v
  have c7 : w.cell? ⟨g, 7, none⟩ = some (.slice va x.vals.length vc) := h.L.cell 7
  by_cases h1 : inB val x.vals.length = true
  case neg =>
    have h1' : inB val x.vals.length = false := by simpa using h1
    rw [if_pos h1'] at hR
    have HR : Hid ((3 : Int) = R) := hR
    clear hR h1 h
    go_enter Tryz.func115, Tryz.ntmps115
    go_wp2_with (go_at_call 144; refine (gval g x.vals.length val _ _ _ c7 (by omega)).mono ?_; rintro e w' ⟨rfl, rfl⟩; rw [h1'])
    go_ret
    exact ⟨ret_int HR.out, Below.refl _ _⟩
  rw [if_neg (by simp [h1])] at hR
  by_cases h2 : inB to x.vals.length = true
  case neg =>
    have h2' : inB to x.vals.length = false := by simpa using h2
    rw [if_pos (.inl h2')] at hR
    have HR : Hid ((3 : Int) = R) := hR
    clear hR h2 h
    go_enter Tryz.func115, Tryz.ntmps115
    go_wp2_with (go_at_call 144; refine (gval g x.vals.length _ _ _ _ c7 (by omega)).mono ?_; rintro e w' ⟨rfl, rfl⟩; first | rw [h2'] | rw [h1])
    go_ret
    exact ⟨ret_int HR.out, Below.refl _ _⟩
  by_cases h3 : to = val
  · rw [if_pos (.inr h3)] at hR
    have HR : Hid ((3 : Int) = R) := hR
    subst h3
    clear hR h h2
    go_enter Tryz.func115, Tryz.ntmps115
    go_wp2_with (go_at_call 144; refine (gval g x.vals.length _ _ _ _ c7 (by omega)).mono ?_; rintro e w' ⟨rfl, rfl⟩; rw [h1])
    go_ret
    exact ⟨ret_int HR.out, Below.refl _ _⟩
  rw [if_neg (fun h => h.elim (fun e => by rw [h2] at e; cases e) h3)] at hR
  obtain ⟨j, rfl, hj⟩ := inB_tt h1
  obtain ⟨t, rfl, ht⟩ := inB_tt h2
  rw [Int.toNat_natCast, Int.toNat_natCast] at hR
  have h3' : ((t : Int) == (j : Int)) = false := by simp; omega
  have y := h.shAt hk (j := j) (by omega)
  have HJ1 : Hid (inB (j : Int) x.vals.length = true) := h1
  have HT1 : Hid (inB (t : Int) x.vals.length = true) := h2
  clear h1 h2 h3
  by_cases h4 : n < 1
  · rw [if_pos (.inl h4)] at hR
    have HR : Hid ((6 : Int) = R) := hR
    clear hR h
    generalize x.sh k j = s at *
    go_enter Tryz.func115, Tryz.ntmps115
    go_wp2_with (go_at_call 144; refine (gval g x.vals.length _ _ _ _ c7 (by omega)).mono ?_; rintro e w' ⟨rfl, rfl⟩; first | rw [HJ1.out] | rw [HT1.out])
    go_ret
    exact ⟨ret_int HR.out, Below.refl _ _⟩
  by_cases h5 : x.sh k j < n
  · rw [if_pos (.inr h5)] at hR
    have HR : Hid ((6 : Int) = R) := hR
    clear hR h
    generalize x.sh k j = s at *
    go_enter Tryz.func115, Tryz.ntmps115
    go_wp2_with (go_at_call 144; refine (gval g x.vals.length _ _ _ _ c7 (by omega)).mono ?_; rintro e w' ⟨rfl, rfl⟩; first | rw [HJ1.out] | rw [HT1.out])
    try go_quiet (fail)
    try go_wp2
    go_ret
    exact ⟨ret_int HR.out, by first | exact Below.refl _ _ | exact below_drewN (Below.refl _ _) _⟩
  rw [if_neg (fun h => h.elim h4 h5)] at hR
  have hsj := hs j hj
  have hVj := hV j hj
  have hVt := hV t ht
  obtain ⟨k0, k1⟩ := tokensForF_bd hVj (show 0 ≤ n by omega) (show n ≤ (x.val j).shares by omega)
  obtain ⟨gv, rfl, hcell, hfr⟩ := h.val8 rfl hj
  have y0 := hcell 0 (by omega)
  have y1 := hcell 1 (by omega)
  have y2 := hcell 2 (by omega)
  have y3 := hcell 3 (by omega)
  have y4 := hcell 4 (by omega)
  have y5 := hcell 5 (by omega)
  have y6 := hcell 6 (by omega)
  have y7 := hcell 7 (by omega)
  rw [x.val_eq hj] at y0 y1 y2 y3 y4 y5 y6 y7
  have t0 := hVj.t0
  have t1 := hVj.t1
  have HT : Hid (∀ u, Calls Tryz.prog 150 #[.agg #[.int .i64 (x.val j).owner, .int .i64 (x.val j).rate, .int .i64 (x.val j).tokens, .int .i64 (x.val j).shares, .int .i64 (x.val j).comm, .int .i64 (x.val j).outs, .bool (x.val j).jailed, .bool (x.val j).inset], .int .i64 n] u fun e w' => e = .returned (.int .i64 (tokensForF (x.val j) n)) ∧ Below u.heap.size u w') := fun u => tokensFor_any (x.val j) n u hVj (by omega) (by have := hVj.s1; omega)
  have HP : Hid (PE S W0 w g x bv (.slice (some ⟨gv, 0, none⟩) x.vals.length vc) ev) := h
  have HJ : Hid (∀ u, Calls Tryz.prog 148 #[.agg #[.int .i64 (x.val t).owner, .int .i64 (x.val t).rate, .int .i64 (x.val t).tokens, .int .i64 (x.val t).shares, .int .i64 (x.val t).comm, .int .i64 (x.val t).outs, .bool (x.val t).jailed, .bool (x.val t).inset], .int .i64 (tokensForF (x.val j) n)] u fun e w' => e = .returned (.int .i64 (joinErrF (x.val t) (tokensForF (x.val j) n))) ∧ Below u.heap.size u w') := fun u => joinError_any (x.val t) _ u hVt k0 (by omega)
  have HVt : Hid (x.vals[t] = x.val t) := x.val_eq ht
  clear h hcell hfr hV hs hVj hVt hsj
  generalize hjv : x.val j = v at *
  clear hjv
  generalize x.sh k j = s at *
  have k2 : tokensForF v n ≤ 1000000 := by omega
  clear k1 t0 t1
  by_cases h6 : tokensForF v n < 1
  · rw [if_pos h6] at hR
    have HR : Hid ((8 : Int) = R) := hR
    clear hR HJ HVt HP
    generalize tokensForF v n = tk at *
    obtain ⟨vo, vr, vt, vs, vcm, vou, vj, vi⟩ := v
    simp only [VS.cells, List.getElem?_cons_succ, List.getElem?_cons_zero, Nat.add_zero] at y0 y1 y2 y3 y4 y5 y6 y7
    go_enter Tryz.func115, Tryz.ntmps115
    go_wp2_with (first | (go_at_call 144; refine (gval g x.vals.length _ _ _ _ c7 (by omega)).mono ?_; rintro e w' ⟨rfl, rfl⟩; first | rw [HJ1.out] | rw [HT1.out]) | fail)
    refine (HT.out _).mono ?_
    rintro e w2 ⟨rfl, hb2⟩
    have HB : Hid (Below w.heap.size w w2) := hb2
    clear hb2 HT
    go_wp2
    go_ret
    exact ⟨ret_int HR.out, HB.out⟩
  · rw [if_neg h6] at hR
    have HR : Hid (joinErrF (x.val t) (tokensForF v n) = R) := hR
    clear hR
    generalize tokensForF v n = tk at *
    generalize joinErrF (x.val t) tk = je at *
    obtain ⟨vo, vr, vt, vs, vcm, vou, vj, vi⟩ := v
    simp only [VS.cells, List.getElem?_cons_succ, List.getElem?_cons_zero, Nat.add_zero] at y0 y1 y2 y3 y4 y5 y6 y7
    go_enter Tryz.func115, Tryz.ntmps115
    go_wp2_with (first | (go_at_call 144; refine (gval g x.vals.length _ _ _ _ c7 (by omega)).mono ?_; rintro e w' ⟨rfl, rfl⟩; first | rw [HJ1.out] | rw [HT1.out]) | fail)
    refine (HT.out _).mono ?_
    rintro e w2 ⟨rfl, hb2⟩
    have hP2 := HP.out.below hb2
    have HB : Hid (Below w.heap.size w w2) := hb2
    clear hb2 HT HP y0 y1 y2 y3 y4 y5 y6 y7 c7 y
    have d7 : w2.cell? ⟨g, 7, none⟩ = some (.slice (some ⟨gv, 0, none⟩) x.vals.length vc) := hP2.L.cell 7
    obtain ⟨gv', he, hcell, hfr⟩ := hP2.val8 rfl ht
    simp only [Option.some.injEq, Addr.mk.injEq, and_true] at he
    subst he
    have y0 := hcell 0 (by omega)
    have y1 := hcell 1 (by omega)
    have y2 := hcell 2 (by omega)
    have y3 := hcell 3 (by omega)
    have y4 := hcell 4 (by omega)
    have y5 := hcell 5 (by omega)
    have y6 := hcell 6 (by omega)
    have y7 := hcell 7 (by omega)
    rw [HVt.out] at y0 y1 y2 y3 y4 y5 y6 y7
    clear hcell hfr hP2 HVt
    generalize x.val t = v2 at *
    obtain ⟨vo2, vr2, vt2, vs2, vcm2, vou2, vj2, vi2⟩ := v2
    simp only [VS.cells, List.getElem?_cons_succ, List.getElem?_cons_zero, Nat.add_zero] at y0 y1 y2 y3 y4 y5 y6 y7
    go_wp2_with fail
    refine (HJ.out _).mono ?_
    rintro e w3 ⟨rfl, hb3⟩
    have HB3 : Hid (Below w.heap.size w w3) := HB.out.trans (hb3.mono HB.out.size)
    clear hb3 HJ HB
    go_wp2
    go_ret
    exact ⟨ret_int HR.out, HB3.out⟩
end
end Go.Proofs.YtohjjgefklhmaaaGreatDoor
