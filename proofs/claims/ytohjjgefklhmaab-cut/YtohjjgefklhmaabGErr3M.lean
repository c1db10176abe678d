import Derived.Test.YtohjjgefklhmaabGErrM
namespace Go.Proofs.Ytohjjgefklhmaab
open Go.ChangeShapes Go.WideShapes Go.ChangeAt Go.RowKit
set_option linter.unusedVariables false

section
variable {S : Nat → Prop} {W0 : World} (g : Nat) (x : EC) (bv vv ev : Value) (w : World) (h : PE S W0 w g x bv vv ev)
include h

set_option maxHeartbeats 2000000 in
set_option maxRecDepth 100000 in
theorem gunbondError (k : Nat) (val n : Int) (hk : k < 6) (hv : x.vals.length ≤ 5) (hE : x.ents.length ≤ 100000) :
    Calls Try.prog 33 #[.pointer (some ⟨g, 0, none⟩), .int .i64 k, .int .i64 val, .int .i64 n] w fun e w' => e = .returned (.int .i64 (unbErrF x k val n)) ∧ Below w.heap.size w w' := by
  obtain ⟨R, hR⟩ : ∃ R, unbErrF x k val n = R := ⟨_, rfl⟩
  rw [hR]
  unfold unbErrF at hR
  obtain ⟨va, vc, rfl⟩ := ownsRow_slice h.v
  have c7 : w.cell? ⟨g, 7, none⟩ = some (.slice va x.vals.length vc) := h.L.cell 7
  by_cases h1 : inB val x.vals.length = true
  case neg =>
    have h1' : inB val x.vals.length = false := by simpa using h1
    rw [if_pos h1'] at hR
    have HR : Hid ((3 : Int) = R) := hR
    clear hR h1 h
    go_enter Try.func33, Try.ntmps33
    go_wp2_with (go_at_call 43; refine (gval g x.vals.length val _ _ _ c7 (by omega)).mono ?_; rintro e w' ⟨rfl, rfl⟩; rw [h1'])
    go_ret
    exact ⟨ret_int HR.out, Below.refl _ _⟩
  rw [if_neg (by simp [h1])] at hR
  obtain ⟨j, rfl, hj⟩ := inB_tt h1
  rw [Int.toNat_natCast] at hR
  have y := h.shAt hk (j := j) (by omega)
  have HC : Hid (Calls Try.prog 50 #[.pointer (some ⟨g, 0, none⟩), .int .i64 k, .int .i64 j] w fun e w' => e = .returned (.int .i64 (countE x.ents k j)) ∧ Below w.heap.size w w') := gcount g x _ _ _ w h k j hE
  clear h
  by_cases h2 : n < 1
  · rw [if_pos (.inl h2)] at hR
    have HR : Hid ((6 : Int) = R) := hR
    clear hR HC
    generalize x.sh k j = s at *
    go_enter Try.func33, Try.ntmps33
    go_wp2_with (go_at_call 43; refine (kval_any g x.vals.length j _ _ _ c7 hj (by omega)).mono ?_; rintro e w' ⟨rfl, rfl⟩)
    go_ret
    exact ⟨ret_int HR.out, Below.refl _ _⟩
  by_cases h3 : x.sh k j < n
  · rw [if_pos (.inr h3)] at hR
    have HR : Hid ((6 : Int) = R) := hR
    clear hR HC
    generalize x.sh k j = s at *
    go_enter Try.func33, Try.ntmps33
    go_wp2_with (go_at_call 43; refine (kval_any g x.vals.length j _ _ _ c7 hj (by omega)).mono ?_; rintro e w' ⟨rfl, rfl⟩)
    try go_quiet (fail)
    try go_wp2
    go_ret
    exact ⟨ret_int HR.out, by first | exact Below.refl _ _ | exact below_drewN (Below.refl _ _) _⟩
  rw [if_neg (fun h => h.elim h2 h3)] at hR
  by_cases h4 : 4 ≤ countE x.ents k j
  · rw [if_pos h4] at hR
    have HR : Hid ((9 : Int) = R) := hR
    clear hR
    generalize x.sh k j = s at *
    generalize countE x.ents k j = ct at *
    go_enter Try.func33, Try.ntmps33
    go_wp2_with (first | (go_at_call 43; refine (kval_any g x.vals.length j _ _ _ c7 hj (by omega)).mono ?_; rintro e w' ⟨rfl, rfl⟩) | fail)
    refine HC.out.mono ?_
    rintro e w2 ⟨rfl, hb2⟩
    have HB : Hid (Below w.heap.size w w2) := hb2
    clear hb2 HC
    go_wp2
    go_ret
    exact ⟨ret_int HR.out, HB.out⟩
  · rw [if_neg h4] at hR
    have HR : Hid ((0 : Int) = R) := hR
    clear hR
    generalize x.sh k j = s at *
    generalize countE x.ents k j = ct at *
    go_enter Try.func33, Try.ntmps33
    go_wp2_with (first | (go_at_call 43; refine (kval_any g x.vals.length j _ _ _ c7 hj (by omega)).mono ?_; rintro e w' ⟨rfl, rfl⟩) | fail)
    refine HC.out.mono ?_
    rintro e w2 ⟨rfl, hb2⟩
    have HB : Hid (Below w.heap.size w w2) := hb2
    clear hb2 HC
    go_wp2
    go_ret
    exact ⟨ret_int HR.out, HB.out⟩

end
end Go.Proofs.Ytohjjgefklhmaab

namespace Go.Proofs.Ytohjjgefklhmaab
open Go.ChangeShapes Go.WideShapes Go.ChangeAt Go.RowKit
set_option linter.unusedVariables false

section
variable {S : Nat → Prop} {W0 : World} (g : Nat) (x : EC) (bv vv ev : Value) (w : World) (h : PE S W0 w g x bv vv ev)
include h

end
end Go.Proofs.Ytohjjgefklhmaab
