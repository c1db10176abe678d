import Derived.Test.YtkdekfmblpkecaaEShare
namespace Go.Proofs.Ytkdekfmblpkecaa
open Go.ChangeShapes Go.WideShapes Go.ChangeAt Go.RowKit
set_option linter.unusedVariables false

section
variable {S : Nat → Prop} {W0 : World} (g : Nat) (x : EC) (bv vv ev : Value) (w : World) (h : PE S W0 w g x bv vv ev)
include h

set_option maxHeartbeats 1000000 in
set_option maxRecDepth 100000 in
theorem edueError (k j : Nat) (hk : k < 6) (hv : x.vals.length ≤ 5) (hj : j < x.vals.length) (hs : 1 ≤ x.sh k j) :
    Calls Try.prog 51 #[.pointer (some ⟨g, 0, none⟩), .int .i64 k, .int .i64 j] w fun e w' => e = .returned (.int .i64 0) ∧ w = w' := by
  obtain ⟨va, vc, rfl⟩ := ownsRow_slice h.v
  have c7 : w.cell? ⟨g, 7, none⟩ = some (.slice va x.vals.length vc) := h.L.cell 7
  have y := h.shAt hk (j := j) (by omega)
  clear h
  generalize x.sh k j = s at *
  go_enter Try.func51, Try.ntmps51
  go_wp2_with (go_at_call 63; refine (kval_any g x.vals.length j _ _ _ c7 hj (by omega)).mono ?_; rintro e w' ⟨rfl, rfl⟩)
  go_ret
  exact ⟨rfl, rfl⟩

set_option maxHeartbeats 1000000 in
set_option maxRecDepth 100000 in
theorem eDue (k j : Nat) (hl : x.bal.length ≤ 6) (hk : k < x.bal.length) (hv : x.vals.length ≤ 5) (hj : j < x.vals.length) (hs : 1 ≤ x.sh k j) (hd : DueOk x k j) :
    Calls Try.prog 22 #[.pointer (some ⟨g, 0, none⟩), .int .i64 k, .int .i64 j] w fun e w' => e = .returned (.tuple #[.int .i64 (x.due k j), .int .i64 0]) ∧ w' = w.drew := by
  obtain ⟨ba, bc, rfl⟩ := ownsRow_slice h.b
  have c4 : w.cell? ⟨g, 4, none⟩ = some (.slice ba x.bal.length bc) := h.L.cell 4
  have H1 : Hid (Calls Try.prog 51 #[.pointer (some ⟨g, 0, none⟩), .int .i64 k, .int .i64 j] w fun e w' => e = .returned (.int .i64 0) ∧ w = w') := edueError g x _ _ _ w h k j (by omega) hv hj hs
  have H2 : Hid (Calls Try.prog 52 #[.pointer (some ⟨g, 0, none⟩), .int .i64 k, .int .i64 j] w fun e w' => e = .returned (.int .i64 (x.due k j)) ∧ w' = w.drew) := edue g x _ _ _ w h k j (by omega) (by omega) hd
  clear h hd
  generalize x.due k j = d at *
  go_enter Try.func22, Try.ntmps22
  go_wp2_with (first | (go_at_call 50; refine (kacc_any g x.bal.length k _ _ _ c4 hk (by omega)).mono ?_; rintro e w' ⟨rfl, rfl⟩) | (go_at_call 51; refine H1.out.mono ?_; rintro e w' ⟨rfl, rfl⟩) | (go_at_call 52; refine H2.out.mono ?_; rintro e w' ⟨rfl, rfl⟩))
  go_ret2
  exact ⟨rfl, rfl⟩

end
end Go.Proofs.Ytkdekfmblpkecaa
