import Derived.Test.YtkdekfmblpkecaaEDue
namespace Go.Proofs.Ytkdekfmblpkecaa
open Go.ChangeShapes Go.WideShapes Go.ChangeAt Go.RowKit
set_option linter.unusedVariables false

section
variable {S : Nat → Prop} {W0 : World} (g : Nat) (x : EC) (bv vv ev : Value) (w : World) (h : PE S W0 w g x bv vv ev)
include h
set_option maxHeartbeats 1000000 in
set_option maxRecDepth 100000 in
theorem eWithdraw (k j : Nat) (hl : x.bal.length ≤ 6) (hk : k < x.bal.length) (hv : x.vals.length ≤ 5) (hj : j < x.vals.length) (hs : 1 ≤ x.sh k j) (hd : DueOk x k j) (o0 : 0 ≤ x.vals[j].outs) (o1 : x.vals[j].outs ≤ 1000000000)
    (hx0 : x.fee ≤ x.balAt k) (hx1 : x.balAt k ≤ 1000000000) (hf0 : 0 ≤ x.fee) (hs0 : 0 ≤ x.fees) (hs1 : x.fees ≤ 1000000000) :
    Calls Try.prog 23 #[.pointer (some ⟨g, 0, none⟩), .int .i64 k, .int .i64 j] w fun e w' => e = .returned (.int .i64 0) ∧ PE S W0 w' g (payF (chargeF x k) k j) bv vv ev := by
  have HCh : Hid (Calls Try.prog 44 #[.pointer (some ⟨g, 0, none⟩), .int .i64 k] w fun e w' => e = .returned (.int .i64 0) ∧ PE S W0 w' g (chargeF x k) bv vv ev) := echarge g x bv vv ev w h k (by omega) hk hx0 hx1 hf0 hs0 hs1
  have e1 : (chargeF x k).bal.length = x.bal.length := by simp [chargeF]
  have e2 : (chargeF x k).balAt k = x.balAt k - x.fee := by simp [chargeF, EC.balAt, hk]
  have hd' : DueOk (chargeF x k) k j := ⟨hd.u0, hd.up, hd.p1, hd.d0, hd.d1⟩
  have H1 : Hid (∀ w, PE S W0 w g (chargeF x k) bv vv ev → Calls Try.prog 51 #[.pointer (some ⟨g, 0, none⟩), .int .i64 k, .int .i64 j] w fun e w' => e = .returned (.int .i64 0) ∧ w = w') := fun w h => edueError g (chargeF x k) _ _ _ w h k j (by omega) hv hj hs
  have H2 : Hid (∀ w, PE S W0 w g (chargeF x k) bv vv ev → Calls Try.prog 53 #[.pointer (some ⟨g, 0, none⟩), .int .i64 k, .int .i64 j] w fun e w' => e = .returned (.tuple #[]) ∧ PE S W0 w' g (payF (chargeF x k) k j) bv vv ev) := fun w h => epay g (chargeF x k) _ _ _ w h k j (by omega) (by omega) hv hj hd' o0 o1 (by rw [e2]; omega) (by rw [e2]; omega)
  clear h hd hd' e1 e2
  go_enter Try.func23, Try.ntmps23
  go_wp2_with fail
  refine HCh.out.mono ?_
  rintro e w1 ⟨rfl, hP1⟩
  have HP1 : Hid (PE S W0 w1 g (chargeF x k) bv vv ev) := hP1
  clear HCh hP1
  go_wp2_with fail
  refine (H1.out _ HP1.out).mono ?_
  rintro e w2 ⟨rfl, rfl⟩
  go_wp2_with fail
  refine (H2.out _ HP1.out).mono ?_
  rintro e w2 ⟨rfl, hP2⟩
  have HP2 : Hid (PE S W0 w2 g (payF (chargeF x k) k j) bv vv ev) := hP2
  clear hP2 HP1 H1 H2
  go_wp2
  go_ret
  exact ⟨rfl, HP2.out⟩
end
end Go.Proofs.Ytkdekfmblpkecaa
