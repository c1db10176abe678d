import Derived.Test.YtkdekfmblpkecaaRows
import Derived.WalkKit
import Derived.ProofKit
import Derived.OpenShut
import Derived.Deep.QuietTactic
import Derived.BigQuiet
import Derived.BigRegion
import Derived.WalkLawsBesides
namespace Go.Proofs.Ytkdekfmblpkecaa
open Go.ChangeShapes Go.WideShapes Go.ChangeAt Go.RowKit
set_option linter.unusedVariables false

/-- which of n things the raw number c speaks of -/
def pickN (c : Int) (n : Int) : Int := if c < 0 then -((c + 1).tmod n) else c % n

theorem pickN_range (c n : Int) (hn : 1 ≤ n) : 0 ≤ pickN c n ∧ pickN c n < n := by
  unfold pickN
  split
  · rw [← Int.neg_tmod, Int.tmod_eq_emod_of_nonneg (by omega)]
    exact ⟨Int.emod_nonneg _ (by omega), Int.emod_lt_of_pos _ (by omega)⟩
  · exact ⟨Int.emod_nonneg _ (by omega), Int.emod_lt_of_pos _ (by omega)⟩

theorem pickN_neg (c n : Int) (h : c < 0) : pickN c n = -((c + 1).tmod n) := by unfold pickN; rw [if_pos h]
theorem pickN_pos (c n : Int) (h : ¬ c < 0) : pickN c n = c % n := by unfold pickN; rw [if_neg h]

set_option maxHeartbeats 400000 in
theorem pick_any (c n : Int) (w : World) (hc1 : -9223372036854775808 ≤ c) (hc2 : c ≤ 9223372036854775807) (hn1 : 1 ≤ n) (hn2 : n ≤ 9223372036854775807) :
    Calls Try.prog 19 #[.int .i64 c, .int .i64 n] w fun e w' => e = .returned (.int .i64 (pickN c n)) ∧ w = w' := by
  by_cases h : c < 0
  · rw [pickN_neg c n h]
    go_enter Try.func19, Try.ntmps19
    go_wp2
    go_ret
    exact ⟨rfl, rfl⟩
  · rw [pickN_pos c n h]
    go_enter Try.func19, Try.ntmps19
    go_wp2
    go_ret
    exact ⟨rfl, rfl⟩

/-- in -/
def inN (n lo hi : Int) : Bool := decide (lo ≤ n) && decide (n ≤ hi)
theorem inN_tt {n lo hi : Int} (h : lo ≤ n) (h2 : n ≤ hi) : inN n lo hi = true := by simp [inN, h, h2]
theorem inN_hi {n lo hi : Int} (h2 : ¬ n ≤ hi) : inN n lo hi = false := by simp only [inN, h2, decide_false, Bool.and_false]
theorem inN_lo {n lo hi : Int} (h : ¬ lo ≤ n) : inN n lo hi = false := by simp only [inN, h, decide_false, Bool.false_and]
theorem inN_iff {n lo hi : Int} : inN n lo hi = true ↔ lo ≤ n ∧ n ≤ hi := by simp [inN]
end Go.Proofs.Ytkdekfmblpkecaa
