import Derived.Test.YtohjjgefklhmaabGPayEM
namespace Go.Proofs.Ytohjjgefklhmaab
open Go.ChangeShapes Go.WideShapes Go.ChangeAt Go.RowKit
set_option linter.unusedVariables false

def blkR (x : EC) : Int × EC := if 1000 ≤ x.height then (14, x) else (0, setF (payEF (upF x)))

section
variable {S : Nat → Prop} {W0 : World} (g : Nat) (x : EC) (bv vv ev : Value) (w : World) (h : PE S W0 w g x bv vv ev)
include h
set_option maxHeartbeats 2000000 in
set_option maxRecDepth 100000 in
theorem gBlock (hv : x.vals.length ≤ 5) (hF : FeeOk x) (hh0 : 0 ≤ x.height) (ht0 : 0 ≤ (payEF (upF x)).top) (ht1 : (payEF (upF x)).top ≤ 1000) (hv3 : (payEF (upF x)).vals.length ≤ 1000) (hhs : (shareF x).height = x.height) (hE : x.height < 1000 → EntOk (upF x)) :
    Calls Try.prog 9 #[.pointer (some ⟨g, 0, none⟩)] w fun e w' => e = .returned (.int .i64 (blkR x).1) ∧ ∃ ev', PE S W0 w' g (blkR x).2 bv vv ev' := by
  by_cases hh : 1000 ≤ x.height
  · have e1 : blkR x = (14, x) := by unfold blkR; rw [if_pos hh]
    rw [e1]
    have c3 : w.cell? ⟨g, 3, none⟩ = some (.int .i64 x.height) := h.L.cell 3
    have HP : Hid (PE S W0 w g x bv vv ev) := h
    clear h e1
    go_enter Try.func9, Try.ntmps9
    go_wp2
    go_ret
    exact ⟨rfl, ev, HP.out⟩
  · have e1 : blkR x = (0, setF (payEF (upF x))) := by unfold blkR; rw [if_neg hh]
    rw [e1]
    refine (eBlock g x (payEF (upF x)) bv vv ev w h hv hF hh0 (by omega) ht0 ht1 hv3 hhs (fun _ => True) (fun w1 h1 => (gpayEntries g (upF x) bv vv ev w1 h1 (hE (by omega))).mono ?_)).mono ?_
    · rintro e w2 ⟨rfl, ev', h2⟩
      exact ⟨rfl, ev', trivial, h2⟩
    · rintro e w2 ⟨rfl, ev', _, h2⟩
      exact ⟨rfl, ev', h2⟩

end
end Go.Proofs.Ytohjjgefklhmaab
