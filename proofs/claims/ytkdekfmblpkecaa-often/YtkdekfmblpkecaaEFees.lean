import Derived.Test.YtkdekfmblpkecaaEJoin
namespace Go.Proofs.Ytkdekfmblpkecaa
open Go.ChangeShapes Go.WideShapes Go.ChangeAt Go.RowKit
set_option linter.unusedVariables false

def shareOutF (x : EC) (j : Nat) (a : Int) : EC := if (x.val j).shares < 1 then x else { x with tab := x.tab.set (30 + j) (x.per j + a * 1073741824 / (x.val j).shares) }
def takeF (x : EC) (j : Nat) (a : Int) : EC := shareOutF { x with vals := (x.vals.modify j (fun v => { v with comm := v.comm + a * (x.val j).rate / 100 })).modify j (fun v => { v with outs := v.outs + a }) } j (a - a * (x.val j).rate / 100)

section
variable {S : Nat → Prop} {W0 : World} (g : Nat) (x : EC) (bv vv ev : Value) (w : World) (h : PE S W0 w g x bv vv ev)
include h
set_option maxHeartbeats 2000000 in
set_option maxRecDepth 100000 in
theorem eshareOut (j : Nat) (a : Int) (hv : x.vals.length ≤ 5) (hj : j < x.vals.length) (a0 : 0 ≤ a) (a1 : a ≤ 1000000) (s0 : 0 ≤ (x.val j).shares) (s1 : (x.val j).shares ≤ 1000000) (p0 : 0 ≤ x.per j) (p1 : x.per j ≤ 4000000000000000000) :
    Calls Try.prog 69 #[.pointer (some ⟨g, 0, none⟩), .int .i64 j, .int .i64 a] w fun e w' => e = .returned (.tuple #[]) ∧ PE S W0 w' g (shareOutF x j a) bv vv ev := by
  obtain ⟨va, vc, rfl⟩ := ownsRow_slice h.v
  obtain ⟨gv, rfl, hcell, hfr⟩ := h.val8 rfl hj
  have c7 : w.cell? ⟨g, 7, none⟩ = some (.slice (some ⟨gv, 0, none⟩) x.vals.length vc) := h.L.cell 7
  have y3 := hcell 3 (by omega)
  rw [x.val_eq hj] at y3
  simp only [VS.cells, List.getElem?_cons_succ, List.getElem?_cons_zero] at y3
  have cp := h.perAt (j := j) (by omega)
  have fp := h.L.frozen (38 + j)
  by_cases hs : (x.val j).shares < 1
  · have HF : Hid (PE S W0 w g (shareOutF x j a) bv (.slice (some ⟨gv, 0, none⟩) x.vals.length vc) ev) := by
      unfold shareOutF; rw [if_pos hs]; exact h
    clear h hcell hfr
    generalize (x.val j).shares = s at *
    go_enter Try.func69, Try.ntmps69
    go_wp2
    refine bodyPost_ret (results_none rfl _ _ _) rfl ?_
    exact ⟨rfl, HF.out⟩
  · have hP := h.setTab (30 + j) (x.per j + a * 1073741824 / (x.val j).shares) (by omega)
    rw [← Nat.add_assoc] at hP
    have HF : Hid (PE S W0 (w.setCell ⟨g, 38 + j, none⟩ (.int .i64 (x.per j + a * 1073741824 / (x.val j).shares))) g (shareOutF x j a) bv (.slice (some ⟨gv, 0, none⟩) x.vals.length vc) ev) := by
      unfold shareOutF; rw [if_neg hs]; exact hP
    have q0 : 0 ≤ a * 1073741824 / (x.val j).shares := Int.ediv_nonneg (by omega) s0
    have q1 : a * 1073741824 / (x.val j).shares ≤ 1073741824000000 := by
      have : a * 1073741824 / (x.val j).shares ≤ a * 1073741824 := Int.ediv_le_self _ (by omega)
      omega
    clear h hP hcell hfr
    generalize (x.val j).shares = s at *
    generalize x.per j = p at *
    have hs2 : 0 < s := by omega
    go_enter Try.func69, Try.ntmps69
    go_wp2
    go_region
    go_wp2
    go_end0
    exact ⟨rfl, HF.out.eta rfl rfl rfl rfl⟩
end
end Go.Proofs.Ytkdekfmblpkecaa
