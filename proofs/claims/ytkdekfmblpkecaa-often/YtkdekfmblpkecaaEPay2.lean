import Derived.Test.YtkdekfmblpkecaaEPay
namespace Go.Proofs.Ytkdekfmblpkecaa
open Go.ChangeShapes Go.WideShapes Go.ChangeAt Go.RowKit
set_option linter.unusedVariables false

section
variable {S : Nat → Prop} {W0 : World} (g : Nat) (x : EC) (bv vv ev : Value) (w : World) (h : PE S W0 w g x bv vv ev)
include h

set_option maxHeartbeats 2000000 in
set_option maxRecDepth 100000 in
theorem epay (k j : Nat) (hl : x.bal.length ≤ 6) (hk : k < x.bal.length) (hv : x.vals.length ≤ 5) (hj : j < x.vals.length) (hd : DueOk x k j) (o0 : 0 ≤ x.vals[j].outs) (o1 : x.vals[j].outs ≤ 1000000000) (b0 : 0 ≤ x.balAt k) (b1 : x.balAt k ≤ 1000000000) :
    Calls Try.prog 53 #[.pointer (some ⟨g, 0, none⟩), .int .i64 k, .int .i64 j] w fun e w' => e = .returned (.tuple #[]) ∧ PE S W0 w' g (payF x k j) bv vv ev := by
  obtain ⟨ba, bc, rfl⟩ := ownsRow_slice h.b
  obtain ⟨gb, rfl, _⟩ := ownsRow_some h.b (by omega)
  obtain ⟨va, vc, rfl⟩ := ownsRow_slice h.v
  obtain ⟨gv, rfl, hcell, hfr⟩ := h.val8 rfl hj
  have c4 : w.cell? ⟨g, 4, none⟩ = some (.slice (some ⟨gb, 0, none⟩) x.bal.length bc) := h.L.cell 4
  have c7 : w.cell? ⟨g, 7, none⟩ = some (.slice (some ⟨gv, 0, none⟩) x.vals.length vc) := h.L.cell 7
  have cb := h.balAt' hk
  have fb := h.b.frozenAt k
  have y5 : w.cell? ⟨gv, j * 8 + 5, none⟩ = some (.int .i64 x.vals[j].outs) := hcell 5 (by omega)
  have fv := hfr (j * 8 + 5)
  have cp := h.perAt (j := j) (by omega)
  have cu := h.uptoAt (k := k) (j := j) (by omega) (by omega)
  have fu := h.L.frozen (43 + k * 5 + j)
  have n1 : g ≠ gb := fun e => Has.apart h.L h.b (by decide) (by rw [e]; rfl)
  have n2 : gb ≠ g := fun e => n1 e.symm
  have n3 : g ≠ gv := fun e => Has.apart h.L h.v (by decide) (by rw [e]; rfl)
  have n4 : gv ≠ g := fun e => n3 e.symm
  have n5 : gb ≠ gv := fun e => row_ne h.b h.v (by decide) (by rw [← e]; rfl)
  have n6 : gv ≠ gb := fun e => n5 e.symm
  have d0 := hd.due0
  have d1 : x.due k j ≤ 4294967296 := by
    have := hd.d1
    unfold EC.due; omega
  have HD : Hid (Calls Try.prog 52 #[.pointer (some ⟨g, 0, none⟩), .int .i64 k, .int .i64 j] w fun e w' => e = .returned (.int .i64 (x.due k j)) ∧ w' = w.drew) := edue g x _ _ _ w h k j (by omega) (by omega) hd
  have hP1 := h.setVal (vals' := x.vals.modify j (fun v => { v with outs := v.outs - x.due k j })) rfl (j * 8 + 5) (.int .i64 (x.vals[j].outs - x.due k j)) (vrow_mod x.vals j hj 5 _ _ rfl (by omega)) (by simp)
  have hP2 := hP1.setBal rfl k (x.balAt k + x.due k j)
  have hP3 := hP2.setTab (35 + (k * 5 + j)) (x.per j) (by omega)
  rw [← Nat.add_assoc, ← Nat.add_assoc] at hP3
  have HF : Hid (PE S W0 (((w.setCell ⟨gv, j * 8 + 5, none⟩ (.int .i64 (x.vals[j].outs - x.due k j))).setCell ⟨gb, k, none⟩ (.int .i64 (x.balAt k + x.due k j))).setCell ⟨g, 43 + k * 5 + j, none⟩ (.int .i64 (x.per j))) g (payF x k j) (.slice (some ⟨gb, 0, none⟩) x.bal.length bc) (.slice (some ⟨gv, 0, none⟩) x.vals.length vc) ev) := hP3
  clear h hP1 hP2 hP3 hcell hfr hd
  generalize x.due k j = d at *
  generalize x.balAt k = y at *
  generalize x.vals[j].outs = o at *
  generalize x.per j = p at *
  generalize x.upto k j = u at *
  go_enter Try.func53, Try.ntmps53
  go_wp2_with fail
  refine HD.out.mono ?_
  rintro e w' ⟨rfl, rfl⟩
  clear HD
  go_wp2
  go_region
  go_wp2
  go_end0
  exact ⟨rfl, HF.out.eta rfl rfl rfl rfl⟩
end
end Go.Proofs.Ytkdekfmblpkecaa
