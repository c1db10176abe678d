import Derived.Test.YtkdekfmblpkecaaEDue
namespace Go.Proofs.Ytkdekfmblpkecaa
open Go.ChangeShapes Go.WideShapes Go.ChangeAt Go.RowKit
set_option linter.unusedVariables false

/-- the validator's number -/
def EC.val (x : EC) (j : Nat) : VS := x.vals.getD j ⟨0, 0, 0, 0, 0, 0, false, false⟩
theorem EC.val_eq (x : EC) {j : Nat} (hj : j < x.vals.length) : x.vals[j] = x.val j := by simp [EC.val, hj]
def joinF (x : EC) (k j : Nat) (t : Int) : EC :=
  { payF x k j with
    vals := ((payF x k j).vals.modify j (fun v => { v with tokens := v.tokens + t })).modify j (fun v => { v with shares := v.shares + sharesForF (x.val j) t }),
    tab := (payF x k j).tab.set (k * 5 + j) (x.sh k j + sharesForF (x.val j) t) }
def bondF (x : EC) (k j : Nat) (t : Int) : EC := joinF { chargeF x k with bal := x.bal.set k (x.balAt k - x.fee - t) } k j t

section
variable {S : Nat → Prop} {W0 : World} (g : Nat) (x : EC) (bv vv ev : Value) (w : World) (h : PE S W0 w g x bv vv ev)
include h

set_option maxHeartbeats 2000000 in
set_option maxRecDepth 100000 in
theorem ebondError (k j : Nat) (amount : Int) (hl : x.bal.length ≤ 1000) (hk : k < x.bal.length) (hv : x.vals.length ≤ 1000) (hj : j < x.vals.length) (hV : ValOk (x.val j)) (h1 : 1 ≤ amount) (h2 : amount ≤ 1000000) (h3 : amount ≤ x.balAt k) (h4 : joinErrF (x.val j) amount = 0) :
    Calls Try.prog 45 #[.pointer (some ⟨g, 0, none⟩), .int .i64 k, .int .i64 j, .int .i64 amount] w fun e w' => e = .returned (.int .i64 0) ∧ Below w.heap.size w w' := by
  obtain ⟨ba, bc, rfl⟩ := ownsRow_slice h.b
  obtain ⟨gb, rfl, _⟩ := ownsRow_some h.b (by omega)
  obtain ⟨va, vc, rfl⟩ := ownsRow_slice h.v
  obtain ⟨gv, rfl, hcell, hfr⟩ := h.val8 rfl hj
  have c4 : w.cell? ⟨g, 4, none⟩ = some (.slice (some ⟨gb, 0, none⟩) x.bal.length bc) := h.L.cell 4
  have c7 : w.cell? ⟨g, 7, none⟩ = some (.slice (some ⟨gv, 0, none⟩) x.vals.length vc) := h.L.cell 7
  have cb := h.balAt' hk
  have y0 := hcell 0 (by omega)
  have y1 := hcell 1 (by omega)
  have y2 := hcell 2 (by omega)
  have y3 := hcell 3 (by omega)
  have y4 := hcell 4 (by omega)
  have y5 := hcell 5 (by omega)
  have y6 := hcell 6 (by omega)
  have y7 := hcell 7 (by omega)
  rw [x.val_eq hj] at y0 y1 y2 y3 y4 y5 y6 y7
  have HJ : Hid (∀ u, Calls Try.prog 64 #[.agg #[.int .i64 (x.val j).owner, .int .i64 (x.val j).rate, .int .i64 (x.val j).tokens, .int .i64 (x.val j).shares, .int .i64 (x.val j).comm, .int .i64 (x.val j).outs, .bool (x.val j).jailed, .bool (x.val j).inset], .int .i64 amount] u fun e w' => e = .returned (.int .i64 0) ∧ Below u.heap.size u w') := fun u => by
    have := joinError_any (x.val j) amount u hV (by omega) h2
    rw [h4] at this
    exact this
  clear h hcell hfr h4 hV
  generalize x.val j = v at *
  generalize x.balAt k = y at *
  obtain ⟨vo, vr, vt, vs, vcm, vou, vj, vi⟩ := v
  simp only [VS.cells, List.getElem?_cons_succ, List.getElem?_cons_zero, Nat.add_zero] at y0 y1 y2 y3 y4 y5 y6 y7
  go_enter Try.func45, Try.ntmps45
  go_wp2_with (first | (go_at_call 63; refine (kval_any g x.vals.length j _ _ _ c7 hj hv).mono ?_; rintro e w' ⟨rfl, rfl⟩) | fail)
  refine (HJ.out _).mono ?_
  rintro e w2 ⟨rfl, hb2⟩
  have HF : Hid (Below w.heap.size w w2) := hb2
  clear hb2 HJ
  go_wp2
  go_ret
  exact ⟨rfl, HF.out⟩
end
end Go.Proofs.Ytkdekfmblpkecaa
