import Derived.Test.YtohjjgefklhmaaaGAllM
import Derived.ChangeOld
import Derived.Below
import Derived.Deep.Slices
namespace Go.Proofs.Ytohjjgefklhmaaa
open Go.ChangeShapes Go.WideShapes Go.ChangeAt Go.RowKit
set_option linter.unusedVariables false

/-- a step, as it is read -/
structure StepD where
  k : Int
  a : Int
  b : Int
  c : Int
  d : Int
def StepD.cells (s : StepD) : List Value := [.int .i64 s.k, .int .i64 s.a, .int .i64 s.b, .int .i64 s.c, .int .i64 s.d]
def StepSl (w : World) (v : Value) (ops : List StepD) : Prop :=
  ∃ a cap, v = .slice a ops.length cap ∧ (0 < ops.length → ∃ g off, a = some ⟨g, off, none⟩ ∧ ∀ k (h : k < ops.length), ∀ i, i < 5 → w.cell? ⟨g, off + k * 5 + i, none⟩ = ops[k].cells[i]?)
theorem StepSl.get {w : World} {a : Option Addr} {cap : Nat} {ops : List StepD} (h : StepSl w (.slice a ops.length cap) ops) (h0 : 0 < ops.length) : ∃ g off, a = some ⟨g, off, none⟩ ∧ ∀ k (h : k < ops.length), ∀ i, i < 5 → w.cell? ⟨g, off + k * 5 + i, none⟩ = ops[k].cells[i]? := by
  obtain ⟨a', c', he, hx⟩ := h
  simp only [Value.slice.injEq, true_and] at he
  obtain ⟨rfl, rfl⟩ := he
  exact hx h0
theorem StepSl.below {w w' : World} {B : Nat} {v : Value} {ops : List StepD} (h : StepSl w v ops) (hb : Below B w w') (hB : w.heap.size ≤ B) : StepSl w' v ops := by
  obtain ⟨a, cap, rfl, hx⟩ := h
  refine ⟨a, cap, rfl, fun h0 => ?_⟩
  obtain ⟨g, off, rfl, hc⟩ := hx h0
  refine ⟨g, off, rfl, fun k hk i hi => ?_⟩
  have h1 := hc k hk i hi
  have h2 : ∃ u, ops[k].cells[i]? = some u := ⟨_, List.getElem?_eq_getElem (show i < ops[k].cells.length from hi)⟩
  obtain ⟨u, hu⟩ := h2
  rw [hb.cell (p := ⟨g, off + k * 5 + i, none⟩) (Nat.lt_of_lt_of_le (World.block_lt_of_cell? w _ (h1.trans hu)) hB)]
  exact h1

theorem own0 : ownKnob Try.prog.godebug = none := by kernel_rfl
theorem laidOut0 : laidOutB Try.prog = true := by kernel_rfl
theorem cells_step : Try.prog.cellsOf 34 = 5 := by kernel_rfl
theorem cells_int : Try.prog.cellsOf 3 = 1 := by kernel_rfl
theorem wf_i64 {a : Int} (h : (Lit.int .i64 a).wf = true) : -9223372036854775808 ≤ a ∧ a ≤ 9223372036854775807 := by
  simpa [Lit.wf, IntKind.min, IntKind.max, IntKind.signed, IntKind.bits] using h
theorem len5 {α : Type} (l : List α) (h : l.length = 5) : ∃ a b c d e, l = [a, b, c, d, e] := by
  match l, h with
  | [a, b, c, d, e], _ => exact ⟨a, b, c, d, e, rfl⟩
theorem int_read {H : Type} {enc : TypeId × Value → H} {W : World} {base : Nat} {spare : Nat → Bool} {held : Bool} {n : Nat} {c : Value} {x : DataW H × List MemPlace} (h : DataW.trod enc Try.prog W base spare held n 3 [c] = some x) : ∃ k, c = .int .i64 k := by
  obtain ⟨k, hc, _, hw⟩ := DataW.trod_int Try.underlying3 h
  exact ⟨k, by simpa using hc⟩
theorem step_read {H : Type} {enc : TypeId × Value → H} {W : World} {base : Nat} {spare : Nat → Bool} {held : Bool} {n : Nat} {cs : List Value} {x : DataW H × List MemPlace} (h : DataW.trod enc Try.prog W base spare held n 34 cs = some x) :
    ∃ o : StepD, cs = o.cells := by
  obtain ⟨xs, m, rfl, rfl, hl, hlen, hf⟩ := DataW.trod_struct Try.underlying34 h
  rw [cells_step] at hl
  obtain ⟨c0, c1, c2, c3, c4, rfl⟩ := len5 cs hl
  obtain ⟨x0, x1, x2, x3, x4, rfl⟩ := len5 xs hlen
  have f0 := hf 0 _ rfl
  have f1 := hf 1 _ rfl
  have f2 := hf 2 _ rfl
  have f3 := hf 3 _ rfl
  have f4 := hf 4 _ rfl
  simp [cells_int] at f0 f1 f2 f3 f4
  obtain ⟨k0, rfl⟩ := int_read f0
  obtain ⟨k1, rfl⟩ := int_read f1
  obtain ⟨k2, rfl⟩ := int_read f2
  obtain ⟨k3, rfl⟩ := int_read f3
  obtain ⟨k4, rfl⟩ := int_read f4
  exact ⟨⟨k0, k1, k2, k3, k4⟩, rfl⟩
theorem steps_read {H : Type} {enc : TypeId × Value → H} {W : World} {v : Value} {d : DataW H} {ps : List MemPlace} (h : DataW.Trod enc Try.prog W 0 (fun _ => true) true 22 v d ps) (hsl : ∃ a n c, v = .slice a n c) :
    ∃ ops, StepSl W v ops := by
  obtain ⟨a0, n0, c0, rfl⟩ := hsl
  obtain ⟨fuel, hf⟩ := h
  rcases Deep.open_slice Try.underlying22 hf with ⟨hcs, _⟩ | ⟨a, len, cap, m, n, D, Pl, hcs, _, hl, hm, hmm, hx, hel⟩
  · simp [Value.cells] at hcs
    obtain ⟨rfl, rfl, rfl⟩ := hcs
    exact ⟨[], ⟨none, 0, rfl, fun h => by simp at h⟩⟩
  · simp [Value.cells] at hcs
    obtain ⟨rfl, rfl, rfl⟩ := hcs
    simp only [if_true] at hmm
    subst hmm
    have hel2 : ∀ i, i < n0 → ∃ o : StepD, (∀ j, j < 5 → W.cell? (a.add (i * 5 + j)) = o.cells[j]?) := by
      intro i hi
      obtain ⟨cs', hc1, hc2⟩ := hel i (by omega)
      rw [cells_step] at hc1
      obtain ⟨_, _, hcell⟩ := World.cells?_some hc1
      obtain ⟨o, rfl⟩ := step_read hc2
      refine ⟨o, fun j hj => ?_⟩
      rw [← hcell j hj, Deep.add_add]
    obtain ⟨f, hfo⟩ := @Deep.choose_lt StepD ⟨⟨0, 0, 0, 0, 0⟩⟩ n0 _ hel2
    refine ⟨(List.range n0).map f, ⟨some a, m, by simp, fun h0 => ?_⟩⟩
    have h00 : 0 < n0 := by simpa using h0
    obtain ⟨b, off, spot⟩ := a
    have hsp : spot = none := by
      have h1 := (hfo 0 h00) 0 (by omega)
      have h2 : W.cell? ((⟨b, off, spot⟩ : Addr).add (0 * 5 + 0)) = some (.int .i64 (f 0).k) := h1
      simpa [Addr.add] using World.cell?_spot h2
    subst hsp
    refine ⟨b, off, rfl, fun k hk i hi => ?_⟩
    have hk' : k < n0 := by simpa using hk
    have h1 := (hfo k hk') i hi
    rw [Addr.add_lit] at h1
    rw [Nat.add_assoc, h1]
    simp
end Go.Proofs.Ytohjjgefklhmaaa
