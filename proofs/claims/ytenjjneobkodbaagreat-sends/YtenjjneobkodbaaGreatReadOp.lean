import Derived.Test.YtenjjneobkodbaaGreatUpTo
import Derived.ShutString
import Derived.ChangeOld
import Derived.Below
import Derived.Deep.Slices
import Derived.SizedLaws
namespace Go.Proofs.YtenjjneobkodbaaGreat
open Go.ChangeShapes Go.WideShapes Go.ChangeAt Go.RowKit
set_option linter.unusedVariables false

theorem own0 : ownKnob Tryz.prog.godebug = none := by kernel_rfl
theorem laidOut0 : laidOutB Tryz.prog = true := by kernel_rfl
theorem cells_op : Tryz.prog.cellsOf 27 = 7 := by kernel_rfl
theorem cells_int : Tryz.prog.cellsOf 3 = 1 := by kernel_rfl
theorem cells_str : Tryz.prog.cellsOf 9 = 1 := by kernel_rfl

theorem len7 {α : Type} (l : List α) (h : l.length = 7) : ∃ a b c d e f g, l = [a, b, c, d, e, f, g] := by
  match l, h with
  | [a, b, c, d, e, f, g], _ => exact ⟨a, b, c, d, e, f, g, rfl⟩
theorem int_read {H : Type} {enc : TypeId × Value → H} {W : World} {base : Nat} {spare : Nat → Bool} {held : Bool} {n : Nat} {c : Value} {x : DataW H × List MemPlace} (h : DataW.trod enc Tryz.prog W base spare held n 3 [c] = some x) : ∃ k, c = .int .i64 k ∧ i64R k := by
  obtain ⟨k, hc, _, hw⟩ := DataW.trod_int Tryz.underlying3 h
  refine ⟨k, by simpa using hc, ?_⟩
  have hx : -9223372036854775808 ≤ k ∧ k ≤ 9223372036854775807 := by simpa [Lit.wf, IntKind.min, IntKind.max, IntKind.signed, IntKind.bits] using hw
  exact hx
/-- one step of a script, read -/
theorem op_read {H : Type} {enc : TypeId × Value → H} {W : World} {base : Nat} {spare : Nat → Bool} {held : Bool} {n : Nat} {cs : List Value} {x : DataW H × List MemPlace} (h : DataW.trod enc Tryz.prog W base spare held n 27 cs = some x) :
    ∃ (o : OpD) (d0 d1 d2 d3 d4 d5 : DataW H), cs = o.cells ∧ o.ok ∧ x.1 = .agg [d0, d1, d2, d3, d4, d5, .lit (.string o.s.data.toList)] := by
  obtain ⟨xs, m, rfl, rfl, hl, hlen, hf⟩ := DataW.trod_struct Tryz.underlying27 h
  rw [cells_op] at hl
  obtain ⟨c0, c1, c2, c3, c4, c5, c6, rfl⟩ := len7 cs hl
  obtain ⟨x0, x1, x2, x3, x4, x5, x6, rfl⟩ := len7 xs hlen
  have f0 := hf 0 _ rfl
  have f1 := hf 1 _ rfl
  have f2 := hf 2 _ rfl
  have f3 := hf 3 _ rfl
  have f4 := hf 4 _ rfl
  have f5 := hf 5 _ rfl
  have f6 := hf 6 _ rfl
  simp [cells_int, cells_str] at f0 f1 f2 f3 f4 f5 f6
  obtain ⟨k0, rfl, w0⟩ := int_read f0
  obtain ⟨k1, rfl, w1⟩ := int_read f1
  obtain ⟨k2, rfl, w2⟩ := int_read f2
  obtain ⟨k3, rfl, w3⟩ := int_read f3
  obtain ⟨k4, rfl, w4⟩ := int_read f4
  obtain ⟨k5, rfl, w5⟩ := int_read f5
  obtain ⟨s, hc, hx6, hs⟩ := DataW.trod_string Tryz.underlying9 f6
  simp at hc
  subst hc
  exact ⟨⟨k0, k1, k2, k3, k4, k5, s⟩, x0.1, x1.1, x2.1, x3.1, x4.1, x5.1, rfl, ⟨w0, w1, w2, w3, w4, w5⟩, by simp [hx6]⟩

theorem weights_all {H : Type} {P : Program} {e : TypeId} {d : DataW H} : ∀ {l : List (DataW H)}, d ∈ l → ∀ n, n ∈ d.weights P e → n ∈ DataW.weightsAll P e l
  | x :: l, h, n, hn => by
    simp only [DataW.weightsAll, List.mem_append]
    rcases List.mem_cons.1 h with rfl | h
    · exact .inl hn
    · exact .inr (weights_all h n hn)
  | [], h, _, _ => by cases h
theorem op_weight {H : Type} (d0 d1 d2 d3 d4 d5 : DataW H) (l : List UInt8) : l.length ∈ (DataW.agg [d0, d1, d2, d3, d4, d5, .lit (.string l)]).weights Tryz.prog 27 := by
  simp only [DataW.weights, Tryz.underlying27]
  simp [DataW.weightsEach, DataW.weights]
/-- the script that came in -/
theorem script_read {H : Type} {enc : TypeId × Value → H} {W : World} {v : Value} {d : DataW H} {ps : List MemPlace} (h : DataW.Trod enc Tryz.prog W 0 (fun _ => true) true 22 v d ps) (hz : ∀ n, n ∈ d.weights Tryz.prog 22 → n ≤ reachBytes)
    (hsl : ∃ a n c, v = .slice a n c) :
    ∃ ops, OpSl W v ops ∧ (∀ k (h : k < ops.length), ops[k].ok) ∧ ops.length ≤ 9000000000000000 ∧ ∀ k (h : k < ops.length), ops[k].s.size ≤ 9000000000000000 := by
  obtain ⟨a0, n0, c0, rfl⟩ := hsl
  obtain ⟨fuel, hf⟩ := h
  rcases Deep.open_slice Tryz.underlying22 hf with ⟨hcs, _⟩ | ⟨a, len, cap, m, n, D, Pl, hcs, _, hl, hm, hmm, hx, hel⟩
  · simp [Value.cells] at hcs
    obtain ⟨rfl, rfl, rfl⟩ := hcs
    exact ⟨[], ⟨none, 0, rfl, fun h => by simp at h⟩, fun k h => by simp at h, by simp, fun k h => by simp at h⟩
  · simp [Value.cells] at hcs
    obtain ⟨rfl, rfl, rfl⟩ := hcs
    simp only [if_true] at hmm
    subst hmm
    have hd : d = .slice ((List.range n0).map D) ((List.range (m - n0)).map fun j => D (n0 + j)) := congrArg Prod.fst hx
    have hw : ∀ k, k ∈ (DataW.slice ((List.range n0).map D) ((List.range (m - n0)).map fun j => D (n0 + j))).weights Tryz.prog 22 → k ≤ reachBytes := by rw [← hd]; exact hz
    have hel2 : ∀ i, i < n0 → ∃ o : OpD, (∀ j, j < 7 → W.cell? (a.add (i * 7 + j)) = o.cells[j]?) ∧ o.ok ∧ o.s.size ≤ reachBytes := by
      intro i hi
      obtain ⟨cs', hc1, hc2⟩ := hel i (by omega)
      rw [cells_op] at hc1
      obtain ⟨_, _, hcell⟩ := World.cells?_some hc1
      obtain ⟨o, d0, d1, d2, d3, d4, d5, rfl, hok, hdat⟩ := op_read hc2
      refine ⟨o, fun j hj => ?_, hok, ?_⟩
      · rw [← hcell j hj, Deep.add_add]
      · have h1 := hw o.s.data.toList.length (by
          simp only [DataW.weights, Tryz.underlying22]
          refine List.mem_cons_of_mem _ (List.mem_append_left _ (weights_all (d := D i) (List.mem_map.2 ⟨i, List.mem_range.2 hi, rfl⟩) _ ?_))
          rw [show D i = _ from hdat]
          exact op_weight _ _ _ _ _ _ _)
        simpa using h1
    obtain ⟨f, hfo⟩ := @Deep.choose_lt OpD ⟨⟨0, 0, 0, 0, 0, 0, .empty⟩⟩ n0 _ hel2
    have hrb : reachBytes ≤ 140737488355328 := by decide
    refine ⟨(List.range n0).map f, ⟨some a, m, by simp, fun h0 => ?_⟩, fun k h => ?_, ?_, fun k h => ?_⟩
    · have h00 : 0 < n0 := by simpa using h0
      obtain ⟨b, off, spot⟩ := a
      have hsp : spot = none := by
        have h1 := (hfo 0 h00).1 0 (by omega)
        have h2 : W.cell? ((⟨b, off, spot⟩ : Addr).add (0 * 7 + 0)) = some (.int .i64 (f 0).kind) := h1
        simpa [Addr.add] using World.cell?_spot h2
      subst hsp
      refine ⟨b, off, rfl, fun k hk i hi => ?_⟩
      have hk' : k < n0 := by simpa using hk
      have h1 := (hfo k hk').1 i hi
      rw [Addr.add_lit] at h1
      rw [Nat.add_assoc, h1]
      simp
    · have hk' : k < n0 := by simpa using h
      simpa using (hfo k hk').2.1
    · have h1 := hw ((((List.range n0).map D).length + ((List.range (m - n0)).map fun j => D (n0 + j)).length) * Tryz.prog.bytesOf 27) (by simp only [DataW.weights, Tryz.underlying22]; exact List.mem_cons_self)
      have hb : Tryz.prog.bytesOf 27 = 64 := by kernel_rfl
      rw [hb] at h1
      simp at h1 ⊢
      omega
    · have hk' : k < n0 := by simpa using h
      have h1 := (hfo k hk').2.2
      simp
      omega

end Go.Proofs.YtenjjneobkodbaaGreat
