import Derived.Test.YtieccdjglbfiaaaStep2
import Derived.ShutString
import Derived.ChangeOld
import Derived.Below
import Derived.Deep.Slices
import Derived.SizedLaws
namespace Go.Proofs.Ytieccdjglbfiaaa
open Go.ChangeShapes Go.WideShapes Go.ChangeAt Go.RowKit
set_option linter.unusedVariables false

theorem own0 : ownKnob Try.prog.godebug = none := by kernel_rfl
theorem laidOut0 : laidOutB Try.prog = true := by kernel_rfl
theorem cells_op : Try.prog.cellsOf 37 = 7 := by kernel_rfl
theorem cells_int : Try.prog.cellsOf 3 = 1 := by kernel_rfl
theorem cells_str : Try.prog.cellsOf 9 = 1 := by kernel_rfl

theorem len7 {α : Type} (l : List α) (h : l.length = 7) : ∃ a b c d e f g, l = [a, b, c, d, e, f, g] := by
  match l, h with
  | [a, b, c, d, e, f, g], _ => exact ⟨a, b, c, d, e, f, g, rfl⟩
theorem int_read {H : Type} {enc : TypeId × Value → H} {W : World} {base : Nat} {spare : Nat → Bool} {held : Bool} {n : Nat} {c : Value} {x : DataW H × List MemPlace} (h : DataW.trod enc Try.prog W base spare held n 3 [c] = some x) : ∃ k, c = .int .i64 k ∧ i64R k := by
  obtain ⟨k, hc, _, hw⟩ := DataW.trod_int Try.underlying3 h
  refine ⟨k, by simpa using hc, ?_⟩
  have hx : -9223372036854775808 ≤ k ∧ k ≤ 9223372036854775807 := by simpa [Lit.wf, IntKind.min, IntKind.max, IntKind.signed, IntKind.bits] using hw
  exact hx
/-- one step of a script, read -/
theorem op_read {H : Type} {enc : TypeId × Value → H} {W : World} {base : Nat} {spare : Nat → Bool} {held : Bool} {n : Nat} {cs : List Value} {x : DataW H × List MemPlace} (h : DataW.trod enc Try.prog W base spare held n 37 cs = some x) :
    ∃ (o : OpD) (d0 d1 d2 d3 d4 d5 : DataW H), cs = o.cells ∧ o.ok ∧ x.1 = .agg [d0, d1, d2, d3, d4, d5, .lit (.string o.s.data.toList)] := by
  obtain ⟨xs, m, rfl, rfl, hl, hlen, hf⟩ := DataW.trod_struct Try.underlying37 h
  rw [cells_op] at hl
  obtain ⟨c0, c1, c2, c3, c4, c5, c6, rfl⟩ := len7 cs hl
  obtain ⟨x0, x1, x2, x3, x4, x5, x6, rfl⟩ := len7 xs hlen
  have f0 := hf 0 _ rfl
  have f1 := hf 1 _ rfl
  have f2 := hf 2 _ rfl
  have f3 := hf 3 _ rfl
  have f4 := hf 4 _ rfl
  have f5 := hf 5 _ rfl
  have f6 := hf 6 _ rfl
  simp [cells_int, cells_str] at f0 f1 f2 f3 f4 f5 f6
  obtain ⟨k0, rfl, w0⟩ := int_read f0
  obtain ⟨k1, rfl, w1⟩ := int_read f1
  obtain ⟨k2, rfl, w2⟩ := int_read f2
  obtain ⟨k3, rfl, w3⟩ := int_read f3
  obtain ⟨k4, rfl, w4⟩ := int_read f4
  obtain ⟨k5, rfl, w5⟩ := int_read f5
  obtain ⟨s, hc, hx6, hs⟩ := DataW.trod_string Try.underlying9 f6
  simp at hc
  subst hc
  exact ⟨⟨k0, k1, k2, k3, k4, k5, s⟩, x0.1, x1.1, x2.1, x3.1, x4.1, x5.1, rfl, ⟨w0, w1, w2, w3, w4, w5⟩, by simp [hx6]⟩

theorem weights_all {H : Type} {P : Program} {e : TypeId} {d : DataW H} : ∀ {l : List (DataW H)}, d ∈ l → ∀ n, n ∈ d.weights P e → n ∈ DataW.weightsAll P e l
  | x :: l, h, n, hn => by
    simp only [DataW.weightsAll, List.mem_append]
    rcases List.mem_cons.1 h with rfl | h
    · exact .inl hn
    · exact .inr (weights_all h n hn)
  | [], h, _, _ => by cases h
theorem op_weight {H : Type} (d0 d1 d2 d3 d4 d5 : DataW H) (l : List UInt8) : l.length ∈ (DataW.agg [d0, d1, d2, d3, d4, d5, .lit (.string l)]).weights Try.prog 37 := by
  simp only [DataW.weights, Try.underlying37]
  simp [DataW.weightsEach, DataW.weights]
/-- the script that came in -/
theorem script_read {H : Type} {enc : TypeId × Value → H} {W : World} {v : Value} {d : DataW H} {ps : List MemPlace} (h : DataW.Trod enc Try.prog W 0 (fun _ => true) true 22 v d ps) (hz : ∀ n, n ∈ d.weights Try.prog 22 → n ≤ reachBytes)
    (hsl : ∃ a n c, v = .slice a n c) :
    ∃ ops, OpSl W v ops ∧ (∀ k (h : k < ops.length), ops[k].ok) ∧ ops.length ≤ 9000000000000000 ∧ ∀ k (h : k < ops.length), ops[k].s.size ≤ 9000000000000000 := by
  obtain ⟨a0, n0, c0, rfl⟩ := hsl
  obtain ⟨fuel, hf⟩ := h
  rcases Deep.open_slice Try.underlying22 hf with ⟨hcs, _⟩ | ⟨a, len, cap, m, n, D, Pl, hcs, _, hl, hm, hmm, hx, hel⟩
  · simp [Value.cells] at hcs
    obtain ⟨rfl, rfl, rfl⟩ := hcs
    exact ⟨[], ⟨none, 0, rfl, fun h => by simp at h⟩, fun k h => by simp at h, by simp, fun k h => by simp at h⟩
  · simp [Value.cells] at hcs
    obtain ⟨rfl, rfl, rfl⟩ := hcs
    simp only [if_true] at hmm
    subst hmm
    have hd : d = .slice ((List.range n0).map D) ((List.range (m - n0)).map fun j => D (n0 + j)) := congrArg Prod.fst hx
    have hw : ∀ k, k ∈ (DataW.slice ((List.range n0).map D) ((List.range (m - n0)).map fun j => D (n0 + j))).weights Try.prog 22 → k ≤ reachBytes := by rw [← hd]; exact hz
    have hel2 : ∀ i, i < n0 → ∃ o : OpD, (∀ j, j < 7 → W.cell? (a.add (i * 7 + j)) = o.cells[j]?) ∧ o.ok ∧ o.s.size ≤ reachBytes := by
      intro i hi
      obtain ⟨cs', hc1, hc2⟩ := hel i (by omega)
      rw [cells_op] at hc1
      obtain ⟨_, _, hcell⟩ := World.cells?_some hc1
      obtain ⟨o, d0, d1, d2, d3, d4, d5, rfl, hok, hdat⟩ := op_read hc2
      refine ⟨o, fun j hj => ?_, hok, ?_⟩
      · rw [← hcell j hj, Deep.add_add]
      · have h1 := hw o.s.data.toList.length (by
          simp only [DataW.weights, Try.underlying22]
          refine List.mem_cons_of_mem _ (List.mem_append_left _ (weights_all (d := D i) (List.mem_map.2 ⟨i, List.mem_range.2 hi, rfl⟩) _ ?_))
          rw [show D i = _ from hdat]
          exact op_weight _ _ _ _ _ _ _)
        simpa using h1
    obtain ⟨f, hfo⟩ := @Deep.choose_lt OpD ⟨⟨0, 0, 0, 0, 0, 0, .empty⟩⟩ n0 _ hel2
    have hrb : reachBytes ≤ 140737488355328 := by decide
    refine ⟨(List.range n0).map f, ⟨some a, m, by simp, fun h0 => ?_⟩, fun k h => ?_, ?_, fun k h => ?_⟩
    · have h00 : 0 < n0 := by simpa using h0
      obtain ⟨b, off, spot⟩ := a
      have hsp : spot = none := by
        have h1 := (hfo 0 h00).1 0 (by omega)
        have h2 : W.cell? ((⟨b, off, spot⟩ : Addr).add (0 * 7 + 0)) = some (.int .i64 (f 0).kind) := h1
        simpa [Addr.add] using World.cell?_spot h2
      subst hsp
      refine ⟨b, off, rfl, fun k hk i hi => ?_⟩
      have hk' : k < n0 := by simpa using hk
      have h1 := (hfo k hk').1 i hi
      rw [Addr.add_lit] at h1
      rw [Nat.add_assoc, h1]
      simp
    · have hk' : k < n0 := by simpa using h
      simpa using (hfo k hk').2.1
    · have h1 := hw ((((List.range n0).map D).length + ((List.range (m - n0)).map fun j => D (n0 + j)).length) * Try.prog.bytesOf 37) (by simp only [DataW.weights, Try.underlying22]; exact List.mem_cons_self)
      have hb : Try.prog.bytesOf 37 = 64 := by kernel_rfl
      rw [hb] at h1
      simp at h1 ⊢
      omega
    · have hk' : k < n0 := by simpa using h
      have h1 := (hfo k hk').2.2
      simp
      omega

set_option maxHeartbeats 1000000 in
theorem begins_walk (v : Value) (ops : List OpD) (w : World) (hv : OpSl w v ops) (hok : ∀ k (h : k < ops.length), ops[k].ok) (hl : ops.length ≤ 9000000000000000) (hs : ∀ k (h : k < ops.length), ops[k].s.size ≤ 9000000000000000) :
    Calls Try.prog 3 #[v] w fun e w' => e = .returned (.bool true) ∧ Below w.heap.size w w' := by
  have hB : ∀ o, Below w.heap.size w (w.alloc o) := fun o => (Below.refl _ _).alloc (Nat.le_refl _) _
  have hK : Has (w.alloc (.cells #[.int .i64 7, .int .i64 8] 3)) w.heap.size 3 (ints [7, 8] ++ []) := Has.newA w _ _
  go_enter Try.func3, Try.ntmps3
  go_wp2_with fail
  refine (plays_any [7, 8] upTo_any _ _ ops _ (hv.below (hB _) (Nat.le_refl _)) (IntSl.of_has hK) (by decide) hok hl hs).mono ?_
  rintro e w2 ⟨rfl, hb2⟩
  have HB : Hid (Below w.heap.size w w2) := (hB _).trans (hb2.mono (by simp))
  clear hb2 hK hv hok hs
  go_wp2
  go_ret
  exact ⟨rfl, HB.out⟩

set_option maxRecDepth 100000 in
theorem begins_lifted (os : Os) (started : os.Started) (H : Type) (enc : TypeId × Value → H) :
    ReturnsInHanded {} Try.checked os 3 .any (Rows.beginsSpec.pre6 enc Try.prog Try.f3 Rows.beginsRow.domain false) (Rows.beginsSpec.post enc Try.prog Try.f3 false true false false) := by
  refine returnsInHanded_of_change_sized (C := Try.checked) own0 started (by kernel_rfl) Try.func3
    (ChangeSpec.witness6 (enc := enc) (C := Try.checked) false ⟨#[], #[.slice none 0 0], []⟩ 8 (by kernel_rfl) (by kernel_rfl) (by kernel_rfl) (by kernel_rfl)) ?_
  intro W base args ds gs before hval0 hW hcnd hsz0 _
  have hval : ∀ (j : Nat) t v, Try.f3.params[j]? = some t → args[j]? = some v → Value.okWide Try.prog W .any base t v := hval0
  have hsz : (DataW.weightsEach Try.prog (Try.f3.params.toList ++ Rows.beginsSpec.plain.varTypes Try.prog) (ds ++ gs)).all (· ≤ reachBytes) = true := hsz0
  have hW' := hW
  obtain ⟨p, q, hA0, hV, rfl, hfz, hnd⟩ := hW
  have hA : DataW.TrodAll enc Try.prog W 0 (fun _ => true) true Try.f3.params.toList args.toList ds p := hA0
  rw [Try.params3] at hA hval hsz
  obtain ⟨v0, vs0, d0, ds0, p0, q0, hargs, rfl, rfl, h0, r0⟩ := trodAll_cons hA
  obtain ⟨rfl, rfl, rfl⟩ := trodAll_nil r0
  obtain rfl : args = #[v0] := by cases args; simp_all
  obtain ⟨rfl, rfl⟩ := trodVars_none hV
  obtain ⟨a0, len0, cap0, rfl⟩ := okWide_slice Try.underlying22 (hval 0 22 v0 rfl rfl)
  have k0 := h0
  have lt0 : ∀ x ∈ p0, x.block < W.heap.size := by obtain ⟨m, hm⟩ := k0; exact DataW.trod_lt m _ _ _ hm
  obtain ⟨ops, ho1, ho2, ho3, ho4⟩ := script_read h0 (fun n hn => by
    have := List.all_eq_true.1 hsz n (DataW.weights_mem_each (j := 0) rfl rfl n hn)
    simpa using this) ⟨_, _, _, rfl⟩
  clear hA0 hval0 hsz0 hsz
  refine (begins_walk _ ops W ho1 ho2 ho3 ho4).mono fun e W' ⟨he, bel⟩ => ?_
  subst he
  exact ⟨_, rfl, _, _, _, [], _, [], hW', trodAll_mk1 (shut_bool Try.underlying4 _), (trodAll_cons_mk (Below.trod laidOut0 (by kernel_rfl) (of_decide_eq_true (by kernel_rfl)) k0 bel lt0) trodAll_mk0), rfl, bel.frame _, fun h => by cases h⟩

theorem begins_over : Rows.beginsRow.holds Try.pinned (OpenSpec.ofChange Rows.beginsSpec) :=
  OpenClaim.holds_of_wide 3 Try.f3 rfl rfl rfl rfl rfl rfl rfl ⟨rfl, rfl, rfl, rfl, rfl⟩ rfl rfl rfl rfl rfl (by kernel_rfl) Try.func3 (by kernel_rfl)
    (of_decide_eq_true (by kernel_rfl)) (by unfold Func.isWrapper; first | (rw [if_pos (by decide +kernel)]; kernel_rfl) | (rw [if_neg (by decide +kernel)]; exact ⟨rfl, rfl⟩))
    (fun os started H enc _ => begins_lifted os started H enc)

theorem begins_proved : Rows.BeginsSaid := begins_over
end Go.Proofs.Ytieccdjglbfiaaa
