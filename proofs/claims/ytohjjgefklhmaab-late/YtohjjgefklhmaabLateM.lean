import Derived.Test.YtohjjgefklhmaabELaw3M
import Derived.Below
namespace Go.Proofs.Ytohjjgefklhmaab
open Go.ChangeShapes Go.WideShapes Go.ChangeAt Go.RowKit
set_option linter.unusedVariables false

/-- how the due of m shares comes near to what was shared out -/
theorem due_near (m q : Int) (m1 : 1 ≤ m) (m2 : m ≤ 50000) (q0 : 0 ≤ q) (q1 : q ≤ 1000) : q - 1 ≤ m * (q * 1073741824 / m) / 1073741824 ∧ m * (q * 1073741824 / m) / 1073741824 ≤ q ∧ m * (q * 1073741824 / m) ≤ q * 1073741824 := by
  have h1 : m * (q * 1073741824 / m) ≤ q * 1073741824 := Int.mul_ediv_self_le (by omega)
  have h2 := Int.emod_add_mul_ediv (q * 1073741824) m
  have h3 := Int.emod_lt_of_pos (q * 1073741824) (show 0 < m by omega)
  generalize m * (q * 1073741824 / m) = z at *
  generalize q * 1073741824 % m = y at *
  omega

set_option maxHeartbeats 4000000 in
set_option maxRecDepth 100000 in
theorem late_walk (a b : Int) (w : World) (ha1 : -9223372036854775808 ≤ a) (ha2 : a ≤ 9223372036854775807) (hp1 : -9223372036854775808 ≤ b) (hp2 : b ≤ 9223372036854775807) :
    Calls Try.prog 4 #[.int .i64 a, .int .i64 b] w fun e w' => e = .returned (.bool true) ∧ Below w.heap.size w w' := by
  obtain ⟨r1, r2⟩ := pickN_range a 50000 (by omega)
  obtain ⟨r3, r4⟩ := pickN_range b 50000 (by omega)
  have HT : Hid (∀ u, Calls Try.prog 6 #[.int .i64 0] u fun e w' => ∃ g bv vv, e = .returned (.pointer (some ⟨g, 0, none⟩)) ∧ PE (fun k => u.heap.size ≤ k) u w' g (x0 0) bv vv (.slice none 0 0)) := two_any 0 (by omega) (by omega)
  have HPa : Hid (∀ u, Calls Try.prog 7 #[.int .i64 a, .int .i64 50000] u fun e w' => e = .returned (.int .i64 (pickN a 50000)) ∧ u = w') := fun u => pick_any a 50000 u ha1 ha2 (by omega) (by omega)
  have HPb : Hid (∀ u, Calls Try.prog 7 #[.int .i64 b, .int .i64 50000] u fun e w' => e = .returned (.int .i64 (pickN b 50000)) ∧ u = w') := fun u => pick_any b 50000 u hp1 hp2 (by omega) (by omega)
  generalize pickN a 50000 = pa at *
  generalize pickN b 50000 = pb at *
  clear ha1 ha2 hp1 hp2
  go_enter Try.func4, Try.ntmps4
  go_wp2_with fail
  refine (HT.out _).mono ?_
  rintro e w1 ⟨g, bv, vv, rfl, hP1⟩
  have HP1 : Hid (PE (fun k => w.heap.size ≤ k) w w1 g (x0 0) bv vv (.slice none 0 0)) := hP1
  clear hP1 HT
  go_wp2_with fail
  refine (HPa.out _).mono ?_
  rintro e w' ⟨rfl, rfl⟩
  clear HPa
  go_wp2_with fail
  refine (HPb.out _).mono ?_
  rintro e w' ⟨rfl, rfl⟩
  clear HPb
  go_wp2_with fail
  obtain ⟨m, hm⟩ : ∃ m, m = 1 + pa := ⟨_, rfl⟩
  obtain ⟨n, hn⟩ : ∃ n, n = 1 + pb := ⟨_, rfl⟩
  have m1 : 1 ≤ m := by omega
  have m2 : m ≤ 50000 := by omega
  have n1 : 1 ≤ n := by omega
  have n2 : n ≤ 50000 := by omega
  rw [← hm, ← hn]
  clear hm hn r1 r2 r3 r4
  refine (lbond HP1.out (x0_eq 0) (k := 1) (by omega) (x0_acct 0 1 (by omega)) m m1 (by omega) (by omega) (by omega) (by omega) (by omega) (by omega) (by omega) (by omega) (by omega) (by omega) (by omega)).mono ?_
  rintro e w2 ⟨rfl, hP2⟩
  have q2 := (x0_eq 0).bond (k := 1) (by omega) m rfl
  have a2 := (x0_eq 0).bond_at (k := 1) (by omega) m (x0_acct 0 1 (by omega))
  have b2 := (bond_ne (x0 0) m (k := 1) (k' := 2) (by omega) (by omega) (by omega)).trans (x0_acct 0 2 (by omega))
  generalize bondF (x0 0) 1 0 m = x2 at *
  have HP2 : Hid (PE (fun k => w.heap.size ≤ k) w w2 g x2 bv vv (.slice none 0 0)) := hP2
  have HQ2 : Hid (EQ x2 0 90 0 0 m 0 0 false 0 ∧ acct x2 1 = (199910 - m, m, 0) ∧ acct x2 2 = (200000, 0, 0)) := by
    refine ⟨by simpa using q2, ?_, b2⟩
    rw [a2]; simp
  clear hP2 q2 a2 b2 HP1
  go_wp2_with fail
  refine (lblock HP2.out HQ2.out.1 m1 (by omega) (by omega) (by omega) (by omega) (by omega) (by omega) (by omega) (by omega) (by omega) (by omega) (by omega) (by omega) (by omega) (by omega) (by omega)).mono ?_
  rintro e w3 ⟨rfl, hP3⟩
  have q3 := HQ2.out.1.block_off m1
  have a3 := (block_off_acct HQ2.out.1 1).trans HQ2.out.2.1
  have b3 := (block_off_acct HQ2.out.1 2).trans HQ2.out.2.2
  generalize blockF x2 = x3 at *
  have HP3 : Hid (PE (fun k => w.heap.size ≤ k) w w3 g x3 bv vv (.slice none 0 0)) := hP3
  have HQ3 : Hid (EQ x3 1 0 90 0 m 0 0 true 0 ∧ acct x3 1 = (199910 - m, m, 0) ∧ acct x3 2 = (200000, 0, 0)) := ⟨q3, a3, b3⟩
  clear hP3 q3 a3 b3 HP2 HQ2
  go_wp2_with fail
  refine (lsend HP3.out HQ3.out.1 (k := 2) (k' := 2) (by omega) (by omega) (acct_parts HQ3.out.2.2).1 (acct_parts HQ3.out.2.2).1 1 (by omega) (by omega) (by omega) (by omega) (by omega) (by omega) (by omega)).mono ?_
  rintro e w4 ⟨rfl, hP4⟩
  have q4 := HQ3.out.1.send 2 2 1
  have b4 := HQ3.out.1.send_self (k := 2) (by omega) 1 HQ3.out.2.2
  have a4 := (send_ne x3 1 (k := 2) (t' := 2) (i := 1) (by omega) (by omega)).trans HQ3.out.2.1
  generalize sendF x3 2 2 1 = x4 at *
  have HP4 : Hid (PE (fun k => w.heap.size ≤ k) w w4 g x4 bv vv (.slice none 0 0)) := hP4
  have HQ4 : Hid (EQ x4 1 90 90 0 m 0 0 true 0 ∧ acct x4 1 = (199910 - m, m, 0) ∧ acct x4 2 = (199910, 0, 0)) := ⟨q4, a4, b4⟩
  clear hP4 q4 a4 b4 HP3 HQ3
  go_wp2_with fail
  refine (lblock HP4.out HQ4.out.1 m1 (by omega) (by omega) (by omega) (by omega) (by omega) (by omega) (by omega) (by omega) (by omega) (by omega) (by omega) (by omega) (by omega) (by omega) (by omega)).mono ?_
  rintro e w5 ⟨rfl, hP5⟩
  have q5 := HQ4.out.1.block_on m1
  have a5 := (block_on_acct HQ4.out.1 m1 1 (by omega)).trans HQ4.out.2.1
  have b5 := (block_on_acct HQ4.out.1 m1 2 (by omega)).trans HQ4.out.2.2
  generalize blockF x4 = x5 at *
  obtain ⟨d1, d2, d3⟩ := due_near m 90 m1 m2 (by omega) (by omega)
  obtain ⟨p, hp⟩ : ∃ p, p = 90 * 1073741824 / m := ⟨_, rfl⟩
  have p0 : 0 ≤ p := by rw [hp]; exact Int.ediv_nonneg (by omega) (by omega)
  have p1 : p ≤ 1000000000000 := by
    have : 90 * 1073741824 / m ≤ 90 * 1073741824 := Int.ediv_le_self _ (by omega)
    omega
  rw [← hp] at d1 d2 d3
  have HP5 : Hid (PE (fun k => w.heap.size ≤ k) w w5 g x5 bv vv (.slice none 0 0)) := hP5
  have HQ5 : Hid (EQ x5 2 0 90 0 m 0 90 true p ∧ acct x5 1 = (199910 - m, m, 0) ∧ acct x5 2 = (199910, 0, 0)) := by
    refine ⟨?_, a5, b5⟩
    rw [hp]; simpa using q5
  obtain ⟨v, hv⟩ : ∃ v, v = m * (p - 0) / 1073741824 := ⟨_, rfl⟩
  have v1 : 89 ≤ v := by rw [hv, Int.sub_zero]; exact d1
  have v2 : v ≤ 90 := by rw [hv, Int.sub_zero]; exact d2
  have HV : Hid (v = m * (p - 0) / 1073741824) := hv
  have hD : m * p ≤ 4611686018427387904 := by omega
  have HD : Hid (m * (p - 0) ≤ 4611686018427387904) := by rw [Int.sub_zero]; exact hD
  clear hD
  clear hP5 q5 a5 b5 HP4 HQ4 hp d1 d2 d3 hv
  go_wp2_with fail
  refine (ldue HP5.out HQ5.out.1 (k := 1) (by omega) HQ5.out.2.1 m1 (by omega) p0 (by omega) HD.out).mono ?_
  rintro e w6 ⟨rfl, hP6⟩
  rw [← HV.out]
  have HP6 : Hid (PE (fun k => w.heap.size ≤ k) w w6 g x5 bv vv (.slice none 0 0)) := hP6
  clear hP6 HP5
  go_wp2_with fail
  refine (lbond HP6.out HQ5.out.1 (k := 2) (by omega) HQ5.out.2.2 n n1 (by omega) (by omega) (by omega) (by omega) (by omega) (by omega) (by omega) (by omega) (by omega) p0 (by omega)).mono ?_
  rintro e w7 ⟨rfl, hP7⟩
  have q7 := HQ5.out.1.bond (k := 2) (by omega) n (acct_parts HQ5.out.2.2).2.1
  have b7 := HQ5.out.1.bond_at (k := 2) (by omega) n HQ5.out.2.2
  have a7 := (bond_ne x5 n (k := 2) (k' := 1) (by omega) (by omega) (by omega)).trans HQ5.out.2.1
  generalize bondF x5 2 0 n = x7 at *
  have HP7 : Hid (PE (fun k => w.heap.size ≤ k) w w7 g x7 bv vv (.slice none 0 0)) := hP7
  have HQ7 : Hid (EQ x7 2 (0 + 90) 90 0 (m + n) 0 90 true p ∧ acct x7 1 = (199910 - m, m, 0) ∧ acct x7 2 = (199910 - 90 - n, n, p)) := ⟨q7, a7, b7⟩
  clear hP7 q7 a7 b7 HP6 HQ5
  go_wp2_with fail
  refine (ldue HP7.out HQ7.out.1 (k := 2) (by omega) HQ7.out.2.2 n1 p0 (by omega) (by omega) (by rw [Int.sub_self]; omega)).mono ?_
  rintro e w8 ⟨rfl, hP8⟩
  rw [Int.sub_self, Int.mul_zero]
  have HP8 : Hid (PE (fun k => w.heap.size ≤ k) w w8 g x7 bv vv (.slice none 0 0)) := hP8
  clear hP8 HP7
  go_wp2_with fail
  refine (ldue HP8.out HQ7.out.1 (k := 1) (by omega) HQ7.out.2.1 m1 (by omega) p0 (by omega) HD.out).mono ?_
  rintro e w9 ⟨rfl, hP9⟩
  rw [← HV.out]
  have HF : Hid (Below w.heap.size w w9) := hP9.fr.toBelow (Nat.le_refl _) (fun k hk h => by omega)
  clear hP9 HP8 HQ7 HV HD
  go_wp2
  go_ret
  refine ⟨?_, HF.out⟩
  simp
theorem own0 : ownKnob Try.prog.godebug = none := by kernel_rfl
theorem wf_i64 {a : Int} (h : (Lit.int .i64 a).wf = true) : -9223372036854775808 ≤ a ∧ a ≤ 9223372036854775807 := by
  simpa [Lit.wf, IntKind.min, IntKind.max, IntKind.signed, IntKind.bits] using h

set_option maxRecDepth 100000 in
theorem late_lifted (os : Os) (started : os.Started) (H : Type) (enc : TypeId × Value → H) :
    ReturnsInHanded {} Try.checked os 4 .any (Rows.lateSpec.pre6 enc Try.prog Try.f4 Rows.lateRow.domain false) (Rows.lateSpec.post enc Try.prog Try.f4 false true false false) := by
  refine returnsInHanded_of_change (C := Try.checked) own0 started (by kernel_rfl) Try.func4
    (ChangeSpec.witness6 (enc := enc) (C := Try.checked) false ⟨#[], #[.int .i64 0, .int .i64 0], []⟩ 8 (by kernel_rfl) (by kernel_rfl) (by kernel_rfl) (by kernel_rfl)) ?_
  intro W base args ds gs before hval0 hW hcnd _
  have hval : ∀ (j : Nat) t v, Try.f4.params[j]? = some t → args[j]? = some v → Value.okWide Try.prog W .any base t v := hval0
  have hW' := hW
  obtain ⟨p, q, hA0, hV, rfl, hfz, hnd⟩ := hW
  have hA : DataW.TrodAll enc Try.prog W 0 (fun _ => true) true Try.f4.params.toList args.toList ds p := hA0
  rw [Try.params4] at hA hval
  obtain ⟨v0, vs0, d0, ds0, p0, q0, hargs, rfl, rfl, h0, r0⟩ := trodAll_cons hA
  obtain ⟨v1, vs1, d1, ds1, p1, q1, rfl, rfl, rfl, h1, r1⟩ := trodAll_cons r0
  obtain ⟨rfl, rfl, rfl⟩ := trodAll_nil r1
  obtain rfl : args = #[v0, v1] := by cases args; simp_all
  obtain ⟨rfl, rfl⟩ := trodVars_none hV
  obtain ⟨a0, rfl, rfl, rfl, w0⟩ := open_int Try.underlying3 (hval 0 3 v0 rfl rfl) h0
  obtain ⟨a1, rfl, rfl, rfl, w1⟩ := open_int Try.underlying3 (hval 1 3 v1 rfl rfl) h1
  clear hA0 hval0
  simp only [List.append_nil] at hW'
  have q0 := wf_i64 w0
  have q1 := wf_i64 w1
  refine (late_walk a0 a1 W q0.1 q0.2 q1.1 q1.2).mono fun e W' ⟨he, bel⟩ => ?_
  subst he
  exact ⟨_, rfl, _, _, _, [], _, [], hW', trodAll_mk1 (shut_bool Try.underlying4 _), (trodAll_cons_mk (shut_int Try.underlying3 w0) (trodAll_cons_mk (shut_int Try.underlying3 w1) trodAll_mk0)), rfl, bel.frame _, fun h => by cases h⟩

theorem late_over : Rows.lateRow.holds Try.pinned (OpenSpec.ofChange Rows.lateSpec) :=
  OpenClaim.holds_of_wide 4 Try.f4 rfl rfl rfl rfl rfl rfl rfl ⟨rfl, rfl, rfl, rfl, rfl⟩ rfl rfl rfl rfl rfl (by kernel_rfl) Try.func4 (by kernel_rfl)
    (of_decide_eq_true (by kernel_rfl)) (by unfold Func.isWrapper; first | (rw [if_pos (by decide +kernel)]; kernel_rfl) | (rw [if_neg (by decide +kernel)]; exact ⟨rfl, rfl⟩))
    (fun os started H enc _ => late_lifted os started H enc)

theorem late_proved : Rows.LateSaid := late_over
end Go.Proofs.Ytohjjgefklhmaab
