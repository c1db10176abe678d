import Derived.Test.YtohjjgefklhmaaaBackSM
namespace Go.Proofs.Ytohjjgefklhmaaa
open Go.ChangeShapes Go.WideShapes Go.ChangeAt Go.RowKit
set_option linter.unusedVariables false

set_option maxHeartbeats 4000000 in
set_option maxRecDepth 100000 in
theorem back_walk (a b : Int) (w : World) (ha1 : -9223372036854775808 ≤ a) (ha2 : a ≤ 9223372036854775807) (hp1 : -9223372036854775808 ≤ b) (hp2 : b ≤ 9223372036854775807) :
    Calls Try.prog 7 #[.int .i64 a, .int .i64 b] w fun e w' => e = .returned (.bool true) ∧ Below w.heap.size w w' := by
  obtain ⟨r1, r2⟩ := pickN_range a 100000 (by omega)
  obtain ⟨m, hm⟩ : ∃ m, m = 1 + pickN a 100000 := ⟨_, rfl⟩
  have m1 : 1 ≤ m := by omega
  have m2 : m ≤ 100000 := by omega
  obtain ⟨r3, r4⟩ := pickN_range b m (by omega)
  have HT : Hid (∀ u, Calls Try.prog 18 #[.int .i64 5] u fun e w' => ∃ g bv vv, e = .returned (.pointer (some ⟨g, 0, none⟩)) ∧ PE (fun k => u.heap.size ≤ k) u w' g (x0 5) bv vv (.slice none 0 0)) := two_any 5 (by omega) (by omega)
  have HPa : Hid (∀ u, Calls Try.prog 19 #[.int .i64 a, .int .i64 100000] u fun e w' => e = .returned (.int .i64 (pickN a 100000)) ∧ u = w') := fun u => pick_any a 100000 u ha1 ha2 (by omega) (by omega)
  have HPb : Hid (∀ u, Calls Try.prog 19 #[.int .i64 b, .int .i64 m] u fun e w' => e = .returned (.int .i64 (pickN b m)) ∧ u = w') := fun u => pick_any b m u hp1 hp2 (by omega) (by omega)
  generalize pickN a 100000 = pa at *
  generalize pickN b m = pb at *
  have HM : Hid (1 + pa = m) := hm.symm
  clear ha1 ha2 hp1 hp2 hm
  go_enter Try.func7, Try.ntmps7
  go_wp2_with fail
  refine (HT.out _).mono ?_
  rintro e w1 ⟨g, bv, vv, rfl, hP1⟩
  have H1 : Hid (CS (fun k => w.heap.size ≤ k) w w1 g bv vv (fun x => QC x 0 0 0 [200000, 200000, 200000, 200000] ⟨1, 0, 0, 0, 0, 0, false, false⟩ [] 0)) := ⟨x0 5, ⟨_, hP1⟩, x0_fine 5 (by omega) (by omega), x0_qc⟩
  clear hP1 HT
  go_wp2_with fail
  refine (HPa.out _).mono ?_
  rintro e w' ⟨rfl, rfl⟩
  clear HPa
  go_wp2_with fail
  rw [HM.out]
  refine (cBond H1.out rfl m m1 (by omega) (by show m + 90 ≤ 200000; omega)).mono ?_
  rintro e w2 ⟨rfl, hc⟩
  have H2 : Hid (CS (fun k => w.heap.size ≤ k) w w2 g bv vv (fun x => QC x 0 90 0 [200000, 200000, 199910 - m, 200000] ⟨1, 0, m, m, 0, 0, false, false⟩ [] m)) := hc
  clear hc H1 HM r1 r2
  go_wp2_with fail
  refine (HPb.out _).mono ?_
  rintro e w' ⟨rfl, rfl⟩
  clear HPb
  go_wp2_with fail
  obtain ⟨k, hk⟩ : ∃ k, k = 1 + pb := ⟨_, rfl⟩
  have k1 : 1 ≤ k := by omega
  have k2 : k ≤ m := by omega
  rw [← hk]
  clear hk r3 r4
  refine (cUnbB H2.out m2 k1 k2).mono ?_
  rintro e w3 ⟨rfl, hc⟩
  have H3 : Hid (CS (fun k => w.heap.size ≤ k) w w3 g bv vv (BQ m k 0)) := hc
  clear hc H2
  go_wp2
  go_loopw [10] (fun i wr => ∃ n : Nat, n ≤ 3 ∧ i = .int .i64 n ∧ CS (fun k => w.heap.size ≤ k) w wr g bv vv (BQ m k n)) (fun i _ => 3 - (intOf i).toNat)
  case atStart => exact ⟨0, by omega, rfl, H3.out⟩
  case round =>
    clear H3
    obtain ⟨n, hn, rfl, hc⟩ := hrel
    have HC : Hid (CS (fun k => w.heap.size ≤ k) w wr g bv vv (BQ m k n)) := hc
    clear hc
    have hsm : ∀ x, BQ m k n x → x.ents.length ≤ 1000 := fun x q => by
      rw [(q.seen hn).2.1]; split <;> simp
    have HSee : Hid (Calls Try.prog 15 #[.pointer (some ⟨g, 0, none⟩)] wr fun e w' => ∃ x, BQ m k n x ∧ SeeQ wr w' e x) := cSee HC.out hsm
    clear hsm
    by_cases hlt : n < 3
    · go_wp2_with fail
      refine HSee.out.mono ?_
      rintro e w5 ⟨x5, q5, sb, sv, sd, se, rfl, hsb, hsv, hse, ⟨da, dn, dc, rfl⟩, hb5⟩
      obtain ⟨s1, s2, ins, s3⟩ := q5.seen hn
      rw [if_pos hlt] at s1 s2
      rw [s1] at hsb
      rw [s2] at hse
      rw [s3] at hsv
      obtain ⟨b1, bc1, rfl⟩ := ownsRow_slice hsb
      obtain ⟨va1, vc1, rfl⟩ := ownsRow_slice hsv
      obtain ⟨ea1, ec1, rfl⟩ := ownsRow_slice hse
      obtain ⟨gb, rfl, _⟩ := ownsRow_some hsb (by simp)
      obtain ⟨gv, rfl, _⟩ := ownsRow_some hsv (by simp)
      obtain ⟨ge, rfl, _⟩ := ownsRow_some hse (by simp)
      have H5 : Hid (∀ o, CS (fun k => w.heap.size ≤ k) w (w5.alloc o) g bv vv (BQ m k n)) := fun o => (HC.out.below hb5).below ((Below.refl _ _).alloc (Nat.le_refl _) o)
      have H5d : Hid (∀ o, CS (fun k => w.heap.size ≤ k) w (w5.alloc o).drew g bv vv (BQ m k n)) := fun o => (HC.out.below hb5).below (((Below.refl _ _).alloc (Nat.le_refl _) o).drew)
      have y2 : w5.cell? ⟨gb, 2, none⟩ = some (.int .i64 (199820 - m)) := hsb.cellAt 2 (by simp)
      have z3 : w5.cell? ⟨ge, 3, none⟩ = some (.int .i64 k) := hse.cellAt 3 (by simp)
      have v2 : w5.cell? ⟨gv, 10, none⟩ = some (.int .i64 (m - k)) := hsv.cellAt 10 (by simp)
      have lgb : gb < w5.heap.size := World.block_lt_of_cell? w5 _ y2
      have lgv : gv < w5.heap.size := World.block_lt_of_cell? w5 _ v2
      have lge : ge < w5.heap.size := World.block_lt_of_cell? w5 _ z3
      have HBl : Hid (∀ u, CS (fun k => w.heap.size ≤ k) w u g bv vv (BQ m k n) → Calls Try.prog 17 #[.pointer (some ⟨g, 0, none⟩)] u fun e w' => e = .returned (.int .i64 0) ∧ CS (fun k => w.heap.size ≤ k) w w' g bv vv (BQ m k (n + 1))) := fun u hu => cBlockB hu hlt k2
      clear hsb hsv hse hb5 q5 HC HSee s1 s2 s3
      go_wp2_with fail
      all_goals try go_region
      all_goals try go_wp2_with fail
      refine (HBl.out _ (by first | exact H5.out _ | exact H5d.out _)).mono ?_
      rintro e w6 ⟨rfl, hc6⟩
      have H6 : Hid (CS (fun k => w.heap.size ≤ k) w w6 g bv vv (BQ m k (n + 1))) := hc6
      clear hc6 H5 H5d HBl y2 z3 v2 lgb lgv lge
      go_wp2
      refine And.intro ?_ ?_
      · first | exact ⟨n + 1, by omega, by go_num, H6.out⟩ | ((repeat apply Exists.intro); exact ⟨⟨n + 1, by omega, by go_num, H6.out⟩, rfl⟩)
      · simp [intOf]; omega
    · have en : n = 3 := by omega
      subst en
      go_wp2_with fail
      refine HSee.out.mono ?_
      rintro e w5 ⟨x5, q5, sb, sv, sd, se, rfl, hsb, hsv, hse, ⟨da, dn, dc, rfl⟩, hb5⟩
      obtain ⟨s1, s2, ins, s3⟩ := q5.seen hn
      rw [if_neg hlt] at s1 s2
      rw [s1] at hsb
      rw [s2] at hse
      obtain ⟨b1, bc1, rfl⟩ := ownsRow_slice hsb
      obtain ⟨va1, vc1, rfl⟩ := ownsRow_slice hsv
      obtain ⟨ea1, ec1, rfl⟩ := ownsRow_slice hse
      obtain ⟨gb, rfl, _⟩ := ownsRow_some hsb (by simp)
      have HF : Hid (∀ u, Below w5.heap.size w5 u → Below w.heap.size w u) := fun u hu => by
        obtain ⟨x, ⟨ev, hP⟩, _, _⟩ := HC.out
        have h1 := (hP.below hb5).fr.toBelow (B := w.heap.size) (Nat.le_refl _) (fun k hk h => by omega)
        exact h1.trans (hu.mono h1.size)
      have HFa : Hid (∀ o, Below w.heap.size w (w5.alloc o)) := fun o => HF.out _ ((Below.refl _ _).alloc (Nat.le_refl _) o)
      have HFb : Hid (∀ o, Below w.heap.size w (w5.alloc o).drew) := fun o => HF.out _ ((Below.refl _ _).alloc (Nat.le_refl _) o).drew
      have y2 : w5.cell? ⟨gb, 2, none⟩ = some (.int .i64 (199820 - m + k)) := hsb.cellAt 2 (by simp)
      have lgb : gb < w5.heap.size := World.block_lt_of_cell? w5 _ y2
      clear hsb hsv hse hb5 q5 HC HSee s1 s2 s3 HF
      go_wp2
      all_goals try go_region
      all_goals try go_wp2
      all_goals go_ret
      all_goals first | exact ⟨by simp, HFa.out _⟩ | exact ⟨by simp, HFb.out _⟩ | exact ⟨rfl, HFa.out _⟩ | exact ⟨rfl, HFb.out _⟩

set_option maxRecDepth 100000 in
theorem back_lifted (os : Os) (started : os.Started) (H : Type) (enc : TypeId × Value → H) :
    ReturnsInHanded {} Try.checked os 7 .any (Rows.backSpec.pre6 enc Try.prog Try.f7 Rows.backRow.domain false) (Rows.backSpec.post enc Try.prog Try.f7 false true false false) := by
  refine returnsInHanded_of_change (C := Try.checked) own0 started (by kernel_rfl) Try.func7
    (ChangeSpec.witness6 (enc := enc) (C := Try.checked) false ⟨#[], #[.int .i64 0, .int .i64 0], []⟩ 8 (by kernel_rfl) (by kernel_rfl) (by kernel_rfl) (by kernel_rfl)) ?_
  intro W base args ds gs before hval0 hW hcnd _
  have hval : ∀ (j : Nat) t v, Try.f7.params[j]? = some t → args[j]? = some v → Value.okWide Try.prog W .any base t v := hval0
  have hW' := hW
  obtain ⟨p, q, hA0, hV, rfl, hfz, hnd⟩ := hW
  have hA : DataW.TrodAll enc Try.prog W 0 (fun _ => true) true Try.f7.params.toList args.toList ds p := hA0
  rw [Try.params7] at hA hval
  obtain ⟨v0, vs0, d0, ds0, p0, q0, hargs, rfl, rfl, h0, r0⟩ := trodAll_cons hA
  obtain ⟨v1, vs1, d1, ds1, p1, q1, rfl, rfl, rfl, h1, r1⟩ := trodAll_cons r0
  obtain ⟨rfl, rfl, rfl⟩ := trodAll_nil r1
  obtain rfl : args = #[v0, v1] := by cases args; simp_all
  obtain ⟨rfl, rfl⟩ := trodVars_none hV
  obtain ⟨a0, rfl, rfl, rfl, w0⟩ := open_int Try.underlying3 (hval 0 3 v0 rfl rfl) h0
  obtain ⟨a1, rfl, rfl, rfl, w1⟩ := open_int Try.underlying3 (hval 1 3 v1 rfl rfl) h1
  clear hA0 hval0
  simp only [List.append_nil] at hW'
  have q0 := wf_i64 w0
  have q1 := wf_i64 w1
  refine (back_walk a0 a1 W q0.1 q0.2 q1.1 q1.2).mono fun e W' ⟨he, bel⟩ => ?_
  subst he
  exact ⟨_, rfl, _, _, _, [], _, [], hW', trodAll_mk1 (shut_bool Try.underlying4 _), (trodAll_cons_mk (shut_int Try.underlying3 w0) (trodAll_cons_mk (shut_int Try.underlying3 w1) trodAll_mk0)), rfl, bel.frame _, fun h => by cases h⟩

theorem back_over : Rows.backRow.holds Try.pinned (OpenSpec.ofChange Rows.backSpec) :=
  OpenClaim.holds_of_wide 7 Try.f7 rfl rfl rfl rfl rfl rfl rfl ⟨rfl, rfl, rfl, rfl, rfl⟩ rfl rfl rfl rfl rfl (by kernel_rfl) Try.func7 (by kernel_rfl)
    (of_decide_eq_true (by kernel_rfl)) (by unfold Func.isWrapper; first | (rw [if_pos (by decide +kernel)]; kernel_rfl) | (rw [if_neg (by decide +kernel)]; exact ⟨rfl, rfl⟩))
    (fun os started H enc _ => back_lifted os started H enc)

theorem back_proved : Rows.BackSaid := back_over
end Go.Proofs.Ytohjjgefklhmaaa
