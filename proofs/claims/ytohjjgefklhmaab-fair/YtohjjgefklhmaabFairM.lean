import Derived.Test.YtohjjgefklhmaabELaw3M
import Derived.Below
namespace Go.Proofs.Ytohjjgefklhmaab
open Go.ChangeShapes Go.WideShapes Go.ChangeAt Go.RowKit
set_option linter.unusedVariables false

/-- behind n rounds -/
structure FS (x : EC) (m q : Int) (n : Nat) : Prop where
  e : EQ x (1 + n) 0 270 13 (4 * m) (23 * n) (180 * n) true (n * q)
  a0 : acct x 0 = (200000 - 181 * (n : Int), 0, 0)
  a1 : acct x 1 = (199910 - m + (n : Int), m, 0)
  a2 : acct x 2 = (199910 - m, m, 0)
  a3 : acct x 3 = (199910 - 2 * m, 2 * m, 0)

theorem FS.next {x : EC} {m q : Int} {n : Nat} (h : FS x m q n) (m1 : 1 ≤ m) (hq : q = 157 * 1073741824 / (4 * m)) : FS (blockF (sendF (sendF x 0 0 1) 0 1 1)) m q (n + 1) := by
  have q1 := h.e.send 0 0 1
  have q2 := q1.send 0 1 1
  have t1 : 1 ≤ 4 * m := by omega
  have q3 := q2.block_on t1
  have b0 := h.e.send_self (k := 0) (by omega) 1 h.a0
  have c0 := q1.send_from (k := 0) (t' := 1) (by omega) (by omega) 1 b0
  have b1 := (send_ne x 1 (k := 0) (t' := 0) (i := 1) (by omega) (by omega)).trans h.a1
  have c1 := q1.send_to (k := 0) (t' := 1) (by omega) (by omega) 1 b1
  have c2 := ((send_ne (sendF x 0 0 1) 1 (k := 0) (t' := 1) (i := 2) (by omega) (by omega)).trans (send_ne x 1 (k := 0) (t' := 0) (i := 2) (by omega) (by omega))).trans h.a2
  have c3 := ((send_ne (sendF x 0 0 1) 1 (k := 0) (t' := 1) (i := 3) (by omega) (by omega)).trans (send_ne x 1 (k := 0) (t' := 0) (i := 3) (by omega) (by omega))).trans h.a3
  refine ⟨?_, ?_, ?_, ?_, ?_⟩
  · have e1 : (1 : Int) + (n : Int) + 1 = 1 + ((n + 1 : Nat) : Int) := by omega
    have e2 : 23 * (n : Int) + (0 + 90 + 90) * 13 / 100 = 23 * ((n + 1 : Nat) : Int) := by omega
    have e3 : 180 * (n : Int) + (0 + 90 + 90) = 180 * ((n + 1 : Nat) : Int) := by omega
    have e4 : (n : Int) * q + (0 + 90 + 90 - (0 + 90 + 90) * 13 / 100) * 1073741824 / (4 * m) = ((n + 1 : Nat) : Int) * q := by
      rw [show ((0 : Int) + 90 + 90 - (0 + 90 + 90) * 13 / 100) = 157 from rfl, ← hq, Int.natCast_succ, Int.add_mul, Int.one_mul]
    rw [e1, e2, e3, e4] at q3
    exact q3
  · rw [block_on_acct q2 t1 0 (by omega), c0]
    simp only [Prod.mk.injEq, and_true]; omega
  · rw [block_on_acct q2 t1 1 (by omega), c1]
    simp only [Prod.mk.injEq, and_true]; omega
  · rw [block_on_acct q2 t1 2 (by omega), c2]
  · rw [block_on_acct q2 t1 3 (by omega), c3]

/-- the numbers -/
theorem fair_num (m q N D1 D3 mz : Int) (m1 : 1 ≤ m) (m2 : m ≤ 50000) (n0 : 0 ≤ N) (n1 : N ≤ 30) (hq : q = 157 * 1073741824 / (4 * m)) (hz : mz = m * (N * q)) (h1 : D1 = m * (N * q - 0) / 1073741824) (h3 : D3 = 2 * m * (N * q - 0) / 1073741824) :
    D3 - 2 * D1 ≤ 1 ∧ 0 ≤ D3 - 2 * D1 ∧ 0 ≤ 157 * N - 2 * D1 - D3 ∧ 157 * N - 2 * D1 - D3 < 6 ∧ 0 ≤ mz ∧ mz ≤ 157 * 30 * 1073741824 ∧ 0 ≤ D1 ∧ D1 ≤ 4710 ∧ 0 ≤ N * q ∧ N * q ≤ 6000000000000 := by
  have q0 : 0 ≤ q := by rw [hq]; exact Int.ediv_nonneg (by omega) (by omega)
  have a1 : 4 * m * q ≤ 157 * 1073741824 := by rw [hq]; exact Int.mul_ediv_self_le (by omega)
  have a2 : 157 * 1073741824 - 4 * m < 4 * m * q := by
    have h2 := Int.emod_add_mul_ediv (157 * 1073741824) (4 * m)
    have h3 := Int.emod_lt_of_pos (157 * 1073741824) (show 0 < 4 * m by omega)
    rw [← hq] at h2
    generalize 4 * m * q = z at *
    generalize 157 * 1073741824 % (4 * m) = y at *
    omega
  have q9 : q ≤ 157 * 1073741824 := by
    rw [hq]; exact Int.ediv_le_self _ (by omega)
  have b1 : 4 * mz ≤ 157 * 1073741824 * N := by
    rw [hz, show 4 * (m * (N * q)) = (4 * m * q) * N by rw [Int.mul_assoc, Int.mul_assoc, Int.mul_comm N q]]
    exact Int.mul_le_mul_of_nonneg_right a1 n0
  have b2 : (157 * 1073741824 - 4 * m) * N ≤ 4 * mz := by
    rw [hz, show 4 * (m * (N * q)) = (4 * m * q) * N by rw [Int.mul_assoc, Int.mul_assoc, Int.mul_comm N q]]
    exact Int.mul_le_mul_of_nonneg_right (by omega) n0
  have b3 : 4 * m * N ≤ 200000 * 30 := Int.mul_le_mul (by omega) n1 n0 (by omega)
  rw [Int.sub_mul] at b2
  have b4 : 0 ≤ N * q := Int.mul_nonneg n0 q0
  have b5 : N * q ≤ 30 * (157 * 1073741824) := Int.mul_le_mul n1 q9 q0 (by omega)
  have b6 : 0 ≤ mz := by rw [hz]; exact Int.mul_nonneg (by omega) b4
  rw [Int.sub_zero, ← hz] at h1
  rw [Int.sub_zero, Int.mul_assoc, ← hz] at h3
  generalize 4 * m * N = u at *
  generalize N * q = v at *
  omega

set_option maxHeartbeats 4000000 in
set_option maxRecDepth 100000 in
theorem fair_walk (a blocks : Int) (w : World) (ha1 : -9223372036854775808 ≤ a) (ha2 : a ≤ 9223372036854775807) (hp1 : -9223372036854775808 ≤ blocks) (hp2 : blocks ≤ 9223372036854775807) :
    Calls Try.prog 3 #[.int .i64 a, .int .i64 blocks] w fun e w' => e = .returned (.bool true) ∧ Below w.heap.size w w' := by
  obtain ⟨r1, r2⟩ := pickN_range a 50000 (by omega)
  obtain ⟨r3, r4⟩ := pickN_range blocks 30 (by omega)
  have HT : Hid (∀ u, Calls Try.prog 6 #[.int .i64 13] u fun e w' => ∃ g bv vv, e = .returned (.pointer (some ⟨g, 0, none⟩)) ∧ PE (fun k => u.heap.size ≤ k) u w' g (x0 13) bv vv (.slice none 0 0)) := two_any 13 (by omega) (by omega)
  have HPa : Hid (∀ u, Calls Try.prog 7 #[.int .i64 a, .int .i64 50000] u fun e w' => e = .returned (.int .i64 (pickN a 50000)) ∧ u = w') := fun u => pick_any a 50000 u ha1 ha2 (by omega) (by omega)
  have HPb : Hid (∀ u, Calls Try.prog 7 #[.int .i64 blocks, .int .i64 30] u fun e w' => e = .returned (.int .i64 (pickN blocks 30)) ∧ u = w') := fun u => pick_any blocks 30 u hp1 hp2 (by omega) (by omega)
  generalize pickN a 50000 = pa at *
  generalize pickN blocks 30 = pb at *
  clear ha1 ha2 hp1 hp2
  go_enter Try.func3, Try.ntmps3
  go_wp2_with fail
  refine (HT.out _).mono ?_
  rintro e w1 ⟨g, bv, vv, rfl, hP1⟩
  have HP1 : Hid (PE (fun k => w.heap.size ≤ k) w w1 g (x0 13) bv vv (.slice none 0 0)) := hP1
  clear hP1 HT
  go_wp2_with fail
  refine (HPa.out _).mono ?_
  rintro e w' ⟨rfl, rfl⟩
  clear HPa
  go_wp2_with fail
  obtain ⟨m, hm⟩ : ∃ m, m = 1 + pa := ⟨_, rfl⟩
  have m1 : 1 ≤ m := by omega
  have m2 : m ≤ 50000 := by omega
  rw [← hm]
  clear hm r1 r2
  refine (lbond HP1.out (x0_eq 13) (k := 1) (by omega) (x0_acct 13 1 (by omega)) m m1 (by omega) (by omega) (by omega) (by omega) (by omega) (by omega) (by omega) (by omega) (by omega) (by omega) (by omega)).mono ?_
  rintro e w2 ⟨rfl, hP2⟩
  have q2 := (x0_eq 13).bond (k := 1) (by omega) m rfl
  have a2 := (x0_eq 13).bond_at (k := 1) (by omega) m (x0_acct 13 1 (by omega))
  have b2 := fun k (h1 : 1 ≠ k) (h4 : k < 4) => (bond_ne (x0 13) m (k := 1) (k' := k) h1 (by omega) h4).trans (x0_acct 13 k h4)
  generalize bondF (x0 13) 1 0 m = x2 at *
  have HP2 : Hid (PE (fun k => w.heap.size ≤ k) w w2 g x2 bv vv (.slice none 0 0)) := hP2
  have HQ2 : Hid (EQ x2 0 90 0 13 m 0 0 false 0 ∧ acct x2 0 = (200000, 0, 0) ∧ acct x2 1 = (199910 - m, m, 0) ∧ acct x2 2 = (200000, 0, 0) ∧ acct x2 3 = (200000, 0, 0)) := by
    refine ⟨by simpa using q2, b2 0 (by omega) (by omega), ?_, b2 2 (by omega) (by omega), b2 3 (by omega) (by omega)⟩
    rw [a2]; simp
  clear hP2 q2 a2 b2 HP1
  go_wp2_with fail
  refine (lbond HP2.out HQ2.out.1 (k := 2) (by omega) HQ2.out.2.2.2.1 m m1 (by omega) (by omega) (by omega) (by omega) (by omega) (by omega) (by omega) (by omega) (by omega) (by omega) (by omega)).mono ?_
  rintro e w3 ⟨rfl, hP3⟩
  have q3 := HQ2.out.1.bond (k := 2) (by omega) m (acct_parts HQ2.out.2.2.2.1).2.1
  have a3 := HQ2.out.1.bond_at (k := 2) (by omega) m HQ2.out.2.2.2.1
  have b3 := fun k (h1 : 2 ≠ k) (h4 : k < 4) => bond_ne x2 m (k := 2) (k' := k) h1 (by omega) h4
  generalize bondF x2 2 0 m = x3 at *
  have HP3 : Hid (PE (fun k => w.heap.size ≤ k) w w3 g x3 bv vv (.slice none 0 0)) := hP3
  have HQ3 : Hid (EQ x3 0 180 0 13 (2 * m) 0 0 false 0 ∧ acct x3 0 = (200000, 0, 0) ∧ acct x3 1 = (199910 - m, m, 0) ∧ acct x3 2 = (199910 - m, m, 0) ∧ acct x3 3 = (200000, 0, 0)) := by
    refine ⟨?_, (b3 0 (by omega) (by omega)).trans HQ2.out.2.1, (b3 1 (by omega) (by omega)).trans HQ2.out.2.2.1, ?_, (b3 3 (by omega) (by omega)).trans HQ2.out.2.2.2.2⟩
    · rw [Int.two_mul]; exact q3
    · rw [a3]; rfl
  clear hP3 q3 a3 b3 HP2 HQ2
  go_wp2_with fail
  refine (lbond HP3.out HQ3.out.1 (k := 3) (by omega) HQ3.out.2.2.2.2 (2 * m) (by omega) (by omega) (by omega) (by omega) (by omega) (by omega) (by omega) (by omega) (by omega) (by omega) (by omega) (by omega)).mono ?_
  rintro e w4 ⟨rfl, hP4⟩
  have q4 := HQ3.out.1.bond (k := 3) (by omega) (2 * m) (acct_parts HQ3.out.2.2.2.2).2.1
  have a4 := HQ3.out.1.bond_at (k := 3) (by omega) (2 * m) HQ3.out.2.2.2.2
  have b4 := fun k (h1 : 3 ≠ k) (h4 : k < 4) => bond_ne x3 (2 * m) (k := 3) (k' := k) h1 (by omega) h4
  generalize bondF x3 3 0 (2 * m) = x4 at *
  have HP4 : Hid (PE (fun k => w.heap.size ≤ k) w w4 g x4 bv vv (.slice none 0 0)) := hP4
  have HQ4 : Hid (EQ x4 0 270 0 13 (4 * m) 0 0 false 0 ∧ acct x4 0 = (200000, 0, 0) ∧ acct x4 1 = (199910 - m, m, 0) ∧ acct x4 2 = (199910 - m, m, 0) ∧ acct x4 3 = (199910 - 2 * m, 2 * m, 0)) := by
    refine ⟨?_, (b4 0 (by omega) (by omega)).trans HQ3.out.2.1, (b4 1 (by omega) (by omega)).trans HQ3.out.2.2.1, (b4 2 (by omega) (by omega)).trans HQ3.out.2.2.2.1, ?_⟩
    · rw [show 4 * m = 2 * m + 2 * m by omega]; exact q4
    · rw [a4]; rfl
  clear hP4 q4 a4 b4 HP3 HQ3
  go_wp2_with fail
  refine (lblock HP4.out HQ4.out.1 (by omega) (by omega) (by omega) (by omega) (by omega) (by omega) (by omega) (by omega) (by omega) (by omega) (by omega) (by omega) (by omega) (by omega) (by omega) (by omega)).mono ?_
  rintro e w5 ⟨rfl, hP5⟩
  have q5 := HQ4.out.1.block_off (by omega)
  have b5 := fun k => block_off_acct HQ4.out.1 k
  generalize blockF x4 = x5 at *
  have HP5 : Hid (PE (fun k => w.heap.size ≤ k) w w5 g x5 bv vv (.slice none 0 0)) := hP5
  obtain ⟨q, hq⟩ : ∃ q, q = 157 * 1073741824 / (4 * m) := ⟨_, rfl⟩
  have Hq : Hid (q = 157 * 1073741824 / (4 * m)) := hq
  have HS : Hid (FS x5 m q 0) := by
    refine ⟨?_, (b5 0).trans HQ4.out.2.1, ((b5 1).trans HQ4.out.2.2.1).trans ?_, (b5 2).trans HQ4.out.2.2.2.1, (b5 3).trans HQ4.out.2.2.2.2⟩
    · have : (((0 : Nat) : Int)) * q = 0 := by simp
      rw [this]; exact q5
    · rw [Int.natCast_zero, Int.add_zero]
  clear hP5 q5 b5 HP4 HQ4 hq
  go_wp2_with fail
  go_loopw [10] (fun i wr => ∃ n : Nat, (n : Int) ≤ pb ∧ i = .int .i64 n ∧ ∃ x, FS x m q n ∧ PE (fun k => w.heap.size ≤ k) w wr g x bv vv (.slice none 0 0)) (fun i _ => pb.toNat - (intOf i).toNat)
  case atStart => exact ⟨0, by omega, rfl, x5, HS.out, HP5.out⟩
  case round =>
    clear HP5 HS
    obtain ⟨n, hn, rfl, x, hS, hP⟩ := hrel
    have HS : Hid (FS x m q n) := hS
    have HP : Hid (PE (fun k => w.heap.size ≤ k) w wr g x bv vv (.slice none 0 0)) := hP
    obtain ⟨N1, N2, N3, N4, N5, N6, N7, N8, N9, N10⟩ := fair_num m q n _ _ _ m1 m2 (by omega) (by omega) Hq.out rfl rfl rfl
    by_cases hlt : (n : Int) < pb
    · have hb0 := (acct_parts hS.a0).1
      have hb1 := (acct_parts hS.a1).1
      clear N1 N2 N3 N4 N5 N6 N7 N8 hS hP
      have HN : Hid (0 ≤ (n : Int) * q ∧ (n : Int) * q ≤ 6000000000000) := ⟨N9, N10⟩
      have HB : Hid (x.balAt 0 = 200000 - 181 * (n : Int) ∧ x.balAt 1 = 199910 - m + (n : Int)) := ⟨hb0, hb1⟩
      clear N9 N10 hb0 hb1
      go_wp2_with fail
      refine (HPb.out _).mono ?_
      rintro e w' ⟨rfl, rfl⟩
      go_wp2_with fail
      refine (lsend HP.out HS.out.e (k := 0) (k' := 0) (by omega) (by omega) HB.out.1 HB.out.1 1 (by omega) (by omega) (by omega) (by omega) (by omega) (by omega) (by omega)).mono ?_
      rintro e w2 ⟨rfl, hP2⟩
      have HP2 : Hid (PE (fun k => w.heap.size ≤ k) w w2 g (sendF x 0 0 1) bv vv (.slice none 0 0)) := hP2
      have hc0 := HS.out.e.send_self (k := 0) (by omega) 1 HS.out.a0
      have hc1 := (send_ne x 1 (k := 0) (t' := 0) (i := 1) (by omega) (by omega)).trans HS.out.a1
      have HC : Hid ((sendF x 0 0 1).balAt 0 = 200000 - 181 * (n : Int) - 90 ∧ (sendF x 0 0 1).balAt 1 = 199910 - m + (n : Int)) := ⟨(acct_parts hc0).1, (acct_parts hc1).1⟩
      clear hP2 HP hc0 hc1
      go_wp2_with fail
      refine (lsend HP2.out (HS.out.e.send 0 0 1) (k := 0) (k' := 1) (by omega) (by omega) HC.out.1 HC.out.2 1 (by omega) (by omega) (by omega) (by omega) (by omega) (by omega) (by omega)).mono ?_
      rintro e w3 ⟨rfl, hP3⟩
      have HP3 : Hid (PE (fun k => w.heap.size ≤ k) w w3 g (sendF (sendF x 0 0 1) 0 1 1) bv vv (.slice none 0 0)) := hP3
      clear hP3 HP2 HC
      go_wp2_with fail
      refine (lblock HP3.out ((HS.out.e.send 0 0 1).send 0 1 1) (by omega) (by omega) (by omega) (by omega) (by omega) (by omega) (by omega) (by omega) (by omega) (by omega) (by omega) (by omega) HN.out.1 (by have := HN.out.2; omega) (by omega) (by omega)).mono ?_
      rintro e w4 ⟨rfl, hP4⟩
      have HP4 : Hid (PE (fun k => w.heap.size ≤ k) w w4 g (blockF (sendF (sendF x 0 0 1) 0 1 1)) bv vv (.slice none 0 0)) := hP4
      have HS4 : Hid (FS (blockF (sendF (sendF x 0 0 1) 0 1 1)) m q (n + 1)) := HS.out.next m1 Hq.out
      clear hP4 HP3 HS HB HN
      go_wp2
      refine And.intro ?_ ?_
      · first | exact ⟨n + 1, by omega, by go_num, _, HS4.out, HP4.out⟩ | ((repeat apply Exists.intro); exact ⟨⟨n + 1, by omega, by go_num, _, HS4.out, HP4.out⟩, rfl⟩)
      · simp [intOf]; omega
    · have HD1 : Hid (m * ((n : Int) * q - 0) ≤ 4611686018427387904 ∧ 2 * m * ((n : Int) * q - 0) ≤ 4611686018427387904) := by
        rw [Int.sub_zero, Int.mul_assoc]; exact ⟨by omega, by omega⟩
      have HN : Hid (0 ≤ (n : Int) * q ∧ (n : Int) * q ≤ 4000000000000000000) := ⟨N9, by omega⟩
      obtain ⟨D1, hD1⟩ : ∃ D, D = m * ((n : Int) * q - 0) / 1073741824 := ⟨_, rfl⟩
      obtain ⟨D3, hD3⟩ : ∃ D, D = 2 * m * ((n : Int) * q - 0) / 1073741824 := ⟨_, rfl⟩
      rw [← hD1] at N1 N2 N3 N4 N7 N8
      rw [← hD3] at N1 N2 N3 N4
      have H1 : Hid (D1 = m * ((n : Int) * q - 0) / 1073741824) := hD1
      have H3 : Hid (D3 = 2 * m * ((n : Int) * q - 0) / 1073741824) := hD3
      clear N5 N6 N9 N10 hS hP hD1 hD3
      go_wp2_with fail
      refine (HPb.out _).mono ?_
      rintro e w' ⟨rfl, rfl⟩
      go_wp2_with fail
      refine (ldue HP.out HS.out.e (k := 1) (by omega) HS.out.a1 m1 (by omega) HN.out.1 HN.out.2 HD1.out.1).mono ?_
      rintro e w2 ⟨rfl, hP2⟩
      rw [← H1.out]
      have HP2 : Hid (PE (fun k => w.heap.size ≤ k) w w2 g x bv vv (.slice none 0 0)) := hP2
      clear hP2 HP
      go_wp2_with fail
      refine (ldue HP2.out HS.out.e (k := 2) (by omega) HS.out.a2 m1 (by omega) HN.out.1 HN.out.2 HD1.out.1).mono ?_
      rintro e w3 ⟨rfl, hP3⟩
      rw [← H1.out]
      have HP3 : Hid (PE (fun k => w.heap.size ≤ k) w w3 g x bv vv (.slice none 0 0)) := hP3
      clear hP3 HP2
      go_wp2_with fail
      refine (ldue HP3.out HS.out.e (k := 3) (by omega) HS.out.a3 (by omega) (by omega) HN.out.1 HN.out.2 HD1.out.2).mono ?_
      rintro e w4 ⟨rfl, hP4⟩
      rw [← H3.out]
      have HP4 : Hid (PE (fun k => w.heap.size ≤ k) w w4 g x bv vv (.slice none 0 0)) := hP4
      clear hP4 HP3 H1 H3 HD1 HN
      have HL : Hid (x.vals.length = 2 ∧ VB x.vals ∧ EB x.ents ∧ x.ents.length ≤ 1000 ∧ x.bal.length ≤ 6) := by
        refine ⟨HS.out.e.len, ?_, ?_, by rw [HS.out.e.en]; simp, by rw [HS.out.e.bl]; omega⟩
        · intro j hj
          rw [x.val_eq hj]
          have : j = 0 ∨ j = 1 := by rw [HS.out.e.len] at hj; omega
          rcases this with rfl | rfl
          · rw [HS.out.e.val0]; exact ⟨by show 0 ≤ 4 * m; omega, by show 4 * m ≤ _; omega⟩
          · rw [HS.out.e.val1]; exact ⟨by decide, by decide⟩
        · intro j hj
          rw [HS.out.e.en] at hj
          simp at hj
      go_wp2_with fail
      refine (ksee g x bv vv _ _ HP4.out HL.out.2.1 HL.out.2.2.1 HL.out.2.2.2.2 (by rw [HL.out.1]; omega) HL.out.2.2.2.1).mono ?_
      rintro e w5 ⟨sb, sv, sd, se, s1, s2, rfl, hsb, hsv, hse, ⟨da, dn, dc, rfl⟩, hb5⟩
      rw [HL.out.1, HS.out.e.vs] at hsv
      obtain ⟨v0, vc, rfl⟩ := ownsRow_slice hsv
      obtain ⟨gv, rfl, _⟩ := ownsRow_some hsv (by omega)
      obtain ⟨b0, bc, rfl⟩ := ownsRow_slice hsb
      obtain ⟨e0, ec, rfl⟩ := ownsRow_slice hse
      have y0 : w5.cell? ⟨gv, 0, none⟩ = some (.int .i64 0) := hsv.cellAt 0 (by omega)
      have y1 : w5.cell? ⟨gv, 1, none⟩ = some (.int .i64 13) := hsv.cellAt 1 (by omega)
      have y2 : w5.cell? ⟨gv, 2, none⟩ = some (.int .i64 (4 * m)) := hsv.cellAt 2 (by omega)
      have y3 : w5.cell? ⟨gv, 3, none⟩ = some (.int .i64 (4 * m)) := hsv.cellAt 3 (by omega)
      have y4 : w5.cell? ⟨gv, 4, none⟩ = some (.int .i64 (23 * n)) := hsv.cellAt 4 (by omega)
      have y5 : w5.cell? ⟨gv, 5, none⟩ = some (.int .i64 (180 * n)) := hsv.cellAt 5 (by omega)
      have y6 : w5.cell? ⟨gv, 6, none⟩ = some (.bool false) := hsv.cellAt 6 (by omega)
      have y7 : w5.cell? ⟨gv, 7, none⟩ = some (.bool true) := hsv.cellAt 7 (by omega)
      have hP5 := HP4.out.below hb5
      have HF : Hid (∀ o, Below w.heap.size w (w5.alloc o)) := fun o => (hP5.alloc o).fr.toBelow (Nat.le_refl _) (fun k hk h => by omega)
      clear hsb hsv hse hb5 hP5 HP4 HL HS
      have hfd : ∀ u : World, (Instr.field 37 (.agg #[.int .i64 x.height, .slice b0 x.bal.length bc, .int .i64 x.fees, .int .i64 x.pool, .int .i64 s1, .int .i64 s2, .slice (some ⟨gv, 0, none⟩) 2 vc, .slice da dn dc, .slice e0 x.ents.length ec]) 6).run Try.prog u = .ok (.slice (some ⟨gv, 0, none⟩) 2 vc) u := fun _ => by kernel_rfl
      go_wp2
      go_ret
      refine ⟨?_, HF.out _⟩
      simp
theorem own0 : ownKnob Try.prog.godebug = none := by kernel_rfl
theorem wf_i64 {a : Int} (h : (Lit.int .i64 a).wf = true) : -9223372036854775808 ≤ a ∧ a ≤ 9223372036854775807 := by
  simpa [Lit.wf, IntKind.min, IntKind.max, IntKind.signed, IntKind.bits] using h

set_option maxRecDepth 100000 in
theorem fair_lifted (os : Os) (started : os.Started) (H : Type) (enc : TypeId × Value → H) :
    ReturnsInHanded {} Try.checked os 3 .any (Rows.fairSpec.pre6 enc Try.prog Try.f3 Rows.fairRow.domain false) (Rows.fairSpec.post enc Try.prog Try.f3 false true false false) := by
  refine returnsInHanded_of_change (C := Try.checked) own0 started (by kernel_rfl) Try.func3
    (ChangeSpec.witness6 (enc := enc) (C := Try.checked) false ⟨#[], #[.int .i64 0, .int .i64 0], []⟩ 8 (by kernel_rfl) (by kernel_rfl) (by kernel_rfl) (by kernel_rfl)) ?_
  intro W base args ds gs before hval0 hW hcnd _
  have hval : ∀ (j : Nat) t v, Try.f3.params[j]? = some t → args[j]? = some v → Value.okWide Try.prog W .any base t v := hval0
  have hW' := hW
  obtain ⟨p, q, hA0, hV, rfl, hfz, hnd⟩ := hW
  have hA : DataW.TrodAll enc Try.prog W 0 (fun _ => true) true Try.f3.params.toList args.toList ds p := hA0
  rw [Try.params3] at hA hval
  obtain ⟨v0, vs0, d0, ds0, p0, q0, hargs, rfl, rfl, h0, r0⟩ := trodAll_cons hA
  obtain ⟨v1, vs1, d1, ds1, p1, q1, rfl, rfl, rfl, h1, r1⟩ := trodAll_cons r0
  obtain ⟨rfl, rfl, rfl⟩ := trodAll_nil r1
  obtain rfl : args = #[v0, v1] := by cases args; simp_all
  obtain ⟨rfl, rfl⟩ := trodVars_none hV
  obtain ⟨a0, rfl, rfl, rfl, w0⟩ := open_int Try.underlying3 (hval 0 3 v0 rfl rfl) h0
  obtain ⟨a1, rfl, rfl, rfl, w1⟩ := open_int Try.underlying3 (hval 1 3 v1 rfl rfl) h1
  clear hA0 hval0
  simp only [List.append_nil] at hW'
  have q0 := wf_i64 w0
  have q1 := wf_i64 w1
  refine (fair_walk a0 a1 W q0.1 q0.2 q1.1 q1.2).mono fun e W' ⟨he, bel⟩ => ?_
  subst he
  exact ⟨_, rfl, _, _, _, [], _, [], hW', trodAll_mk1 (shut_bool Try.underlying4 _), (trodAll_cons_mk (shut_int Try.underlying3 w0) (trodAll_cons_mk (shut_int Try.underlying3 w1) trodAll_mk0)), rfl, bel.frame _, fun h => by cases h⟩

theorem fair_over : Rows.fairRow.holds Try.pinned (OpenSpec.ofChange Rows.fairSpec) :=
  OpenClaim.holds_of_wide 3 Try.f3 rfl rfl rfl rfl rfl rfl rfl ⟨rfl, rfl, rfl, rfl, rfl⟩ rfl rfl rfl rfl rfl (by kernel_rfl) Try.func3 (by kernel_rfl)
    (of_decide_eq_true (by kernel_rfl)) (by unfold Func.isWrapper; first | (rw [if_pos (by decide +kernel)]; kernel_rfl) | (rw [if_neg (by decide +kernel)]; exact ⟨rfl, rfl⟩))
    (fun os started H enc _ => fair_lifted os started H enc)

theorem fair_proved : Rows.FairSaid := fair_over
end Go.Proofs.Ytohjjgefklhmaab
