import Derived.Test.YtohjjgefklhmaaaETwoM
import Derived.Below
namespace Go.Proofs.Ytohjjgefklhmaaa
open Go.ChangeShapes Go.WideShapes Go.ChangeAt Go.RowKit
set_option linter.unusedVariables false

/-- behind n rounds, k of them with fees that are shared out -/
structure OS (x y : EC) (m t q : Int) (n k : Nat) (often u f P : Int) (ins : Bool) : Prop where
  ex : EQ x n f P 7 t (6 * k) (90 * k - often) ins (k * q)
  ey : EQ y n f P 7 t (6 * k) (90 * k) ins (k * q)
  ax : acct x 2 = (199910 - m - 90 * (n : Int) + often, m, u)
  ay : acct y 2 = (199910 - m - 90 * (n : Int), m, 0)
  u0 : 0 ≤ u
  u1 : u ≤ k * q
  o0 : 0 ≤ often
  o1 : often * 1073741824 ≤ m * u
  ph : (ins = false ∧ k = 0 ∧ n = 0 ∧ f = 180 ∧ P = 0) ∨ (ins = true ∧ n = k + 1 ∧ f = 0 ∧ P = 270)
/-- the numbers -/
structure ON (m t q : Int) (k : Nat) (often u : Int) : Prop where
  p0 : 0 ≤ (k : Int) * q
  p1 : (k : Int) * q ≤ 4000000000000000000
  d0 : 0 ≤ m * (k * q - u)
  d1 : m * (k * q - u) ≤ 4611686018427387904
  w0 : 0 ≤ m * (k * q - u) / 1073741824
  w1 : often + m * (k * q - u) / 1073741824 ≤ 84 * k
  w2 : (often + m * (k * q - u) / 1073741824) * 1073741824 ≤ m * (k * q)
  e0 : m * (k * q - 0) ≤ 4611686018427387904
  e1 : often + m * (k * q - u) / 1073741824 ≤ m * (k * q - 0) / 1073741824
  e2 : m * (k * q - 0) / 1073741824 ≤ 84 * k
  o2 : often ≤ 84 * k
theorem OS.num {x y : EC} {m t q : Int} {n k : Nat} {often u f P : Int} {ins : Bool} (h : OS x y m t q n k often u f P ins) (m1 : 1 ≤ m) (mt : m ≤ t) (hq : q = 84 * 1073741824 / t) (hk : k ≤ 40) : ON m t q k often u := by
  have q0 : 0 ≤ q := by rw [hq]; exact Int.ediv_nonneg (by omega) (by omega)
  have q9 : q ≤ 84 * 1073741824 := by rw [hq]; exact Int.ediv_le_self _ (by omega)
  have a1 : t * q ≤ 84 * 1073741824 := by rw [hq]; exact Int.mul_ediv_self_le (by omega)
  have a2 : m * q ≤ 84 * 1073741824 := Int.le_trans (Int.mul_le_mul_of_nonneg_right mt q0) a1
  have p0 : 0 ≤ (k : Int) * q := Int.mul_nonneg (by omega) q0
  have p1 : (k : Int) * q ≤ 40 * (84 * 1073741824) := Int.mul_le_mul (by omega) q9 q0 (by omega)
  have b1 : m * (k * q) ≤ 84 * 1073741824 * k := by
    rw [show m * ((k : Int) * q) = (m * q) * k by rw [Int.mul_comm (k : Int) q, Int.mul_assoc]]
    exact Int.mul_le_mul_of_nonneg_right a2 (by omega)
  have hu0 := h.u0
  have hu1 := h.u1
  have ho0 := h.o0
  have ho1 := h.o1
  have d0 : 0 ≤ m * (k * q - u) := Int.mul_nonneg (by omega) (by omega)
  have mu0 : 0 ≤ m * u := Int.mul_nonneg (by omega) hu0
  have e : m * (k * q - u) = m * (k * q) - m * u := Int.mul_sub _ _ _
  have e' : m * ((k : Int) * q - 0) = m * (k * q) := by rw [Int.sub_zero]
  rw [e] at d0
  generalize hz : m * ((k : Int) * q) = z at *
  generalize hv : m * u = v at *
  refine ⟨p0, by omega, by rw [e]; exact d0, by rw [e]; omega, ?_, ?_, ?_, by rw [e']; omega, ?_, ?_, by omega⟩
  · rw [e]; omega
  · rw [e]; omega
  · rw [e, hz]; omega
  · rw [e, e']; omega
  · rw [e']; omega
theorem OS.next {x y : EC} {m t q : Int} {n k : Nat} {often u f P : Int} {ins : Bool} (h : OS x y m t q n k often u f P ins) (hn : ON m t q k often u) (t1 : 1 ≤ t) (hq : q = 84 * 1073741824 / t) :
    ∃ k' f' P' ins' , OS (blockF (payF (chargeF x 2) 2 0)) (blockF (sendF y 2 2 1)) m t q (n + 1) k' (often + m * (k * q - u) / 1073741824) (k * q) f' P' ins' := by
  obtain ⟨x1, x2⟩ := h.ex.with (k := 2) (by omega) h.ax
  have y1 := h.ey.send 2 2 1
  have y2 := h.ey.send_self (k := 2) (by omega) 1 h.ay
  have q0 : 0 ≤ q := by rw [hq]; exact Int.ediv_nonneg (by omega) (by omega)
  have hn1 : (199910 : Int) - m - 90 * ((n + 1 : Nat) : Int) = 199910 - m - 90 * (n : Int) - 90 := by omega
  rcases h.ph with ⟨rfl, rfl, rfl, rfl, rfl⟩ | ⟨rfl, rfl, rfl, rfl⟩
  · refine ⟨0, 0, 270, true, ⟨?_, ?_, ?_, ?_, by simp, Int.le_refl _, by have := h.o0; have := hn.w0; omega, hn.w2, .inr ⟨rfl, rfl, rfl, rfl⟩⟩⟩
    · have := x1.block_off t1
      rw [show (90 : Int) * ((0 : Nat) : Int) - (often + m * (((0 : Nat) : Int) * q - u) / 1073741824) = 90 * ((0 : Nat) : Int) - often - m * (((0 : Nat) : Int) * q - u) / 1073741824 by omega]
      exact this
    · exact y1.block_off t1
    · rw [block_off_acct x1, x2, hn1]
      simp only [Prod.mk.injEq, and_true]; omega
    · rw [block_off_acct y1, y2, hn1]
  · refine ⟨k + 1, 0, 270, true, ⟨?_, ?_, ?_, ?_, hn.p0, ?_, by have := h.o0; have := hn.w0; omega, hn.w2, .inr ⟨rfl, rfl, rfl, rfl⟩⟩⟩
    · have := x1.block_on t1
      rw [show (90 : Int) * ((k + 1 : Nat) : Int) - (often + m * ((k : Int) * q - u) / 1073741824) = 90 * (k : Int) - often - m * ((k : Int) * q - u) / 1073741824 + (0 + 90) by omega,
        show 6 * ((k + 1 : Nat) : Int) = 6 * (k : Int) + (0 + 90) * 7 / 100 by omega,
        show ((k + 1 : Nat) : Int) * q = (k : Int) * q + (0 + 90 - (0 + 90) * 7 / 100) * 1073741824 / t by
          rw [show ((0 : Int) + 90 - (0 + 90) * 7 / 100) = 84 from rfl, ← hq, Int.natCast_succ, Int.add_mul, Int.one_mul]]
      exact this
    · have := y1.block_on t1
      rw [show (90 : Int) * ((k + 1 : Nat) : Int) = 90 * (k : Int) + (0 + 90) by omega,
        show 6 * ((k + 1 : Nat) : Int) = 6 * (k : Int) + (0 + 90) * 7 / 100 by omega,
        show ((k + 1 : Nat) : Int) * q = (k : Int) * q + (0 + 90 - (0 + 90) * 7 / 100) * 1073741824 / t by
          rw [show ((0 : Int) + 90 - (0 + 90) * 7 / 100) = 84 from rfl, ← hq, Int.natCast_succ, Int.add_mul, Int.one_mul]]
      exact this
    · rw [block_on_acct x1 t1 2 (by omega), x2, hn1]
      simp only [Prod.mk.injEq, and_true]; omega
    · rw [block_on_acct y1 t1 2 (by omega), y2, hn1]
    · rw [Int.natCast_succ, Int.add_mul]; omega

set_option maxHeartbeats 4000000 in
set_option maxRecDepth 100000 in
theorem often_walk (a b blocks : Int) (w : World) (ha1 : -9223372036854775808 ≤ a) (ha2 : a ≤ 9223372036854775807) (hb1 : -9223372036854775808 ≤ b) (hb2 : b ≤ 9223372036854775807) (hp1 : -9223372036854775808 ≤ blocks) (hp2 : blocks ≤ 9223372036854775807) :
    Calls Try.prog 8 #[.int .i64 a, .int .i64 b, .int .i64 blocks] w fun e w' => e = .returned (.bool true) ∧ Below w.heap.size w w' := by
  obtain ⟨r1, r2⟩ := pickN_range a 1000 (by omega)
  obtain ⟨r5, r6⟩ := pickN_range b 1000 (by omega)
  obtain ⟨r3, r4⟩ := pickN_range blocks 40 (by omega)
  have HT : Hid (∀ u, Calls Try.prog 18 #[.int .i64 7] u fun e w' => ∃ g bv vv, e = .returned (.pointer (some ⟨g, 0, none⟩)) ∧ PE (fun k => u.heap.size ≤ k) u w' g (x0 7) bv vv (.slice none 0 0)) := two_any 7 (by omega) (by omega)
  have HPa : Hid (∀ u, Calls Try.prog 19 #[.int .i64 a, .int .i64 1000] u fun e w' => e = .returned (.int .i64 (pickN a 1000)) ∧ u = w') := fun u => pick_any a 1000 u ha1 ha2 (by omega) (by omega)
  have HPb : Hid (∀ u, Calls Try.prog 19 #[.int .i64 b, .int .i64 1000] u fun e w' => e = .returned (.int .i64 (pickN b 1000)) ∧ u = w') := fun u => pick_any b 1000 u hb1 hb2 (by omega) (by omega)
  have HPc : Hid (∀ u, Calls Try.prog 19 #[.int .i64 blocks, .int .i64 40] u fun e w' => e = .returned (.int .i64 (pickN blocks 40)) ∧ u = w') := fun u => pick_any blocks 40 u hp1 hp2 (by omega) (by omega)
  generalize pickN a 1000 = pa at *
  generalize pickN b 1000 = pb at *
  generalize pickN blocks 40 = pc at *
  clear ha1 ha2 hp1 hp2 hb1 hb2
  go_enter Try.func8, Try.ntmps8
  go_wp2_with fail
  refine (HT.out _).mono ?_
  rintro e w1 ⟨gx, bx, vx, rfl, hP1⟩
  have HP1 : Hid (PE (fun k => w.heap.size ≤ k) w w1 gx (x0 7) bx vx (.slice none 0 0)) := hP1
  clear hP1
  go_wp2_with fail
  refine (HT.out _).mono ?_
  rintro e w2 ⟨gy, yb, vy, rfl, hP2⟩
  have H2 : Hid (Two w w2 gx (x0 7) bx vx (.slice none 0 0) gy (x0 7) yb vy (.slice none 0 0)) := Two.begin HP1.out hP2
  clear hP2 HP1 HT
  go_wp2_with fail
  refine (HPa.out _).mono ?_
  rintro e w' ⟨rfl, rfl⟩
  clear HPa
  go_wp2_with fail
  refine (HPb.out _).mono ?_
  rintro e w' ⟨rfl, rfl⟩
  clear HPb
  go_wp2_with fail
  obtain ⟨m, hm⟩ : ∃ m, m = 1 + pa := ⟨_, rfl⟩
  obtain ⟨n, hn⟩ : ∃ n, n = 1 + pb := ⟨_, rfl⟩
  have m1 : 1 ≤ m := by omega
  have m2 : m ≤ 1000 := by omega
  have n1 : 1 ≤ n := by omega
  have n2 : n ≤ 1000 := by omega
  rw [← hm, ← hn]
  clear hm hn r1 r2 r5 r6
  refine (H2.out.onX fun S W H => lbond H (x0_eq 7) (k := 2) (by omega) (x0_acct 7 2 (by omega)) m m1 (by omega) (by omega) (by omega) (by omega) (by omega) (by omega) (by omega) (by omega) (by omega) (by omega) (by omega)).mono ?_
  rintro e w3 ⟨rfl, h3⟩
  have H3 : Hid (Two w w3 gx (bondF (x0 7) 2 0 m) bx vx (.slice none 0 0) gy (x0 7) yb vy (.slice none 0 0)) := h3
  clear h3 H2
  go_wp2_with fail
  refine (H3.out.onY fun S W H => lbond H (x0_eq 7) (k := 2) (by omega) (x0_acct 7 2 (by omega)) m m1 (by omega) (by omega) (by omega) (by omega) (by omega) (by omega) (by omega) (by omega) (by omega) (by omega) (by omega)).mono ?_
  rintro e w4 ⟨rfl, h4⟩
  have q4 := (x0_eq 7).bond (k := 2) (by omega) m rfl
  have a4 := (x0_eq 7).bond_at (k := 2) (by omega) m (x0_acct 7 2 (by omega))
  have b4 := (bond_ne (x0 7) m (k := 2) (k' := 3) (by omega) (by omega) (by omega)).trans (x0_acct 7 3 (by omega))
  generalize bondF (x0 7) 2 0 m = x4 at *
  have H4 : Hid (Two w w4 gx x4 bx vx (.slice none 0 0) gy x4 yb vy (.slice none 0 0)) := h4
  have HQ4 : Hid (EQ x4 0 90 0 7 m 0 0 false 0 ∧ acct x4 2 = (199910 - m, m, 0) ∧ acct x4 3 = (200000, 0, 0)) := by
    refine ⟨by simpa using q4, ?_, b4⟩
    rw [a4]; simp
  clear h4 q4 a4 b4 H3
  go_wp2_with fail
  refine (H4.out.onX fun S W H => lbond H HQ4.out.1 (k := 3) (by omega) HQ4.out.2.2 n n1 (by omega) (by omega) (by omega) (by omega) (by omega) (by omega) (by omega) (by omega) (by omega) (by omega) (by omega)).mono ?_
  rintro e w5 ⟨rfl, h5⟩
  have H5 : Hid (Two w w5 gx (bondF x4 3 0 n) bx vx (.slice none 0 0) gy x4 yb vy (.slice none 0 0)) := h5
  clear h5 H4
  go_wp2_with fail
  refine (H5.out.onY fun S W H => lbond H HQ4.out.1 (k := 3) (by omega) HQ4.out.2.2 n n1 (by omega) (by omega) (by omega) (by omega) (by omega) (by omega) (by omega) (by omega) (by omega) (by omega) (by omega)).mono ?_
  rintro e w6 ⟨rfl, h6⟩
  have q6 := HQ4.out.1.bond (k := 3) (by omega) n (acct_parts HQ4.out.2.2).2.1
  have a6 := (bond_ne x4 n (k := 3) (k' := 2) (by omega) (by omega) (by omega)).trans HQ4.out.2.1
  generalize bondF x4 3 0 n = x6 at *
  have H6 : Hid (Two w w6 gx x6 bx vx (.slice none 0 0) gy x6 yb vy (.slice none 0 0)) := h6
  obtain ⟨t, ht⟩ : ∃ t, t = m + n := ⟨_, rfl⟩
  obtain ⟨q, hq⟩ : ∃ q, q = 84 * 1073741824 / t := ⟨_, rfl⟩
  have Hq : Hid (q = 84 * 1073741824 / t) := hq
  have HS : Hid (OS x6 x6 m t q 0 0 0 0 180 0 false) := by
    rw [← ht] at q6
    refine ⟨?_, ?_, ?_, ?_, by omega, by simp, by omega, by simp, .inl ⟨rfl, rfl, rfl, rfl, rfl⟩⟩
    · simpa using q6
    · simpa using q6
    · rw [a6]; simp
    · rw [a6]; simp
  have t1 : m + 1 ≤ t := by omega
  have t2 : t ≤ 2000 := by omega
  clear h6 q6 a6 H5 HQ4 hq ht
  go_wp2_with fail
  go_loopw [11, 12] (fun of i wr => ∃ (n : Nat) (often : Int), (n : Int) ≤ pc ∧ i = .int .i64 n ∧ of = .int .i64 often ∧ ∃ x y k u f P ins, OS x y m t q n k often u f P ins ∧ Two w wr gx x bx vx (.slice none 0 0) gy y yb vy (.slice none 0 0)) (fun _ i _ => pc.toNat - (intOf i).toNat)
  case atStart => exact ⟨0, 0, by omega, rfl, rfl, x6, x6, 0, 0, 180, 0, false, HS.out, H6.out⟩
  case round =>
    clear H6 HS
    obtain ⟨n, often, hn, rfl, rfl, x, y, k, u, f, P, ins, hS, hT⟩ := hrel
    have hk : k ≤ n := by rcases hS.ph with h | h <;> omega
    have hph : 0 ≤ f ∧ f ≤ 180 ∧ 0 ≤ P ∧ P ≤ 270 := by rcases hS.ph with h | h <;> omega
    obtain ⟨f0, f1, P0, P1⟩ := hph
    have hN := hS.num m1 (by omega) Hq.out (by omega)
    have o0 := hS.o0
    have HS : Hid (OS x y m t q n k often u f P ins) := hS
    have HT : Hid (Two w wr gx x bx vx (.slice none 0 0) gy y yb vy (.slice none 0 0)) := hT
    have HN : Hid (ON m t q k often u) := hN
    have w0 := hN.w0
    have w1 := hN.w1
    have e1 := hN.e1
    have e2 := hN.e2
    have o2 := hN.o2
    obtain ⟨d, hd⟩ : ∃ d, d = m * ((k : Int) * q - u) / 1073741824 := ⟨_, rfl⟩
    obtain ⟨z, hz⟩ : ∃ z, z = m * ((k : Int) * q - 0) / 1073741824 := ⟨_, rfl⟩
    rw [← hd] at w0 w1 e1
    rw [← hz] at e1 e2
    have Hd : Hid (d = m * ((k : Int) * q - u) / 1073741824) := hd
    have Hz : Hid (z = m * ((k : Int) * q - 0) / 1073741824) := hz
    clear hS hT hN hd hz
    by_cases hlt : (n : Int) < pc
    · go_wp2_with fail
      refine (HPc.out _).mono ?_
      rintro e w' ⟨rfl, rfl⟩
      go_wp2_with fail
      refine (HT.out.onX fun S W H => ldue H HS.out.ex (k := 2) (by omega) HS.out.ax m1 HS.out.u0 HS.out.u1 HN.out.p1 HN.out.d1).mono ?_
      rintro e v1 ⟨rfl, h1⟩
      rw [← Hd.out]
      have H1 : Hid (Two w v1 gx x bx vx (.slice none 0 0) gy y yb vy (.slice none 0 0)) := h1
      clear h1 HT
      go_wp2_with fail
      refine (H1.out.onX fun S W H => lwith H HS.out.ex (k := 2) (by omega) HS.out.ax m1 HS.out.u0 HS.out.u1 HN.out.p1 HN.out.d1 (by omega) (by omega) (by omega) (by omega) f0 (by omega)).mono ?_
      rintro e v2 ⟨rfl, h2⟩
      have H2 : Hid (Two w v2 gx (payF (chargeF x 2) 2 0) bx vx (.slice none 0 0) gy y yb vy (.slice none 0 0)) := h2
      clear h2 H1
      go_wp2_with fail
      refine (H2.out.onY fun S W H => lsend H HS.out.ey (k := 2) (k' := 2) (by omega) (by omega) (acct_parts HS.out.ay).1 (acct_parts HS.out.ay).1 1 (by omega) f0 (by omega) (by omega) (by omega) (by omega) (by omega)).mono ?_
      rintro e v3 ⟨rfl, h3⟩
      have H3 : Hid (Two w v3 gx (payF (chargeF x 2) 2 0) bx vx (.slice none 0 0) gy (sendF y 2 2 1) yb vy (.slice none 0 0)) := h3
      clear h3 H2
      go_wp2_with fail
      refine (H3.out.onX fun S W H => lblock H (HS.out.ex.with (k := 2) (by omega) HS.out.ax).1 (by omega) (by omega) (by omega) (by omega) (by omega) (by omega) (by rw [← Hd.out]; omega) (by rw [← Hd.out]; omega) (by omega) (by omega) P0 (by omega) HN.out.p0 HN.out.p1 (by omega) (by omega)).mono ?_
      rintro e v4 ⟨rfl, h4⟩
      have H4 : Hid (Two w v4 gx (blockF (payF (chargeF x 2) 2 0)) bx vx (.slice none 0 0) gy (sendF y 2 2 1) yb vy (.slice none 0 0)) := h4
      clear h4 H3
      go_wp2_with fail
      refine (H4.out.onY fun S W H => lblock H (HS.out.ey.send 2 2 1) (by omega) (by omega) (by omega) (by omega) (by omega) (by omega) (by omega) (by omega) (by omega) (by omega) P0 (by omega) HN.out.p0 HN.out.p1 (by omega) (by omega)).mono ?_
      rintro e v5 ⟨rfl, h5⟩
      have H5 : Hid (Two w v5 gx (blockF (payF (chargeF x 2) 2 0)) bx vx (.slice none 0 0) gy (blockF (sendF y 2 2 1)) yb vy (.slice none 0 0)) := h5
      have HS5 : Hid (∃ k' f' P' ins' , OS (blockF (payF (chargeF x 2) 2 0)) (blockF (sendF y 2 2 1)) m t q (n + 1) k' (often + d) (k * q) f' P' ins') := by
        rw [Hd.out]; exact HS.out.next HN.out (by omega) Hq.out
      clear h5 H4 HS HN Hd Hz
      go_wp2
      refine And.intro ?_ ?_
      · obtain ⟨k', f', P', ins', hS5⟩ := HS5.out
        first | exact ⟨n + 1, often + d, by omega, by go_num, rfl, _, _, k', _, f', P', ins', hS5, H5.out⟩ | ((repeat apply Exists.intro); exact ⟨⟨n + 1, often + d, by omega, by go_num, rfl, _, _, k', _, f', P', ins', hS5, H5.out⟩, rfl⟩)
      · simp [intOf]; omega
    · go_wp2_with fail
      refine (HPc.out _).mono ?_
      rintro e w' ⟨rfl, rfl⟩
      go_wp2_with fail
      refine (HT.out.onX fun S W H => ldue H HS.out.ex (k := 2) (by omega) HS.out.ax m1 HS.out.u0 HS.out.u1 HN.out.p1 HN.out.d1).mono ?_
      rintro e v1 ⟨rfl, h1⟩
      rw [← Hd.out]
      have H1 : Hid (Two w v1 gx x bx vx (.slice none 0 0) gy y yb vy (.slice none 0 0)) := h1
      clear h1 HT
      go_wp2_with fail
      refine (H1.out.onY fun S W H => ldue H HS.out.ey (k := 2) (by omega) HS.out.ay m1 (by omega) HN.out.p0 HN.out.p1 HN.out.e0).mono ?_
      rintro e v2 ⟨rfl, h2⟩
      rw [← Hz.out]
      have HF : Hid (Below w.heap.size w v2) := h2.px.fr.toBelow (Nat.le_refl _) (fun k hk h => by omega)
      clear h2 H1 HS HN Hd Hz
      go_wp2
      go_ret
      refine ⟨?_, HF.out⟩
      simp
      omega
theorem own0 : ownKnob Try.prog.godebug = none := by kernel_rfl
theorem wf_i64 {a : Int} (h : (Lit.int .i64 a).wf = true) : -9223372036854775808 ≤ a ∧ a ≤ 9223372036854775807 := by
  simpa [Lit.wf, IntKind.min, IntKind.max, IntKind.signed, IntKind.bits] using h

set_option maxRecDepth 100000 in
theorem often_lifted (os : Os) (started : os.Started) (H : Type) (enc : TypeId × Value → H) :
    ReturnsInHanded {} Try.checked os 8 .any (Rows.oftenSpec.pre6 enc Try.prog Try.f8 Rows.oftenRow.domain false) (Rows.oftenSpec.post enc Try.prog Try.f8 false true false false) := by
  refine returnsInHanded_of_change (C := Try.checked) own0 started (by kernel_rfl) Try.func8
    (ChangeSpec.witness6 (enc := enc) (C := Try.checked) false ⟨#[], #[.int .i64 0, .int .i64 0, .int .i64 0], []⟩ 8 (by kernel_rfl) (by kernel_rfl) (by kernel_rfl) (by kernel_rfl)) ?_
  intro W base args ds gs before hval0 hW hcnd _
  have hval : ∀ (j : Nat) t v, Try.f8.params[j]? = some t → args[j]? = some v → Value.okWide Try.prog W .any base t v := hval0
  have hW' := hW
  obtain ⟨p, q, hA0, hV, rfl, hfz, hnd⟩ := hW
  have hA : DataW.TrodAll enc Try.prog W 0 (fun _ => true) true Try.f8.params.toList args.toList ds p := hA0
  rw [Try.params8] at hA hval
  obtain ⟨v0, vs0, d0, ds0, p0, q0, hargs, rfl, rfl, h0, r0⟩ := trodAll_cons hA
  obtain ⟨v1, vs1, d1, ds1, p1, q1, rfl, rfl, rfl, h1, r1⟩ := trodAll_cons r0
  obtain ⟨v2, vs2, d2, ds2, p2, q2, rfl, rfl, rfl, h2, r2⟩ := trodAll_cons r1
  obtain ⟨rfl, rfl, rfl⟩ := trodAll_nil r2
  obtain rfl : args = #[v0, v1, v2] := by cases args; simp_all
  obtain ⟨rfl, rfl⟩ := trodVars_none hV
  obtain ⟨a0, rfl, rfl, rfl, w0⟩ := open_int Try.underlying3 (hval 0 3 v0 rfl rfl) h0
  obtain ⟨a1, rfl, rfl, rfl, w1⟩ := open_int Try.underlying3 (hval 1 3 v1 rfl rfl) h1
  obtain ⟨a2, rfl, rfl, rfl, w2⟩ := open_int Try.underlying3 (hval 2 3 v2 rfl rfl) h2
  clear hA0 hval0
  simp only [List.append_nil] at hW'
  have q0 := wf_i64 w0
  have q1 := wf_i64 w1
  have q2 := wf_i64 w2
  refine (often_walk a0 a1 a2 W q0.1 q0.2 q1.1 q1.2 q2.1 q2.2).mono fun e W' ⟨he, bel⟩ => ?_
  subst he
  exact ⟨_, rfl, _, _, _, [], _, [], hW', trodAll_mk1 (shut_bool Try.underlying4 _), (trodAll_cons_mk (shut_int Try.underlying3 w0) (trodAll_cons_mk (shut_int Try.underlying3 w1) (trodAll_cons_mk (shut_int Try.underlying3 w2) trodAll_mk0))), rfl, bel.frame _, fun h => by cases h⟩

theorem often_over : Rows.oftenRow.holds Try.pinned (OpenSpec.ofChange Rows.oftenSpec) :=
  OpenClaim.holds_of_wide 8 Try.f8 rfl rfl rfl rfl rfl rfl rfl ⟨rfl, rfl, rfl, rfl, rfl⟩ rfl rfl rfl rfl rfl (by kernel_rfl) Try.func8 (by kernel_rfl)
    (of_decide_eq_true (by kernel_rfl)) (by unfold Func.isWrapper; first | (rw [if_pos (by decide +kernel)]; kernel_rfl) | (rw [if_neg (by decide +kernel)]; exact ⟨rfl, rfl⟩))
    (fun os started H enc _ => often_lifted os started H enc)

theorem often_proved : Rows.OftenSaid := often_over
end Go.Proofs.Ytohjjgefklhmaaa
