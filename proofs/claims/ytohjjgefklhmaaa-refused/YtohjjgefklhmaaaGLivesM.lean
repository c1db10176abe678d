import Derived.Test.YtohjjgefklhmaaaGDoesM
namespace Go.Proofs.Ytohjjgefklhmaaa
open Go.ChangeShapes Go.WideShapes Go.ChangeAt Go.RowKit
set_option linter.unusedVariables false

theorem due_near5 : (500 : Int) * (90 * 1073741824 / 500 - 0) / 1073741824 = 89 := by decide

set_option maxHeartbeats 4000000 in
set_option maxRecDepth 100000 in
theorem lives_any (w : World) :
    Calls Try.prog 10 #[] w fun e w' => e = .returned (.bool true) ∧ Below w.heap.size w w' := by
  have HT : Hid (∀ u, Calls Try.prog 18 #[.int .i64 0] u fun e w' => ∃ g bv vv, e = .returned (.pointer (some ⟨g, 0, none⟩)) ∧ PE (fun k => u.heap.size ≤ k) u w' g (x0 0) bv vv (.slice none 0 0)) := two_any 0 (by omega) (by omega)
  go_enter Try.func10, Try.ntmps10
  go_wp2_with fail
  refine (HT.out _).mono ?_
  rintro e w1 ⟨g, bv, vv, rfl, hP1⟩
  have HP1 : Hid (PE (fun k => w.heap.size ≤ k) w w1 g (x0 0) bv vv (.slice none 0 0)) := hP1
  clear hP1 HT
  go_wp2_with fail
  refine (lbond HP1.out (x0_eq 0) (k := 1) (by omega) (x0_acct 0 1 (by omega)) 500 (by omega) (by omega) (by omega) (by omega) (by omega) (by omega) (by omega) (by omega) (by omega) (by omega) (by omega) (by omega)).mono ?_
  rintro e w2 ⟨rfl, hP2⟩
  have q2 := (x0_eq 0).bond (k := 1) (by omega) 500 rfl
  have a2 := (x0_eq 0).bond_at (k := 1) (by omega) 500 (x0_acct 0 1 (by omega))
  have b2 := (bond_ne (x0 0) 500 (k := 1) (k' := 2) (by omega) (by omega) (by omega)).trans (x0_acct 0 2 (by omega))
  have z2 := fun k (h1 : 1 ≠ k) (h4 : k < 4) => (bond_ne (x0 0) 500 (k := 1) (k' := k) h1 (by omega) h4).trans (x0_acct 0 k h4)
  generalize bondF (x0 0) 1 0 500 = x2 at *
  have HP2 : Hid (PE (fun k => w.heap.size ≤ k) w w2 g x2 bv vv (.slice none 0 0)) := hP2
  have HQ2 : Hid (EQ x2 0 90 0 0 500 0 0 false 0 ∧ acct x2 1 = (199410, 500, 0) ∧ acct x2 2 = (200000, 0, 0) ∧ acct x2 0 = (200000, 0, 0) ∧ acct x2 3 = (200000, 0, 0)) := ⟨q2, a2, b2, z2 0 (by omega) (by omega), z2 3 (by omega) (by omega)⟩
  clear hP2 q2 a2 b2 z2 HP1
  go_wp2_with fail
  refine (lblock HP2.out HQ2.out.1 (by omega) (by omega) (by omega) (by omega) (by omega) (by omega) (by omega) (by omega) (by omega) (by omega) (by omega) (by omega) (by omega) (by omega) (by omega) (by omega)).mono ?_
  rintro e w3 ⟨rfl, hP3⟩
  have q3 := HQ2.out.1.block_off (by omega)
  have a3 := (block_off_acct HQ2.out.1 1).trans HQ2.out.2.1
  have b3 := (block_off_acct HQ2.out.1 2).trans HQ2.out.2.2.1
  have z30 := (block_off_acct HQ2.out.1 0).trans HQ2.out.2.2.2.1
  have z33 := (block_off_acct HQ2.out.1 3).trans HQ2.out.2.2.2.2
  generalize blockF x2 = x3 at *
  have HP3 : Hid (PE (fun k => w.heap.size ≤ k) w w3 g x3 bv vv (.slice none 0 0)) := hP3
  have HQ3 : Hid (EQ x3 1 0 90 0 500 0 0 true 0 ∧ acct x3 1 = (199410, 500, 0) ∧ acct x3 2 = (200000, 0, 0) ∧ acct x3 0 = (200000, 0, 0) ∧ acct x3 3 = (200000, 0, 0)) := ⟨q3, a3, b3, z30, z33⟩
  clear hP3 q3 a3 b3 z30 z33 HP2 HQ2
  go_wp2_with fail
  refine (lsend HP3.out HQ3.out.1 (k := 2) (k' := 2) (by omega) (by omega) (acct_parts HQ3.out.2.2.1).1 (acct_parts HQ3.out.2.2.1).1 1 (by omega) (by omega) (by omega) (by omega) (by omega) (by omega) (by omega)).mono ?_
  rintro e w4 ⟨rfl, hP4⟩
  have q4 := HQ3.out.1.send 2 2 1
  have b4 := HQ3.out.1.send_self (k := 2) (by omega) 1 HQ3.out.2.2.1
  have z40 := (send_ne x3 1 (k := 2) (t' := 2) (i := 0) (by omega) (by omega)).trans HQ3.out.2.2.2.1
  have z43 := (send_ne x3 1 (k := 2) (t' := 2) (i := 3) (by omega) (by omega)).trans HQ3.out.2.2.2.2
  have a4 := (send_ne x3 1 (k := 2) (t' := 2) (i := 1) (by omega) (by omega)).trans HQ3.out.2.1
  generalize sendF x3 2 2 1 = x4 at *
  have HP4 : Hid (PE (fun k => w.heap.size ≤ k) w w4 g x4 bv vv (.slice none 0 0)) := hP4
  have HQ4 : Hid (EQ x4 1 90 90 0 500 0 0 true 0 ∧ acct x4 1 = (199410, 500, 0) ∧ acct x4 2 = (199910, 0, 0) ∧ acct x4 0 = (200000, 0, 0) ∧ acct x4 3 = (200000, 0, 0)) := ⟨q4, a4, b4, z40, z43⟩
  clear hP4 q4 a4 b4 z40 z43 HP3 HQ3
  go_wp2_with fail
  refine (lblock HP4.out HQ4.out.1 (by omega) (by omega) (by omega) (by omega) (by omega) (by omega) (by omega) (by omega) (by omega) (by omega) (by omega) (by omega) (by omega) (by omega) (by omega) (by omega)).mono ?_
  rintro e w5 ⟨rfl, hP5⟩
  have q5 := HQ4.out.1.block_on (by omega)
  have a5 := (block_on_acct HQ4.out.1 (by omega) 1 (by omega)).trans HQ4.out.2.1
  have b5 := (block_on_acct HQ4.out.1 (by omega) 2 (by omega)).trans HQ4.out.2.2.1
  have z50 := (block_on_acct HQ4.out.1 (by omega) 0 (by omega)).trans HQ4.out.2.2.2.1
  have z53 := (block_on_acct HQ4.out.1 (by omega) 3 (by omega)).trans HQ4.out.2.2.2.2
  generalize blockF x4 = x5 at *
  have HP5 : Hid (PE (fun k => w.heap.size ≤ k) w w5 g x5 bv vv (.slice none 0 0)) := hP5
  have HQ5 : Hid (EQ x5 2 0 90 0 500 0 90 true (90 * 1073741824 / 500) ∧ acct x5 1 = (199410, 500, 0) ∧ acct x5 2 = (199910, 0, 0) ∧ acct x5 0 = (200000, 0, 0) ∧ acct x5 3 = (200000, 0, 0)) := by
    refine ⟨?_, a5, b5, z50, z53⟩
    simpa using q5
  clear hP5 q5 a5 b5 z50 z53 HP4 HQ4
  go_wp2_with fail
  refine (ldue HP5.out HQ5.out.1 (k := 1) (by omega) HQ5.out.2.1 (by omega) (by omega) (by decide) (by decide) (by decide)).mono ?_
  rintro e w6 ⟨rfl, hP6⟩
  rw [due_near5]
  have HP6 : Hid (PE (fun k => w.heap.size ≤ k) w w6 g x5 bv vv (.slice none 0 0)) := hP6
  have HA : Hid (AccOk x5) := by
    have q := HQ5.out.1
    refine ⟨by rw [q.bl]; omega, by rw [q.fee]; omega, by rw [q.fee]; omega, by rw [q.ff]; omega, by rw [q.ff]; omega, by rw [q.pp]; omega, by rw [q.pp]; omega, fun k hk => ?_⟩
    rw [q.bl] at hk
    have : k = 0 ∨ k = 1 ∨ k = 2 ∨ k = 3 := by omega
    rcases this with rfl | rfl | rfl | rfl
    · rw [(acct_parts HQ5.out.2.2.2.1).1]; omega
    · rw [(acct_parts HQ5.out.2.1).1]; omega
    · rw [(acct_parts HQ5.out.2.2.1).1]; omega
    · rw [(acct_parts HQ5.out.2.2.2.2).1]; omega
  clear hP6 HP5
  go_wp2_with fail
  refine (gSend g x5 bv vv _ _ HP6.out 2 9 1 HA.out).mono ?_
  rintro e w7 ⟨rfl, hP7⟩
  have hs : (sendR x5 2 9 1).1 = 2 := by
    have q := HQ5.out.1
    have hc : chErr x5 ((2 : Nat) : Int) = 0 := by
      unfold chErr
      rw [q.bl, if_neg (by decide), Int.toNat_natCast, (acct_parts HQ5.out.2.2.1).1, q.fee, if_neg (by omega)]
    have he : transR (chargeF x5 2).bal.length ((chargeF x5 2).balAt 2) 9 1 = 2 := by
      unfold transR
      rw [(q.charge 2).bl, if_pos (by decide)]
    show (msgR x5 ((2 : Nat) : Int) _ _).1 = 2
    rw [msgR_err hc (by rw [he]; decide)]
    exact he
  rw [hs]
  have HF : Hid (Below w.heap.size w w7) := hP7.fr.toBelow (Nat.le_refl _) (fun k hk h => by omega)
  clear hP7 HP6 HQ5 HA hs
  go_wp2
  go_ret
  refine ⟨?_, HF.out⟩
  simp
end Go.Proofs.Ytohjjgefklhmaaa
