import Derived.Test.YtohjjgefklhmaabGreatDoorGOk8M
namespace Go.Proofs.YtohjjgefklhmaabGreatDoor
open Go.ChangeShapes Go.WideShapes Go.ChangeAt Go.RowKit
set_option linter.unusedVariables false

def doesR (x : EC) (k a b c d : Int) : Int × EC :=
  if k = 1 then sendR x a b c else if k = 2 then spendR x a b else if k = 3 then bondR x a b c else if k = 4 then unbR x a b c else if k = 5 then movR x a b c d else if k = 6 then withR x a b else if k = 7 then collR x a b else if k = 8 then slashR x a b c else if k = 9 then freeR x a b else blkR x

/-- what a step is told to have done -/
def DPost (S : Nat → Prop) (W0 w' : World) (g : Nat) (x : EC) (bv vv : Value) (n : Nat) (e : Ending) (r : Int × EC) : Prop := e = .returned (.int .i64 r.1) ∧ Eng S W0 w' g r.2 bv vv ∧ Left x r.2 n

theorem Eng.below {S : Nat → Prop} {W0 w w' : World} {g : Nat} {x : EC} {bv vv : Value} (h : Eng S W0 w g x bv vv) (hb : Below w.heap.size w w') : Eng S W0 w' g x bv vv := by
  obtain ⟨ev, h⟩ := h; exact ⟨ev, h.below hb⟩
theorem Eng.alloc {S : Nat → Prop} {W0 w : World} {g : Nat} {x : EC} {bv vv : Value} (h : Eng S W0 w g x bv vv) (o : Obj) : Eng S W0 (w.alloc o) g x bv vv := by
  obtain ⟨ev, h⟩ := h; exact ⟨ev, h.alloc o⟩

set_option maxHeartbeats 4000000 in
set_option maxRecDepth 100000 in
theorem does_any {S : Nat → Prop} {W0 : World} {g : Nat} {x : EC} {bv vv : Value} {w : World} (h : Eng S W0 w g x bv vv) (ok : Fine x) (n : Nat) (hn : x.ents.length ≤ n) (hn2 : n ≤ 99999) (k a b c d : Int) :
    Calls Tryz.prog 8 #[.pointer (some ⟨g, 0, none⟩), .agg #[.int .i64 k, .int .i64 a, .int .i64 b, .int .i64 c, .int .i64 d]] w fun e w' => DPost S W0 w' g x bv vv n e (doesR x k a b c d) := by
  have HA : Hid (∀ o, Eng S W0 (w.alloc o) g x bv vv) := fun o => h.alloc o
  have HO : Hid (Fine x) := ok
  clear h ok
  obtain ⟨R, hR⟩ : ∃ R, doesR x k a b c d = R := ⟨_, rfl⟩
  rw [hR]
  unfold doesR at hR
  by_cases e1 : k = 1
  · rw [if_pos e1] at hR
    have HR : Hid (sendR x a b c = R) := hR
    clear hR
    subst e1
    go_enter Tryz.func8, Tryz.ntmps8
    go_wp2_with fail
    obtain ⟨ev, hP⟩ := HA.out (.cells #[.int .i64 1, .int .i64 a, .int .i64 b, .int .i64 c, .int .i64 d] 34)
    refine (fSend hP HO.out n hn a b c).mono ?_
    rintro e w1 ⟨rfl, hE, hL⟩
    have HF : Hid (Eng S W0 w1 g R.2 bv vv ∧ Left x R.2 n) := by rw [← HR.out]; exact ⟨hE, hL⟩
    clear hP hE hL
    rw [HR.out]
    go_wp2
    go_ret
    exact ⟨rfl, HF.out.1, HF.out.2⟩
  rw [if_neg e1] at hR
  by_cases e2 : k = 2
  · rw [if_pos e2] at hR
    have HR : Hid (spendR x a b = R) := hR
    clear hR e1
    subst e2
    go_enter Tryz.func8, Tryz.ntmps8
    go_wp2_with fail
    obtain ⟨ev, hP⟩ := HA.out (.cells #[.int .i64 2, .int .i64 a, .int .i64 b, .int .i64 c, .int .i64 d] 34)
    refine (fSpend hP HO.out n hn a b).mono ?_
    rintro e w1 ⟨rfl, hE, hL⟩
    have HF : Hid (Eng S W0 w1 g R.2 bv vv ∧ Left x R.2 n) := by rw [← HR.out]; exact ⟨hE, hL⟩
    clear hP hE hL
    rw [HR.out]
    go_wp2
    go_ret
    exact ⟨rfl, HF.out.1, HF.out.2⟩
  rw [if_neg e2] at hR
  by_cases e3 : k = 3
  · rw [if_pos e3] at hR
    have HR : Hid (bondR x a b c = R) := hR
    clear hR e1 e2
    subst e3
    go_enter Tryz.func8, Tryz.ntmps8
    go_wp2_with fail
    obtain ⟨ev, hP⟩ := HA.out (.cells #[.int .i64 3, .int .i64 a, .int .i64 b, .int .i64 c, .int .i64 d] 34)
    refine (fBond hP HO.out n hn a b c).mono ?_
    rintro e w1 ⟨rfl, hE, hL⟩
    have HF : Hid (Eng S W0 w1 g R.2 bv vv ∧ Left x R.2 n) := by rw [← HR.out]; exact ⟨hE, hL⟩
    clear hP hE hL
    rw [HR.out]
    go_wp2
    go_ret
    exact ⟨rfl, HF.out.1, HF.out.2⟩
  rw [if_neg e3] at hR
  by_cases e4 : k = 4
  · rw [if_pos e4] at hR
    have HR : Hid (unbR x a b c = R) := hR
    clear hR e1 e2 e3
    subst e4
    go_enter Tryz.func8, Tryz.ntmps8
    go_wp2_with fail
    obtain ⟨ev, hP⟩ := HA.out (.cells #[.int .i64 4, .int .i64 a, .int .i64 b, .int .i64 c, .int .i64 d] 34)
    refine (fUnbond hP HO.out n hn hn2 a b c).mono ?_
    rintro e w1 ⟨rfl, hE, hL⟩
    have HF : Hid (Eng S W0 w1 g R.2 bv vv ∧ Left x R.2 n) := by rw [← HR.out]; exact ⟨hE, hL⟩
    clear hP hE hL
    rw [HR.out]
    go_wp2
    go_ret
    exact ⟨rfl, HF.out.1, HF.out.2⟩
  rw [if_neg e4] at hR
  by_cases e5 : k = 5
  · rw [if_pos e5] at hR
    have HR : Hid (movR x a b c d = R) := hR
    clear hR e1 e2 e3 e4
    subst e5
    go_enter Tryz.func8, Tryz.ntmps8
    go_wp2_with fail
    obtain ⟨ev, hP⟩ := HA.out (.cells #[.int .i64 5, .int .i64 a, .int .i64 b, .int .i64 c, .int .i64 d] 34)
    refine (fMove hP HO.out n hn a b c d).mono ?_
    rintro e w1 ⟨rfl, hE, hL⟩
    have HF : Hid (Eng S W0 w1 g R.2 bv vv ∧ Left x R.2 n) := by rw [← HR.out]; exact ⟨hE, hL⟩
    clear hP hE hL
    rw [HR.out]
    go_wp2
    go_ret
    exact ⟨rfl, HF.out.1, HF.out.2⟩
  rw [if_neg e5] at hR
  by_cases e6 : k = 6
  · rw [if_pos e6] at hR
    have HR : Hid (withR x a b = R) := hR
    clear hR e1 e2 e3 e4 e5
    subst e6
    go_enter Tryz.func8, Tryz.ntmps8
    go_wp2_with fail
    obtain ⟨ev, hP⟩ := HA.out (.cells #[.int .i64 6, .int .i64 a, .int .i64 b, .int .i64 c, .int .i64 d] 34)
    refine (fWith hP HO.out n hn a b).mono ?_
    rintro e w1 ⟨rfl, hE, hL⟩
    have HF : Hid (Eng S W0 w1 g R.2 bv vv ∧ Left x R.2 n) := by rw [← HR.out]; exact ⟨hE, hL⟩
    clear hP hE hL
    rw [HR.out]
    go_wp2
    go_ret
    exact ⟨rfl, HF.out.1, HF.out.2⟩
  rw [if_neg e6] at hR
  by_cases e7 : k = 7
  · rw [if_pos e7] at hR
    have HR : Hid (collR x a b = R) := hR
    clear hR e1 e2 e3 e4 e5 e6
    subst e7
    go_enter Tryz.func8, Tryz.ntmps8
    go_wp2_with fail
    obtain ⟨ev, hP⟩ := HA.out (.cells #[.int .i64 7, .int .i64 a, .int .i64 b, .int .i64 c, .int .i64 d] 34)
    refine (fColl hP HO.out n hn a b).mono ?_
    rintro e w1 ⟨rfl, hE, hL⟩
    have HF : Hid (Eng S W0 w1 g R.2 bv vv ∧ Left x R.2 n) := by rw [← HR.out]; exact ⟨hE, hL⟩
    clear hP hE hL
    rw [HR.out]
    go_wp2
    go_ret
    exact ⟨rfl, HF.out.1, HF.out.2⟩
  rw [if_neg e7] at hR
  by_cases e8 : k = 8
  · rw [if_pos e8] at hR
    have HR : Hid (slashR x a b c = R) := hR
    clear hR e1 e2 e3 e4 e5 e6 e7
    subst e8
    go_enter Tryz.func8, Tryz.ntmps8
    go_wp2_with fail
    obtain ⟨ev, hP⟩ := HA.out (.cells #[.int .i64 8, .int .i64 a, .int .i64 b, .int .i64 c, .int .i64 d] 34)
    refine (fSlash hP HO.out n hn a b c hn2).mono ?_
    rintro e w1 ⟨rfl, hE, hL⟩
    have HF : Hid (Eng S W0 w1 g R.2 bv vv ∧ Left x R.2 n) := by rw [← HR.out]; exact ⟨hE, hL⟩
    clear hP hE hL
    rw [HR.out]
    go_wp2
    go_ret
    exact ⟨rfl, HF.out.1, HF.out.2⟩
  rw [if_neg e8] at hR
  by_cases e9 : k = 9
  · rw [if_pos e9] at hR
    have HR : Hid (freeR x a b = R) := hR
    clear hR e1 e2 e3 e4 e5 e6 e7 e8
    subst e9
    go_enter Tryz.func8, Tryz.ntmps8
    go_wp2_with fail
    obtain ⟨ev, hP⟩ := HA.out (.cells #[.int .i64 9, .int .i64 a, .int .i64 b, .int .i64 c, .int .i64 d] 34)
    refine (fFree hP HO.out n hn a b).mono ?_
    rintro e w1 ⟨rfl, hE, hL⟩
    have HF : Hid (Eng S W0 w1 g R.2 bv vv ∧ Left x R.2 n) := by rw [← HR.out]; exact ⟨hE, hL⟩
    clear hP hE hL
    rw [HR.out]
    go_wp2
    go_ret
    exact ⟨rfl, HF.out.1, HF.out.2⟩
  rw [if_neg e9] at hR
  have HR : Hid (blkR x = R) := hR
  clear hR
  have b1 : (k == 1) = false := by simp [e1]
  have b2 : (k == 2) = false := by simp [e2]
  have b3 : (k == 3) = false := by simp [e3]
  have b4 : (k == 4) = false := by simp [e4]
  have b5 : (k == 5) = false := by simp [e5]
  have b6 : (k == 6) = false := by simp [e6]
  have b7 : (k == 7) = false := by simp [e7]
  have b8 : (k == 8) = false := by simp [e8]
  have b9 : (k == 9) = false := by simp [e9]
  clear e1 e2 e3 e4 e5 e6 e7 e8 e9
  go_enter Tryz.func8, Tryz.ntmps8
  go_wp2_with fail
  obtain ⟨ev, hP⟩ := HA.out (.cells #[.int .i64 k, .int .i64 a, .int .i64 b, .int .i64 c, .int .i64 d] 34)
  refine (fBlock hP HO.out n hn hn2).mono ?_
  rintro e w1 ⟨rfl, hE, hL⟩
  have HF : Hid (Eng S W0 w1 g R.2 bv vv ∧ Left x R.2 n) := by rw [← HR.out]; exact ⟨hE, hL⟩
  clear hP hE hL
  rw [HR.out]
  go_wp2
  go_ret
  exact ⟨rfl, HF.out.1, HF.out.2⟩
end Go.Proofs.YtohjjgefklhmaabGreatDoor

namespace Go.Proofs.YtohjjgefklhmaabGreatDoor
open Go.ChangeShapes Go.WideShapes Go.ChangeAt Go.RowKit
set_option linter.unusedVariables false

theorem due_near5 : (500 : Int) * (90 * 1073741824 / 500 - 0) / 1073741824 = 89 := by decide

set_option maxHeartbeats 4000000 in
set_option maxRecDepth 100000 in
theorem lives_any (w : World) :
    Calls Tryz.prog 6 #[] w fun e w' => e = .returned (.bool true) ∧ Below w.heap.size w w' := by
  have HT : Hid (∀ u, Calls Tryz.prog 17 #[.int .i64 0] u fun e w' => ∃ g bv vv, e = .returned (.pointer (some ⟨g, 0, none⟩)) ∧ PE (fun k => u.heap.size ≤ k) u w' g (x0 0) bv vv (.slice none 0 0)) := two_any 0 (by omega) (by omega)
  go_enter Tryz.func6, Tryz.ntmps6
  go_wp2_with fail
  refine (HT.out _).mono ?_
  rintro e w1 ⟨g, bv, vv, rfl, hP1⟩
  have HP1 : Hid (PE (fun k => w.heap.size ≤ k) w w1 g (x0 0) bv vv (.slice none 0 0)) := hP1
  clear hP1 HT
  go_wp2_with fail
  refine (lbond HP1.out (x0_eq 0) (k := 1) (by omega) (x0_acct 0 1 (by omega)) 500 (by omega) (by omega) (by omega) (by omega) (by omega) (by omega) (by omega) (by omega) (by omega) (by omega) (by omega) (by omega)).mono ?_
  rintro e w2 ⟨rfl, hP2⟩
  have q2 := (x0_eq 0).bond (k := 1) (by omega) 500 rfl
  have a2 := (x0_eq 0).bond_at (k := 1) (by omega) 500 (x0_acct 0 1 (by omega))
  have b2 := (bond_ne (x0 0) 500 (k := 1) (k' := 2) (by omega) (by omega) (by omega)).trans (x0_acct 0 2 (by omega))
  have z2 := fun k (h1 : 1 ≠ k) (h4 : k < 4) => (bond_ne (x0 0) 500 (k := 1) (k' := k) h1 (by omega) h4).trans (x0_acct 0 k h4)
  generalize bondF (x0 0) 1 0 500 = x2 at *
  have HP2 : Hid (PE (fun k => w.heap.size ≤ k) w w2 g x2 bv vv (.slice none 0 0)) := hP2
  have HQ2 : Hid (EQ x2 0 90 0 0 500 0 0 false 0 ∧ acct x2 1 = (199410, 500, 0) ∧ acct x2 2 = (200000, 0, 0) ∧ acct x2 0 = (200000, 0, 0) ∧ acct x2 3 = (200000, 0, 0)) := ⟨q2, a2, b2, z2 0 (by omega) (by omega), z2 3 (by omega) (by omega)⟩
  clear hP2 q2 a2 b2 z2 HP1
  go_wp2_with fail
  refine (lblock HP2.out HQ2.out.1 (by omega) (by omega) (by omega) (by omega) (by omega) (by omega) (by omega) (by omega) (by omega) (by omega) (by omega) (by omega) (by omega) (by omega) (by omega) (by omega)).mono ?_
  rintro e w3 ⟨rfl, hP3⟩
  have q3 := HQ2.out.1.block_off (by omega)
  have a3 := (block_off_acct HQ2.out.1 1).trans HQ2.out.2.1
  have b3 := (block_off_acct HQ2.out.1 2).trans HQ2.out.2.2.1
  have z30 := (block_off_acct HQ2.out.1 0).trans HQ2.out.2.2.2.1
  have z33 := (block_off_acct HQ2.out.1 3).trans HQ2.out.2.2.2.2
  generalize blockF x2 = x3 at *
  have HP3 : Hid (PE (fun k => w.heap.size ≤ k) w w3 g x3 bv vv (.slice none 0 0)) := hP3
  have HQ3 : Hid (EQ x3 1 0 90 0 500 0 0 true 0 ∧ acct x3 1 = (199410, 500, 0) ∧ acct x3 2 = (200000, 0, 0) ∧ acct x3 0 = (200000, 0, 0) ∧ acct x3 3 = (200000, 0, 0)) := ⟨q3, a3, b3, z30, z33⟩
  clear hP3 q3 a3 b3 z30 z33 HP2 HQ2
  go_wp2_with fail
  refine (lsend HP3.out HQ3.out.1 (k := 2) (k' := 2) (by omega) (by omega) (acct_parts HQ3.out.2.2.1).1 (acct_parts HQ3.out.2.2.1).1 1 (by omega) (by omega) (by omega) (by omega) (by omega) (by omega) (by omega)).mono ?_
  rintro e w4 ⟨rfl, hP4⟩
  have q4 := HQ3.out.1.send 2 2 1
  have b4 := HQ3.out.1.send_self (k := 2) (by omega) 1 HQ3.out.2.2.1
  have z40 := (send_ne x3 1 (k := 2) (t' := 2) (i := 0) (by omega) (by omega)).trans HQ3.out.2.2.2.1
  have z43 := (send_ne x3 1 (k := 2) (t' := 2) (i := 3) (by omega) (by omega)).trans HQ3.out.2.2.2.2
  have a4 := (send_ne x3 1 (k := 2) (t' := 2) (i := 1) (by omega) (by omega)).trans HQ3.out.2.1
  generalize sendF x3 2 2 1 = x4 at *
  have HP4 : Hid (PE (fun k => w.heap.size ≤ k) w w4 g x4 bv vv (.slice none 0 0)) := hP4
  have HQ4 : Hid (EQ x4 1 90 90 0 500 0 0 true 0 ∧ acct x4 1 = (199410, 500, 0) ∧ acct x4 2 = (199910, 0, 0) ∧ acct x4 0 = (200000, 0, 0) ∧ acct x4 3 = (200000, 0, 0)) := ⟨q4, a4, b4, z40, z43⟩
  clear hP4 q4 a4 b4 z40 z43 HP3 HQ3
  go_wp2_with fail
  refine (lblock HP4.out HQ4.out.1 (by omega) (by omega) (by omega) (by omega) (by omega) (by omega) (by omega) (by omega) (by omega) (by omega) (by omega) (by omega) (by omega) (by omega) (by omega) (by omega)).mono ?_
  rintro e w5 ⟨rfl, hP5⟩
  have q5 := HQ4.out.1.block_on (by omega)
  have a5 := (block_on_acct HQ4.out.1 (by omega) 1 (by omega)).trans HQ4.out.2.1
  have b5 := (block_on_acct HQ4.out.1 (by omega) 2 (by omega)).trans HQ4.out.2.2.1
  have z50 := (block_on_acct HQ4.out.1 (by omega) 0 (by omega)).trans HQ4.out.2.2.2.1
  have z53 := (block_on_acct HQ4.out.1 (by omega) 3 (by omega)).trans HQ4.out.2.2.2.2
  generalize blockF x4 = x5 at *
  have HP5 : Hid (PE (fun k => w.heap.size ≤ k) w w5 g x5 bv vv (.slice none 0 0)) := hP5
  have HQ5 : Hid (EQ x5 2 0 90 0 500 0 90 true (90 * 1073741824 / 500) ∧ acct x5 1 = (199410, 500, 0) ∧ acct x5 2 = (199910, 0, 0) ∧ acct x5 0 = (200000, 0, 0) ∧ acct x5 3 = (200000, 0, 0)) := by
    refine ⟨?_, a5, b5, z50, z53⟩
    simpa using q5
  clear hP5 q5 a5 b5 z50 z53 HP4 HQ4
  go_wp2_with fail
  refine (ldue HP5.out HQ5.out.1 (k := 1) (by omega) HQ5.out.2.1 (by omega) (by omega) (by decide) (by decide) (by decide)).mono ?_
  rintro e w6 ⟨rfl, hP6⟩
  rw [due_near5]
  have HP6 : Hid (PE (fun k => w.heap.size ≤ k) w w6 g x5 bv vv (.slice none 0 0)) := hP6
  have HA : Hid (AccOk x5) := by
    have q := HQ5.out.1
    refine ⟨by rw [q.bl]; omega, by rw [q.fee]; omega, by rw [q.fee]; omega, by rw [q.ff]; omega, by rw [q.ff]; omega, by rw [q.pp]; omega, by rw [q.pp]; omega, fun k hk => ?_⟩
    rw [q.bl] at hk
    have : k = 0 ∨ k = 1 ∨ k = 2 ∨ k = 3 := by omega
    rcases this with rfl | rfl | rfl | rfl
    · rw [(acct_parts HQ5.out.2.2.2.1).1]; omega
    · rw [(acct_parts HQ5.out.2.1).1]; omega
    · rw [(acct_parts HQ5.out.2.2.1).1]; omega
    · rw [(acct_parts HQ5.out.2.2.2.2).1]; omega
  clear hP6 HP5
  go_wp2_with fail
  refine (gSend g x5 bv vv _ _ HP6.out 2 9 1 HA.out).mono ?_
  rintro e w7 ⟨rfl, hP7⟩
  have hs : (sendR x5 2 9 1).1 = 2 := by
    have q := HQ5.out.1
    have hc : chErr x5 ((2 : Nat) : Int) = 0 := by
      unfold chErr
      rw [q.bl, if_neg (by decide), Int.toNat_natCast, (acct_parts HQ5.out.2.2.1).1, q.fee, if_neg (by omega)]
    have he : transR (chargeF x5 2).bal.length ((chargeF x5 2).balAt 2) 9 1 = 2 := by
      unfold transR
      rw [(q.charge 2).bl, if_pos (by decide)]
    show (msgR x5 ((2 : Nat) : Int) _ _).1 = 2
    rw [msgR_err hc (by rw [he]; decide)]
    exact he
  rw [hs]
  have HF : Hid (Below w.heap.size w w7) := hP7.fr.toBelow (Nat.le_refl _) (fun k hk h => by omega)
  clear hP7 HP6 HQ5 HA hs
  go_wp2
  go_ret
  refine ⟨?_, HF.out⟩
  simp
end Go.Proofs.YtohjjgefklhmaabGreatDoor
