import Derived.Test.YtohjjgefklhmaaaGFineM
namespace Go.Proofs.Ytohjjgefklhmaaa
open Go.ChangeShapes Go.WideShapes Go.ChangeAt Go.RowKit
set_option linter.unusedVariables false

def doesR (x : EC) (k a b c d : Int) : Int × EC :=
  if k = 1 then sendR x a b c else if k = 2 then spendR x a b else if k = 3 then bondR x a b c else if k = 4 then unbR x a b c else if k = 5 then movR x a b c d else if k = 6 then withR x a b else if k = 7 then collR x a b else if k = 8 then slashR x a b c else if k = 9 then freeR x a b else blkR x

/-- what a step is told to have done -/
def DPost (S : Nat → Prop) (W0 w' : World) (g : Nat) (x : EC) (bv vv : Value) (n : Nat) (e : Ending) (r : Int × EC) : Prop := e = .returned (.int .i64 r.1) ∧ Eng S W0 w' g r.2 bv vv ∧ Left x r.2 n

theorem Eng.below {S : Nat → Prop} {W0 w w' : World} {g : Nat} {x : EC} {bv vv : Value} (h : Eng S W0 w g x bv vv) (hb : Below w.heap.size w w') : Eng S W0 w' g x bv vv := by
  obtain ⟨ev, h⟩ := h; exact ⟨ev, h.below hb⟩
theorem Eng.alloc {S : Nat → Prop} {W0 w : World} {g : Nat} {x : EC} {bv vv : Value} (h : Eng S W0 w g x bv vv) (o : Obj) : Eng S W0 (w.alloc o) g x bv vv := by
  obtain ⟨ev, h⟩ := h; exact ⟨ev, h.alloc o⟩

set_option maxHeartbeats 4000000 in
set_option maxRecDepth 100000 in
theorem does_any {S : Nat → Prop} {W0 : World} {g : Nat} {x : EC} {bv vv : Value} {w : World} (h : Eng S W0 w g x bv vv) (ok : Fine x) (n : Nat) (hn : x.ents.length ≤ n) (hn2 : n ≤ 99999) (k a b c d : Int) :
    Calls Try.prog 12 #[.pointer (some ⟨g, 0, none⟩), .agg #[.int .i64 k, .int .i64 a, .int .i64 b, .int .i64 c, .int .i64 d]] w fun e w' => DPost S W0 w' g x bv vv n e (doesR x k a b c d) := by
  have HA : Hid (∀ o, Eng S W0 (w.alloc o) g x bv vv) := fun o => h.alloc o
  have HO : Hid (Fine x) := ok
  clear h ok
  obtain ⟨R, hR⟩ : ∃ R, doesR x k a b c d = R := ⟨_, rfl⟩
  rw [hR]
  unfold doesR at hR
  by_cases e1 : k = 1
  · rw [if_pos e1] at hR
    have HR : Hid (sendR x a b c = R) := hR
    clear hR
    subst e1
    go_enter Try.func12, Try.ntmps12
    go_wp2_with fail
    obtain ⟨ev, hP⟩ := HA.out (.cells #[.int .i64 1, .int .i64 a, .int .i64 b, .int .i64 c, .int .i64 d] 34)
    refine (fSend hP HO.out n hn a b c).mono ?_
    rintro e w1 ⟨rfl, hE, hL⟩
    have HF : Hid (Eng S W0 w1 g R.2 bv vv ∧ Left x R.2 n) := by rw [← HR.out]; exact ⟨hE, hL⟩
    clear hP hE hL
    rw [HR.out]
    go_wp2
    go_ret
    exact ⟨rfl, HF.out.1, HF.out.2⟩
  rw [if_neg e1] at hR
  by_cases e2 : k = 2
  · rw [if_pos e2] at hR
    have HR : Hid (spendR x a b = R) := hR
    clear hR e1
    subst e2
    go_enter Try.func12, Try.ntmps12
    go_wp2_with fail
    obtain ⟨ev, hP⟩ := HA.out (.cells #[.int .i64 2, .int .i64 a, .int .i64 b, .int .i64 c, .int .i64 d] 34)
    refine (fSpend hP HO.out n hn a b).mono ?_
    rintro e w1 ⟨rfl, hE, hL⟩
    have HF : Hid (Eng S W0 w1 g R.2 bv vv ∧ Left x R.2 n) := by rw [← HR.out]; exact ⟨hE, hL⟩
    clear hP hE hL
    rw [HR.out]
    go_wp2
    go_ret
    exact ⟨rfl, HF.out.1, HF.out.2⟩
  rw [if_neg e2] at hR
  by_cases e3 : k = 3
  · rw [if_pos e3] at hR
    have HR : Hid (bondR x a b c = R) := hR
    clear hR e1 e2
    subst e3
    go_enter Try.func12, Try.ntmps12
    go_wp2_with fail
    obtain ⟨ev, hP⟩ := HA.out (.cells #[.int .i64 3, .int .i64 a, .int .i64 b, .int .i64 c, .int .i64 d] 34)
    refine (fBond hP HO.out n hn a b c).mono ?_
    rintro e w1 ⟨rfl, hE, hL⟩
    have HF : Hid (Eng S W0 w1 g R.2 bv vv ∧ Left x R.2 n) := by rw [← HR.out]; exact ⟨hE, hL⟩
    clear hP hE hL
    rw [HR.out]
    go_wp2
    go_ret
    exact ⟨rfl, HF.out.1, HF.out.2⟩
  rw [if_neg e3] at hR
  by_cases e4 : k = 4
  · rw [if_pos e4] at hR
    have HR : Hid (unbR x a b c = R) := hR
    clear hR e1 e2 e3
    subst e4
    go_enter Try.func12, Try.ntmps12
    go_wp2_with fail
    obtain ⟨ev, hP⟩ := HA.out (.cells #[.int .i64 4, .int .i64 a, .int .i64 b, .int .i64 c, .int .i64 d] 34)
    refine (fUnbond hP HO.out n hn hn2 a b c).mono ?_
    rintro e w1 ⟨rfl, hE, hL⟩
    have HF : Hid (Eng S W0 w1 g R.2 bv vv ∧ Left x R.2 n) := by rw [← HR.out]; exact ⟨hE, hL⟩
    clear hP hE hL
    rw [HR.out]
    go_wp2
    go_ret
    exact ⟨rfl, HF.out.1, HF.out.2⟩
  rw [if_neg e4] at hR
  by_cases e5 : k = 5
  · rw [if_pos e5] at hR
    have HR : Hid (movR x a b c d = R) := hR
    clear hR e1 e2 e3 e4
    subst e5
    go_enter Try.func12, Try.ntmps12
    go_wp2_with fail
    obtain ⟨ev, hP⟩ := HA.out (.cells #[.int .i64 5, .int .i64 a, .int .i64 b, .int .i64 c, .int .i64 d] 34)
    refine (fMove hP HO.out n hn a b c d).mono ?_
    rintro e w1 ⟨rfl, hE, hL⟩
    have HF : Hid (Eng S W0 w1 g R.2 bv vv ∧ Left x R.2 n) := by rw [← HR.out]; exact ⟨hE, hL⟩
    clear hP hE hL
    rw [HR.out]
    go_wp2
    go_ret
    exact ⟨rfl, HF.out.1, HF.out.2⟩
  rw [if_neg e5] at hR
  by_cases e6 : k = 6
  · rw [if_pos e6] at hR
    have HR : Hid (withR x a b = R) := hR
    clear hR e1 e2 e3 e4 e5
    subst e6
    go_enter Try.func12, Try.ntmps12
    go_wp2_with fail
    obtain ⟨ev, hP⟩ := HA.out (.cells #[.int .i64 6, .int .i64 a, .int .i64 b, .int .i64 c, .int .i64 d] 34)
    refine (fWith hP HO.out n hn a b).mono ?_
    rintro e w1 ⟨rfl, hE, hL⟩
    have HF : Hid (Eng S W0 w1 g R.2 bv vv ∧ Left x R.2 n) := by rw [← HR.out]; exact ⟨hE, hL⟩
    clear hP hE hL
    rw [HR.out]
    go_wp2
    go_ret
    exact ⟨rfl, HF.out.1, HF.out.2⟩
  rw [if_neg e6] at hR
  by_cases e7 : k = 7
  · rw [if_pos e7] at hR
    have HR : Hid (collR x a b = R) := hR
    clear hR e1 e2 e3 e4 e5 e6
    subst e7
    go_enter Try.func12, Try.ntmps12
    go_wp2_with fail
    obtain ⟨ev, hP⟩ := HA.out (.cells #[.int .i64 7, .int .i64 a, .int .i64 b, .int .i64 c, .int .i64 d] 34)
    refine (fColl hP HO.out n hn a b).mono ?_
    rintro e w1 ⟨rfl, hE, hL⟩
    have HF : Hid (Eng S W0 w1 g R.2 bv vv ∧ Left x R.2 n) := by rw [← HR.out]; exact ⟨hE, hL⟩
    clear hP hE hL
    rw [HR.out]
    go_wp2
    go_ret
    exact ⟨rfl, HF.out.1, HF.out.2⟩
  rw [if_neg e7] at hR
  by_cases e8 : k = 8
  · rw [if_pos e8] at hR
    have HR : Hid (slashR x a b c = R) := hR
    clear hR e1 e2 e3 e4 e5 e6 e7
    subst e8
    go_enter Try.func12, Try.ntmps12
    go_wp2_with fail
    obtain ⟨ev, hP⟩ := HA.out (.cells #[.int .i64 8, .int .i64 a, .int .i64 b, .int .i64 c, .int .i64 d] 34)
    refine (fSlash hP HO.out n hn a b c hn2).mono ?_
    rintro e w1 ⟨rfl, hE, hL⟩
    have HF : Hid (Eng S W0 w1 g R.2 bv vv ∧ Left x R.2 n) := by rw [← HR.out]; exact ⟨hE, hL⟩
    clear hP hE hL
    rw [HR.out]
    go_wp2
    go_ret
    exact ⟨rfl, HF.out.1, HF.out.2⟩
  rw [if_neg e8] at hR
  by_cases e9 : k = 9
  · rw [if_pos e9] at hR
    have HR : Hid (freeR x a b = R) := hR
    clear hR e1 e2 e3 e4 e5 e6 e7 e8
    subst e9
    go_enter Try.func12, Try.ntmps12
    go_wp2_with fail
    obtain ⟨ev, hP⟩ := HA.out (.cells #[.int .i64 9, .int .i64 a, .int .i64 b, .int .i64 c, .int .i64 d] 34)
    refine (fFree hP HO.out n hn a b).mono ?_
    rintro e w1 ⟨rfl, hE, hL⟩
    have HF : Hid (Eng S W0 w1 g R.2 bv vv ∧ Left x R.2 n) := by rw [← HR.out]; exact ⟨hE, hL⟩
    clear hP hE hL
    rw [HR.out]
    go_wp2
    go_ret
    exact ⟨rfl, HF.out.1, HF.out.2⟩
  rw [if_neg e9] at hR
  have HR : Hid (blkR x = R) := hR
  clear hR
  have b1 : (k == 1) = false := by simp [e1]
  have b2 : (k == 2) = false := by simp [e2]
  have b3 : (k == 3) = false := by simp [e3]
  have b4 : (k == 4) = false := by simp [e4]
  have b5 : (k == 5) = false := by simp [e5]
  have b6 : (k == 6) = false := by simp [e6]
  have b7 : (k == 7) = false := by simp [e7]
  have b8 : (k == 8) = false := by simp [e8]
  have b9 : (k == 9) = false := by simp [e9]
  clear e1 e2 e3 e4 e5 e6 e7 e8 e9
  go_enter Try.func12, Try.ntmps12
  go_wp2_with fail
  obtain ⟨ev, hP⟩ := HA.out (.cells #[.int .i64 k, .int .i64 a, .int .i64 b, .int .i64 c, .int .i64 d] 34)
  refine (fBlock hP HO.out n hn hn2).mono ?_
  rintro e w1 ⟨rfl, hE, hL⟩
  have HF : Hid (Eng S W0 w1 g R.2 bv vv ∧ Left x R.2 n) := by rw [← HR.out]; exact ⟨hE, hL⟩
  clear hP hE hL
  rw [HR.out]
  go_wp2
  go_ret
  exact ⟨rfl, HF.out.1, HF.out.2⟩
end Go.Proofs.Ytohjjgefklhmaaa
