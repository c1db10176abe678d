import Derived.Test.YtohjjgefklhmaaaGBaseM
namespace Go.Proofs.Ytohjjgefklhmaaa
open Go.ChangeShapes Go.WideShapes Go.ChangeAt Go.RowKit
set_option linter.unusedVariables false

section
variable {S : Nat → Prop} {W0 : World} (g : Nat) (x : EC) (bv vv ev : Value) (w : World) (h : PE S W0 w g x bv vv ev)
include h

set_option maxHeartbeats 2000000 in
set_option maxRecDepth 100000 in
theorem gBond_no (who val amount : Int) (ha : AccOk x) (hc : ¬ chErr x who = 0) :
    Calls Try.prog 20 #[.pointer (some ⟨g, 0, none⟩), .int .i64 who, .int .i64 val, .int .i64 amount] w fun e w' => e = .returned (.int .i64 (chErr x who)) ∧ PE S W0 w' g x bv vv ev := by
  have HC : Hid (Calls Try.prog 44 #[.pointer (some ⟨g, 0, none⟩), .int .i64 who] w fun e w' => e = .returned (.int .i64 (chErr x who)) ∧ PE S W0 w' g x bv vv ev) := gcharge_no g x bv vv ev w h who ha hc
  have hc' : (chErr x who == 0) = false := by simp [hc]
  clear h hc
  generalize chErr x who = c at *
  go_enter Try.func20, Try.ntmps20
  go_wp2_with fail
  refine HC.out.mono ?_
  rintro e w1 ⟨rfl, hP⟩
  have HP : Hid (PE S W0 w1 g x bv vv ev) := hP
  clear hP HC
  go_wp2
  go_ret
  exact ⟨rfl, HP.out⟩
set_option maxHeartbeats 2000000 in
set_option maxRecDepth 100000 in
theorem gBond_err (k : Nat) (val amount : Int) (ha : AccOk x) (hc : chErr x k = 0) (ec : Int) (hec : ¬ ec = 0)
    (hE : ∀ w1, PE S W0 w1 g (chargeF x k) bv vv ev → Calls Try.prog 45 #[.pointer (some ⟨g, 0, none⟩), .int .i64 k, .int .i64 val, .int .i64 amount] w1 fun e w' => e = .returned (.int .i64 ec) ∧ Below w1.heap.size w1 w') :
    Calls Try.prog 20 #[.pointer (some ⟨g, 0, none⟩), .int .i64 k, .int .i64 val, .int .i64 amount] w fun e w' => e = .returned (.int .i64 ec) ∧ PE S W0 w' g (chargeF x k) bv vv ev := by
  have HC : Hid (Calls Try.prog 44 #[.pointer (some ⟨g, 0, none⟩), .int .i64 k] w fun e w' => e = .returned (.int .i64 0) ∧ PE S W0 w' g (chargeF x k) bv vv ev) := gcharge_yes g x bv vv ev w h k ha hc
  have HE : Hid (∀ w1, PE S W0 w1 g (chargeF x k) bv vv ev → Calls Try.prog 45 #[.pointer (some ⟨g, 0, none⟩), .int .i64 k, .int .i64 val, .int .i64 amount] w1 fun e w' => e = .returned (.int .i64 ec) ∧ Below w1.heap.size w1 w') := hE
  have hc' : (ec == 0) = false := by simp [hec]
  clear h hc hE hec
  go_enter Try.func20, Try.ntmps20
  go_wp2_with fail
  refine HC.out.mono ?_
  rintro e w1 ⟨rfl, hP⟩
  have HP : Hid (PE S W0 w1 g (chargeF x k) bv vv ev) := hP
  clear hP HC
  go_wp2_with fail
  refine (HE.out _ HP.out).mono ?_
  rintro e w2 ⟨rfl, hb⟩
  have HP2 : Hid (PE S W0 w2 g (chargeF x k) bv vv ev) := HP.out.below hb
  clear hb HP HE
  go_wp2
  go_ret
  exact ⟨rfl, HP2.out⟩

set_option maxHeartbeats 2000000 in
set_option maxRecDepth 100000 in
theorem gUnbond_no (who val shares : Int) (ha : AccOk x) (hc : ¬ chErr x who = 0) :
    Calls Try.prog 21 #[.pointer (some ⟨g, 0, none⟩), .int .i64 who, .int .i64 val, .int .i64 shares] w fun e w' => e = .returned (.int .i64 (chErr x who)) ∧ PE S W0 w' g x bv vv ev := by
  have HC : Hid (Calls Try.prog 44 #[.pointer (some ⟨g, 0, none⟩), .int .i64 who] w fun e w' => e = .returned (.int .i64 (chErr x who)) ∧ PE S W0 w' g x bv vv ev) := gcharge_no g x bv vv ev w h who ha hc
  have hc' : (chErr x who == 0) = false := by simp [hc]
  clear h hc
  generalize chErr x who = c at *
  go_enter Try.func21, Try.ntmps21
  go_wp2_with fail
  refine HC.out.mono ?_
  rintro e w1 ⟨rfl, hP⟩
  have HP : Hid (PE S W0 w1 g x bv vv ev) := hP
  clear hP HC
  go_wp2
  go_ret
  exact ⟨rfl, HP.out⟩
set_option maxHeartbeats 2000000 in
set_option maxRecDepth 100000 in
theorem gUnbond_err (k : Nat) (val shares : Int) (ha : AccOk x) (hc : chErr x k = 0) (ec : Int) (hec : ¬ ec = 0)
    (hE : ∀ w1, PE S W0 w1 g (chargeF x k) bv vv ev → Calls Try.prog 47 #[.pointer (some ⟨g, 0, none⟩), .int .i64 k, .int .i64 val, .int .i64 shares] w1 fun e w' => e = .returned (.int .i64 ec) ∧ Below w1.heap.size w1 w') :
    Calls Try.prog 21 #[.pointer (some ⟨g, 0, none⟩), .int .i64 k, .int .i64 val, .int .i64 shares] w fun e w' => e = .returned (.int .i64 ec) ∧ PE S W0 w' g (chargeF x k) bv vv ev := by
  have HC : Hid (Calls Try.prog 44 #[.pointer (some ⟨g, 0, none⟩), .int .i64 k] w fun e w' => e = .returned (.int .i64 0) ∧ PE S W0 w' g (chargeF x k) bv vv ev) := gcharge_yes g x bv vv ev w h k ha hc
  have HE : Hid (∀ w1, PE S W0 w1 g (chargeF x k) bv vv ev → Calls Try.prog 47 #[.pointer (some ⟨g, 0, none⟩), .int .i64 k, .int .i64 val, .int .i64 shares] w1 fun e w' => e = .returned (.int .i64 ec) ∧ Below w1.heap.size w1 w') := hE
  have hc' : (ec == 0) = false := by simp [hec]
  clear h hc hE hec
  go_enter Try.func21, Try.ntmps21
  go_wp2_with fail
  refine HC.out.mono ?_
  rintro e w1 ⟨rfl, hP⟩
  have HP : Hid (PE S W0 w1 g (chargeF x k) bv vv ev) := hP
  clear hP HC
  go_wp2_with fail
  refine (HE.out _ HP.out).mono ?_
  rintro e w2 ⟨rfl, hb⟩
  have HP2 : Hid (PE S W0 w2 g (chargeF x k) bv vv ev) := HP.out.below hb
  clear hb HP HE
  go_wp2
  go_ret
  exact ⟨rfl, HP2.out⟩

set_option maxHeartbeats 2000000 in
set_option maxRecDepth 100000 in
theorem gMove_no (who val to shares : Int) (ha : AccOk x) (hc : ¬ chErr x who = 0) :
    Calls Try.prog 29 #[.pointer (some ⟨g, 0, none⟩), .int .i64 who, .int .i64 val, .int .i64 to, .int .i64 shares] w fun e w' => e = .returned (.int .i64 (chErr x who)) ∧ PE S W0 w' g x bv vv ev := by
  have HC : Hid (Calls Try.prog 44 #[.pointer (some ⟨g, 0, none⟩), .int .i64 who] w fun e w' => e = .returned (.int .i64 (chErr x who)) ∧ PE S W0 w' g x bv vv ev) := gcharge_no g x bv vv ev w h who ha hc
  have hc' : (chErr x who == 0) = false := by simp [hc]
  clear h hc
  generalize chErr x who = c at *
  go_enter Try.func29, Try.ntmps29
  go_wp2_with fail
  refine HC.out.mono ?_
  rintro e w1 ⟨rfl, hP⟩
  have HP : Hid (PE S W0 w1 g x bv vv ev) := hP
  clear hP HC
  go_wp2
  go_ret
  exact ⟨rfl, HP.out⟩
set_option maxHeartbeats 2000000 in
set_option maxRecDepth 100000 in
theorem gMove_err (k : Nat) (val to shares : Int) (ha : AccOk x) (hc : chErr x k = 0) (ec : Int) (hec : ¬ ec = 0)
    (hE : ∀ w1, PE S W0 w1 g (chargeF x k) bv vv ev → Calls Try.prog 58 #[.pointer (some ⟨g, 0, none⟩), .int .i64 k, .int .i64 val, .int .i64 to, .int .i64 shares] w1 fun e w' => e = .returned (.int .i64 ec) ∧ Below w1.heap.size w1 w') :
    Calls Try.prog 29 #[.pointer (some ⟨g, 0, none⟩), .int .i64 k, .int .i64 val, .int .i64 to, .int .i64 shares] w fun e w' => e = .returned (.int .i64 ec) ∧ PE S W0 w' g (chargeF x k) bv vv ev := by
  have HC : Hid (Calls Try.prog 44 #[.pointer (some ⟨g, 0, none⟩), .int .i64 k] w fun e w' => e = .returned (.int .i64 0) ∧ PE S W0 w' g (chargeF x k) bv vv ev) := gcharge_yes g x bv vv ev w h k ha hc
  have HE : Hid (∀ w1, PE S W0 w1 g (chargeF x k) bv vv ev → Calls Try.prog 58 #[.pointer (some ⟨g, 0, none⟩), .int .i64 k, .int .i64 val, .int .i64 to, .int .i64 shares] w1 fun e w' => e = .returned (.int .i64 ec) ∧ Below w1.heap.size w1 w') := hE
  have hc' : (ec == 0) = false := by simp [hec]
  clear h hc hE hec
  go_enter Try.func29, Try.ntmps29
  go_wp2_with fail
  refine HC.out.mono ?_
  rintro e w1 ⟨rfl, hP⟩
  have HP : Hid (PE S W0 w1 g (chargeF x k) bv vv ev) := hP
  clear hP HC
  go_wp2_with fail
  refine (HE.out _ HP.out).mono ?_
  rintro e w2 ⟨rfl, hb⟩
  have HP2 : Hid (PE S W0 w2 g (chargeF x k) bv vv ev) := HP.out.below hb
  clear hb HP HE
  go_wp2
  go_ret
  exact ⟨rfl, HP2.out⟩

set_option maxHeartbeats 2000000 in
set_option maxRecDepth 100000 in
theorem gWithdraw_no (who val : Int) (ha : AccOk x) (hc : ¬ chErr x who = 0) :
    Calls Try.prog 23 #[.pointer (some ⟨g, 0, none⟩), .int .i64 who, .int .i64 val] w fun e w' => e = .returned (.int .i64 (chErr x who)) ∧ PE S W0 w' g x bv vv ev := by
  have HC : Hid (Calls Try.prog 44 #[.pointer (some ⟨g, 0, none⟩), .int .i64 who] w fun e w' => e = .returned (.int .i64 (chErr x who)) ∧ PE S W0 w' g x bv vv ev) := gcharge_no g x bv vv ev w h who ha hc
  have hc' : (chErr x who == 0) = false := by simp [hc]
  clear h hc
  generalize chErr x who = c at *
  go_enter Try.func23, Try.ntmps23
  go_wp2_with fail
  refine HC.out.mono ?_
  rintro e w1 ⟨rfl, hP⟩
  have HP : Hid (PE S W0 w1 g x bv vv ev) := hP
  clear hP HC
  go_wp2
  go_ret
  exact ⟨rfl, HP.out⟩
set_option maxHeartbeats 2000000 in
set_option maxRecDepth 100000 in
theorem gWithdraw_err (k : Nat) (val : Int) (ha : AccOk x) (hc : chErr x k = 0) (ec : Int) (hec : ¬ ec = 0)
    (hE : ∀ w1, PE S W0 w1 g (chargeF x k) bv vv ev → Calls Try.prog 51 #[.pointer (some ⟨g, 0, none⟩), .int .i64 k, .int .i64 val] w1 fun e w' => e = .returned (.int .i64 ec) ∧ Below w1.heap.size w1 w') :
    Calls Try.prog 23 #[.pointer (some ⟨g, 0, none⟩), .int .i64 k, .int .i64 val] w fun e w' => e = .returned (.int .i64 ec) ∧ PE S W0 w' g (chargeF x k) bv vv ev := by
  have HC : Hid (Calls Try.prog 44 #[.pointer (some ⟨g, 0, none⟩), .int .i64 k] w fun e w' => e = .returned (.int .i64 0) ∧ PE S W0 w' g (chargeF x k) bv vv ev) := gcharge_yes g x bv vv ev w h k ha hc
  have HE : Hid (∀ w1, PE S W0 w1 g (chargeF x k) bv vv ev → Calls Try.prog 51 #[.pointer (some ⟨g, 0, none⟩), .int .i64 k, .int .i64 val] w1 fun e w' => e = .returned (.int .i64 ec) ∧ Below w1.heap.size w1 w') := hE
  have hc' : (ec == 0) = false := by simp [hec]
  clear h hc hE hec
  go_enter Try.func23, Try.ntmps23
  go_wp2_with fail
  refine HC.out.mono ?_
  rintro e w1 ⟨rfl, hP⟩
  have HP : Hid (PE S W0 w1 g (chargeF x k) bv vv ev) := hP
  clear hP HC
  go_wp2_with fail
  refine (HE.out _ HP.out).mono ?_
  rintro e w2 ⟨rfl, hb⟩
  have HP2 : Hid (PE S W0 w2 g (chargeF x k) bv vv ev) := HP.out.below hb
  clear hb HP HE
  go_wp2
  go_ret
  exact ⟨rfl, HP2.out⟩

set_option maxHeartbeats 2000000 in
set_option maxRecDepth 100000 in
theorem gCollect_no (who val : Int) (ha : AccOk x) (hc : ¬ chErr x who = 0) :
    Calls Try.prog 30 #[.pointer (some ⟨g, 0, none⟩), .int .i64 who, .int .i64 val] w fun e w' => e = .returned (.int .i64 (chErr x who)) ∧ PE S W0 w' g x bv vv ev := by
  have HC : Hid (Calls Try.prog 44 #[.pointer (some ⟨g, 0, none⟩), .int .i64 who] w fun e w' => e = .returned (.int .i64 (chErr x who)) ∧ PE S W0 w' g x bv vv ev) := gcharge_no g x bv vv ev w h who ha hc
  have hc' : (chErr x who == 0) = false := by simp [hc]
  clear h hc
  generalize chErr x who = c at *
  go_enter Try.func30, Try.ntmps30
  go_wp2_with fail
  refine HC.out.mono ?_
  rintro e w1 ⟨rfl, hP⟩
  have HP : Hid (PE S W0 w1 g x bv vv ev) := hP
  clear hP HC
  go_wp2
  go_ret
  exact ⟨rfl, HP.out⟩
set_option maxHeartbeats 2000000 in
set_option maxRecDepth 100000 in
theorem gCollect_err (k : Nat) (val : Int) (ha : AccOk x) (hc : chErr x k = 0) (ec : Int) (hec : ¬ ec = 0)
    (hE : ∀ w1, PE S W0 w1 g (chargeF x k) bv vv ev → Calls Try.prog 59 #[.pointer (some ⟨g, 0, none⟩), .int .i64 k, .int .i64 val] w1 fun e w' => e = .returned (.int .i64 ec) ∧ Below w1.heap.size w1 w') :
    Calls Try.prog 30 #[.pointer (some ⟨g, 0, none⟩), .int .i64 k, .int .i64 val] w fun e w' => e = .returned (.int .i64 ec) ∧ PE S W0 w' g (chargeF x k) bv vv ev := by
  have HC : Hid (Calls Try.prog 44 #[.pointer (some ⟨g, 0, none⟩), .int .i64 k] w fun e w' => e = .returned (.int .i64 0) ∧ PE S W0 w' g (chargeF x k) bv vv ev) := gcharge_yes g x bv vv ev w h k ha hc
  have HE : Hid (∀ w1, PE S W0 w1 g (chargeF x k) bv vv ev → Calls Try.prog 59 #[.pointer (some ⟨g, 0, none⟩), .int .i64 k, .int .i64 val] w1 fun e w' => e = .returned (.int .i64 ec) ∧ Below w1.heap.size w1 w') := hE
  have hc' : (ec == 0) = false := by simp [hec]
  clear h hc hE hec
  go_enter Try.func30, Try.ntmps30
  go_wp2_with fail
  refine HC.out.mono ?_
  rintro e w1 ⟨rfl, hP⟩
  have HP : Hid (PE S W0 w1 g (chargeF x k) bv vv ev) := hP
  clear hP HC
  go_wp2_with fail
  refine (HE.out _ HP.out).mono ?_
  rintro e w2 ⟨rfl, hb⟩
  have HP2 : Hid (PE S W0 w2 g (chargeF x k) bv vv ev) := HP.out.below hb
  clear hb HP HE
  go_wp2
  go_ret
  exact ⟨rfl, HP2.out⟩

set_option maxHeartbeats 2000000 in
set_option maxRecDepth 100000 in
theorem gFree_no (who val : Int) (ha : AccOk x) (hc : ¬ chErr x who = 0) :
    Calls Try.prog 32 #[.pointer (some ⟨g, 0, none⟩), .int .i64 who, .int .i64 val] w fun e w' => e = .returned (.int .i64 (chErr x who)) ∧ PE S W0 w' g x bv vv ev := by
  have HC : Hid (Calls Try.prog 44 #[.pointer (some ⟨g, 0, none⟩), .int .i64 who] w fun e w' => e = .returned (.int .i64 (chErr x who)) ∧ PE S W0 w' g x bv vv ev) := gcharge_no g x bv vv ev w h who ha hc
  have hc' : (chErr x who == 0) = false := by simp [hc]
  clear h hc
  generalize chErr x who = c at *
  go_enter Try.func32, Try.ntmps32
  go_wp2_with fail
  refine HC.out.mono ?_
  rintro e w1 ⟨rfl, hP⟩
  have HP : Hid (PE S W0 w1 g x bv vv ev) := hP
  clear hP HC
  go_wp2
  go_ret
  exact ⟨rfl, HP.out⟩
set_option maxHeartbeats 2000000 in
set_option maxRecDepth 100000 in
theorem gFree_err (k : Nat) (val : Int) (ha : AccOk x) (hc : chErr x k = 0) (ec : Int) (hec : ¬ ec = 0)
    (hE : ∀ w1, PE S W0 w1 g (chargeF x k) bv vv ev → Calls Try.prog 65 #[.pointer (some ⟨g, 0, none⟩), .int .i64 k, .int .i64 val] w1 fun e w' => e = .returned (.int .i64 ec) ∧ Below w1.heap.size w1 w') :
    Calls Try.prog 32 #[.pointer (some ⟨g, 0, none⟩), .int .i64 k, .int .i64 val] w fun e w' => e = .returned (.int .i64 ec) ∧ PE S W0 w' g (chargeF x k) bv vv ev := by
  have HC : Hid (Calls Try.prog 44 #[.pointer (some ⟨g, 0, none⟩), .int .i64 k] w fun e w' => e = .returned (.int .i64 0) ∧ PE S W0 w' g (chargeF x k) bv vv ev) := gcharge_yes g x bv vv ev w h k ha hc
  have HE : Hid (∀ w1, PE S W0 w1 g (chargeF x k) bv vv ev → Calls Try.prog 65 #[.pointer (some ⟨g, 0, none⟩), .int .i64 k, .int .i64 val] w1 fun e w' => e = .returned (.int .i64 ec) ∧ Below w1.heap.size w1 w') := hE
  have hc' : (ec == 0) = false := by simp [hec]
  clear h hc hE hec
  go_enter Try.func32, Try.ntmps32
  go_wp2_with fail
  refine HC.out.mono ?_
  rintro e w1 ⟨rfl, hP⟩
  have HP : Hid (PE S W0 w1 g (chargeF x k) bv vv ev) := hP
  clear hP HC
  go_wp2_with fail
  refine (HE.out _ HP.out).mono ?_
  rintro e w2 ⟨rfl, hb⟩
  have HP2 : Hid (PE S W0 w2 g (chargeF x k) bv vv ev) := HP.out.below hb
  clear hb HP HE
  go_wp2
  go_ret
  exact ⟨rfl, HP2.out⟩
end
end Go.Proofs.Ytohjjgefklhmaaa
