import Derived.Test.YtohjjgefklhmaabGreatDoorGBaseM
namespace Go.Proofs.YtohjjgefklhmaabGreatDoor
open Go.ChangeShapes Go.WideShapes Go.ChangeAt Go.RowKit
set_option linter.unusedVariables false

section
variable {S : Nat → Prop} {W0 : World} (g : Nat) (x : EC) (bv vv ev : Value) (w : World) (h : PE S W0 w g x bv vv ev)
include h

set_option maxHeartbeats 2000000 in
set_option maxRecDepth 100000 in
theorem gBond_no (who val amount : Int) (ha : AccOk x) (hc : ¬ chErr x who = 0) :
    Calls Tryz.prog 18 #[.pointer (some ⟨g, 0, none⟩), .int .i64 who, .int .i64 val, .int .i64 amount] w fun e w' => e = .returned (.int .i64 (chErr x who)) ∧ PE S W0 w' g x bv vv ev := by
  have HC : Hid (Calls Tryz.prog 47 #[.pointer (some ⟨g, 0, none⟩), .int .i64 who] w fun e w' => e = .returned (.int .i64 (chErr x who)) ∧ PE S W0 w' g x bv vv ev) := gcharge_no g x bv vv ev w h who ha hc
  have hc' : (chErr x who == 0) = false := by simp [hc]
  clear h hc
  generalize chErr x who = c at *
  go_enter Tryz.func18, Tryz.ntmps18
  go_wp2_with fail
  refine HC.out.mono ?_
  rintro e w1 ⟨rfl, hP⟩
  have HP : Hid (PE S W0 w1 g x bv vv ev) := hP
  clear hP HC
  go_wp2
  go_ret
  exact ⟨rfl, HP.out⟩
set_option maxHeartbeats 2000000 in
set_option maxRecDepth 100000 in
theorem gBond_err (k : Nat) (val amount : Int) (ha : AccOk x) (hc : chErr x k = 0) (ec : Int) (hec : ¬ ec = 0)
    (hE : ∀ w1, PE S W0 w1 g (chargeF x k) bv vv ev → Calls Tryz.prog 48 #[.pointer (some ⟨g, 0, none⟩), .int .i64 k, .int .i64 val, .int .i64 amount] w1 fun e w' => e = .returned (.int .i64 ec) ∧ Below w1.heap.size w1 w') :
    Calls Tryz.prog 18 #[.pointer (some ⟨g, 0, none⟩), .int .i64 k, .int .i64 val, .int .i64 amount] w fun e w' => e = .returned (.int .i64 ec) ∧ PE S W0 w' g (chargeF x k) bv vv ev := by
  have HC : Hid (Calls Tryz.prog 47 #[.pointer (some ⟨g, 0, none⟩), .int .i64 k] w fun e w' => e = .returned (.int .i64 0) ∧ PE S W0 w' g (chargeF x k) bv vv ev) := gcharge_yes g x bv vv ev w h k ha hc
  have HE : Hid (∀ w1, PE S W0 w1 g (chargeF x k) bv vv ev → Calls Tryz.prog 48 #[.pointer (some ⟨g, 0, none⟩), .int .i64 k, .int .i64 val, .int .i64 amount] w1 fun e w' => e = .returned (.int .i64 ec) ∧ Below w1.heap.size w1 w') := hE
  have hc' : (ec == 0) = false := by simp [hec]
  clear h hc hE hec
  go_enter Tryz.func18, Tryz.ntmps18
  go_wp2_with fail
  refine HC.out.mono ?_
  rintro e w1 ⟨rfl, hP⟩
  have HP : Hid (PE S W0 w1 g (chargeF x k) bv vv ev) := hP
  clear hP HC
  go_wp2_with fail
  refine (HE.out _ HP.out).mono ?_
  rintro e w2 ⟨rfl, hb⟩
  have HP2 : Hid (PE S W0 w2 g (chargeF x k) bv vv ev) := HP.out.below hb
  clear hb HP HE
  go_wp2
  go_ret
  exact ⟨rfl, HP2.out⟩

set_option maxHeartbeats 2000000 in
set_option maxRecDepth 100000 in
theorem gUnbond_no (who val shares : Int) (ha : AccOk x) (hc : ¬ chErr x who = 0) :
    Calls Tryz.prog 26 #[.pointer (some ⟨g, 0, none⟩), .int .i64 who, .int .i64 val, .int .i64 shares] w fun e w' => e = .returned (.int .i64 (chErr x who)) ∧ PE S W0 w' g x bv vv ev := by
  have HC : Hid (Calls Tryz.prog 47 #[.pointer (some ⟨g, 0, none⟩), .int .i64 who] w fun e w' => e = .returned (.int .i64 (chErr x who)) ∧ PE S W0 w' g x bv vv ev) := gcharge_no g x bv vv ev w h who ha hc
  have hc' : (chErr x who == 0) = false := by simp [hc]
  clear h hc
  generalize chErr x who = c at *
  go_enter Tryz.func26, Tryz.ntmps26
  go_wp2_with fail
  refine HC.out.mono ?_
  rintro e w1 ⟨rfl, hP⟩
  have HP : Hid (PE S W0 w1 g x bv vv ev) := hP
  clear hP HC
  go_wp2
  go_ret
  exact ⟨rfl, HP.out⟩
set_option maxHeartbeats 2000000 in
set_option maxRecDepth 100000 in
theorem gUnbond_err (k : Nat) (val shares : Int) (ha : AccOk x) (hc : chErr x k = 0) (ec : Int) (hec : ¬ ec = 0)
    (hE : ∀ w1, PE S W0 w1 g (chargeF x k) bv vv ev → Calls Tryz.prog 60 #[.pointer (some ⟨g, 0, none⟩), .int .i64 k, .int .i64 val, .int .i64 shares] w1 fun e w' => e = .returned (.int .i64 ec) ∧ Below w1.heap.size w1 w') :
    Calls Tryz.prog 26 #[.pointer (some ⟨g, 0, none⟩), .int .i64 k, .int .i64 val, .int .i64 shares] w fun e w' => e = .returned (.int .i64 ec) ∧ PE S W0 w' g (chargeF x k) bv vv ev := by
  have HC : Hid (Calls Tryz.prog 47 #[.pointer (some ⟨g, 0, none⟩), .int .i64 k] w fun e w' => e = .returned (.int .i64 0) ∧ PE S W0 w' g (chargeF x k) bv vv ev) := gcharge_yes g x bv vv ev w h k ha hc
  have HE : Hid (∀ w1, PE S W0 w1 g (chargeF x k) bv vv ev → Calls Tryz.prog 60 #[.pointer (some ⟨g, 0, none⟩), .int .i64 k, .int .i64 val, .int .i64 shares] w1 fun e w' => e = .returned (.int .i64 ec) ∧ Below w1.heap.size w1 w') := hE
  have hc' : (ec == 0) = false := by simp [hec]
  clear h hc hE hec
  go_enter Tryz.func26, Tryz.ntmps26
  go_wp2_with fail
  refine HC.out.mono ?_
  rintro e w1 ⟨rfl, hP⟩
  have HP : Hid (PE S W0 w1 g (chargeF x k) bv vv ev) := hP
  clear hP HC
  go_wp2_with fail
  refine (HE.out _ HP.out).mono ?_
  rintro e w2 ⟨rfl, hb⟩
  have HP2 : Hid (PE S W0 w2 g (chargeF x k) bv vv ev) := HP.out.below hb
  clear hb HP HE
  go_wp2
  go_ret
  exact ⟨rfl, HP2.out⟩

set_option maxHeartbeats 2000000 in
set_option maxRecDepth 100000 in
theorem gMove_no (who val to shares : Int) (ha : AccOk x) (hc : ¬ chErr x who = 0) :
    Calls Tryz.prog 27 #[.pointer (some ⟨g, 0, none⟩), .int .i64 who, .int .i64 val, .int .i64 to, .int .i64 shares] w fun e w' => e = .returned (.int .i64 (chErr x who)) ∧ PE S W0 w' g x bv vv ev := by
  have HC : Hid (Calls Tryz.prog 47 #[.pointer (some ⟨g, 0, none⟩), .int .i64 who] w fun e w' => e = .returned (.int .i64 (chErr x who)) ∧ PE S W0 w' g x bv vv ev) := gcharge_no g x bv vv ev w h who ha hc
  have hc' : (chErr x who == 0) = false := by simp [hc]
  clear h hc
  generalize chErr x who = c at *
  go_enter Tryz.func27, Tryz.ntmps27
  go_wp2_with fail
  refine HC.out.mono ?_
  rintro e w1 ⟨rfl, hP⟩
  have HP : Hid (PE S W0 w1 g x bv vv ev) := hP
  clear hP HC
  go_wp2
  go_ret
  exact ⟨rfl, HP.out⟩
set_option maxHeartbeats 2000000 in
set_option maxRecDepth 100000 in
theorem gMove_err (k : Nat) (val to shares : Int) (ha : AccOk x) (hc : chErr x k = 0) (ec : Int) (hec : ¬ ec = 0)
    (hE : ∀ w1, PE S W0 w1 g (chargeF x k) bv vv ev → Calls Tryz.prog 63 #[.pointer (some ⟨g, 0, none⟩), .int .i64 k, .int .i64 val, .int .i64 to, .int .i64 shares] w1 fun e w' => e = .returned (.int .i64 ec) ∧ Below w1.heap.size w1 w') :
    Calls Tryz.prog 27 #[.pointer (some ⟨g, 0, none⟩), .int .i64 k, .int .i64 val, .int .i64 to, .int .i64 shares] w fun e w' => e = .returned (.int .i64 ec) ∧ PE S W0 w' g (chargeF x k) bv vv ev := by
  have HC : Hid (Calls Tryz.prog 47 #[.pointer (some ⟨g, 0, none⟩), .int .i64 k] w fun e w' => e = .returned (.int .i64 0) ∧ PE S W0 w' g (chargeF x k) bv vv ev) := gcharge_yes g x bv vv ev w h k ha hc
  have HE : Hid (∀ w1, PE S W0 w1 g (chargeF x k) bv vv ev → Calls Tryz.prog 63 #[.pointer (some ⟨g, 0, none⟩), .int .i64 k, .int .i64 val, .int .i64 to, .int .i64 shares] w1 fun e w' => e = .returned (.int .i64 ec) ∧ Below w1.heap.size w1 w') := hE
  have hc' : (ec == 0) = false := by simp [hec]
  clear h hc hE hec
  go_enter Tryz.func27, Tryz.ntmps27
  go_wp2_with fail
  refine HC.out.mono ?_
  rintro e w1 ⟨rfl, hP⟩
  have HP : Hid (PE S W0 w1 g (chargeF x k) bv vv ev) := hP
  clear hP HC
  go_wp2_with fail
  refine (HE.out _ HP.out).mono ?_
  rintro e w2 ⟨rfl, hb⟩
  have HP2 : Hid (PE S W0 w2 g (chargeF x k) bv vv ev) := HP.out.below hb
  clear hb HP HE
  go_wp2
  go_ret
  exact ⟨rfl, HP2.out⟩

set_option maxHeartbeats 2000000 in
set_option maxRecDepth 100000 in
theorem gWithdraw_no (who val : Int) (ha : AccOk x) (hc : ¬ chErr x who = 0) :
    Calls Tryz.prog 28 #[.pointer (some ⟨g, 0, none⟩), .int .i64 who, .int .i64 val] w fun e w' => e = .returned (.int .i64 (chErr x who)) ∧ PE S W0 w' g x bv vv ev := by
  have HC : Hid (Calls Tryz.prog 47 #[.pointer (some ⟨g, 0, none⟩), .int .i64 who] w fun e w' => e = .returned (.int .i64 (chErr x who)) ∧ PE S W0 w' g x bv vv ev) := gcharge_no g x bv vv ev w h who ha hc
  have hc' : (chErr x who == 0) = false := by simp [hc]
  clear h hc
  generalize chErr x who = c at *
  go_enter Tryz.func28, Tryz.ntmps28
  go_wp2_with fail
  refine HC.out.mono ?_
  rintro e w1 ⟨rfl, hP⟩
  have HP : Hid (PE S W0 w1 g x bv vv ev) := hP
  clear hP HC
  go_wp2
  go_ret
  exact ⟨rfl, HP.out⟩
set_option maxHeartbeats 2000000 in
set_option maxRecDepth 100000 in
theorem gWithdraw_err (k : Nat) (val : Int) (ha : AccOk x) (hc : chErr x k = 0) (ec : Int) (hec : ¬ ec = 0)
    (hE : ∀ w1, PE S W0 w1 g (chargeF x k) bv vv ev → Calls Tryz.prog 55 #[.pointer (some ⟨g, 0, none⟩), .int .i64 k, .int .i64 val] w1 fun e w' => e = .returned (.int .i64 ec) ∧ Below w1.heap.size w1 w') :
    Calls Tryz.prog 28 #[.pointer (some ⟨g, 0, none⟩), .int .i64 k, .int .i64 val] w fun e w' => e = .returned (.int .i64 ec) ∧ PE S W0 w' g (chargeF x k) bv vv ev := by
  have HC : Hid (Calls Tryz.prog 47 #[.pointer (some ⟨g, 0, none⟩), .int .i64 k] w fun e w' => e = .returned (.int .i64 0) ∧ PE S W0 w' g (chargeF x k) bv vv ev) := gcharge_yes g x bv vv ev w h k ha hc
  have HE : Hid (∀ w1, PE S W0 w1 g (chargeF x k) bv vv ev → Calls Tryz.prog 55 #[.pointer (some ⟨g, 0, none⟩), .int .i64 k, .int .i64 val] w1 fun e w' => e = .returned (.int .i64 ec) ∧ Below w1.heap.size w1 w') := hE
  have hc' : (ec == 0) = false := by simp [hec]
  clear h hc hE hec
  go_enter Tryz.func28, Tryz.ntmps28
  go_wp2_with fail
  refine HC.out.mono ?_
  rintro e w1 ⟨rfl, hP⟩
  have HP : Hid (PE S W0 w1 g (chargeF x k) bv vv ev) := hP
  clear hP HC
  go_wp2_with fail
  refine (HE.out _ HP.out).mono ?_
  rintro e w2 ⟨rfl, hb⟩
  have HP2 : Hid (PE S W0 w2 g (chargeF x k) bv vv ev) := HP.out.below hb
  clear hb HP HE
  go_wp2
  go_ret
  exact ⟨rfl, HP2.out⟩

set_option maxHeartbeats 2000000 in
set_option maxRecDepth 100000 in
theorem gCollect_no (who val : Int) (ha : AccOk x) (hc : ¬ chErr x who = 0) :
    Calls Tryz.prog 29 #[.pointer (some ⟨g, 0, none⟩), .int .i64 who, .int .i64 val] w fun e w' => e = .returned (.int .i64 (chErr x who)) ∧ PE S W0 w' g x bv vv ev := by
  have HC : Hid (Calls Tryz.prog 47 #[.pointer (some ⟨g, 0, none⟩), .int .i64 who] w fun e w' => e = .returned (.int .i64 (chErr x who)) ∧ PE S W0 w' g x bv vv ev) := gcharge_no g x bv vv ev w h who ha hc
  have hc' : (chErr x who == 0) = false := by simp [hc]
  clear h hc
  generalize chErr x who = c at *
  go_enter Tryz.func29, Tryz.ntmps29
  go_wp2_with fail
  refine HC.out.mono ?_
  rintro e w1 ⟨rfl, hP⟩
  have HP : Hid (PE S W0 w1 g x bv vv ev) := hP
  clear hP HC
  go_wp2
  go_ret
  exact ⟨rfl, HP.out⟩
set_option maxHeartbeats 2000000 in
set_option maxRecDepth 100000 in
theorem gCollect_err (k : Nat) (val : Int) (ha : AccOk x) (hc : chErr x k = 0) (ec : Int) (hec : ¬ ec = 0)
    (hE : ∀ w1, PE S W0 w1 g (chargeF x k) bv vv ev → Calls Tryz.prog 65 #[.pointer (some ⟨g, 0, none⟩), .int .i64 k, .int .i64 val] w1 fun e w' => e = .returned (.int .i64 ec) ∧ Below w1.heap.size w1 w') :
    Calls Tryz.prog 29 #[.pointer (some ⟨g, 0, none⟩), .int .i64 k, .int .i64 val] w fun e w' => e = .returned (.int .i64 ec) ∧ PE S W0 w' g (chargeF x k) bv vv ev := by
  have HC : Hid (Calls Tryz.prog 47 #[.pointer (some ⟨g, 0, none⟩), .int .i64 k] w fun e w' => e = .returned (.int .i64 0) ∧ PE S W0 w' g (chargeF x k) bv vv ev) := gcharge_yes g x bv vv ev w h k ha hc
  have HE : Hid (∀ w1, PE S W0 w1 g (chargeF x k) bv vv ev → Calls Tryz.prog 65 #[.pointer (some ⟨g, 0, none⟩), .int .i64 k, .int .i64 val] w1 fun e w' => e = .returned (.int .i64 ec) ∧ Below w1.heap.size w1 w') := hE
  have hc' : (ec == 0) = false := by simp [hec]
  clear h hc hE hec
  go_enter Tryz.func29, Tryz.ntmps29
  go_wp2_with fail
  refine HC.out.mono ?_
  rintro e w1 ⟨rfl, hP⟩
  have HP : Hid (PE S W0 w1 g (chargeF x k) bv vv ev) := hP
  clear hP HC
  go_wp2_with fail
  refine (HE.out _ HP.out).mono ?_
  rintro e w2 ⟨rfl, hb⟩
  have HP2 : Hid (PE S W0 w2 g (chargeF x k) bv vv ev) := HP.out.below hb
  clear hb HP HE
  go_wp2
  go_ret
  exact ⟨rfl, HP2.out⟩

set_option maxHeartbeats 2000000 in
set_option maxRecDepth 100000 in
theorem gFree_no (who val : Int) (ha : AccOk x) (hc : ¬ chErr x who = 0) :
    Calls Tryz.prog 31 #[.pointer (some ⟨g, 0, none⟩), .int .i64 who, .int .i64 val] w fun e w' => e = .returned (.int .i64 (chErr x who)) ∧ PE S W0 w' g x bv vv ev := by
  have HC : Hid (Calls Tryz.prog 47 #[.pointer (some ⟨g, 0, none⟩), .int .i64 who] w fun e w' => e = .returned (.int .i64 (chErr x who)) ∧ PE S W0 w' g x bv vv ev) := gcharge_no g x bv vv ev w h who ha hc
  have hc' : (chErr x who == 0) = false := by simp [hc]
  clear h hc
  generalize chErr x who = c at *
  go_enter Tryz.func31, Tryz.ntmps31
  go_wp2_with fail
  refine HC.out.mono ?_
  rintro e w1 ⟨rfl, hP⟩
  have HP : Hid (PE S W0 w1 g x bv vv ev) := hP
  clear hP HC
  go_wp2
  go_ret
  exact ⟨rfl, HP.out⟩
set_option maxHeartbeats 2000000 in
set_option maxRecDepth 100000 in
theorem gFree_err (k : Nat) (val : Int) (ha : AccOk x) (hc : chErr x k = 0) (ec : Int) (hec : ¬ ec = 0)
    (hE : ∀ w1, PE S W0 w1 g (chargeF x k) bv vv ev → Calls Tryz.prog 71 #[.pointer (some ⟨g, 0, none⟩), .int .i64 k, .int .i64 val] w1 fun e w' => e = .returned (.int .i64 ec) ∧ Below w1.heap.size w1 w') :
    Calls Tryz.prog 31 #[.pointer (some ⟨g, 0, none⟩), .int .i64 k, .int .i64 val] w fun e w' => e = .returned (.int .i64 ec) ∧ PE S W0 w' g (chargeF x k) bv vv ev := by
  have HC : Hid (Calls Tryz.prog 47 #[.pointer (some ⟨g, 0, none⟩), .int .i64 k] w fun e w' => e = .returned (.int .i64 0) ∧ PE S W0 w' g (chargeF x k) bv vv ev) := gcharge_yes g x bv vv ev w h k ha hc
  have HE : Hid (∀ w1, PE S W0 w1 g (chargeF x k) bv vv ev → Calls Tryz.prog 71 #[.pointer (some ⟨g, 0, none⟩), .int .i64 k, .int .i64 val] w1 fun e w' => e = .returned (.int .i64 ec) ∧ Below w1.heap.size w1 w') := hE
  have hc' : (ec == 0) = false := by simp [hec]
  clear h hc hE hec
  go_enter Tryz.func31, Tryz.ntmps31
  go_wp2_with fail
  refine HC.out.mono ?_
  rintro e w1 ⟨rfl, hP⟩
  have HP : Hid (PE S W0 w1 g (chargeF x k) bv vv ev) := hP
  clear hP HC
  go_wp2_with fail
  refine (HE.out _ HP.out).mono ?_
  rintro e w2 ⟨rfl, hb⟩
  have HP2 : Hid (PE S W0 w2 g (chargeF x k) bv vv ev) := HP.out.below hb
  clear hb HP HE
  go_wp2
  go_ret
  exact ⟨rfl, HP2.out⟩
end
end Go.Proofs.YtohjjgefklhmaabGreatDoor
