import Derived.Test.YtohjjgefklhmaaaGreatDoorEFees2M
namespace Go.Proofs.YtohjjgefklhmaaaGreatDoor
open Go.ChangeShapes Go.WideShapes Go.ChangeAt Go.RowKit
set_option linter.unusedVariables false

def inB (a : Int) (n : Nat) : Bool := decide (0 ≤ a) && decide (a < n)
theorem inB_tt {a : Int} {n : Nat} (h : inB a n = true) : ∃ k : Nat, a = k ∧ k < n := by
  simp only [inB, Bool.and_eq_true, decide_eq_true_eq] at h
  obtain ⟨k, rfl⟩ := Int.eq_ofNat_of_zero_le h.1
  exact ⟨k, rfl, by omega⟩
theorem inB_lo {a : Int} {n : Nat} (h0 : ¬ 0 ≤ a) : inB a n = false := by simp [inB, h0]
theorem inB_hi {a : Int} {n : Nat} (h1 : ¬ a < (n : Int)) : inB a n = false := by simp [inB, h1]
theorem inB_ok {a : Int} {n : Nat} (h0 : 0 ≤ a) (h1 : a < (n : Int)) : inB a n = true := by simp [inB, h0, h1]
theorem inB_nat (k n : Nat) : inB k n = decide (k < n) := by simp [inB]
theorem inB_in {k n : Nat} (h : k < n) : inB k n = true := by simp [inB]; omega

set_option maxHeartbeats 1000000 in
set_option maxRecDepth 100000 in
theorem gacc (g n : Nat) (a : Int) (ba : Option Addr) (bc : Nat) (w : World) (c4 : w.cell? ⟨g, 4, none⟩ = some (.slice ba n bc)) (hl : n ≤ 1000) :
    Calls Tryz.prog 96 #[.pointer (some ⟨g, 0, none⟩), .int .i64 a] w fun e w' => e = .returned (.bool (inB a n)) ∧ w = w' := by
  by_cases h0 : 0 ≤ a
  case neg =>
    have HR : Hid (inB a n = false) := inB_lo h0
    go_enter Tryz.func96, Tryz.ntmps96
    go_wp2
    go_ret
    rw [HR.out]
    exact ⟨rfl, rfl⟩
  by_cases h1 : a < (n : Int)
  case neg =>
    have HR : Hid (inB a n = false) := inB_hi h1
    go_enter Tryz.func96, Tryz.ntmps96
    go_wp2
    go_ret
    rw [HR.out]
    exact ⟨rfl, rfl⟩
  have HR : Hid (inB a n = true) := inB_ok h0 h1
  go_enter Tryz.func96, Tryz.ntmps96
  go_wp2
  go_ret
  rw [HR.out]
  exact ⟨rfl, rfl⟩
set_option maxHeartbeats 1000000 in
set_option maxRecDepth 100000 in
theorem gval (g n : Nat) (a : Int) (ba : Option Addr) (bc : Nat) (w : World) (c7 : w.cell? ⟨g, 7, none⟩ = some (.slice ba n bc)) (hl : n ≤ 1000) :
    Calls Tryz.prog 144 #[.pointer (some ⟨g, 0, none⟩), .int .i64 a] w fun e w' => e = .returned (.bool (inB a n)) ∧ w = w' := by
  by_cases h0 : 0 ≤ a
  case neg =>
    have HR : Hid (inB a n = false) := inB_lo h0
    go_enter Tryz.func144, Tryz.ntmps144
    go_wp2
    go_ret
    rw [HR.out]
    exact ⟨rfl, rfl⟩
  by_cases h1 : a < (n : Int)
  case neg =>
    have HR : Hid (inB a n = false) := inB_hi h1
    go_enter Tryz.func144, Tryz.ntmps144
    go_wp2
    go_ret
    rw [HR.out]
    exact ⟨rfl, rfl⟩
  have HR : Hid (inB a n = true) := inB_ok h0 h1
  go_enter Tryz.func144, Tryz.ntmps144
  go_wp2
  go_ret
  rw [HR.out]
  exact ⟨rfl, rfl⟩

/-- numbers that do not wrap, of the accounts -/
structure AccOk (x : EC) : Prop where
  l1 : x.bal.length ≤ 6
  f0 : 0 ≤ x.fee
  f1 : x.fee ≤ 1000000
  s0 : 0 ≤ x.fees
  s1 : x.fees ≤ 1000000000
  p0 : 0 ≤ x.pool
  p1 : x.pool ≤ 1000000000
  b : ∀ k, k < x.bal.length → 0 ≤ x.balAt k ∧ x.balAt k ≤ 1000000000
/-- why a message is not even begun -/
def chErr (x : EC) (who : Int) : Int := if inB who x.bal.length = false then 2 else if x.balAt who.toNat < x.fee then 4 else 0
/-- a message: the fee, then what it says -/
def msgR (x : EC) (who : Int) (err : EC → Nat → Int) (act : EC → Nat → EC) : Int × EC :=
  if chErr x who ≠ 0 then (chErr x who, x) else if err (chargeFE x who.toNat) who.toNat ≠ 0 then (err (chargeFE x who.toNat) who.toNat, chargeFE x who.toNat) else (0, act (chargeFE x who.toNat) who.toNat)

section
variable {S : Nat → Prop} {W0 : World} (g : Nat) (x : EC) (bv vv ev : Value) (w : World) (h : PE S W0 w g x bv vv ev)
include h
set_option maxHeartbeats 2000000 in
set_option maxRecDepth 100000 in
theorem gcharge (who : Int) (ha : AccOk x) :
    Calls Tryz.prog 105 #[.pointer (some ⟨g, 0, none⟩), .int .i64 who] w fun e w' => e = .returned (.int .i64 (chErr x who)) ∧ PE S W0 w' g (if chErr x who ≠ 0 then x else chargeFE x who.toNat) bv vv ev := by
  have hl := ha.l1
  by_cases hin : inB who x.bal.length = true
  case neg =>
    have hin' : inB who x.bal.length = false := by simpa using hin
    have he : chErr x who = 2 := by unfold chErr; rw [if_pos hin']
    rw [he, if_pos (by decide)]
    obtain ⟨ba, bc, rfl⟩ := ownsRow_slice h.b
    have c4 : w.cell? ⟨g, 4, none⟩ = some (.slice ba x.bal.length bc) := h.L.cell 4
    have HP : Hid (PE S W0 w g x (.slice ba x.bal.length bc) vv ev) := h
    clear h hin he
    go_enter Tryz.func105, Tryz.ntmps105
    go_wp2_with (go_at_call 96; refine (gacc g x.bal.length _ _ _ _ c4 (by omega)).mono ?_; rintro e w' ⟨rfl, rfl⟩; rw [hin'])
    go_ret
    exact ⟨rfl, HP.out⟩
  obtain ⟨k, rfl, hk⟩ := inB_tt hin
  rw [Int.toNat_natCast]
  by_cases hpoor : x.balAt k < x.fee
  · have he : chErr x k = 4 := by unfold chErr; rw [if_neg (by simp [hin]), Int.toNat_natCast, if_pos hpoor]
    rw [he, if_pos (by decide)]
    obtain ⟨ba, bc, rfl⟩ := ownsRow_slice h.b
    obtain ⟨gb, rfl, _⟩ := ownsRow_some h.b (by omega)
    have c4 : w.cell? ⟨g, 4, none⟩ = some (.slice (some ⟨gb, 0, none⟩) x.bal.length bc) := h.L.cell 4
    have c2 : w.cell? ⟨g, 2, none⟩ = some (.int .i64 x.fee) := h.L.cell 2
    have cb := h.balAt' hk
    have HP : Hid (PE S W0 w g x (.slice (some ⟨gb, 0, none⟩) x.bal.length bc) vv ev) := h
    clear h he hin
    generalize x.balAt k = y at *
    go_enter Tryz.func105, Tryz.ntmps105
    go_wp2_with (go_at_call 96; refine (kacc_any g x.bal.length k _ _ _ c4 hk (by omega)).mono ?_; rintro e w' ⟨rfl, rfl⟩)
    go_quiet (fail)
    go_wp2
    go_ret
    exact ⟨rfl, HP.out.drewN _⟩
  · have he : chErr x k = 0 := by unfold chErr; rw [if_neg (by simp [hin]), Int.toNat_natCast, if_neg hpoor]
    rw [he, if_neg (by decide)]
    have hb := ha.b k hk
    exact echarge g x bv vv ev w h k (by omega) hk (by omega) hb.2 ha.f0 ha.s0 ha.s1
end
theorem chErr_ok {x : EC} {who : Int} (h : chErr x who = 0) : ∃ k : Nat, who = k ∧ k < x.bal.length ∧ x.fee ≤ x.balAt k := by
  unfold chErr at h
  split at h
  · cases h
  · rename_i h1
    have h1' : inB who x.bal.length = true := by simpa using h1
    obtain ⟨k, rfl, hk⟩ := inB_tt h1'
    rw [Int.toNat_natCast] at h
    split at h
    · cases h
    · exact ⟨k, rfl, hk, by omega⟩
theorem AccOk.charge {x : EC} (h : AccOk x) {k : Nat} (hk : k < x.bal.length) (hf : x.fee ≤ x.balAt k) (hs : x.fees + x.fee ≤ 1000000000) : AccOk (chargeFE x k) := by
  have hf0 := h.f0
  refine ⟨by simp only [chargeFE, List.length_set]; exact h.l1, h.f0, h.f1, by have := h.s0; simp only [chargeFE]; omega, hs, h.p0, h.p1, fun i hi => ?_⟩
  have hi' : i < x.bal.length := by simpa [chargeFE] using hi
  have hb := h.b i hi'
  by_cases e : k = i
  · subst e
    have : (chargeFE x k).balAt k = x.balAt k - x.fee := by simp [chargeFE, EC.balAt, hk]
    rw [this]; omega
  · have : (chargeFE x k).balAt i = x.balAt i := by
      simp only [chargeFE, EC.balAt, List.getD]; rw [List.getElem?_set_ne e]
    rw [this]; exact hb
end Go.Proofs.YtohjjgefklhmaaaGreatDoor

namespace Go.Proofs.YtohjjgefklhmaaaGreatDoor
open Go.ChangeShapes Go.WideShapes Go.ChangeAt Go.RowKit
set_option linter.unusedVariables false

def transR (n : Nat) (funds to a : Int) : Int := if inB to n = false then 2 else if a < 1 then 5 else if funds < a then 4 else 0
theorem transR_ok {n : Nat} {funds to a : Int} (h : transR n funds to a = 0) : ∃ t : Nat, to = t ∧ t < n ∧ 1 ≤ a ∧ a ≤ funds := by
  unfold transR at h
  split at h
  · cases h
  · rename_i h1
    obtain ⟨t, rfl, ht⟩ := inB_tt (show inB to n = true by simpa using h1)
    split at h
    · cases h
    · split at h
      · cases h
      · exact ⟨t, rfl, ht, by omega, by omega⟩
def sendR (x : EC) (who to a : Int) : Int × EC := msgR x who (fun y k => transR y.bal.length (y.balAt k) to a) (fun y k => { y with bal := sentB y.bal k to.toNat a })
def spendR (x : EC) (to a : Int) : Int × EC := if transR x.bal.length x.pool to a ≠ 0 then (transR x.bal.length x.pool to a, x) else (0, { x with pool := x.pool - a, bal := x.bal.set to.toNat (x.balAt to.toNat + a) })
theorem msgR_fail {x : EC} {who : Int} {err : EC → Nat → Int} {act : EC → Nat → EC} (h : ¬ chErr x who = 0) : msgR x who err act = (chErr x who, x) := by unfold msgR; rw [if_pos h]
theorem msgR_err {x : EC} {k : Nat} {err : EC → Nat → Int} {act : EC → Nat → EC} (h : chErr x k = 0) (he : ¬ err (chargeFE x k) k = 0) : msgR x k err act = (err (chargeFE x k) k, chargeFE x k) := by
  unfold msgR; rw [if_neg (by simp [h]), Int.toNat_natCast, if_pos he]
theorem msgR_ok {x : EC} {k : Nat} {err : EC → Nat → Int} {act : EC → Nat → EC} (h : chErr x k = 0) (he : err (chargeFE x k) k = 0) : msgR x k err act = (0, act (chargeFE x k) k) := by
  unfold msgR; rw [if_neg (by simp [h]), Int.toNat_natCast, if_neg (by simp [he])]

set_option maxHeartbeats 2000000 in
set_option maxRecDepth 100000 in
theorem gtransfer (g n : Nat) (funds to a : Int) (ba : Option Addr) (bc : Nat) (w : World) (c4 : w.cell? ⟨g, 4, none⟩ = some (.slice ba n bc)) (hl : n ≤ 1000) :
    Calls Tryz.prog 106 #[.pointer (some ⟨g, 0, none⟩), .int .i64 funds, .int .i64 to, .int .i64 a] w fun e w' => e = .returned (.int .i64 (transR n funds to a)) ∧ w = w' := by
  obtain ⟨R, hR⟩ : ∃ R, transR n funds to a = R := ⟨_, rfl⟩
  rw [hR]
  unfold transR at hR
  by_cases h1 : inB to n = true
  case neg =>
    have h1' : inB to n = false := by simpa using h1
    rw [if_pos h1'] at hR
    have HR : Hid ((2 : Int) = R) := hR
    clear hR h1
    go_enter Tryz.func106, Tryz.ntmps106
    go_wp2_with (go_at_call 96; refine (gacc g n to _ _ _ c4 hl).mono ?_; rintro e w' ⟨rfl, rfl⟩; rw [h1'])
    go_ret
    exact ⟨ret_int HR.out, rfl⟩
  rw [if_neg (by simp [h1])] at hR
  by_cases h2 : a < 1
  · rw [if_pos h2] at hR
    have HR : Hid ((5 : Int) = R) := hR
    clear hR
    go_enter Tryz.func106, Tryz.ntmps106
    go_wp2_with (go_at_call 96; refine (gacc g n to _ _ _ c4 hl).mono ?_; rintro e w' ⟨rfl, rfl⟩; rw [h1])
    go_ret
    exact ⟨ret_int HR.out, rfl⟩
  rw [if_neg h2] at hR
  by_cases h3 : funds < a
  · rw [if_pos h3] at hR
    have HR : Hid ((4 : Int) = R) := hR
    clear hR
    go_enter Tryz.func106, Tryz.ntmps106
    go_wp2_with (go_at_call 96; refine (gacc g n to _ _ _ c4 hl).mono ?_; rintro e w' ⟨rfl, rfl⟩; rw [h1])
    go_ret
    exact ⟨ret_int HR.out, rfl⟩
  rw [if_neg h3] at hR
  have HR : Hid ((0 : Int) = R) := hR
  clear hR
  go_enter Tryz.func106, Tryz.ntmps106
  go_wp2_with (go_at_call 96; refine (gacc g n to _ _ _ c4 hl).mono ?_; rintro e w' ⟨rfl, rfl⟩; rw [h1])
  go_ret
  exact ⟨ret_int HR.out, rfl⟩

section
variable {S : Nat → Prop} {W0 : World} (g : Nat) (x : EC) (bv vv ev : Value) (w : World) (h : PE S W0 w g x bv vv ev)
include h
/-- the charge where it fails, and where it is paid -/
theorem gcharge_no (who : Int) (ha : AccOk x) (hc : ¬ chErr x who = 0) :
    Calls Tryz.prog 105 #[.pointer (some ⟨g, 0, none⟩), .int .i64 who] w fun e w' => e = .returned (.int .i64 (chErr x who)) ∧ PE S W0 w' g x bv vv ev := by
  have := gcharge g x bv vv ev w h who ha
  rw [if_pos hc] at this
  exact this
theorem gcharge_yes (k : Nat) (ha : AccOk x) (hc : chErr x k = 0) :
    Calls Tryz.prog 105 #[.pointer (some ⟨g, 0, none⟩), .int .i64 k] w fun e w' => e = .returned (.int .i64 0) ∧ PE S W0 w' g (chargeFE x k) bv vv ev := by
  have := gcharge g x bv vv ev w h k ha
  rw [hc, if_neg (by decide), Int.toNat_natCast] at this
  exact this

set_option maxHeartbeats 2000000 in
set_option maxRecDepth 100000 in
theorem gSend (who to a : Int) (ha : AccOk x) :
    Calls Tryz.prog 53 #[.pointer (some ⟨g, 0, none⟩), .int .i64 who, .int .i64 to, .int .i64 a] w fun e w' => e = .returned (.int .i64 (sendR x who to a).1) ∧ PE S W0 w' g (sendR x who to a).2 bv vv ev := by
  unfold sendR
  have hl := ha.l1
  by_cases hc : chErr x who = 0
  case neg =>
    rw [msgR_fail hc]
    have HC : Hid (Calls Tryz.prog 105 #[.pointer (some ⟨g, 0, none⟩), .int .i64 who] w fun e w' => e = .returned (.int .i64 (chErr x who)) ∧ PE S W0 w' g x bv vv ev) := gcharge_no g x bv vv ev w h who ha hc
    have hc' : (chErr x who == 0) = false := by simp [hc]
    clear h hc
    generalize chErr x who = c at *
    go_enter Tryz.func53, Tryz.ntmps53
    go_wp2_with fail
    refine HC.out.mono ?_
    rintro e w1 ⟨rfl, hP⟩
    have HP : Hid (PE S W0 w1 g x bv vv ev) := hP
    clear hP HC
    go_wp2
    go_ret
    exact ⟨rfl, HP.out⟩
  obtain ⟨k, rfl, hk, hf⟩ := chErr_ok hc
  have e1 : (chargeFE x k).bal.length = x.bal.length := by simp [chargeFE]
  have e2 : (chargeFE x k).balAt k = x.balAt k - x.fee := by simp [chargeFE, EC.balAt, hk]
  by_cases ht : transR (chargeFE x k).bal.length ((chargeFE x k).balAt k) to a = 0
  case neg =>
    rw [msgR_err hc ht]
    have HC : Hid (Calls Tryz.prog 105 #[.pointer (some ⟨g, 0, none⟩), .int .i64 k] w fun e w' => e = .returned (.int .i64 0) ∧ PE S W0 w' g (chargeFE x k) bv vv ev) := gcharge_yes g x bv vv ev w h k ha hc
    have ht' : (transR (chargeFE x k).bal.length ((chargeFE x k).balAt k) to a == 0) = false := by simp [ht]
    have HT : Hid (∀ w1 ba bc, w1.cell? ⟨g, 4, none⟩ = some (.slice ba (chargeFE x k).bal.length bc) → Calls Tryz.prog 106 #[.pointer (some ⟨g, 0, none⟩), .int .i64 ((chargeFE x k).balAt k), .int .i64 to, .int .i64 a] w1 fun e w' => e = .returned (.int .i64 (transR (chargeFE x k).bal.length ((chargeFE x k).balAt k) to a)) ∧ w1 = w') := fun w1 ba bc c4 => gtransfer g _ _ to a ba bc w1 c4 (by omega)
    clear h hc ht e2
    have hk1 : k < (chargeFE x k).bal.length := by omega
    generalize transR (chargeFE x k).bal.length ((chargeFE x k).balAt k) to a = te at *
    go_enter Tryz.func53, Tryz.ntmps53
    go_wp2_with fail
    refine HC.out.mono ?_
    rintro e w1 ⟨rfl, hP⟩
    clear HC
    obtain ⟨ba, bc, rfl⟩ := ownsRow_slice hP.b
    obtain ⟨gb, rfl, _⟩ := ownsRow_some hP.b (by omega)
    have c4 : w1.cell? ⟨g, 4, none⟩ = some (.slice (some ⟨gb, 0, none⟩) (chargeFE x k).bal.length bc) := hP.L.cell 4
    have cb := hP.balAt' hk1
    have HP : Hid (PE S W0 w1 g (chargeFE x k) (.slice (some ⟨gb, 0, none⟩) (chargeFE x k).bal.length bc) vv ev) := hP
    clear hP
    go_wp2_with fail
    refine (HT.out _ _ _ (by assumption)).mono ?_
    rintro e w2 ⟨rfl, rfl⟩
    go_wp2
    go_ret
    exact ⟨rfl, HP.out.eta rfl rfl rfl rfl⟩
  rw [msgR_ok hc ht]
  obtain ⟨t, rfl, htl, a1, a2⟩ := transR_ok ht
  rw [e2] at a2
  have hb := ha.b k hk
  have hbt := ha.b t (by omega)
  exact eSend g x bv vv ev w h k t a hl hk (by omega) a1 (by omega) hb.2 ha.f0 ha.s0 ha.s1 hbt.1 hbt.2
end
end Go.Proofs.YtohjjgefklhmaaaGreatDoor

namespace Go.Proofs.YtohjjgefklhmaaaGreatDoor
open Go.ChangeShapes Go.WideShapes Go.ChangeAt Go.RowKit
set_option linter.unusedVariables false

section
variable {S : Nat → Prop} {W0 : World} (g : Nat) (x : EC) (bv vv ev : Value) (w : World) (h : PE S W0 w g x bv vv ev)
include h

set_option maxHeartbeats 2000000 in
set_option maxRecDepth 100000 in
theorem gBond_no (who val amount : Int) (ha : AccOk x) (hc : ¬ chErr x who = 0) :
    Calls Tryz.prog 56 #[.pointer (some ⟨g, 0, none⟩), .int .i64 who, .int .i64 val, .int .i64 amount] w fun e w' => e = .returned (.int .i64 (chErr x who)) ∧ PE S W0 w' g x bv vv ev := by
  have HC : Hid (Calls Tryz.prog 105 #[.pointer (some ⟨g, 0, none⟩), .int .i64 who] w fun e w' => e = .returned (.int .i64 (chErr x who)) ∧ PE S W0 w' g x bv vv ev) := gcharge_no g x bv vv ev w h who ha hc
  have hc' : (chErr x who == 0) = false := by simp [hc]
  clear h hc
  generalize chErr x who = c at *
  go_enter Tryz.func56, Tryz.ntmps56
  go_wp2_with fail
  refine HC.out.mono ?_
  rintro e w1 ⟨rfl, hP⟩
  have HP : Hid (PE S W0 w1 g x bv vv ev) := hP
  clear hP HC
  go_wp2
  go_ret
  exact ⟨rfl, HP.out⟩
set_option maxHeartbeats 2000000 in
set_option maxRecDepth 100000 in
theorem gBond_err (k : Nat) (val amount : Int) (ha : AccOk x) (hc : chErr x k = 0) (ec : Int) (hec : ¬ ec = 0)
    (hE : ∀ w1, PE S W0 w1 g (chargeFE x k) bv vv ev → Calls Tryz.prog 110 #[.pointer (some ⟨g, 0, none⟩), .int .i64 k, .int .i64 val, .int .i64 amount] w1 fun e w' => e = .returned (.int .i64 ec) ∧ Below w1.heap.size w1 w') :
    Calls Tryz.prog 56 #[.pointer (some ⟨g, 0, none⟩), .int .i64 k, .int .i64 val, .int .i64 amount] w fun e w' => e = .returned (.int .i64 ec) ∧ PE S W0 w' g (chargeFE x k) bv vv ev := by
  have HC : Hid (Calls Tryz.prog 105 #[.pointer (some ⟨g, 0, none⟩), .int .i64 k] w fun e w' => e = .returned (.int .i64 0) ∧ PE S W0 w' g (chargeFE x k) bv vv ev) := gcharge_yes g x bv vv ev w h k ha hc
  have HE : Hid (∀ w1, PE S W0 w1 g (chargeFE x k) bv vv ev → Calls Tryz.prog 110 #[.pointer (some ⟨g, 0, none⟩), .int .i64 k, .int .i64 val, .int .i64 amount] w1 fun e w' => e = .returned (.int .i64 ec) ∧ Below w1.heap.size w1 w') := hE
  have hc' : (ec == 0) = false := by simp [hec]
  clear h hc hE hec
  go_enter Tryz.func56, Tryz.ntmps56
  go_wp2_with fail
  refine HC.out.mono ?_
  rintro e w1 ⟨rfl, hP⟩
  have HP : Hid (PE S W0 w1 g (chargeFE x k) bv vv ev) := hP
  clear hP HC
  go_wp2_with fail
  refine (HE.out _ HP.out).mono ?_
  rintro e w2 ⟨rfl, hb⟩
  have HP2 : Hid (PE S W0 w2 g (chargeFE x k) bv vv ev) := HP.out.below hb
  clear hb HP HE
  go_wp2
  go_ret
  exact ⟨rfl, HP2.out⟩

set_option maxHeartbeats 2000000 in
set_option maxRecDepth 100000 in
theorem gUnbond_no (who val shares : Int) (ha : AccOk x) (hc : ¬ chErr x who = 0) :
    Calls Tryz.prog 57 #[.pointer (some ⟨g, 0, none⟩), .int .i64 who, .int .i64 val, .int .i64 shares] w fun e w' => e = .returned (.int .i64 (chErr x who)) ∧ PE S W0 w' g x bv vv ev := by
  have HC : Hid (Calls Tryz.prog 105 #[.pointer (some ⟨g, 0, none⟩), .int .i64 who] w fun e w' => e = .returned (.int .i64 (chErr x who)) ∧ PE S W0 w' g x bv vv ev) := gcharge_no g x bv vv ev w h who ha hc
  have hc' : (chErr x who == 0) = false := by simp [hc]
  clear h hc
  generalize chErr x who = c at *
  go_enter Tryz.func57, Tryz.ntmps57
  go_wp2_with fail
  refine HC.out.mono ?_
  rintro e w1 ⟨rfl, hP⟩
  have HP : Hid (PE S W0 w1 g x bv vv ev) := hP
  clear hP HC
  go_wp2
  go_ret
  exact ⟨rfl, HP.out⟩
set_option maxHeartbeats 2000000 in
set_option maxRecDepth 100000 in
theorem gUnbond_err (k : Nat) (val shares : Int) (ha : AccOk x) (hc : chErr x k = 0) (ec : Int) (hec : ¬ ec = 0)
    (hE : ∀ w1, PE S W0 w1 g (chargeFE x k) bv vv ev → Calls Tryz.prog 112 #[.pointer (some ⟨g, 0, none⟩), .int .i64 k, .int .i64 val, .int .i64 shares] w1 fun e w' => e = .returned (.int .i64 ec) ∧ Below w1.heap.size w1 w') :
    Calls Tryz.prog 57 #[.pointer (some ⟨g, 0, none⟩), .int .i64 k, .int .i64 val, .int .i64 shares] w fun e w' => e = .returned (.int .i64 ec) ∧ PE S W0 w' g (chargeFE x k) bv vv ev := by
  have HC : Hid (Calls Tryz.prog 105 #[.pointer (some ⟨g, 0, none⟩), .int .i64 k] w fun e w' => e = .returned (.int .i64 0) ∧ PE S W0 w' g (chargeFE x k) bv vv ev) := gcharge_yes g x bv vv ev w h k ha hc
  have HE : Hid (∀ w1, PE S W0 w1 g (chargeFE x k) bv vv ev → Calls Tryz.prog 112 #[.pointer (some ⟨g, 0, none⟩), .int .i64 k, .int .i64 val, .int .i64 shares] w1 fun e w' => e = .returned (.int .i64 ec) ∧ Below w1.heap.size w1 w') := hE
  have hc' : (ec == 0) = false := by simp [hec]
  clear h hc hE hec
  go_enter Tryz.func57, Tryz.ntmps57
  go_wp2_with fail
  refine HC.out.mono ?_
  rintro e w1 ⟨rfl, hP⟩
  have HP : Hid (PE S W0 w1 g (chargeFE x k) bv vv ev) := hP
  clear hP HC
  go_wp2_with fail
  refine (HE.out _ HP.out).mono ?_
  rintro e w2 ⟨rfl, hb⟩
  have HP2 : Hid (PE S W0 w2 g (chargeFE x k) bv vv ev) := HP.out.below hb
  clear hb HP HE
  go_wp2
  go_ret
  exact ⟨rfl, HP2.out⟩

set_option maxHeartbeats 2000000 in
set_option maxRecDepth 100000 in
theorem gMove_no (who val to shares : Int) (ha : AccOk x) (hc : ¬ chErr x who = 0) :
    Calls Tryz.prog 58 #[.pointer (some ⟨g, 0, none⟩), .int .i64 who, .int .i64 val, .int .i64 to, .int .i64 shares] w fun e w' => e = .returned (.int .i64 (chErr x who)) ∧ PE S W0 w' g x bv vv ev := by
  have HC : Hid (Calls Tryz.prog 105 #[.pointer (some ⟨g, 0, none⟩), .int .i64 who] w fun e w' => e = .returned (.int .i64 (chErr x who)) ∧ PE S W0 w' g x bv vv ev) := gcharge_no g x bv vv ev w h who ha hc
  have hc' : (chErr x who == 0) = false := by simp [hc]
  clear h hc
  generalize chErr x who = c at *
  go_enter Tryz.func58, Tryz.ntmps58
  go_wp2_with fail
  refine HC.out.mono ?_
  rintro e w1 ⟨rfl, hP⟩
  have HP : Hid (PE S W0 w1 g x bv vv ev) := hP
  clear hP HC
  go_wp2
  go_ret
  exact ⟨rfl, HP.out⟩
set_option maxHeartbeats 2000000 in
set_option maxRecDepth 100000 in
theorem gMove_err (k : Nat) (val to shares : Int) (ha : AccOk x) (hc : chErr x k = 0) (ec : Int) (hec : ¬ ec = 0)
    (hE : ∀ w1, PE S W0 w1 g (chargeFE x k) bv vv ev → Calls Tryz.prog 115 #[.pointer (some ⟨g, 0, none⟩), .int .i64 k, .int .i64 val, .int .i64 to, .int .i64 shares] w1 fun e w' => e = .returned (.int .i64 ec) ∧ Below w1.heap.size w1 w') :
    Calls Tryz.prog 58 #[.pointer (some ⟨g, 0, none⟩), .int .i64 k, .int .i64 val, .int .i64 to, .int .i64 shares] w fun e w' => e = .returned (.int .i64 ec) ∧ PE S W0 w' g (chargeFE x k) bv vv ev := by
  have HC : Hid (Calls Tryz.prog 105 #[.pointer (some ⟨g, 0, none⟩), .int .i64 k] w fun e w' => e = .returned (.int .i64 0) ∧ PE S W0 w' g (chargeFE x k) bv vv ev) := gcharge_yes g x bv vv ev w h k ha hc
  have HE : Hid (∀ w1, PE S W0 w1 g (chargeFE x k) bv vv ev → Calls Tryz.prog 115 #[.pointer (some ⟨g, 0, none⟩), .int .i64 k, .int .i64 val, .int .i64 to, .int .i64 shares] w1 fun e w' => e = .returned (.int .i64 ec) ∧ Below w1.heap.size w1 w') := hE
  have hc' : (ec == 0) = false := by simp [hec]
  clear h hc hE hec
  go_enter Tryz.func58, Tryz.ntmps58
  go_wp2_with fail
  refine HC.out.mono ?_
  rintro e w1 ⟨rfl, hP⟩
  have HP : Hid (PE S W0 w1 g (chargeFE x k) bv vv ev) := hP
  clear hP HC
  go_wp2_with fail
  refine (HE.out _ HP.out).mono ?_
  rintro e w2 ⟨rfl, hb⟩
  have HP2 : Hid (PE S W0 w2 g (chargeFE x k) bv vv ev) := HP.out.below hb
  clear hb HP HE
  go_wp2
  go_ret
  exact ⟨rfl, HP2.out⟩

set_option maxHeartbeats 2000000 in
set_option maxRecDepth 100000 in
theorem gWithdraw_no (who val : Int) (ha : AccOk x) (hc : ¬ chErr x who = 0) :
    Calls Tryz.prog 59 #[.pointer (some ⟨g, 0, none⟩), .int .i64 who, .int .i64 val] w fun e w' => e = .returned (.int .i64 (chErr x who)) ∧ PE S W0 w' g x bv vv ev := by
  have HC : Hid (Calls Tryz.prog 105 #[.pointer (some ⟨g, 0, none⟩), .int .i64 who] w fun e w' => e = .returned (.int .i64 (chErr x who)) ∧ PE S W0 w' g x bv vv ev) := gcharge_no g x bv vv ev w h who ha hc
  have hc' : (chErr x who == 0) = false := by simp [hc]
  clear h hc
  generalize chErr x who = c at *
  go_enter Tryz.func59, Tryz.ntmps59
  go_wp2_with fail
  refine HC.out.mono ?_
  rintro e w1 ⟨rfl, hP⟩
  have HP : Hid (PE S W0 w1 g x bv vv ev) := hP
  clear hP HC
  go_wp2
  go_ret
  exact ⟨rfl, HP.out⟩
set_option maxHeartbeats 2000000 in
set_option maxRecDepth 100000 in
theorem gWithdraw_err (k : Nat) (val : Int) (ha : AccOk x) (hc : chErr x k = 0) (ec : Int) (hec : ¬ ec = 0)
    (hE : ∀ w1, PE S W0 w1 g (chargeFE x k) bv vv ev → Calls Tryz.prog 97 #[.pointer (some ⟨g, 0, none⟩), .int .i64 k, .int .i64 val] w1 fun e w' => e = .returned (.int .i64 ec) ∧ Below w1.heap.size w1 w') :
    Calls Tryz.prog 59 #[.pointer (some ⟨g, 0, none⟩), .int .i64 k, .int .i64 val] w fun e w' => e = .returned (.int .i64 ec) ∧ PE S W0 w' g (chargeFE x k) bv vv ev := by
  have HC : Hid (Calls Tryz.prog 105 #[.pointer (some ⟨g, 0, none⟩), .int .i64 k] w fun e w' => e = .returned (.int .i64 0) ∧ PE S W0 w' g (chargeFE x k) bv vv ev) := gcharge_yes g x bv vv ev w h k ha hc
  have HE : Hid (∀ w1, PE S W0 w1 g (chargeFE x k) bv vv ev → Calls Tryz.prog 97 #[.pointer (some ⟨g, 0, none⟩), .int .i64 k, .int .i64 val] w1 fun e w' => e = .returned (.int .i64 ec) ∧ Below w1.heap.size w1 w') := hE
  have hc' : (ec == 0) = false := by simp [hec]
  clear h hc hE hec
  go_enter Tryz.func59, Tryz.ntmps59
  go_wp2_with fail
  refine HC.out.mono ?_
  rintro e w1 ⟨rfl, hP⟩
  have HP : Hid (PE S W0 w1 g (chargeFE x k) bv vv ev) := hP
  clear hP HC
  go_wp2_with fail
  refine (HE.out _ HP.out).mono ?_
  rintro e w2 ⟨rfl, hb⟩
  have HP2 : Hid (PE S W0 w2 g (chargeFE x k) bv vv ev) := HP.out.below hb
  clear hb HP HE
  go_wp2
  go_ret
  exact ⟨rfl, HP2.out⟩

set_option maxHeartbeats 2000000 in
set_option maxRecDepth 100000 in
theorem gCollect_no (who val : Int) (ha : AccOk x) (hc : ¬ chErr x who = 0) :
    Calls Tryz.prog 60 #[.pointer (some ⟨g, 0, none⟩), .int .i64 who, .int .i64 val] w fun e w' => e = .returned (.int .i64 (chErr x who)) ∧ PE S W0 w' g x bv vv ev := by
  have HC : Hid (Calls Tryz.prog 105 #[.pointer (some ⟨g, 0, none⟩), .int .i64 who] w fun e w' => e = .returned (.int .i64 (chErr x who)) ∧ PE S W0 w' g x bv vv ev) := gcharge_no g x bv vv ev w h who ha hc
  have hc' : (chErr x who == 0) = false := by simp [hc]
  clear h hc
  generalize chErr x who = c at *
  go_enter Tryz.func60, Tryz.ntmps60
  go_wp2_with fail
  refine HC.out.mono ?_
  rintro e w1 ⟨rfl, hP⟩
  have HP : Hid (PE S W0 w1 g x bv vv ev) := hP
  clear hP HC
  go_wp2
  go_ret
  exact ⟨rfl, HP.out⟩
set_option maxHeartbeats 2000000 in
set_option maxRecDepth 100000 in
theorem gCollect_err (k : Nat) (val : Int) (ha : AccOk x) (hc : chErr x k = 0) (ec : Int) (hec : ¬ ec = 0)
    (hE : ∀ w1, PE S W0 w1 g (chargeFE x k) bv vv ev → Calls Tryz.prog 117 #[.pointer (some ⟨g, 0, none⟩), .int .i64 k, .int .i64 val] w1 fun e w' => e = .returned (.int .i64 ec) ∧ Below w1.heap.size w1 w') :
    Calls Tryz.prog 60 #[.pointer (some ⟨g, 0, none⟩), .int .i64 k, .int .i64 val] w fun e w' => e = .returned (.int .i64 ec) ∧ PE S W0 w' g (chargeFE x k) bv vv ev := by
  have HC : Hid (Calls Tryz.prog 105 #[.pointer (some ⟨g, 0, none⟩), .int .i64 k] w fun e w' => e = .returned (.int .i64 0) ∧ PE S W0 w' g (chargeFE x k) bv vv ev) := gcharge_yes g x bv vv ev w h k ha hc
  have HE : Hid (∀ w1, PE S W0 w1 g (chargeFE x k) bv vv ev → Calls Tryz.prog 117 #[.pointer (some ⟨g, 0, none⟩), .int .i64 k, .int .i64 val] w1 fun e w' => e = .returned (.int .i64 ec) ∧ Below w1.heap.size w1 w') := hE
  have hc' : (ec == 0) = false := by simp [hec]
  clear h hc hE hec
  go_enter Tryz.func60, Tryz.ntmps60
  go_wp2_with fail
  refine HC.out.mono ?_
  rintro e w1 ⟨rfl, hP⟩
  have HP : Hid (PE S W0 w1 g (chargeFE x k) bv vv ev) := hP
  clear hP HC
  go_wp2_with fail
  refine (HE.out _ HP.out).mono ?_
  rintro e w2 ⟨rfl, hb⟩
  have HP2 : Hid (PE S W0 w2 g (chargeFE x k) bv vv ev) := HP.out.below hb
  clear hb HP HE
  go_wp2
  go_ret
  exact ⟨rfl, HP2.out⟩

set_option maxHeartbeats 2000000 in
set_option maxRecDepth 100000 in
theorem gFree_no (who val : Int) (ha : AccOk x) (hc : ¬ chErr x who = 0) :
    Calls Tryz.prog 62 #[.pointer (some ⟨g, 0, none⟩), .int .i64 who, .int .i64 val] w fun e w' => e = .returned (.int .i64 (chErr x who)) ∧ PE S W0 w' g x bv vv ev := by
  have HC : Hid (Calls Tryz.prog 105 #[.pointer (some ⟨g, 0, none⟩), .int .i64 who] w fun e w' => e = .returned (.int .i64 (chErr x who)) ∧ PE S W0 w' g x bv vv ev) := gcharge_no g x bv vv ev w h who ha hc
  have hc' : (chErr x who == 0) = false := by simp [hc]
  clear h hc
  generalize chErr x who = c at *
  go_enter Tryz.func62, Tryz.ntmps62
  go_wp2_with fail
  refine HC.out.mono ?_
  rintro e w1 ⟨rfl, hP⟩
  have HP : Hid (PE S W0 w1 g x bv vv ev) := hP
  clear hP HC
  go_wp2
  go_ret
  exact ⟨rfl, HP.out⟩
set_option maxHeartbeats 2000000 in
set_option maxRecDepth 100000 in
theorem gFree_err (k : Nat) (val : Int) (ha : AccOk x) (hc : chErr x k = 0) (ec : Int) (hec : ¬ ec = 0)
    (hE : ∀ w1, PE S W0 w1 g (chargeFE x k) bv vv ev → Calls Tryz.prog 123 #[.pointer (some ⟨g, 0, none⟩), .int .i64 k, .int .i64 val] w1 fun e w' => e = .returned (.int .i64 ec) ∧ Below w1.heap.size w1 w') :
    Calls Tryz.prog 62 #[.pointer (some ⟨g, 0, none⟩), .int .i64 k, .int .i64 val] w fun e w' => e = .returned (.int .i64 ec) ∧ PE S W0 w' g (chargeFE x k) bv vv ev := by
  have HC : Hid (Calls Tryz.prog 105 #[.pointer (some ⟨g, 0, none⟩), .int .i64 k] w fun e w' => e = .returned (.int .i64 0) ∧ PE S W0 w' g (chargeFE x k) bv vv ev) := gcharge_yes g x bv vv ev w h k ha hc
  have HE : Hid (∀ w1, PE S W0 w1 g (chargeFE x k) bv vv ev → Calls Tryz.prog 123 #[.pointer (some ⟨g, 0, none⟩), .int .i64 k, .int .i64 val] w1 fun e w' => e = .returned (.int .i64 ec) ∧ Below w1.heap.size w1 w') := hE
  have hc' : (ec == 0) = false := by simp [hec]
  clear h hc hE hec
  go_enter Tryz.func62, Tryz.ntmps62
  go_wp2_with fail
  refine HC.out.mono ?_
  rintro e w1 ⟨rfl, hP⟩
  have HP : Hid (PE S W0 w1 g (chargeFE x k) bv vv ev) := hP
  clear hP HC
  go_wp2_with fail
  refine (HE.out _ HP.out).mono ?_
  rintro e w2 ⟨rfl, hb⟩
  have HP2 : Hid (PE S W0 w2 g (chargeFE x k) bv vv ev) := HP.out.below hb
  clear hb HP HE
  go_wp2
  go_ret
  exact ⟨rfl, HP2.out⟩
end
end Go.Proofs.YtohjjgefklhmaaaGreatDoor
