import Derived.Test.YtohjjgefklhmaaaGreatDoorEFeesM
namespace Go.Proofs.YtohjjgefklhmaaaGreatDoor
open Go.ChangeShapes Go.WideShapes Go.ChangeAt Go.RowKit
set_option linter.unusedVariables false
set_option maxHeartbeats 40000000
set_option maxRecDepth 100000
variable {a who : Int} {n k : Nat} {x : EC} {err : EC -> Nat -> Int} {act : EC -> Nat -> EC}
def inB (a : Int) (n : Nat) : Bool := decide (0 <= a) && decide (a < n)
theorem Bn (h : inB a n = true) : ∃ k : Nat, a = k ∧ k < n := by
 simp only [inB, Bool.and_eq_true, decide_eq_true_eq] at h
 obtain ⟨k, rfl⟩ := Int.eq_ofNat_of_zero_le h.1
 exact ⟨k, rfl, by omega⟩
theorem OR (h0 : ¬ 0 <= a) : inB a n = false := by simp [inB, h0]
theorem O6 (h1 : ¬ a < (n : Int)) : inB a n = false := by simp [inB, h1]
theorem Qg (h0 : 0 <= a) (h1 : a < (n : Int)) : inB a n = true := by simp [inB, h0, h1]
theorem Ns (g n : Nat) (a : Int) (ba : Option Addr) (bc : Nat) (w : World) (c4 : w.cell? ⟨g, 4, none⟩ = some (.slice ba n bc)) (hl : n <= 1000) :
  Calls Tryz.prog 96 #[.pointer (some ⟨g, 0, none⟩), .int .i64 a] w fun e w' => e = .returned (.bool (inB a n)) ∧ w = w' := by
 by_cases h0 : 0 <= a
 case neg =>
  have HR : Hid (inB a n = false) := OR h0
  go_enter Tryz.func96, Tryz.ntmps96
  go_wp2
  go_ret
  rw [HR.out]
  exact ⟨rfl, rfl⟩
 by_cases h1 : a < (n : Int)
 case neg =>
  have HR : Hid (inB a n = false) := O6 h1
  go_enter Tryz.func96, Tryz.ntmps96
  go_wp2
  go_ret
  rw [HR.out]
  exact ⟨rfl, rfl⟩
 have HR : Hid (inB a n = true) := Qg h0 h1
 go_enter Tryz.func96, Tryz.ntmps96
 go_wp2
 go_ret
 rw [HR.out]
 exact ⟨rfl, rfl⟩
theorem Hk (g n : Nat) (a : Int) (ba : Option Addr) (bc : Nat) (w : World) (c7 : w.cell? ⟨g, 7, none⟩ = some (.slice ba n bc)) (hl : n <= 1000) :
  Calls Tryz.prog 144 #[.pointer (some ⟨g, 0, none⟩), .int .i64 a] w fun e w' => e = .returned (.bool (inB a n)) ∧ w = w' := by
 by_cases h0 : 0 <= a
 case neg =>
  have HR : Hid (inB a n = false) := OR h0
  go_enter Tryz.func144, Tryz.ntmps144
  go_wp2
  go_ret
  rw [HR.out]
  exact ⟨rfl, rfl⟩
 by_cases h1 : a < (n : Int)
 case neg =>
  have HR : Hid (inB a n = false) := O6 h1
  go_enter Tryz.func144, Tryz.ntmps144
  go_wp2
  go_ret
  rw [HR.out]
  exact ⟨rfl, rfl⟩
 have HR : Hid (inB a n = true) := Qg h0 h1
 go_enter Tryz.func144, Tryz.ntmps144
 go_wp2
 go_ret
 rw [HR.out]
 exact ⟨rfl, rfl⟩
structure CK (x : EC) : Prop where
 l1 : x.bal.length <= 6
 f0 : 0 <= x.fee
 f1 : x.fee <= 1000000
 s0 : 0 <= x.fees
 s1 : x.fees <= 1000000000
 p0 : 0 <= x.pool
 p1 : x.pool <= 1000000000
 b : ∀ k, k < x.bal.length -> 0 <= x.balAt k ∧ x.balAt k <= 1000000000
def Az (x : EC) (who : Int) : Int := if inB who x.bal.length = false then 2 else if x.balAt who.toNat < x.fee then 4 else 0
def Gc (x : EC) (who : Int) (err : EC -> Nat -> Int) (act : EC -> Nat -> EC) : Int × EC :=
 if Az x who ≠ 0 then (Az x who, x) else if err (Ab x who.toNat) who.toNat ≠ 0 then (err (Ab x who.toNat) who.toNat, Ab x who.toNat) else (0, act (Ab x who.toNat) who.toNat)
section
variable {S : Nat -> Prop} {W0 : World} (g : Nat) (x : EC) (bv vv ev : Value) (w : World) (h : PE S W0 w g x bv vv ev)
include h
theorem Mp (who : Int) (ha : CK x) :
  Calls Tryz.prog 105 #[.pointer (some ⟨g, 0, none⟩), .int .i64 who] w fun e w' => e = .returned (.int .i64 (Az x who)) ∧ PE S W0 w' g (if Az x who ≠ 0 then x else Ab x who.toNat) bv vv ev := by
 have hl := ha.l1
 by_cases hin : inB who x.bal.length = true
 case neg =>
  have hin' : inB who x.bal.length = false := by simpa using hin
  have he : Az x who = 2 := by unfold Az; rw [if_pos hin']
  rw [he, if_pos (by decide)]
  obtain ⟨ba, bc, rfl⟩ := Ac h.b
  have c4 : w.cell? ⟨g, 4, none⟩ = some (.slice ba x.bal.length bc) := h.L.cell 4
  have HP := Hd h
  clear h hin he
  go_enter Tryz.func105, Tryz.ntmps105
  go_wp2_with (go_at_call 96; refine (Ns g x.bal.length _ _ _ _ c4 (by omega)).mono ?_; rintro e w' ⟨rfl, rfl⟩; rw [hin'])
  go_ret
  exact ⟨rfl, HP.out⟩
 obtain ⟨k, rfl, hk⟩ := Bn hin
 rw [Int.toNat_natCast]
 by_cases hpoor : x.balAt k < x.fee
 ·have he : Az x k = 4 := by unfold Az; rw [if_neg (by simp [hin]), Int.toNat_natCast, if_pos hpoor]
  rw [he, if_pos (by decide)]
  obtain ⟨ba, bc, rfl⟩ := Ac h.b
  obtain ⟨gb, rfl, _⟩ := Ag h.b (by omega)
  have c4 : w.cell? ⟨g, 4, none⟩ = some (.slice (some ⟨gb, 0, none⟩) x.bal.length bc) := h.L.cell 4
  have c2 : w.cell? ⟨g, 2, none⟩ = some (.int .i64 x.fee) := h.L.cell 2
  have cb := h.balAt' hk
  have HP := Hd h
  clear h he hin
  generalize x.balAt k = y at *
  go_enter Tryz.func105, Tryz.ntmps105
  go_wp2_with (go_at_call 96; refine (Ga g x.bal.length k _ _ _ c4 hk (by omega)).mono ?_; rintro e w' ⟨rfl, rfl⟩)
  go_quiet (fail)
  go_wp2
  go_ret
  exact ⟨rfl, HP.out.drewN _⟩
 ·have he : Az x k = 0 := by unfold Az; rw [if_neg (by simp [hin]), Int.toNat_natCast, if_neg hpoor]
  rw [he, if_neg (by decide)]
  have hb := ha.b k hk
  exact Hw g x bv vv ev w h k (by omega) hk (by omega) hb.2 ha.f0 ha.s0 ha.s1
end
theorem Cs (h : Az x who = 0) : ∃ k : Nat, who = k ∧ k < x.bal.length ∧ x.fee <= x.balAt k := by
 unfold Az at h
 split at h
 ·cases h
 ·rename_i h1
  have h1' : inB who x.bal.length = true := by simpa using h1
  obtain ⟨k, rfl, hk⟩ := Bn h1'
  rw [Int.toNat_natCast] at h
  split at h
  ·cases h
  ·exact ⟨k, rfl, hk, by omega⟩
def BM (n : Nat) (funds to a : Int) : Int := if inB to n = false then 2 else if a < 1 then 5 else if funds < a then 4 else 0
theorem Fj {funds to : Int} (h : BM n funds to a = 0) : ∃ t : Nat, to = t ∧ t < n ∧ 1 <= a ∧ a <= funds := by
 unfold BM at h
 split at h
 ·cases h
 ·rename_i h1
  obtain ⟨t, rfl, ht⟩ := Bn (show inB to n = true by simpa using h1)
  split at h
  ·cases h
  ·split at h
   ·cases h
   ·exact ⟨t, rfl, ht, by omega, by omega⟩
def Co (x : EC) (who to a : Int) : Int × EC := Gc x who (fun y k => BM y.bal.length (y.balAt k) to a) (fun y k => { y with bal := Ec y.bal k to.toNat a })
def Bo (x : EC) (to a : Int) : Int × EC := if BM x.bal.length x.pool to a ≠ 0 then (BM x.bal.length x.pool to a, x) else (0, { x with pool := x.pool - a, bal := x.bal.set to.toNat (x.balAt to.toNat + a) })
theorem Bq (h : ¬ Az x who = 0) : Gc x who err act = (Az x who, x) := by unfold Gc; rw [if_pos h]
theorem AP (h : Az x k = 0) (he : ¬ err (Ab x k) k = 0) : Gc x k err act = (err (Ab x k) k, Ab x k) := by
 unfold Gc; rw [if_neg (by simp [h]), Int.toNat_natCast, if_pos he]
theorem B8 (h : Az x k = 0) (he : err (Ab x k) k = 0) : Gc x k err act = (0, act (Ab x k) k) := by
 unfold Gc; rw [if_neg (by simp [h]), Int.toNat_natCast, if_neg (by simp [he])]
theorem JJ (g n : Nat) (funds to a : Int) (ba : Option Addr) (bc : Nat) (w : World) (c4 : w.cell? ⟨g, 4, none⟩ = some (.slice ba n bc)) (hl : n <= 1000) :
  Calls Tryz.prog 106 #[.pointer (some ⟨g, 0, none⟩), .int .i64 funds, .int .i64 to, .int .i64 a] w fun e w' => e = .returned (.int .i64 (BM n funds to a)) ∧ w = w' := by
 obtain ⟨R, hR⟩ : ∃ R, BM n funds to a = R := ⟨_, rfl⟩
 rw [hR]
 unfold BM at hR
 by_cases h1 : inB to n = true
 case neg =>
  have h1' : inB to n = false := by simpa using h1
  rw [if_pos h1'] at hR
  have HR := Hd hR
  clear hR h1
  go_enter Tryz.func106, Tryz.ntmps106
  go_wp2_with (go_at_call 96; refine (Ns g n to _ _ _ c4 hl).mono ?_; rintro e w' ⟨rfl, rfl⟩; rw [h1'])
  go_ret
  exact ⟨As HR.out, rfl⟩
 rw [if_neg (by simp [h1])] at hR
 by_cases h2 : a < 1
 ·rw [if_pos h2] at hR
  have HR := Hd hR
  clear hR
  go_enter Tryz.func106, Tryz.ntmps106
  go_wp2_with (go_at_call 96; refine (Ns g n to _ _ _ c4 hl).mono ?_; rintro e w' ⟨rfl, rfl⟩; rw [h1])
  go_ret
  exact ⟨As HR.out, rfl⟩
 rw [if_neg h2] at hR
 by_cases h3 : funds < a
 ·rw [if_pos h3] at hR
  have HR := Hd hR
  clear hR
  go_enter Tryz.func106, Tryz.ntmps106
  go_wp2_with (go_at_call 96; refine (Ns g n to _ _ _ c4 hl).mono ?_; rintro e w' ⟨rfl, rfl⟩; rw [h1])
  go_ret
  exact ⟨As HR.out, rfl⟩
 rw [if_neg h3] at hR
 have HR := Hd hR
 clear hR
 go_enter Tryz.func106, Tryz.ntmps106
 go_wp2_with (go_at_call 96; refine (Ns g n to _ _ _ c4 hl).mono ?_; rintro e w' ⟨rfl, rfl⟩; rw [h1])
 go_ret
 exact ⟨As HR.out, rfl⟩
section
variable {S : Nat -> Prop} {W0 : World} (g : Nat) (x : EC) (bv vv ev : Value) (w : World) (h : PE S W0 w g x bv vv ev)
include h
theorem CT (who : Int) (ha : CK x) (hc : ¬ Az x who = 0) :
  Calls Tryz.prog 105 #[.pointer (some ⟨g, 0, none⟩), .int .i64 who] w fun e w' => e = .returned (.int .i64 (Az x who)) ∧ PE S W0 w' g x bv vv ev := by
 have := Mp g x bv vv ev w h who ha
 rw [if_pos hc] at this
 exact this
theorem BH (k : Nat) (ha : CK x) (hc : Az x k = 0) :
  Calls Tryz.prog 105 #[.pointer (some ⟨g, 0, none⟩), .int .i64 k] w fun e w' => e = .returned (.int .i64 0) ∧ PE S W0 w' g (Ab x k) bv vv ev := by
 have := Mp g x bv vv ev w h k ha
 rw [hc, if_neg (by decide), Int.toNat_natCast] at this
 exact this
theorem St (who to a : Int) (ha : CK x) :
  Calls Tryz.prog 53 #[.pointer (some ⟨g, 0, none⟩), .int .i64 who, .int .i64 to, .int .i64 a] w fun e w' => e = .returned (.int .i64 (Co x who to a).1) ∧ PE S W0 w' g (Co x who to a).2 bv vv ev := by
 unfold Co
 have hl := ha.l1
 by_cases hc : Az x who = 0
 case neg =>
  rw [Bq hc]
  have HC : Hid (Calls Tryz.prog 105 #[.pointer (some ⟨g, 0, none⟩), .int .i64 who] w fun e w' => e = .returned (.int .i64 (Az x who)) ∧ PE S W0 w' g x bv vv ev) := CT g x bv vv ev w h who ha hc
  have hc' : (Az x who == 0) = false := by simp [hc]
  clear h hc
  generalize Az x who = c at *
  go_enter Tryz.func53, Tryz.ntmps53
  go_wp2_with fail
  refine HC.out.mono ?_
  rintro e w1 ⟨rfl, hP⟩
  have HP := Hd hP
  clear hP HC
  go_wp2
  go_ret
  exact ⟨rfl, HP.out⟩
 obtain ⟨k, rfl, hk, hf⟩ := Cs hc
 have e1 : (Ab x k).bal.length = x.bal.length := by simp [Ab]
 have e2 : (Ab x k).balAt k = x.balAt k - x.fee := by simp [Ab, EC.balAt, hk]
 by_cases ht : BM (Ab x k).bal.length ((Ab x k).balAt k) to a = 0
 case neg =>
  rw [AP hc ht]
  have HC : Hid (Calls Tryz.prog 105 #[.pointer (some ⟨g, 0, none⟩), .int .i64 k] w fun e w' => e = .returned (.int .i64 0) ∧ PE S W0 w' g (Ab x k) bv vv ev) := BH g x bv vv ev w h k ha hc
  have ht' : (BM (Ab x k).bal.length ((Ab x k).balAt k) to a == 0) = false := by simp [ht]
  have HT : Hid (∀ w1 ba bc, w1.cell? ⟨g, 4, none⟩ = some (.slice ba (Ab x k).bal.length bc) -> Calls Tryz.prog 106 #[.pointer (some ⟨g, 0, none⟩), .int .i64 ((Ab x k).balAt k), .int .i64 to, .int .i64 a] w1 fun e w' => e = .returned (.int .i64 (BM (Ab x k).bal.length ((Ab x k).balAt k) to a)) ∧ w1 = w') := fun w1 ba bc c4 => JJ g _ _ to a ba bc w1 c4 (by omega)
  clear h hc ht e2
  have hk1 : k < (Ab x k).bal.length := by omega
  generalize BM (Ab x k).bal.length ((Ab x k).balAt k) to a = te at *
  go_enter Tryz.func53, Tryz.ntmps53
  go_wp2_with fail
  refine HC.out.mono ?_
  rintro e w1 ⟨rfl, hP⟩
  clear HC
  obtain ⟨ba, bc, rfl⟩ := Ac hP.b
  obtain ⟨gb, rfl, _⟩ := Ag hP.b (by omega)
  have c4 : w1.cell? ⟨g, 4, none⟩ = some (.slice (some ⟨gb, 0, none⟩) (Ab x k).bal.length bc) := hP.L.cell 4
  have cb := hP.balAt' hk1
  have HP := Hd hP
  clear hP
  go_wp2_with fail
  refine (HT.out _ _ _ (by assumption)).mono ?_
  rintro e w2 ⟨rfl, rfl⟩
  go_wp2
  go_ret
  exact ⟨rfl, HP.out.eta rfl rfl rfl rfl⟩
 rw [B8 hc ht]
 obtain ⟨t, rfl, htl, a1, a2⟩ := Fj ht
 rw [e2] at a2
 have hb := ha.b k hk
 have hbt := ha.b t (by omega)
 exact Sm g x bv vv ev w h k t a hl hk (by omega) a1 (by omega) hb.2 ha.f0 ha.s0 ha.s1 hbt.1 hbt.2
end
section
variable {S : Nat -> Prop} {W0 : World} (g : Nat) (x : EC) (bv vv ev : Value) (w : World) (h : PE S W0 w g x bv vv ev)
include h
theorem Pc (who val amount : Int) (ha : CK x) (hc : ¬ Az x who = 0) :
  Calls Tryz.prog 56 #[.pointer (some ⟨g, 0, none⟩), .int .i64 who, .int .i64 val, .int .i64 amount] w fun e w' => e = .returned (.int .i64 (Az x who)) ∧ PE S W0 w' g x bv vv ev := by
 have HC : Hid (Calls Tryz.prog 105 #[.pointer (some ⟨g, 0, none⟩), .int .i64 who] w fun e w' => e = .returned (.int .i64 (Az x who)) ∧ PE S W0 w' g x bv vv ev) := CT g x bv vv ev w h who ha hc
 have hc' : (Az x who == 0) = false := by simp [hc]
 clear h hc
 generalize Az x who = c at *
 go_enter Tryz.func56, Tryz.ntmps56
 go_wp2_with fail
 refine HC.out.mono ?_
 rintro e w1 ⟨rfl, hP⟩
 have HP := Hd hP
 clear hP HC
 go_wp2
 go_ret
 exact ⟨rfl, HP.out⟩
theorem N4 (k : Nat) (val amount : Int) (ha : CK x) (hc : Az x k = 0) (ec : Int) (hec : ¬ ec = 0)
  (hE : ∀ w1, PE S W0 w1 g (Ab x k) bv vv ev -> Calls Tryz.prog 110 #[.pointer (some ⟨g, 0, none⟩), .int .i64 k, .int .i64 val, .int .i64 amount] w1 fun e w' => e = .returned (.int .i64 ec) ∧ Below w1.heap.size w1 w') :
  Calls Tryz.prog 56 #[.pointer (some ⟨g, 0, none⟩), .int .i64 k, .int .i64 val, .int .i64 amount] w fun e w' => e = .returned (.int .i64 ec) ∧ PE S W0 w' g (Ab x k) bv vv ev := by
 have HC : Hid (Calls Tryz.prog 105 #[.pointer (some ⟨g, 0, none⟩), .int .i64 k] w fun e w' => e = .returned (.int .i64 0) ∧ PE S W0 w' g (Ab x k) bv vv ev) := BH g x bv vv ev w h k ha hc
 have HE := Hd hE
 have hc' : (ec == 0) = false := by simp [hec]
 clear h hc hE hec
 go_enter Tryz.func56, Tryz.ntmps56
 go_wp2_with fail
 refine HC.out.mono ?_
 rintro e w1 ⟨rfl, hP⟩
 have HP := Hd hP
 clear hP HC
 go_wp2_with fail
 refine (HE.out _ HP.out).mono ?_
 rintro e w2 ⟨rfl, hb⟩
 have HP2 : Hid (PE S W0 w2 g (Ab x k) bv vv ev) := HP.out.below hb
 clear hb HP HE
 go_wp2
 go_ret
 exact ⟨rfl, HP2.out⟩
theorem Lk (who val shares : Int) (ha : CK x) (hc : ¬ Az x who = 0) :
  Calls Tryz.prog 57 #[.pointer (some ⟨g, 0, none⟩), .int .i64 who, .int .i64 val, .int .i64 shares] w fun e w' => e = .returned (.int .i64 (Az x who)) ∧ PE S W0 w' g x bv vv ev := by
 have HC : Hid (Calls Tryz.prog 105 #[.pointer (some ⟨g, 0, none⟩), .int .i64 who] w fun e w' => e = .returned (.int .i64 (Az x who)) ∧ PE S W0 w' g x bv vv ev) := CT g x bv vv ev w h who ha hc
 have hc' : (Az x who == 0) = false := by simp [hc]
 clear h hc
 generalize Az x who = c at *
 go_enter Tryz.func57, Tryz.ntmps57
 go_wp2_with fail
 refine HC.out.mono ?_
 rintro e w1 ⟨rfl, hP⟩
 have HP := Hd hP
 clear hP HC
 go_wp2
 go_ret
 exact ⟨rfl, HP.out⟩
theorem Kz (k : Nat) (val shares : Int) (ha : CK x) (hc : Az x k = 0) (ec : Int) (hec : ¬ ec = 0)
  (hE : ∀ w1, PE S W0 w1 g (Ab x k) bv vv ev -> Calls Tryz.prog 112 #[.pointer (some ⟨g, 0, none⟩), .int .i64 k, .int .i64 val, .int .i64 shares] w1 fun e w' => e = .returned (.int .i64 ec) ∧ Below w1.heap.size w1 w') :
  Calls Tryz.prog 57 #[.pointer (some ⟨g, 0, none⟩), .int .i64 k, .int .i64 val, .int .i64 shares] w fun e w' => e = .returned (.int .i64 ec) ∧ PE S W0 w' g (Ab x k) bv vv ev := by
 have HC : Hid (Calls Tryz.prog 105 #[.pointer (some ⟨g, 0, none⟩), .int .i64 k] w fun e w' => e = .returned (.int .i64 0) ∧ PE S W0 w' g (Ab x k) bv vv ev) := BH g x bv vv ev w h k ha hc
 have HE := Hd hE
 have hc' : (ec == 0) = false := by simp [hec]
 clear h hc hE hec
 go_enter Tryz.func57, Tryz.ntmps57
 go_wp2_with fail
 refine HC.out.mono ?_
 rintro e w1 ⟨rfl, hP⟩
 have HP := Hd hP
 clear hP HC
 go_wp2_with fail
 refine (HE.out _ HP.out).mono ?_
 rintro e w2 ⟨rfl, hb⟩
 have HP2 : Hid (PE S W0 w2 g (Ab x k) bv vv ev) := HP.out.below hb
 clear hb HP HE
 go_wp2
 go_ret
 exact ⟨rfl, HP2.out⟩
theorem P2 (who val to shares : Int) (ha : CK x) (hc : ¬ Az x who = 0) :
  Calls Tryz.prog 58 #[.pointer (some ⟨g, 0, none⟩), .int .i64 who, .int .i64 val, .int .i64 to, .int .i64 shares] w fun e w' => e = .returned (.int .i64 (Az x who)) ∧ PE S W0 w' g x bv vv ev := by
 have HC : Hid (Calls Tryz.prog 105 #[.pointer (some ⟨g, 0, none⟩), .int .i64 who] w fun e w' => e = .returned (.int .i64 (Az x who)) ∧ PE S W0 w' g x bv vv ev) := CT g x bv vv ev w h who ha hc
 have hc' : (Az x who == 0) = false := by simp [hc]
 clear h hc
 generalize Az x who = c at *
 go_enter Tryz.func58, Tryz.ntmps58
 go_wp2_with fail
 refine HC.out.mono ?_
 rintro e w1 ⟨rfl, hP⟩
 have HP := Hd hP
 clear hP HC
 go_wp2
 go_ret
 exact ⟨rfl, HP.out⟩
theorem M7 (k : Nat) (val to shares : Int) (ha : CK x) (hc : Az x k = 0) (ec : Int) (hec : ¬ ec = 0)
  (hE : ∀ w1, PE S W0 w1 g (Ab x k) bv vv ev -> Calls Tryz.prog 115 #[.pointer (some ⟨g, 0, none⟩), .int .i64 k, .int .i64 val, .int .i64 to, .int .i64 shares] w1 fun e w' => e = .returned (.int .i64 ec) ∧ Below w1.heap.size w1 w') :
  Calls Tryz.prog 58 #[.pointer (some ⟨g, 0, none⟩), .int .i64 k, .int .i64 val, .int .i64 to, .int .i64 shares] w fun e w' => e = .returned (.int .i64 ec) ∧ PE S W0 w' g (Ab x k) bv vv ev := by
 have HC : Hid (Calls Tryz.prog 105 #[.pointer (some ⟨g, 0, none⟩), .int .i64 k] w fun e w' => e = .returned (.int .i64 0) ∧ PE S W0 w' g (Ab x k) bv vv ev) := BH g x bv vv ev w h k ha hc
 have HE := Hd hE
 have hc' : (ec == 0) = false := by simp [hec]
 clear h hc hE hec
 go_enter Tryz.func58, Tryz.ntmps58
 go_wp2_with fail
 refine HC.out.mono ?_
 rintro e w1 ⟨rfl, hP⟩
 have HP := Hd hP
 clear hP HC
 go_wp2_with fail
 refine (HE.out _ HP.out).mono ?_
 rintro e w2 ⟨rfl, hb⟩
 have HP2 : Hid (PE S W0 w2 g (Ab x k) bv vv ev) := HP.out.below hb
 clear hb HP HE
 go_wp2
 go_ret
 exact ⟨rfl, HP2.out⟩
theorem J7 (who val : Int) (ha : CK x) (hc : ¬ Az x who = 0) :
  Calls Tryz.prog 59 #[.pointer (some ⟨g, 0, none⟩), .int .i64 who, .int .i64 val] w fun e w' => e = .returned (.int .i64 (Az x who)) ∧ PE S W0 w' g x bv vv ev := by
 have HC : Hid (Calls Tryz.prog 105 #[.pointer (some ⟨g, 0, none⟩), .int .i64 who] w fun e w' => e = .returned (.int .i64 (Az x who)) ∧ PE S W0 w' g x bv vv ev) := CT g x bv vv ev w h who ha hc
 have hc' : (Az x who == 0) = false := by simp [hc]
 clear h hc
 generalize Az x who = c at *
 go_enter Tryz.func59, Tryz.ntmps59
 go_wp2_with fail
 refine HC.out.mono ?_
 rintro e w1 ⟨rfl, hP⟩
 have HP := Hd hP
 clear hP HC
 go_wp2
 go_ret
 exact ⟨rfl, HP.out⟩
theorem Je (k : Nat) (val : Int) (ha : CK x) (hc : Az x k = 0) (ec : Int) (hec : ¬ ec = 0)
  (hE : ∀ w1, PE S W0 w1 g (Ab x k) bv vv ev -> Calls Tryz.prog 97 #[.pointer (some ⟨g, 0, none⟩), .int .i64 k, .int .i64 val] w1 fun e w' => e = .returned (.int .i64 ec) ∧ Below w1.heap.size w1 w') :
  Calls Tryz.prog 59 #[.pointer (some ⟨g, 0, none⟩), .int .i64 k, .int .i64 val] w fun e w' => e = .returned (.int .i64 ec) ∧ PE S W0 w' g (Ab x k) bv vv ev := by
 have HC : Hid (Calls Tryz.prog 105 #[.pointer (some ⟨g, 0, none⟩), .int .i64 k] w fun e w' => e = .returned (.int .i64 0) ∧ PE S W0 w' g (Ab x k) bv vv ev) := BH g x bv vv ev w h k ha hc
 have HE := Hd hE
 have hc' : (ec == 0) = false := by simp [hec]
 clear h hc hE hec
 go_enter Tryz.func59, Tryz.ntmps59
 go_wp2_with fail
 refine HC.out.mono ?_
 rintro e w1 ⟨rfl, hP⟩
 have HP := Hd hP
 clear hP HC
 go_wp2_with fail
 refine (HE.out _ HP.out).mono ?_
 rintro e w2 ⟨rfl, hb⟩
 have HP2 : Hid (PE S W0 w2 g (Ab x k) bv vv ev) := HP.out.below hb
 clear hb HP HE
 go_wp2
 go_ret
 exact ⟨rfl, HP2.out⟩
theorem Ku (who val : Int) (ha : CK x) (hc : ¬ Az x who = 0) :
  Calls Tryz.prog 60 #[.pointer (some ⟨g, 0, none⟩), .int .i64 who, .int .i64 val] w fun e w' => e = .returned (.int .i64 (Az x who)) ∧ PE S W0 w' g x bv vv ev := by
 have HC : Hid (Calls Tryz.prog 105 #[.pointer (some ⟨g, 0, none⟩), .int .i64 who] w fun e w' => e = .returned (.int .i64 (Az x who)) ∧ PE S W0 w' g x bv vv ev) := CT g x bv vv ev w h who ha hc
 have hc' : (Az x who == 0) = false := by simp [hc]
 clear h hc
 generalize Az x who = c at *
 go_enter Tryz.func60, Tryz.ntmps60
 go_wp2_with fail
 refine HC.out.mono ?_
 rintro e w1 ⟨rfl, hP⟩
 have HP := Hd hP
 clear hP HC
 go_wp2
 go_ret
 exact ⟨rfl, HP.out⟩
theorem JX (k : Nat) (val : Int) (ha : CK x) (hc : Az x k = 0) (ec : Int) (hec : ¬ ec = 0)
  (hE : ∀ w1, PE S W0 w1 g (Ab x k) bv vv ev -> Calls Tryz.prog 117 #[.pointer (some ⟨g, 0, none⟩), .int .i64 k, .int .i64 val] w1 fun e w' => e = .returned (.int .i64 ec) ∧ Below w1.heap.size w1 w') :
  Calls Tryz.prog 60 #[.pointer (some ⟨g, 0, none⟩), .int .i64 k, .int .i64 val] w fun e w' => e = .returned (.int .i64 ec) ∧ PE S W0 w' g (Ab x k) bv vv ev := by
 have HC : Hid (Calls Tryz.prog 105 #[.pointer (some ⟨g, 0, none⟩), .int .i64 k] w fun e w' => e = .returned (.int .i64 0) ∧ PE S W0 w' g (Ab x k) bv vv ev) := BH g x bv vv ev w h k ha hc
 have HE := Hd hE
 have hc' : (ec == 0) = false := by simp [hec]
 clear h hc hE hec
 go_enter Tryz.func60, Tryz.ntmps60
 go_wp2_with fail
 refine HC.out.mono ?_
 rintro e w1 ⟨rfl, hP⟩
 have HP := Hd hP
 clear hP HC
 go_wp2_with fail
 refine (HE.out _ HP.out).mono ?_
 rintro e w2 ⟨rfl, hb⟩
 have HP2 : Hid (PE S W0 w2 g (Ab x k) bv vv ev) := HP.out.below hb
 clear hb HP HE
 go_wp2
 go_ret
 exact ⟨rfl, HP2.out⟩
theorem Ov (who val : Int) (ha : CK x) (hc : ¬ Az x who = 0) :
  Calls Tryz.prog 62 #[.pointer (some ⟨g, 0, none⟩), .int .i64 who, .int .i64 val] w fun e w' => e = .returned (.int .i64 (Az x who)) ∧ PE S W0 w' g x bv vv ev := by
 have HC : Hid (Calls Tryz.prog 105 #[.pointer (some ⟨g, 0, none⟩), .int .i64 who] w fun e w' => e = .returned (.int .i64 (Az x who)) ∧ PE S W0 w' g x bv vv ev) := CT g x bv vv ev w h who ha hc
 have hc' : (Az x who == 0) = false := by simp [hc]
 clear h hc
 generalize Az x who = c at *
 go_enter Tryz.func62, Tryz.ntmps62
 go_wp2_with fail
 refine HC.out.mono ?_
 rintro e w1 ⟨rfl, hP⟩
 have HP := Hd hP
 clear hP HC
 go_wp2
 go_ret
 exact ⟨rfl, HP.out⟩
theorem Ny (k : Nat) (val : Int) (ha : CK x) (hc : Az x k = 0) (ec : Int) (hec : ¬ ec = 0)
  (hE : ∀ w1, PE S W0 w1 g (Ab x k) bv vv ev -> Calls Tryz.prog 123 #[.pointer (some ⟨g, 0, none⟩), .int .i64 k, .int .i64 val] w1 fun e w' => e = .returned (.int .i64 ec) ∧ Below w1.heap.size w1 w') :
  Calls Tryz.prog 62 #[.pointer (some ⟨g, 0, none⟩), .int .i64 k, .int .i64 val] w fun e w' => e = .returned (.int .i64 ec) ∧ PE S W0 w' g (Ab x k) bv vv ev := by
 have HC : Hid (Calls Tryz.prog 105 #[.pointer (some ⟨g, 0, none⟩), .int .i64 k] w fun e w' => e = .returned (.int .i64 0) ∧ PE S W0 w' g (Ab x k) bv vv ev) := BH g x bv vv ev w h k ha hc
 have HE := Hd hE
 have hc' : (ec == 0) = false := by simp [hec]
 clear h hc hE hec
 go_enter Tryz.func62, Tryz.ntmps62
 go_wp2_with fail
 refine HC.out.mono ?_
 rintro e w1 ⟨rfl, hP⟩
 have HP := Hd hP
 clear hP HC
 go_wp2_with fail
 refine (HE.out _ HP.out).mono ?_
 rintro e w2 ⟨rfl, hb⟩
 have HP2 : Hid (PE S W0 w2 g (Ab x k) bv vv ev) := HP.out.below hb
 clear hb HP HE
 go_wp2
 go_ret
 exact ⟨rfl, HP2.out⟩
end
def BX (x : EC) (k : Nat) (val : Int) : Int := if inB val x.vals.length = false then 3 else if x.sh k val.toNat < 1 then 6 else 0
def BN (x : EC) (who : Int) (val : Int) : Int := if inB val x.vals.length = false then 3 else if (x.val val.toNat).owner = who then 0 else 10
def BV (x : EC) (k : Nat) (val a : Int) : Int := if inB val x.vals.length = false then 3 else if a < 1 then 5 else if x.balAt k < a then 4 else AX (x.val val.toNat) a
def AD (l : List ES) (who val : Int) : Int := l.foldl (fun n e => if e.who = who ∧ e.val = val then n + 1 else n) 0
theorem G3 (l : List ES) (who val : Int) (k : Nat) (h : k < l.length) : AD (l.take (k + 1)) who val = if l[k].who = who ∧ l[k].val = val then AD (l.take k) who val + 1 else AD (l.take k) who val := by
 unfold AD; rw [Cv _ _ l k h]
theorem Jz (l : List ES) (who val : Int) (k : Nat) (hk : k <= l.length) : 0 <= AD (l.take k) who val ∧ AD (l.take k) who val <= k := by
 induction k with
 | zero => simp [AD]
 | succ k ih =>
  have := ih (by omega)
  rw [G3 l who val k (by omega)]
  split <;> omega
def Cj (x : EC) (k : Nat) (val n : Int) : Int := if inB val x.vals.length = false then 3 else if n < 1 ∨ x.sh k val.toNat < n then 6 else if 4 <= AD x.ents k val then 9 else 0
def BP (x : EC) (k : Nat) (val to n : Int) : Int := if inB val x.vals.length = false then 3 else if inB to x.vals.length = false ∨ to = val then 3 else if n < 1 ∨ x.sh k val.toNat < n then 6 else if Af (x.val val.toNat) n < 1 then 8 else AX (x.val to.toNat) (Af (x.val val.toNat) n)
section
variable {S : Nat -> Prop} {W0 : World} (g : Nat) (x : EC) (bv vv ev : Value) (w : World) (h : PE S W0 w g x bv vv ev)
include h
theorem Jn (k : Nat) (val : Int) (hk : k < 6) (hv : x.vals.length <= 5) :
  Calls Tryz.prog 97 #[.pointer (some ⟨g, 0, none⟩), .int .i64 k, .int .i64 val] w fun e w' => e = .returned (.int .i64 (BX x k val)) ∧ w = w' := by
 obtain ⟨R, hR⟩ : ∃ R, BX x k val = R := ⟨_, rfl⟩
 rw [hR]
 unfold BX at hR
 obtain ⟨va, vc, rfl⟩ := Ac h.v
 have c7 : w.cell? ⟨g, 7, none⟩ = some (.slice va x.vals.length vc) := h.L.cell 7
 by_cases h1 : inB val x.vals.length = true
 case neg =>
  have h1' : inB val x.vals.length = false := by simpa using h1
  rw [if_pos h1'] at hR
  have HR := Hd hR
  clear hR h1 h
  go_enter Tryz.func97, Tryz.ntmps97
  go_wp2_with (go_at_call 144; refine (Hk g x.vals.length val _ _ _ c7 (by omega)).mono ?_; rintro e w' ⟨rfl, rfl⟩; rw [h1'])
  go_ret
  exact ⟨As HR.out, rfl⟩
 rw [if_neg (by simp [h1])] at hR
 obtain ⟨j, rfl, hj⟩ := Bn h1
 rw [Int.toNat_natCast] at hR
 have y := h.shAt hk (j := j) (by omega)
 clear h
 by_cases h2 : x.sh k j < 1
 ·rw [if_pos h2] at hR
  have HR := Hd hR
  clear hR
  generalize x.sh k j = s at *
  go_enter Tryz.func97, Tryz.ntmps97
  go_wp2_with (go_at_call 144; refine (BB g x.vals.length j _ _ _ c7 hj (by omega)).mono ?_; rintro e w' ⟨rfl, rfl⟩)
  go_ret
  exact ⟨As HR.out, rfl⟩
 ·rw [if_neg h2] at hR
  have HR := Hd hR
  clear hR
  generalize x.sh k j = s at *
  go_enter Tryz.func97, Tryz.ntmps97
  go_wp2_with (go_at_call 144; refine (BB g x.vals.length j _ _ _ c7 hj (by omega)).mono ?_; rintro e w' ⟨rfl, rfl⟩)
  go_ret
  exact ⟨As HR.out, rfl⟩
theorem E6 (who val : Int) (hv : x.vals.length <= 5) :
  Calls Tryz.prog 117 #[.pointer (some ⟨g, 0, none⟩), .int .i64 who, .int .i64 val] w fun e w' => e = .returned (.int .i64 (BN x who val)) ∧ w = w' := by
 obtain ⟨R, hR⟩ : ∃ R, BN x who val = R := ⟨_, rfl⟩
 rw [hR]
 unfold BN at hR
 obtain ⟨va, vc, rfl⟩ := Ac h.v
 have c7 : w.cell? ⟨g, 7, none⟩ = some (.slice va x.vals.length vc) := h.L.cell 7
 by_cases h1 : inB val x.vals.length = true
 case neg =>
  have h1' : inB val x.vals.length = false := by simpa using h1
  rw [if_pos h1'] at hR
  have HR := Hd hR
  clear hR h1 h
  go_enter Tryz.func117, Tryz.ntmps117
  go_wp2_with (go_at_call 144; refine (Hk g x.vals.length val _ _ _ c7 (by omega)).mono ?_; rintro e w' ⟨rfl, rfl⟩; rw [h1'])
  go_ret
  exact ⟨As HR.out, rfl⟩
 rw [if_neg (by simp [h1])] at hR
 obtain ⟨j, rfl, hj⟩ := Bn h1
 rw [Int.toNat_natCast] at hR
 obtain ⟨gv, rfl, hcell, hfr⟩ := h.val8 rfl hj
 have y0 := hcell 0 (by omega)
 rw [x.val_eq hj] at y0
 simp only [VS.cells, List.getElem?_cons_zero, Nat.add_zero] at y0
 clear h hcell hfr
 by_cases h2 : (x.val j).owner = who
 ·rw [if_pos h2] at hR
  have HR := Hd hR
  rw [h2] at y0
  clear hR h2
  go_enter Tryz.func117, Tryz.ntmps117
  go_wp2_with (go_at_call 144; refine (BB g x.vals.length j _ _ _ c7 hj (by omega)).mono ?_; rintro e w' ⟨rfl, rfl⟩)
  go_ret
  exact ⟨As HR.out, rfl⟩
 ·rw [if_neg h2] at hR
  have HR := Hd hR
  have h3 : ((x.val j).owner == who) = false := by simp [h2]
  clear hR h2
  generalize (x.val j).owner = ow at *
  go_enter Tryz.func117, Tryz.ntmps117
  go_wp2_with (go_at_call 144; refine (BB g x.vals.length j _ _ _ c7 hj (by omega)).mono ?_; rintro e w' ⟨rfl, rfl⟩)
  go_ret
  exact ⟨As HR.out, rfl⟩
end
theorem CO {v : VS} (hv : Dj v) {n : Int} (n0 : 0 <= n) (n1 : n <= v.shares) : 0 <= Af v n ∧ Af v n <= v.tokens := by
 unfold Af
 split
 ·exact ⟨Int.le_refl _, hv.t0⟩
 ·rename_i e
  have hs := hv.s0
  exact ⟨Int.ediv_nonneg (Int.mul_nonneg n0 hv.t0) hs, by
   have h1 : n * v.tokens <= v.shares * v.tokens := Int.mul_le_mul_of_nonneg_right n1 hv.t0
   have h2 := Int.ediv_le_ediv (show 0 < v.shares by omega) h1
   rwa [Int.mul_ediv_cancel_left _ e] at h2⟩
section
variable {S : Nat -> Prop} {W0 : World} (g : Nat) (x : EC) (bv vv ev : Value) (w : World) (h : PE S W0 w g x bv vv ev)
include h
theorem L0 (k : Nat) (val a : Int) (hl : x.bal.length <= 6) (hk : k < x.bal.length) (hv : x.vals.length <= 5) (hV : ∀ j, j < x.vals.length -> Dj (x.val j)) (hb : x.balAt k <= 1000000) :
  Calls Tryz.prog 110 #[.pointer (some ⟨g, 0, none⟩), .int .i64 k, .int .i64 val, .int .i64 a] w fun e w' => e = .returned (.int .i64 (BV x k val a)) ∧ Below w.heap.size w w' := by
 obtain ⟨R, hR⟩ : ∃ R, BV x k val a = R := ⟨_, rfl⟩
 rw [hR]
 unfold BV at hR
 obtain ⟨ba, bc, rfl⟩ := Ac h.b
 obtain ⟨gb, rfl, _⟩ := Ag h.b (by omega)
 obtain ⟨va, vc, rfl⟩ := Ac h.v
 have c4 : w.cell? ⟨g, 4, none⟩ = some (.slice (some ⟨gb, 0, none⟩) x.bal.length bc) := h.L.cell 4
 have c7 : w.cell? ⟨g, 7, none⟩ = some (.slice va x.vals.length vc) := h.L.cell 7
 have cb := h.balAt' hk
 by_cases h1 : inB val x.vals.length = true
 case neg =>
  have h1' : inB val x.vals.length = false := by simpa using h1
  rw [if_pos h1'] at hR
  have HR := Hd hR
  clear hR h1 h
  go_enter Tryz.func110, Tryz.ntmps110
  go_wp2_with (go_at_call 144; refine (Hk g x.vals.length val _ _ _ c7 (by omega)).mono ?_; rintro e w' ⟨rfl, rfl⟩; rw [h1'])
  go_ret
  exact ⟨As HR.out, Below.refl _ _⟩
 rw [if_neg (by simp [h1])] at hR
 obtain ⟨j, rfl, hj⟩ := Bn h1
 rw [Int.toNat_natCast] at hR
 by_cases h2 : a < 1
 ·rw [if_pos h2] at hR
  have HR := Hd hR
  clear hR h
  go_enter Tryz.func110, Tryz.ntmps110
  go_wp2_with (go_at_call 144; refine (BB g x.vals.length j _ _ _ c7 hj (by omega)).mono ?_; rintro e w' ⟨rfl, rfl⟩)
  go_ret
  exact ⟨As HR.out, Below.refl _ _⟩
 rw [if_neg h2] at hR
 by_cases h3 : x.balAt k < a
 ·rw [if_pos h3] at hR
  have HR := Hd hR
  clear hR h
  generalize x.balAt k = y at *
  go_enter Tryz.func110, Tryz.ntmps110
  go_wp2_with (go_at_call 144; refine (BB g x.vals.length j _ _ _ c7 hj (by omega)).mono ?_; rintro e w' ⟨rfl, rfl⟩)
  try go_quiet (fail)
  try go_wp2
  go_ret
  exact ⟨As HR.out, by first | exact Below.refl _ _ | exact below_drewN (Below.refl _ _) _⟩
 rw [if_neg h3] at hR
 have HR := Hd hR
 obtain ⟨gv, rfl, hcell, hfr⟩ := h.val8 rfl hj
 have y0 := hcell 0 (by omega)
 have y1 := hcell 1 (by omega)
 have y2 := hcell 2 (by omega)
 have y3 := hcell 3 (by omega)
 have y4 := hcell 4 (by omega)
 have y5 := hcell 5 (by omega)
 have y6 := hcell 6 (by omega)
 have y7 := hcell 7 (by omega)
 rw [x.val_eq hj] at y0 y1 y2 y3 y4 y5 y6 y7
 have HJ : Hid (∀ u, Calls Tryz.prog 148 #[.agg #[.int .i64 (x.val j).owner, .int .i64 (x.val j).rate, .int .i64 (x.val j).tokens, .int .i64 (x.val j).shares, .int .i64 (x.val j).comm, .int .i64 (x.val j).outs, .bool (x.val j).jailed, .bool (x.val j).inset], .int .i64 a] u fun e w' => e = .returned (.int .i64 R) ∧ Below u.heap.size u w') := fun u => by
  rw [<- hR]; exact Eg (x.val j) a u (hV j hj) (by omega) (by omega)
 clear h hcell hfr hV hR
 generalize x.val j = v at *
 generalize x.balAt k = y at *
 obtain ⟨vo, vr, vt, vs, vcm, vou, vj, vi⟩ := v
 simp only [VS.cells, List.getElem?_cons_succ, List.getElem?_cons_zero, Nat.add_zero] at y0 y1 y2 y3 y4 y5 y6 y7
 go_enter Tryz.func110, Tryz.ntmps110
 go_wp2_with (first | (go_at_call 144; refine (BB g x.vals.length j _ _ _ c7 hj (by omega)).mono ?_; rintro e w' ⟨rfl, rfl⟩) | fail)
 refine (HJ.out _).mono ?_
 rintro e w2 ⟨rfl, hb2⟩
 have HF := Hd hb2
 clear hb2 HJ
 go_wp2
 go_ret
 exact ⟨rfl, HF.out⟩
theorem ON (who val : Int) (hl : x.ents.length <= 100000) :
  Calls Tryz.prog 142 #[.pointer (some ⟨g, 0, none⟩), .int .i64 who, .int .i64 val] w fun e w' => e = .returned (.int .i64 (AD x.ents who val)) ∧ Below w.heap.size w w' := by
 obtain ⟨ea, ec, rfl⟩ := Ac h.e
 have c73 : w.cell? ⟨g, 73, none⟩ = some (.slice ea x.ents.length ec) := h.evAt
 have he := Rd.of_owns h.e
 have HC : Hid (∀ k, k <= x.ents.length -> 0 <= AD (x.ents.take k) who val ∧ AD (x.ents.take k) who val <= k) := fun k hk => Jz x.ents who val k hk
 clear h
 go_enter Tryz.func142, Tryz.ntmps142
 go_wp2
 go_loopw [7, 15] (fun n i wr => ∃ k : Nat, k <= x.ents.length ∧ i = .int .i64 k ∧ n = .int .i64 (AD (x.ents.take k) who val) ∧ Below w.heap.size w wr) (fun _ i _ => x.ents.length - (intOf i).toNat)
 case atStart => exact ⟨0, Nat.zero_le _, rfl, rfl, Below.refl _ _⟩
 case round =>
  obtain ⟨k, hk, rfl, rfl, hbw⟩ := hrel
  obtain ⟨q1, q2⟩ := HC.out k hk
  have he' := he.below hbw (Nat.le_refl _)
  by_cases hlt : k < x.ents.length
  ·obtain ⟨ge, rfl, hc⟩ := he'.get (by omega)
   have y0 := hc _ _ (AC x.ents k hlt 0 (by omega))
   have y1 := hc _ _ (AC x.ents k hlt 1 (by omega))
   have y2 := hc _ _ (AC x.ents k hlt 2 (by omega))
   have y3 := hc _ _ (AC x.ents k hlt 3 (by omega))
   rw [Nat.add_zero] at y0
   have HS : Hid (AD (x.ents.take (k + 1)) who val = if x.ents[k].who = who ∧ x.ents[k].val = val then AD (x.ents.take k) who val + 1 else AD (x.ents.take k) who val) := G3 x.ents who val k hlt
   have HB : Hid (∀ o, Below w.heap.size w (wr.alloc o)) := fun o => hbw.alloc hbw.size o
   generalize x.ents[k] = en at *
   obtain ⟨ew, evl, em, ea2⟩ := en
   dsimp only at y0 y1 y2 y3
   clear hc he he' hbw HC
   by_cases e1 : ew = who
   ·by_cases e2 : evl = val
    ·have HS1 : Hid (AD (x.ents.take (k + 1)) who val = AD (x.ents.take k) who val + 1) := by rw [HS.out, if_pos ⟨e1, e2⟩]; exact rfl
     subst e1 e2
     clear HS
     go_wp2
     refine And.intro ?_ ?_
     ·first | exact ⟨k + 1, by omega, by go_num, by rw [HS1.out], HB.out _⟩ | ((repeat apply Exists.intro); exact ⟨⟨k + 1, by omega, by go_num, by rw [HS1.out], HB.out _⟩, rfl⟩)
     ·simp [intOf]; omega
    ·have HS1 : Hid (AD (x.ents.take (k + 1)) who val = AD (x.ents.take k) who val) := by rw [HS.out, if_neg (fun h => e2 h.2)]; exact rfl
     have e3 : (evl == val) = false := by simp [e2]
     subst e1
     clear HS e2
     go_wp2
     refine And.intro ?_ ?_
     ·first | exact ⟨k + 1, by omega, by go_num, by rw [HS1.out], HB.out _⟩ | ((repeat apply Exists.intro); exact ⟨⟨k + 1, by omega, by go_num, by rw [HS1.out], HB.out _⟩, rfl⟩)
     ·simp [intOf]; omega
   ·have HS1 : Hid (AD (x.ents.take (k + 1)) who val = AD (x.ents.take k) who val) := by rw [HS.out, if_neg (fun h => e1 h.1)]; exact rfl
    have e3 : (ew == who) = false := by simp [e1]
    clear HS e1
    go_wp2
    refine And.intro ?_ ?_
    ·first | exact ⟨k + 1, by omega, by go_num, by rw [HS1.out], HB.out _⟩ | ((repeat apply Exists.intro); exact ⟨⟨k + 1, by omega, by go_num, by rw [HS1.out], HB.out _⟩, rfl⟩)
    ·simp [intOf]; omega
  ·have HE : Hid (AD (x.ents.take k) who val = AD x.ents who val) := by rw [List.take_of_length_le (by omega)]; exact rfl
   have HB := Hd hbw
   clear hbw he he' HC
   go_wp2
   go_ret
   exact ⟨As HE.out, HB.out⟩
end
section
variable {S : Nat -> Prop} {W0 : World} (g : Nat) (x : EC) (bv vv ev : Value) (w : World) (h : PE S W0 w g x bv vv ev)
include h
theorem Ge (k : Nat) (val n : Int) (hk : k < 6) (hv : x.vals.length <= 5) (hE : x.ents.length <= 100000) :
  Calls Tryz.prog 112 #[.pointer (some ⟨g, 0, none⟩), .int .i64 k, .int .i64 val, .int .i64 n] w fun e w' => e = .returned (.int .i64 (Cj x k val n)) ∧ Below w.heap.size w w' := by
 obtain ⟨R, hR⟩ : ∃ R, Cj x k val n = R := ⟨_, rfl⟩
 rw [hR]
 unfold Cj at hR
 obtain ⟨va, vc, rfl⟩ := Ac h.v
 have c7 : w.cell? ⟨g, 7, none⟩ = some (.slice va x.vals.length vc) := h.L.cell 7
 by_cases h1 : inB val x.vals.length = true
 case neg =>
  have h1' : inB val x.vals.length = false := by simpa using h1
  rw [if_pos h1'] at hR
  have HR := Hd hR
  clear hR h1 h
  go_enter Tryz.func112, Tryz.ntmps112
  go_wp2_with (go_at_call 144; refine (Hk g x.vals.length val _ _ _ c7 (by omega)).mono ?_; rintro e w' ⟨rfl, rfl⟩; rw [h1'])
  go_ret
  exact ⟨As HR.out, Below.refl _ _⟩
 rw [if_neg (by simp [h1])] at hR
 obtain ⟨j, rfl, hj⟩ := Bn h1
 rw [Int.toNat_natCast] at hR
 have y := h.shAt hk (j := j) (by omega)
 have HC : Hid (Calls Tryz.prog 142 #[.pointer (some ⟨g, 0, none⟩), .int .i64 k, .int .i64 j] w fun e w' => e = .returned (.int .i64 (AD x.ents k j)) ∧ Below w.heap.size w w') := ON g x _ _ _ w h k j hE
 clear h
 by_cases h2 : n < 1
 ·rw [if_pos (.inl h2)] at hR
  have HR := Hd hR
  clear hR HC
  generalize x.sh k j = s at *
  go_enter Tryz.func112, Tryz.ntmps112
  go_wp2_with (go_at_call 144; refine (BB g x.vals.length j _ _ _ c7 hj (by omega)).mono ?_; rintro e w' ⟨rfl, rfl⟩)
  go_ret
  exact ⟨As HR.out, Below.refl _ _⟩
 by_cases h3 : x.sh k j < n
 ·rw [if_pos (.inr h3)] at hR
  have HR := Hd hR
  clear hR HC
  generalize x.sh k j = s at *
  go_enter Tryz.func112, Tryz.ntmps112
  go_wp2_with (go_at_call 144; refine (BB g x.vals.length j _ _ _ c7 hj (by omega)).mono ?_; rintro e w' ⟨rfl, rfl⟩)
  try go_quiet (fail)
  try go_wp2
  go_ret
  exact ⟨As HR.out, by first | exact Below.refl _ _ | exact below_drewN (Below.refl _ _) _⟩
 rw [if_neg (fun h => h.elim h2 h3)] at hR
 by_cases h4 : 4 <= AD x.ents k j
 ·rw [if_pos h4] at hR
  have HR := Hd hR
  clear hR
  generalize x.sh k j = s at *
  generalize AD x.ents k j = ct at *
  go_enter Tryz.func112, Tryz.ntmps112
  go_wp2_with (first | (go_at_call 144; refine (BB g x.vals.length j _ _ _ c7 hj (by omega)).mono ?_; rintro e w' ⟨rfl, rfl⟩) | fail)
  refine HC.out.mono ?_
  rintro e w2 ⟨rfl, hb2⟩
  have HB := Hd hb2
  clear hb2 HC
  go_wp2
  go_ret
  exact ⟨As HR.out, HB.out⟩
 ·rw [if_neg h4] at hR
  have HR := Hd hR
  clear hR
  generalize x.sh k j = s at *
  generalize AD x.ents k j = ct at *
  go_enter Tryz.func112, Tryz.ntmps112
  go_wp2_with (first | (go_at_call 144; refine (BB g x.vals.length j _ _ _ c7 hj (by omega)).mono ?_; rintro e w' ⟨rfl, rfl⟩) | fail)
  refine HC.out.mono ?_
  rintro e w2 ⟨rfl, hb2⟩
  have HB := Hd hb2
  clear hb2 HC
  go_wp2
  go_ret
  exact ⟨As HR.out, HB.out⟩
end
section
variable {S : Nat -> Prop} {W0 : World} (g : Nat) (x : EC) (bv vv ev : Value) (w : World) (h : PE S W0 w g x bv vv ev)
include h
theorem Ih (k : Nat) (val to n : Int) (hk : k < 6) (hv : x.vals.length <= 5) (hV : ∀ j, j < x.vals.length -> Dj (x.val j)) (hs : ∀ j, j < x.vals.length -> x.sh k j <= (x.val j).shares) :
  Calls Tryz.prog 115 #[.pointer (some ⟨g, 0, none⟩), .int .i64 k, .int .i64 val, .int .i64 to, .int .i64 n] w fun e w' => e = .returned (.int .i64 (BP x k val to n)) ∧ Below w.heap.size w w' := by
 obtain ⟨R, hR⟩ : ∃ R, BP x k val to n = R := ⟨_, rfl⟩
 rw [hR]
 unfold BP at hR
 obtain ⟨va, vc, rfl⟩ := Ac h.v
 have c7 : w.cell? ⟨g, 7, none⟩ = some (.slice va x.vals.length vc) := h.L.cell 7
 by_cases h1 : inB val x.vals.length = true
 case neg =>
  have h1' : inB val x.vals.length = false := by simpa using h1
  rw [if_pos h1'] at hR
  have HR := Hd hR
  clear hR h1 h
  go_enter Tryz.func115, Tryz.ntmps115
  go_wp2_with (go_at_call 144; refine (Hk g x.vals.length val _ _ _ c7 (by omega)).mono ?_; rintro e w' ⟨rfl, rfl⟩; rw [h1'])
  go_ret
  exact ⟨As HR.out, Below.refl _ _⟩
 rw [if_neg (by simp [h1])] at hR
 by_cases h2 : inB to x.vals.length = true
 case neg =>
  have h2' : inB to x.vals.length = false := by simpa using h2
  rw [if_pos (.inl h2')] at hR
  have HR := Hd hR
  clear hR h2 h
  go_enter Tryz.func115, Tryz.ntmps115
  go_wp2_with (go_at_call 144; refine (Hk g x.vals.length _ _ _ _ c7 (by omega)).mono ?_; rintro e w' ⟨rfl, rfl⟩; first | rw [h2'] | rw [h1])
  go_ret
  exact ⟨As HR.out, Below.refl _ _⟩
 by_cases h3 : to = val
 ·rw [if_pos (.inr h3)] at hR
  have HR := Hd hR
  subst h3
  clear hR h h2
  go_enter Tryz.func115, Tryz.ntmps115
  go_wp2_with (go_at_call 144; refine (Hk g x.vals.length _ _ _ _ c7 (by omega)).mono ?_; rintro e w' ⟨rfl, rfl⟩; rw [h1])
  go_ret
  exact ⟨As HR.out, Below.refl _ _⟩
 rw [if_neg (fun h => h.elim (fun e => by rw [h2] at e; cases e) h3)] at hR
 obtain ⟨j, rfl, hj⟩ := Bn h1
 obtain ⟨t, rfl, ht⟩ := Bn h2
 rw [Int.toNat_natCast, Int.toNat_natCast] at hR
 have h3' : ((t : Int) == (j : Int)) = false := by simp; omega
 have y := h.shAt hk (j := j) (by omega)
 have HJ1 := Hd h1
 have HT1 := Hd h2
 clear h1 h2 h3
 by_cases h4 : n < 1
 ·rw [if_pos (.inl h4)] at hR
  have HR := Hd hR
  clear hR h
  generalize x.sh k j = s at *
  go_enter Tryz.func115, Tryz.ntmps115
  go_wp2_with (go_at_call 144; refine (Hk g x.vals.length _ _ _ _ c7 (by omega)).mono ?_; rintro e w' ⟨rfl, rfl⟩; first | rw [HJ1.out] | rw [HT1.out])
  go_ret
  exact ⟨As HR.out, Below.refl _ _⟩
 by_cases h5 : x.sh k j < n
 ·rw [if_pos (.inr h5)] at hR
  have HR := Hd hR
  clear hR h
  generalize x.sh k j = s at *
  go_enter Tryz.func115, Tryz.ntmps115
  go_wp2_with (go_at_call 144; refine (Hk g x.vals.length _ _ _ _ c7 (by omega)).mono ?_; rintro e w' ⟨rfl, rfl⟩; first | rw [HJ1.out] | rw [HT1.out])
  try go_quiet (fail)
  try go_wp2
  go_ret
  exact ⟨As HR.out, by first | exact Below.refl _ _ | exact below_drewN (Below.refl _ _) _⟩
 rw [if_neg (fun h => h.elim h4 h5)] at hR
 have hsj := hs j hj
 have hVj := hV j hj
 have hVt := hV t ht
 obtain ⟨k0, k1⟩ := CO hVj (show 0 <= n by omega) (show n <= (x.val j).shares by omega)
 obtain ⟨gv, rfl, hcell, hfr⟩ := h.val8 rfl hj
 have y0 := hcell 0 (by omega)
 have y1 := hcell 1 (by omega)
 have y2 := hcell 2 (by omega)
 have y3 := hcell 3 (by omega)
 have y4 := hcell 4 (by omega)
 have y5 := hcell 5 (by omega)
 have y6 := hcell 6 (by omega)
 have y7 := hcell 7 (by omega)
 rw [x.val_eq hj] at y0 y1 y2 y3 y4 y5 y6 y7
 have t0 := hVj.t0
 have t1 := hVj.t1
 have HT : Hid (∀ u, Calls Tryz.prog 150 #[.agg #[.int .i64 (x.val j).owner, .int .i64 (x.val j).rate, .int .i64 (x.val j).tokens, .int .i64 (x.val j).shares, .int .i64 (x.val j).comm, .int .i64 (x.val j).outs, .bool (x.val j).jailed, .bool (x.val j).inset], .int .i64 n] u fun e w' => e = .returned (.int .i64 (Af (x.val j) n)) ∧ Below u.heap.size u w') := fun u => FC (x.val j) n u hVj (by omega) (by have := hVj.s1; omega)
 have HP := Hd h
 have HJ : Hid (∀ u, Calls Tryz.prog 148 #[.agg #[.int .i64 (x.val t).owner, .int .i64 (x.val t).rate, .int .i64 (x.val t).tokens, .int .i64 (x.val t).shares, .int .i64 (x.val t).comm, .int .i64 (x.val t).outs, .bool (x.val t).jailed, .bool (x.val t).inset], .int .i64 (Af (x.val j) n)] u fun e w' => e = .returned (.int .i64 (AX (x.val t) (Af (x.val j) n))) ∧ Below u.heap.size u w') := fun u => Eg (x.val t) _ u hVt k0 (by omega)
 have HVt : Hid (x.vals[t] = x.val t) := x.val_eq ht
 clear h hcell hfr hV hs hVj hVt hsj
 generalize hjv : x.val j = v at *
 clear hjv
 generalize x.sh k j = s at *
 have k2 : Af v n <= 1000000 := by omega
 clear k1 t0 t1
 by_cases h6 : Af v n < 1
 ·rw [if_pos h6] at hR
  have HR := Hd hR
  clear hR HJ HVt HP
  generalize Af v n = tk at *
  obtain ⟨vo, vr, vt, vs, vcm, vou, vj, vi⟩ := v
  simp only [VS.cells, List.getElem?_cons_succ, List.getElem?_cons_zero, Nat.add_zero] at y0 y1 y2 y3 y4 y5 y6 y7
  go_enter Tryz.func115, Tryz.ntmps115
  go_wp2_with (first | (go_at_call 144; refine (Hk g x.vals.length _ _ _ _ c7 (by omega)).mono ?_; rintro e w' ⟨rfl, rfl⟩; first | rw [HJ1.out] | rw [HT1.out]) | fail)
  refine (HT.out _).mono ?_
  rintro e w2 ⟨rfl, hb2⟩
  have HB := Hd hb2
  clear hb2 HT
  go_wp2
  go_ret
  exact ⟨As HR.out, HB.out⟩
 ·rw [if_neg h6] at hR
  have HR := Hd hR
  clear hR
  generalize Af v n = tk at *
  generalize AX (x.val t) tk = je at *
  obtain ⟨vo, vr, vt, vs, vcm, vou, vj, vi⟩ := v
  simp only [VS.cells, List.getElem?_cons_succ, List.getElem?_cons_zero, Nat.add_zero] at y0 y1 y2 y3 y4 y5 y6 y7
  go_enter Tryz.func115, Tryz.ntmps115
  go_wp2_with (first | (go_at_call 144; refine (Hk g x.vals.length _ _ _ _ c7 (by omega)).mono ?_; rintro e w' ⟨rfl, rfl⟩; first | rw [HJ1.out] | rw [HT1.out]) | fail)
  refine (HT.out _).mono ?_
  rintro e w2 ⟨rfl, hb2⟩
  have hP2 := HP.out.below hb2
  have HB := Hd hb2
  clear hb2 HT HP y0 y1 y2 y3 y4 y5 y6 y7 c7 y
  have d7 : w2.cell? ⟨g, 7, none⟩ = some (.slice (some ⟨gv, 0, none⟩) x.vals.length vc) := hP2.L.cell 7
  obtain ⟨gv', he, hcell, hfr⟩ := hP2.val8 rfl ht
  simp only [Option.some.injEq, Addr.mk.injEq, and_true] at he
  subst he
  have y0 := hcell 0 (by omega)
  have y1 := hcell 1 (by omega)
  have y2 := hcell 2 (by omega)
  have y3 := hcell 3 (by omega)
  have y4 := hcell 4 (by omega)
  have y5 := hcell 5 (by omega)
  have y6 := hcell 6 (by omega)
  have y7 := hcell 7 (by omega)
  rw [HVt.out] at y0 y1 y2 y3 y4 y5 y6 y7
  clear hcell hfr hP2 HVt
  generalize x.val t = v2 at *
  obtain ⟨vo2, vr2, vt2, vs2, vcm2, vou2, vj2, vi2⟩ := v2
  simp only [VS.cells, List.getElem?_cons_succ, List.getElem?_cons_zero, Nat.add_zero] at y0 y1 y2 y3 y4 y5 y6 y7
  go_wp2_with fail
  refine (HJ.out _).mono ?_
  rintro e w3 ⟨rfl, hb3⟩
  have HB3 : Hid (Below w.heap.size w w3) := HB.out.trans (hb3.mono HB.out.size)
  clear hb3 HJ HB
  go_wp2
  go_ret
  exact ⟨As HR.out, HB3.out⟩
end
end Go.Proofs.YtohjjgefklhmaaaGreatDoor
