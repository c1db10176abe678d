import Derived.Test.YtohjjgefklhmaabEFees2M
namespace Go.Proofs.Ytohjjgefklhmaab
open Go.ChangeShapes Go.WideShapes Go.ChangeAt Go.RowKit
set_option linter.unusedVariables false

/-- tokens go from k to t, the fee is gone -/
def sentB (bal : List Int) (k t : Nat) (a : Int) : List Int := (bal.set k (bal.getD k 0 - a)).set t ((bal.set k (bal.getD k 0 - a)).getD t 0 + a)
def sendF (x : EC) (k t : Nat) (a : Int) : EC := { chargeF x k with bal := sentB (chargeF x k).bal k t a }

set_option maxHeartbeats 2000000 in
set_option maxRecDepth 100000 in
theorem etransferError (g n t : Nat) (funds a : Int) (ba : Option Addr) (bc : Nat) (w : World) (c4 : w.cell? ⟨g, 4, none⟩ = some (.slice ba n bc)) (ht : t < n) (hl : n ≤ 1000) (h1 : 1 ≤ a) (h2 : a ≤ funds) :
    Calls Try.prog 23 #[.pointer (some ⟨g, 0, none⟩), .int .i64 funds, .int .i64 t, .int .i64 a] w fun e w' => e = .returned (.int .i64 0) ∧ w = w' := by
  go_enter Try.func23, Try.ntmps23
  go_wp2_with (go_at_call 24; refine (kacc_any g n t _ _ _ c4 ht hl).mono ?_; rintro e w' ⟨rfl, rfl⟩)
  go_ret
  exact ⟨rfl, rfl⟩

set_option maxHeartbeats 2000000 in
set_option maxRecDepth 100000 in
theorem eSend {S : Nat → Prop} {W0 : World} (g : Nat) (x : EC) (bv vv ev : Value) (w : World) (h : PE S W0 w g x bv vv ev) (k t : Nat) (a : Int) (hl : x.bal.length ≤ 6) (hk : k < x.bal.length) (ht : t < x.bal.length) (h1 : 1 ≤ a) (h2 : a + x.fee ≤ x.balAt k) (hx1 : x.balAt k ≤ 1000000000) (hf0 : 0 ≤ x.fee) (hs0 : 0 ≤ x.fees) (hs1 : x.fees ≤ 1000000000) (ht0 : 0 ≤ x.balAt t) (ht1 : x.balAt t ≤ 1000000000) :
    Calls Try.prog 10 #[.pointer (some ⟨g, 0, none⟩), .int .i64 k, .int .i64 t, .int .i64 a] w fun e w' => e = .returned (.int .i64 0) ∧ PE S W0 w' g (sendF x k t a) bv vv ev := by
  have HCh : Hid (Calls Try.prog 17 #[.pointer (some ⟨g, 0, none⟩), .int .i64 k] w fun e w' => e = .returned (.int .i64 0) ∧ PE S W0 w' g (chargeF x k) bv vv ev) := echarge g x bv vv ev w h k (by omega) hk (by omega) hx1 hf0 hs0 hs1
  have e1 : (chargeF x k).bal.length = x.bal.length := by simp [chargeF]
  have e2 : (chargeF x k).balAt k = x.balAt k - x.fee := by simp [chargeF, EC.balAt, hk]
  have e3 : 0 ≤ (chargeF x k).balAt t ∧ (chargeF x k).balAt t ≤ 1000000000 := by
    by_cases e : k = t
    · subst e; rw [e2]; omega
    · have : (chargeF x k).balAt t = x.balAt t := by
        simp only [chargeF, EC.balAt, List.getD]; rw [List.getElem?_set_ne e]
      rw [this]; omega
  have HQ : Hid (sendF x k t a = { chargeF x k with bal := sentB (chargeF x k).bal k t a }) := rfl
  clear h
  generalize sendF x k t a = xF at *
  have e4 : a ≤ (chargeF x k).balAt k := by omega
  have e5 : (chargeF x k).balAt k ≤ 1000000000 := by omega
  clear h2 hx1 e2 ht0 ht1
  generalize chargeF x k = y at *
  go_enter Try.func10, Try.ntmps10
  go_wp2_with fail
  refine HCh.out.mono ?_
  rintro e w1 ⟨rfl, hP⟩
  clear HCh
  obtain ⟨ba, bc, rfl⟩ := ownsRow_slice hP.b
  obtain ⟨gb, rfl, _⟩ := ownsRow_some hP.b (by omega)
  have hky : k < y.bal.length := by omega
  have hty : t < y.bal.length := by omega
  have hly : y.bal.length ≤ 6 := by omega
  have c4 : w1.cell? ⟨g, 4, none⟩ = some (.slice (some ⟨gb, 0, none⟩) y.bal.length bc) := hP.L.cell 4
  have cb := hP.balAt' hky
  have ct := hP.balAt' hty
  have fb := hP.b.frozenAt k
  have ft := hP.b.frozenAt t
  have n1 : g ≠ gb := fun e => Has.apart hP.L hP.b (by decide) (by rw [e]; rfl)
  have n2 : gb ≠ g := fun e => n1 e.symm
  have hP1 := hP.setBal rfl k (y.balAt k - a)
  have hP2 := hP1.setBal (by simp) t ((y.bal.set k (y.balAt k - a)).getD t 0 + a)
  have HF : Hid (PE S W0 ((w1.setCell ⟨gb, k, none⟩ (.int .i64 (y.balAt k - a))).setCell ⟨gb, t, none⟩ (.int .i64 ((y.bal.set k (y.balAt k - a)).getD t 0 + a))) g xF (.slice (some ⟨gb, 0, none⟩) y.bal.length bc) vv ev) := by
    rw [HQ.out]; exact hP2
  clear hP hP1 hP2 HQ e1
  by_cases hkt : k = t
  · subst hkt
    have e6 : (y.bal.set k (y.balAt k - a)).getD k 0 = y.balAt k - a := by simp [hky]
    rw [e6, Int.sub_add_cancel] at HF
    clear e6 ct ft e3
    generalize y.balAt k = b at *
    go_wp2_with (go_at_call 23; refine (etransferError g y.bal.length k _ _ _ _ _ c4 hky (by omega) h1 (by assumption)).mono ?_; rintro e w' ⟨rfl, rfl⟩)
    all_goals try go_region
    all_goals try go_wp2
    all_goals try go_region
    all_goals try go_wp2
    go_ret
    exact ⟨rfl, HF.out.eta rfl rfl rfl rfl⟩
  · have e6 : (y.bal.set k (y.balAt k - a)).getD t 0 = y.balAt t := by
      simp only [List.getD, EC.balAt]; rw [List.getElem?_set_ne hkt]
    rw [e6] at HF
    obtain ⟨e7, e8⟩ := e3
    have hkt2 : t ≠ k := fun e => hkt e.symm
    clear e6
    generalize y.balAt k = b at *
    generalize y.balAt t = b2 at *
    go_wp2_with (go_at_call 23; refine (etransferError g y.bal.length t _ _ _ _ _ c4 hty (by omega) h1 (by assumption)).mono ?_; rintro e w' ⟨rfl, rfl⟩)
    all_goals try go_region
    all_goals try go_wp2
    all_goals try go_region
    all_goals try go_wp2
    go_ret
    exact ⟨rfl, HF.out.eta rfl rfl rfl rfl⟩
end Go.Proofs.Ytohjjgefklhmaab
