import Derived.Test.YtohjjgefklhmaabGreatDoorEFees2M
namespace Go.Proofs.YtohjjgefklhmaabGreatDoor
open Go.ChangeShapes Go.WideShapes Go.ChangeAt Go.RowKit
set_option linter.unusedVariables false

/-- tokens go from k to t, the fee is gone -/
def sentB (bal : List Int) (k t : Nat) (a : Int) : List Int := (bal.set k (bal.getD k 0 - a)).set t ((bal.set k (bal.getD k 0 - a)).getD t 0 + a)
def sendF (x : EC) (k t : Nat) (a : Int) : EC := { chargeF x k with bal := sentB (chargeF x k).bal k t a }

set_option maxHeartbeats 2000000 in
set_option maxRecDepth 100000 in
theorem etransferError (g n t : Nat) (funds a : Int) (ba : Option Addr) (bc : Nat) (w : World) (c4 : w.cell? ⟨g, 4, none⟩ = some (.slice ba n bc)) (ht : t < n) (hl : n ≤ 1000) (h1 : 1 ≤ a) (h2 : a ≤ funds) :
    Calls Tryz.prog 53 #[.pointer (some ⟨g, 0, none⟩), .int .i64 funds, .int .i64 t, .int .i64 a] w fun e w' => e = .returned (.int .i64 0) ∧ w = w' := by
  go_enter Tryz.func53, Tryz.ntmps53
  go_wp2_with (go_at_call 54; refine (kacc_any g n t _ _ _ c4 ht hl).mono ?_; rintro e w' ⟨rfl, rfl⟩)
  go_ret
  exact ⟨rfl, rfl⟩

set_option maxHeartbeats 2000000 in
set_option maxRecDepth 100000 in
theorem eSend {S : Nat → Prop} {W0 : World} (g : Nat) (x : EC) (bv vv ev : Value) (w : World) (h : PE S W0 w g x bv vv ev) (k t : Nat) (a : Int) (hl : x.bal.length ≤ 6) (hk : k < x.bal.length) (ht : t < x.bal.length) (h1 : 1 ≤ a) (h2 : a + x.fee ≤ x.balAt k) (hx1 : x.balAt k ≤ 1000000000) (hf0 : 0 ≤ x.fee) (hs0 : 0 ≤ x.fees) (hs1 : x.fees ≤ 1000000000) (ht0 : 0 ≤ x.balAt t) (ht1 : x.balAt t ≤ 1000000000) :
    Calls Tryz.prog 20 #[.pointer (some ⟨g, 0, none⟩), .int .i64 k, .int .i64 t, .int .i64 a] w fun e w' => e = .returned (.int .i64 0) ∧ PE S W0 w' g (sendF x k t a) bv vv ev := by
  have HCh : Hid (Calls Tryz.prog 47 #[.pointer (some ⟨g, 0, none⟩), .int .i64 k] w fun e w' => e = .returned (.int .i64 0) ∧ PE S W0 w' g (chargeF x k) bv vv ev) := echarge g x bv vv ev w h k (by omega) hk (by omega) hx1 hf0 hs0 hs1
  have e1 : (chargeF x k).bal.length = x.bal.length := by simp [chargeF]
  have e2 : (chargeF x k).balAt k = x.balAt k - x.fee := by simp [chargeF, EC.balAt, hk]
  have e3 : 0 ≤ (chargeF x k).balAt t ∧ (chargeF x k).balAt t ≤ 1000000000 := by
    by_cases e : k = t
    · subst e; rw [e2]; omega
    · have : (chargeF x k).balAt t = x.balAt t := by
        simp only [chargeF, EC.balAt, List.getD]; rw [List.getElem?_set_ne e]
      rw [this]; omega
  have HQ : Hid (sendF x k t a = { chargeF x k with bal := sentB (chargeF x k).bal k t a }) := rfl
  clear h
  generalize sendF x k t a = xF at *
  have e4 : a ≤ (chargeF x k).balAt k := by omega
  have e5 : (chargeF x k).balAt k ≤ 1000000000 := by omega
  clear h2 hx1 e2 ht0 ht1
  generalize chargeF x k = y at *
  go_enter Tryz.func20, Tryz.ntmps20
  go_wp2_with fail
  refine HCh.out.mono ?_
  rintro e w1 ⟨rfl, hP⟩
  clear HCh
  obtain ⟨ba, bc, rfl⟩ := ownsRow_slice hP.b
  obtain ⟨gb, rfl, _⟩ := ownsRow_some hP.b (by omega)
  have hky : k < y.bal.length := by omega
  have hty : t < y.bal.length := by omega
  have hly : y.bal.length ≤ 6 := by omega
  have c4 : w1.cell? ⟨g, 4, none⟩ = some (.slice (some ⟨gb, 0, none⟩) y.bal.length bc) := hP.L.cell 4
  have cb := hP.balAt' hky
  have ct := hP.balAt' hty
  have fb := hP.b.frozenAt k
  have ft := hP.b.frozenAt t
  have n1 : g ≠ gb := fun e => Has.apart hP.L hP.b (by decide) (by rw [e]; rfl)
  have n2 : gb ≠ g := fun e => n1 e.symm
  have hP1 := hP.setBal rfl k (y.balAt k - a)
  have hP2 := hP1.setBal (by simp) t ((y.bal.set k (y.balAt k - a)).getD t 0 + a)
  have HF : Hid (PE S W0 ((w1.setCell ⟨gb, k, none⟩ (.int .i64 (y.balAt k - a))).setCell ⟨gb, t, none⟩ (.int .i64 ((y.bal.set k (y.balAt k - a)).getD t 0 + a))) g xF (.slice (some ⟨gb, 0, none⟩) y.bal.length bc) vv ev) := by
    rw [HQ.out]; exact hP2
  clear hP hP1 hP2 HQ e1
  by_cases hkt : k = t
  · subst hkt
    have e6 : (y.bal.set k (y.balAt k - a)).getD k 0 = y.balAt k - a := by simp [hky]
    rw [e6, Int.sub_add_cancel] at HF
    clear e6 ct ft e3
    generalize y.balAt k = b at *
    go_wp2_with (go_at_call 53; refine (etransferError g y.bal.length k _ _ _ _ _ c4 hky (by omega) h1 (by assumption)).mono ?_; rintro e w' ⟨rfl, rfl⟩)
    all_goals try go_region
    all_goals try go_wp2
    all_goals try go_region
    all_goals try go_wp2
    go_ret
    exact ⟨rfl, HF.out.eta rfl rfl rfl rfl⟩
  · have e6 : (y.bal.set k (y.balAt k - a)).getD t 0 = y.balAt t := by
      simp only [List.getD, EC.balAt]; rw [List.getElem?_set_ne hkt]
    rw [e6] at HF
    obtain ⟨e7, e8⟩ := e3
    have hkt2 : t ≠ k := fun e => hkt e.symm
    clear e6
    generalize y.balAt k = b at *
    generalize y.balAt t = b2 at *
    go_wp2_with (go_at_call 53; refine (etransferError g y.bal.length t _ _ _ _ _ c4 hty (by omega) h1 (by assumption)).mono ?_; rintro e w' ⟨rfl, rfl⟩)
    all_goals try go_region
    all_goals try go_wp2
    all_goals try go_region
    all_goals try go_wp2
    go_ret
    exact ⟨rfl, HF.out.eta rfl rfl rfl rfl⟩
end Go.Proofs.YtohjjgefklhmaabGreatDoor

namespace Go.Proofs.YtohjjgefklhmaabGreatDoor
open Go.ChangeShapes Go.WideShapes Go.ChangeAt Go.RowKit
set_option linter.unusedVariables false

/-- the engine of the small laws: two validators, all is at the first -/
structure EQ (x : EC) (h f P r t c o : Int) (ins : Bool) (p : Int) : Prop where
  top : x.top = 2
  mat : x.mature = 3
  fee : x.fee = 90
  hh : x.height = h
  ff : x.fees = f
  pp : x.pool = P
  bl : x.bal.length = 4
  tl : x.tab.length = 65
  vs : x.vals = [⟨0, r, t, t, c, o, false, ins⟩, ⟨1, 0, 0, 0, 0, 0, false, false⟩]
  en : x.ents = []
  per : x.per 0 = p
  per1 : x.per 1 = 0
/-- an account: its balance, its shares at the first validator, up to where it is paid -/
def acct (x : EC) (k : Nat) : Int × Int × Int := (x.balAt k, x.sh k 0, x.upto k 0)

theorem acct_parts {x : EC} {k : Nat} {b s u : Int} (h : acct x k = (b, s, u)) : x.balAt k = b ∧ x.sh k 0 = s ∧ x.upto k 0 = u := by
  simp only [acct, Prod.mk.injEq] at h; exact h
theorem getD_set_self {l : List Int} {i : Nat} {y : Int} (h : i < l.length) : (l.set i y).getD i 0 = y := by simp [h]
theorem getD_set_ne {l : List Int} {i j : Nat} {y : Int} (h : i ≠ j) : (l.set i y).getD j 0 = l.getD j 0 := by
  simp only [List.getD]; rw [List.getElem?_set_ne h]

section
variable {x : EC} {h f P r t c o : Int} {ins : Bool} {p : Int}
theorem EQ.val0 (q : EQ x h f P r t c o ins p) : x.val 0 = ⟨0, r, t, t, c, o, false, ins⟩ := by simp [EC.val, q.vs]
theorem EQ.val1 (q : EQ x h f P r t c o ins p) : x.val 1 = ⟨1, 0, 0, 0, 0, 0, false, false⟩ := by simp [EC.val, q.vs]
theorem EQ.charge (q : EQ x h f P r t c o ins p) (k : Nat) : EQ (chargeF x k) h (f + 90) P r t c o ins p :=
  ⟨q.top, q.mat, q.fee, q.hh, by simp only [chargeF]; rw [q.ff, q.fee], q.pp, by simp only [chargeF, List.length_set]; exact q.bl, q.tl, q.vs, q.en, q.per, q.per1⟩
theorem EQ.charge_at (q : EQ x h f P r t c o ins p) {k : Nat} (hk : k < 4) {b s u : Int} (ha : acct x k = (b, s, u)) : acct (chargeF x k) k = (b - 90, s, u) := by
  obtain ⟨e1, e2, e3⟩ := acct_parts ha
  unfold acct
  simp only [Prod.mk.injEq]
  refine ⟨?_, e2, e3⟩
  have := q.bl
  simp only [chargeF, EC.balAt]
  rw [getD_set_self (by omega), q.fee]
  rw [show x.bal.getD k 0 = x.balAt k from rfl, e1]
theorem charge_ne (x : EC) {k k' : Nat} (hk : k ≠ k') : acct (chargeF x k) k' = acct x k' := by
  unfold acct
  simp only [Prod.mk.injEq]
  exact ⟨by simp only [chargeF, EC.balAt]; rw [getD_set_ne hk], rfl, rfl⟩
/-- a payment -/
theorem EQ.pay (q : EQ x h f P r t c o ins p) {k : Nat} (hk : k < 4) : EQ (payF x k 0) h f P r t c (o - x.due k 0) ins p :=
  ⟨q.top, q.mat, q.fee, q.hh, q.ff, q.pp, by simp only [payF, List.length_set]; exact q.bl, by simp only [payF, List.length_set]; exact q.tl, by simp [payF, q.vs], q.en, by
    have := q.per
    simp only [payF, EC.per] at *; rw [getD_set_ne (by omega)]; exact this, by
    have := q.per1
    simp only [payF, EC.per] at *; rw [getD_set_ne (by omega)]; exact this⟩
theorem EQ.pay_at (q : EQ x h f P r t c o ins p) {k : Nat} (hk : k < 4) {b s u : Int} (ha : acct x k = (b, s, u)) : acct (payF x k 0) k = (b + x.due k 0, s, p) := by
  obtain ⟨e1, e2, e3⟩ := acct_parts ha
  have h1 := q.bl
  have h2 := q.tl
  unfold acct
  simp only [Prod.mk.injEq]
  refine ⟨?_, ?_, ?_⟩
  · simp only [payF, EC.balAt]; rw [getD_set_self (by omega), show x.bal.getD k 0 = x.balAt k from rfl, e1]
  · rw [payF_sh x k 0 (by omega) (by omega)]; exact e2
  · simp only [payF, EC.upto]; rw [getD_set_self (by omega), q.per]
theorem pay_ne (x : EC) {k k' : Nat} (hk : k ≠ k') (h4 : k < 4) (h4' : k' < 4) : acct (payF x k 0) k' = acct x k' := by
  unfold acct
  simp only [Prod.mk.injEq]
  refine ⟨?_, ?_, ?_⟩
  · simp only [payF, EC.balAt]; rw [getD_set_ne hk]
  · simp only [payF, EC.sh]; rw [getD_set_ne (by omega)]
  · simp only [payF, EC.upto]; rw [getD_set_ne (by omega)]
end
end Go.Proofs.YtohjjgefklhmaabGreatDoor

namespace Go.Proofs.YtohjjgefklhmaabGreatDoor
open Go.ChangeShapes Go.WideShapes Go.ChangeAt Go.RowKit
set_option linter.unusedVariables false

section
variable {x : EC} {h f P r t c o : Int} {ins : Bool} {p : Int}
theorem EQ.buys (q : EQ x h f P r t c o ins p) (a : Int) : sharesForF (x.val 0) a = a := by
  rw [q.val0]
  unfold sharesForF
  simp only
  split
  · rfl
  · rename_i e; exact Int.mul_ediv_cancel a e
theorem due_zero (x : EC) (k : Nat) (hs : x.sh k 0 = 0) : x.due k 0 = 0 := by unfold EC.due; rw [hs]; simp
theorem EQ.join (q : EQ x h f P r t c o ins p) {k : Nat} (hk : k < 4) (a : Int) (hs : x.sh k 0 = 0) : EQ (joinF x k 0 a) h f P r (t + a) c o ins p := by
  have hp := q.pay hk
  rw [due_zero x k hs, Int.sub_zero] at hp
  refine ⟨hp.top, hp.mat, hp.fee, hp.hh, hp.ff, hp.pp, hp.bl, by simp only [joinF, List.length_set]; exact hp.tl, ?_, hp.en, ?_, ?_⟩
  · simp only [joinF]; rw [q.buys a, hp.vs]; rfl
  · have := hp.per
    simp only [joinF, EC.per] at *; rw [getD_set_ne (by omega)]; exact this
  · have := hp.per1
    simp only [joinF, EC.per] at *; rw [getD_set_ne (by omega)]; exact this
theorem EQ.join_at (q : EQ x h f P r t c o ins p) {k : Nat} (hk : k < 4) (a : Int) {b u : Int} (ha : acct x k = (b, 0, u)) : acct (joinF x k 0 a) k = (b, a, p) := by
  obtain ⟨e1, e2, e3⟩ := acct_parts ha
  have hp := q.pay_at hk ha
  rw [due_zero x k e2, Int.add_zero] at hp
  obtain ⟨g1, g2, g3⟩ := acct_parts hp
  have htl := (q.pay hk).tl
  unfold acct
  simp only [Prod.mk.injEq]
  refine ⟨g1, ?_, ?_⟩
  · simp only [joinF, EC.sh]; rw [getD_set_self (by omega), q.buys a, show x.tab.getD (k * 5 + 0) 0 = x.sh k 0 from rfl, e2, Int.zero_add]
  · simp only [joinF, EC.upto] at *; rw [getD_set_ne (by omega)]; exact g3
theorem join_ne (x : EC) {k k' : Nat} (a : Int) (hk : k ≠ k') (h4 : k < 4) (h4' : k' < 4) : acct (joinF x k 0 a) k' = acct x k' := by
  rw [← pay_ne x hk h4 h4']
  unfold acct
  simp only [Prod.mk.injEq]
  refine ⟨rfl, ?_, ?_⟩
  · simp only [joinF, EC.sh]; rw [getD_set_ne (by omega)]
  · simp only [joinF, EC.upto]; rw [getD_set_ne (by omega)]
theorem EQ.bond (q : EQ x h f P r t c o ins p) {k : Nat} (hk : k < 4) (a : Int) (hs : x.sh k 0 = 0) : EQ (bondF x k 0 a) h (f + 90) P r (t + a) c o ins p := by
  have hc := q.charge k
  have hb : EQ { chargeF x k with bal := x.bal.set k (x.balAt k - x.fee - a) } h (f + 90) P r t c o ins p := ⟨hc.top, hc.mat, hc.fee, hc.hh, hc.ff, hc.pp, by simp only [List.length_set]; exact q.bl, hc.tl, hc.vs, hc.en, hc.per, hc.per1⟩
  exact hb.join hk a hs
theorem EQ.bond_at (q : EQ x h f P r t c o ins p) {k : Nat} (hk : k < 4) (a : Int) {b u : Int} (ha : acct x k = (b, 0, u)) : acct (bondF x k 0 a) k = (b - 90 - a, a, p) := by
  obtain ⟨e1, e2, e3⟩ := acct_parts ha
  have hc := q.charge k
  have hb : EQ { chargeF x k with bal := x.bal.set k (x.balAt k - x.fee - a) } h (f + 90) P r t c o ins p := ⟨hc.top, hc.mat, hc.fee, hc.hh, hc.ff, hc.pp, by simp only [List.length_set]; exact q.bl, hc.tl, hc.vs, hc.en, hc.per, hc.per1⟩
  have hl := q.bl
  refine hb.join_at hk a (u := u) ?_
  unfold acct
  simp only [Prod.mk.injEq]
  refine ⟨?_, e2, e3⟩
  simp only [EC.balAt] at *
  rw [getD_set_self (by omega), q.fee, e1]
theorem bond_ne (x : EC) {k k' : Nat} (a : Int) (hk : k ≠ k') (h4 : k < 4) (h4' : k' < 4) : acct (bondF x k 0 a) k' = acct x k' := by
  unfold bondF
  rw [join_ne _ a hk h4 h4']
  unfold acct
  simp only [Prod.mk.injEq]
  exact ⟨by simp only [EC.balAt]; rw [getD_set_ne hk], rfl, rfl⟩

theorem EQ.send (q : EQ x h f P r t c o ins p) (k t' : Nat) (a : Int) : EQ (sendF x k t' a) h (f + 90) P r t c o ins p := by
  have hc := q.charge k
  exact ⟨hc.top, hc.mat, hc.fee, hc.hh, hc.ff, hc.pp, by simp only [sendF, sentB, List.length_set]; exact hc.bl, hc.tl, hc.vs, hc.en, hc.per, hc.per1⟩
theorem EQ.send_self (q : EQ x h f P r t c o ins p) {k : Nat} (hk : k < 4) (a : Int) {b s u : Int} (ha : acct x k = (b, s, u)) : acct (sendF x k k a) k = (b - 90, s, u) := by
  obtain ⟨e1, e2, e3⟩ := acct_parts (q.charge_at hk ha)
  have hl := (q.charge k).bl
  unfold acct
  simp only [Prod.mk.injEq]
  refine ⟨?_, e2, e3⟩
  simp only [sendF, EC.balAt, sentB] at *
  rw [getD_set_self (by simp; omega), getD_set_self (by omega), e1]
  omega
theorem EQ.send_from (q : EQ x h f P r t c o ins p) {k t' : Nat} (hk : k < 4) (hkt : k ≠ t') (a : Int) {b s u : Int} (ha : acct x k = (b, s, u)) : acct (sendF x k t' a) k = (b - 90 - a, s, u) := by
  obtain ⟨e1, e2, e3⟩ := acct_parts (q.charge_at hk ha)
  have hl := (q.charge k).bl
  unfold acct
  simp only [Prod.mk.injEq]
  refine ⟨?_, e2, e3⟩
  simp only [sendF, EC.balAt, sentB] at *
  rw [getD_set_ne (fun e => hkt e.symm), getD_set_self (by omega), e1]
theorem EQ.send_to (q : EQ x h f P r t c o ins p) {k t' : Nat} (ht : t' < 4) (hkt : k ≠ t') (a : Int) {b s u : Int} (ha : acct x t' = (b, s, u)) : acct (sendF x k t' a) t' = (b + a, s, u) := by
  obtain ⟨e1, e2, e3⟩ := acct_parts ((charge_ne x hkt).trans ha)
  have hl := (q.charge k).bl
  unfold acct
  simp only [Prod.mk.injEq]
  refine ⟨?_, e2, e3⟩
  simp only [sendF, EC.balAt, sentB] at *
  rw [getD_set_self (by simp; omega), getD_set_ne hkt, e1]
theorem send_ne (x : EC) {k t' i : Nat} (a : Int) (h1 : k ≠ i) (h2 : t' ≠ i) : acct (sendF x k t' a) i = acct x i := by
  rw [← charge_ne x h1]
  unfold acct
  simp only [Prod.mk.injEq]
  exact ⟨by simp only [sendF, EC.balAt, sentB]; rw [getD_set_ne h2, getD_set_ne h1], rfl, rfl⟩

theorem EQ.share_off (q : EQ x h f P r t c o false p) : shareF x = { x with pool := P + f, fees := 0 } := by
  have hb : bondedN x.vals = 0 := by rw [q.vs]; rfl
  have hl : x.vals.length = 2 := by rw [q.vs]; rfl
  unfold shareF
  rw [hb, hl, q.pp, q.ff]
  simp [shLoop]
theorem EQ.share_on (q : EQ x h f P r t c o true p) (ht : 1 ≤ t) : shareF x = { takeF x 0 f with pool := P, fees := 0 } := by
  have hb : bondedN x.vals = t := by rw [q.vs]; simp [bondedN]
  have hl : x.vals.length = 2 := by rw [q.vs]; rfl
  have hp : partF x f t 0 = f := by unfold partF; rw [q.val0]; show f * t / t = f; exact Int.mul_ediv_cancel f (by omega)
  have h1 : shLoop x f t 1 = (takeF x 0 f, f - f) := by
    show (if (x.val 0).inset = true ∧ 0 < t then (takeF x 0 (partF x f t 0), f - partF x f t 0) else (x, f)) = _
    rw [if_pos ⟨by rw [q.val0], by omega⟩, hp]
  have h2 : shLoop x f t 2 = (takeF x 0 f, f - f) := by
    show (if ((shLoop x f t 1).1.val 1).inset = true ∧ 0 < t then _ else shLoop x f t 1) = _
    rw [if_neg, h1]
    rw [h1]
    simp only
    rw [takeF_val_ne x 0 f 1 (by omega), q.val1]
    simp
  unfold shareF
  rw [hb, hl, q.ff, h2, q.pp]
  simp
theorem chooseF_two (r t c o : Int) (ins : Bool) (ht : 1 ≤ t) : chooseF [⟨0, r, t, t, c, o, false, ins⟩, ⟨1, 0, 0, 0, 0, 0, false, false⟩] 2 = [⟨0, r, t, t, c, o, false, true⟩, ⟨1, 0, 0, 0, 0, 0, false, false⟩] := by
  have h1 : (0 : Int) < t := by omega
  have h2 : ¬ t < 0 := by omega
  simp [chooseF, offL, chooseL, bestL, v0, h1, h2]
/-- the engine behind a block -/
def blockF (x : EC) : EC := setF (upF x)
theorem EQ.block_off (q : EQ x h f P r t c o false p) (ht : 1 ≤ t) : EQ (blockF x) (h + 1) 0 (P + f) r t c o true p := by
  have hs := q.share_off
  refine ⟨?_, ?_, ?_, ?_, ?_, ?_, ?_, ?_, ?_, ?_, ?_, ?_⟩ <;> simp only [blockF, setF, upF, hs, EC.per]
  · exact q.top
  · exact q.mat
  · exact q.fee
  · rw [q.hh]
  · exact q.bl
  · exact q.tl
  · rw [q.vs, q.top]; exact chooseF_two r t c o false ht
  · exact q.en
  · exact q.per
  · exact q.per1
theorem block_off_acct (q : EQ x h f P r t c o false p) (k : Nat) : acct (blockF x) k = acct x k := by
  simp only [blockF, setF, upF, q.share_off, acct, EC.balAt, EC.sh, EC.upto]
theorem EQ.take (q : EQ x h f P r t c o true p) (ht : 1 ≤ t) : (takeF x 0 f).vals = [⟨0, r, t, t, c + f * r / 100, o + f, false, true⟩, ⟨1, 0, 0, 0, 0, 0, false, false⟩] ∧ (takeF x 0 f).tab = x.tab.set 30 (p + (f - f * r / 100) * 1073741824 / t) := by
  constructor
  · rw [takeF_vals, q.vs, q.val0]; rfl
  · unfold takeF shareOutF
    have e : ({ x with vals := (x.vals.modify 0 (fun v => { v with comm := v.comm + f * (x.val 0).rate / 100 })).modify 0 (fun v => { v with outs := v.outs + f }) } : EC).val 0 = ⟨0, r, t, t, c + f * r / 100, o + f, false, true⟩ := by
      simp [EC.val, q.vs]
    rw [e, if_neg (by simp only; omega)]
    simp only [EC.per]
    rw [show x.tab.getD (30 + 0) 0 = x.per 0 from rfl, q.per, q.val0]
theorem EQ.block_on (q : EQ x h f P r t c o true p) (ht : 1 ≤ t) : EQ (blockF x) (h + 1) 0 P r t (c + f * r / 100) (o + f) true (p + (f - f * r / 100) * 1073741824 / t) := by
  have hs := q.share_on ht
  obtain ⟨hv, htb⟩ := q.take ht
  obtain ⟨_, _, h3, h4, h5, h6, h7, h8⟩ := takeF_head x 0 f
  have htl := q.tl
  refine ⟨?_, ?_, ?_, ?_, ?_, ?_, ?_, ?_, ?_, ?_, ?_, ?_⟩ <;> simp only [blockF, setF, upF, hs, EC.per]
  · exact h4.trans q.top
  · exact h5.trans q.mat
  · exact h6.trans q.fee
  · rw [q.hh]
  · rw [h7]; exact q.bl
  · rw [htb, List.length_set]; exact q.tl
  · rw [hv, h4, q.top]; exact chooseF_two r t _ _ true ht
  · exact h8.trans q.en
  · rw [htb, getD_set_self (by omega)]
  · rw [htb, getD_set_ne (by omega)]; exact q.per1
theorem block_on_acct (q : EQ x h f P r t c o true p) (ht : 1 ≤ t) (k : Nat) (hk : k < 4) : acct (blockF x) k = acct x k := by
  obtain ⟨hv, htb⟩ := q.take ht
  obtain ⟨_, _, h3, h4, h5, h6, h7, h8⟩ := takeF_head x 0 f
  simp only [blockF, setF, upF, q.share_on ht, acct, EC.balAt, EC.sh, EC.upto, Prod.mk.injEq]
  refine ⟨by rw [h7], ?_, ?_⟩
  · rw [htb, getD_set_ne (by omega)]
  · rw [htb, getD_set_ne (by omega)]
end
end Go.Proofs.YtohjjgefklhmaabGreatDoor
