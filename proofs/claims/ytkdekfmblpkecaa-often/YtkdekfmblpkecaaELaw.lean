import Derived.Test.YtkdekfmblpkecaaESend
namespace Go.Proofs.Ytkdekfmblpkecaa
open Go.ChangeShapes Go.WideShapes Go.ChangeAt Go.RowKit
set_option linter.unusedVariables false

/-- the engine of the small laws: two validators, all is at the first -/
structure EQ (x : EC) (h f P r t c o : Int) (ins : Bool) (p : Int) : Prop where
  top : x.top = 2
  mat : x.mature = 3
  fee : x.fee = 90
  hh : x.height = h
  ff : x.fees = f
  pp : x.pool = P
  bl : x.bal.length = 4
  tl : x.tab.length = 65
  vs : x.vals = [⟨0, r, t, t, c, o, false, ins⟩, ⟨1, 0, 0, 0, 0, 0, false, false⟩]
  en : x.ents = []
  per : x.per 0 = p
  per1 : x.per 1 = 0
/-- an account: its balance, its shares at the first validator, up to where it is paid -/
def acct (x : EC) (k : Nat) : Int × Int × Int := (x.balAt k, x.sh k 0, x.upto k 0)

theorem acct_parts {x : EC} {k : Nat} {b s u : Int} (h : acct x k = (b, s, u)) : x.balAt k = b ∧ x.sh k 0 = s ∧ x.upto k 0 = u := by
  simp only [acct, Prod.mk.injEq] at h; exact h
theorem getD_set_self {l : List Int} {i : Nat} {y : Int} (h : i < l.length) : (l.set i y).getD i 0 = y := by simp [h]
theorem getD_set_ne {l : List Int} {i j : Nat} {y : Int} (h : i ≠ j) : (l.set i y).getD j 0 = l.getD j 0 := by
  simp only [List.getD]; rw [List.getElem?_set_ne h]

section
variable {x : EC} {h f P r t c o : Int} {ins : Bool} {p : Int}
theorem EQ.val0 (q : EQ x h f P r t c o ins p) : x.val 0 = ⟨0, r, t, t, c, o, false, ins⟩ := by simp [EC.val, q.vs]
theorem EQ.val1 (q : EQ x h f P r t c o ins p) : x.val 1 = ⟨1, 0, 0, 0, 0, 0, false, false⟩ := by simp [EC.val, q.vs]
theorem EQ.charge (q : EQ x h f P r t c o ins p) (k : Nat) : EQ (chargeF x k) h (f + 90) P r t c o ins p :=
  ⟨q.top, q.mat, q.fee, q.hh, by simp only [chargeF]; rw [q.ff, q.fee], q.pp, by simp only [chargeF, List.length_set]; exact q.bl, q.tl, q.vs, q.en, q.per, q.per1⟩
theorem EQ.charge_at (q : EQ x h f P r t c o ins p) {k : Nat} (hk : k < 4) {b s u : Int} (ha : acct x k = (b, s, u)) : acct (chargeF x k) k = (b - 90, s, u) := by
  obtain ⟨e1, e2, e3⟩ := acct_parts ha
  unfold acct
  simp only [Prod.mk.injEq]
  refine ⟨?_, e2, e3⟩
  have := q.bl
  simp only [chargeF, EC.balAt]
  rw [getD_set_self (by omega), q.fee]
  rw [show x.bal.getD k 0 = x.balAt k from rfl, e1]
theorem charge_ne (x : EC) {k k' : Nat} (hk : k ≠ k') : acct (chargeF x k) k' = acct x k' := by
  unfold acct
  simp only [Prod.mk.injEq]
  exact ⟨by simp only [chargeF, EC.balAt]; rw [getD_set_ne hk], rfl, rfl⟩
/-- a payment -/
theorem EQ.pay (q : EQ x h f P r t c o ins p) {k : Nat} (hk : k < 4) : EQ (payF x k 0) h f P r t c (o - x.due k 0) ins p :=
  ⟨q.top, q.mat, q.fee, q.hh, q.ff, q.pp, by simp only [payF, List.length_set]; exact q.bl, by simp only [payF, List.length_set]; exact q.tl, by simp [payF, q.vs], q.en, by
    have := q.per
    simp only [payF, EC.per] at *; rw [getD_set_ne (by omega)]; exact this, by
    have := q.per1
    simp only [payF, EC.per] at *; rw [getD_set_ne (by omega)]; exact this⟩
theorem EQ.pay_at (q : EQ x h f P r t c o ins p) {k : Nat} (hk : k < 4) {b s u : Int} (ha : acct x k = (b, s, u)) : acct (payF x k 0) k = (b + x.due k 0, s, p) := by
  obtain ⟨e1, e2, e3⟩ := acct_parts ha
  have h1 := q.bl
  have h2 := q.tl
  unfold acct
  simp only [Prod.mk.injEq]
  refine ⟨?_, ?_, ?_⟩
  · simp only [payF, EC.balAt]; rw [getD_set_self (by omega), show x.bal.getD k 0 = x.balAt k from rfl, e1]
  · rw [payF_sh x k 0 (by omega) (by omega)]; exact e2
  · simp only [payF, EC.upto]; rw [getD_set_self (by omega), q.per]
theorem pay_ne (x : EC) {k k' : Nat} (hk : k ≠ k') (h4 : k < 4) (h4' : k' < 4) : acct (payF x k 0) k' = acct x k' := by
  unfold acct
  simp only [Prod.mk.injEq]
  refine ⟨?_, ?_, ?_⟩
  · simp only [payF, EC.balAt]; rw [getD_set_ne hk]
  · simp only [payF, EC.sh]; rw [getD_set_ne (by omega)]
  · simp only [payF, EC.upto]; rw [getD_set_ne (by omega)]
end
end Go.Proofs.Ytkdekfmblpkecaa
