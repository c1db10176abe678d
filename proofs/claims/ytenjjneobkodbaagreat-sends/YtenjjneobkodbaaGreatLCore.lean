import Derived.Test.YtenjjneobkodbaaGreatApp2
namespace Go.Proofs.YtenjjneobkodbaaGreat
open Go.ChangeShapes Go.WideShapes Go.ChangeAt Go.RowKit
set_option linter.unusedVariables false

/-- the ledger's plain numbers -/
structure LC where
  top : Int
  mature : Int
  fee : Int
  height : Int
  fees : Int
  pool : Int
  bal : List Int
/-- the ledger's struct and its balances in memory -/
structure LCore (w : World) (g : Nat) (c : LC) (bv vv dv ev : Value) : Prop where
  L : Has w g 75 [.int .i64 c.top, .int .i64 c.mature, .int .i64 c.fee, .int .i64 c.height, bv, .int .i64 c.fees, .int .i64 c.pool, vv, dv, ev]
  b : w.ownsRow 0 3 1 bv c.bal.length (ints c.bal)
/-- bounds that keep the numbers from wrapping -/
structure LBd (c : LC) : Prop where
  len : c.bal.length ≤ 1000
  fee0 : 0 ≤ c.fee
  fee1 : c.fee ≤ 1000000
  fees0 : 0 ≤ c.fees
  fees1 : c.fees ≤ 1000000000000
  pool0 : 0 ≤ c.pool
  pool1 : c.pool ≤ 1000000000000
  bal : ∀ k (h : k < c.bal.length), 0 ≤ c.bal[k] ∧ c.bal[k] ≤ 1000000000000
/-- what a call on the ledger's numbers may write -/
def LS (g : Nat) (bv : Value) (k : Nat) : Prop := k = g ∨ bv.ownBlock = some k

def setB (c : LC) (k : Nat) (x : Int) : LC := { c with bal := c.bal.set k x }
theorem ints_set (xs : List Int) (k : Nat) (x : Int) : (ints xs).set k (.int .i64 x) = ints (xs.set k x) := by simp [ints]

theorem LCore.setBal {w : World} {g gb n cap : Nat} {c : LC} {vv dv ev : Value} (h : LCore w g c (.slice (some ⟨gb, 0, none⟩) n cap) vv dv ev) (hn : n = c.bal.length) (k : Nat) (x : Int) :
    LCore (w.setCell ⟨gb, k, none⟩ (.int .i64 x)) g (setB c k x) (.slice (some ⟨gb, 0, none⟩) n cap) vv dv ev := by
  subst hn
  have hne : g ≠ gb := fun e => Has.apart h.L h.b (by decide) (by rw [e]; rfl)
  refine ⟨h.L.other _ _ hne, ?_⟩
  have := (h.b.stored k (.int .i64 x)).1
  rw [ints_set] at this
  simpa [setB] using this
theorem LCore.drewN {w : World} {g : Nat} {c : LC} {bv vv dv ev : Value} (h : LCore w g c bv vv dv ev) (n : Nat) : LCore (w.drewN n) g c bv vv dv ev := ⟨h.L, h.b⟩
theorem LCore.drew {w : World} {g : Nat} {c : LC} {bv vv dv ev : Value} (h : LCore w g c bv vv dv ev) : LCore w.drew g c bv vv dv ev := ⟨h.L, h.b⟩
theorem LCore.setFees {w : World} {g : Nat} {c : LC} {bv vv dv ev : Value} (h : LCore w g c bv vv dv ev) (x : Int) : LCore (w.setCell ⟨g, 5, none⟩ (.int .i64 x)) g { c with fees := x } bv vv dv ev :=
  ⟨h.L.set 5 _, ownsRow_setCell h.b _ _ (fun e => Has.apart h.L h.b (by decide) e.symm)⟩
theorem LCore.setPool {w : World} {g : Nat} {c : LC} {bv vv dv ev : Value} (h : LCore w g c bv vv dv ev) (x : Int) : LCore (w.setCell ⟨g, 6, none⟩ (.int .i64 x)) g { c with pool := x } bv vv dv ev :=
  ⟨h.L.set 6 _, ownsRow_setCell h.b _ _ (fun e => Has.apart h.L h.b (by decide) e.symm)⟩

set_option maxHeartbeats 1000000 in
set_option maxRecDepth 100000 in
theorem account_any (g : Nat) (c : LC) (bv vv dv ev : Value) (a : Int) (w : World) (h : LCore w g c bv vv dv ev) (hl : c.bal.length ≤ 1000) :
    Calls Tryz.prog 76 #[.pointer (some ⟨g, 0, none⟩), .int .i64 a] w fun e w' => e = .returned (.bool (inN a 0 ((c.bal.length : Int) - 1))) ∧ w = w' := by
  obtain ⟨ba, bc, rfl⟩ := ownsRow_slice h.b
  have c4 : w.cell? ⟨g, 4, none⟩ = some (.slice ba c.bal.length bc) := h.L.cell 4
  clear h
  go_enter Tryz.func76, Tryz.ntmps76
  go_wp2_with (go_at_call 68; refine (in_any _ _ _ _).mono ?_; rintro e w' ⟨rfl, rfl⟩)
  go_ret
  exact ⟨rfl, rfl⟩

/-- the fee of a message -/
def chargeF (c : LC) (who : Int) : Int × LC :=
  if inN who 0 ((c.bal.length : Int) - 1) = true then
    if c.bal.getD who.toNat 0 < c.fee then (4, c) else (0, { setB c who.toNat (c.bal.getD who.toNat 0 - c.fee) with fees := c.fees + c.fee })
  else (2, c)
theorem chargeF_no {c : LC} {who : Int} (h : inN who 0 ((c.bal.length : Int) - 1) = false) : chargeF c who = (2, c) := by unfold chargeF; rw [if_neg (by simp [h])]
theorem chargeF_poor {c : LC} {k : Nat} (h : inN (k : Int) 0 ((c.bal.length : Int) - 1) = true) (h2 : c.bal.getD k 0 < c.fee) : chargeF c k = (4, c) := by
  unfold chargeF; rw [if_pos h, Int.toNat_natCast, if_pos h2]
theorem chargeF_yes {c : LC} {k : Nat} (h : inN (k : Int) 0 ((c.bal.length : Int) - 1) = true) (h2 : ¬ c.bal.getD k 0 < c.fee) : chargeF c k = (0, { setB c k (c.bal.getD k 0 - c.fee) with fees := c.fees + c.fee }) := by
  unfold chargeF; rw [if_pos h, Int.toNat_natCast, if_neg h2]

set_option maxHeartbeats 4000000 in
set_option maxRecDepth 100000 in
theorem charge_any (g : Nat) (c : LC) (bv vv dv ev : Value) (who : Int) (w : World) (h : LCore w g c bv vv dv ev) (hb : LBd c) :
    Calls Tryz.prog 93 #[.pointer (some ⟨g, 0, none⟩), .int .i64 who] w fun e w' => e = .returned (.int .i64 (chargeF c who).1) ∧ LCore w' g (chargeF c who).2 bv vv dv ev ∧ Kp (LS g bv) w w' := by
  have HC : Hid (LCore w g c bv vv dv ev) := h
  have hlen := hb.len
  by_cases hin : inN who 0 ((c.bal.length : Int) - 1) = true
  case neg =>
    have hin' : inN who 0 ((c.bal.length : Int) - 1) = false := by simpa using hin
    rw [chargeF_no hin']
    clear h hb hin
    go_enter Tryz.func93, Tryz.ntmps93
    go_wp2_with (go_at_call 76; refine (account_any g c bv vv dv ev _ _ HC.out hlen).mono ?_; rintro e w' ⟨rfl, rfl⟩)
    go_ret
    exact ⟨rfl, HC.out, Kp.refl _ _⟩
  obtain ⟨q1, q2⟩ := inN_iff.1 hin
  obtain ⟨k, rfl⟩ := Int.eq_ofNat_of_zero_le q1
  have hk : k < c.bal.length := by omega
  obtain ⟨ba, bc, rfl⟩ := ownsRow_slice h.b
  obtain ⟨gb, rfl, _⟩ := ownsRow_some h.b (by omega)
  have c4 : w.cell? ⟨g, 4, none⟩ = some (.slice (some ⟨gb, 0, none⟩) c.bal.length bc) := h.L.cell 4
  have c2 : w.cell? ⟨g, 2, none⟩ = some (.int .i64 c.fee) := h.L.cell 2
  have c5 : w.cell? ⟨g, 5, none⟩ = some (.int .i64 c.fees) := h.L.cell 5
  have f5 := h.L.frozen 5
  have hgne : g ≠ gb := fun e => Has.apart h.L h.b (by decide) (by rw [e]; rfl)
  have hgne' : gb ≠ g := fun e => hgne e.symm
  have hgd : c.bal.getD k 0 = c.bal[k] := by simp [List.getD, hk]
  have cb : w.cell? ⟨gb, k, none⟩ = some (.int .i64 (c.bal.getD k 0)) := by
    rw [h.b.cellAt k (by omega)]; simp [ints, hk]
  have fb := h.b.frozenAt k
  have hbk := hb.bal k hk
  rw [← hgd] at hbk
  obtain ⟨hb0, hb1⟩ := hbk
  have hf0 := hb.fee0
  have hf1 := hb.fee1
  have hs0 := hb.fees0
  have hs1 := hb.fees1
  clear hgd
  by_cases hpoor : c.bal.getD k 0 < c.fee
  · rw [chargeF_poor hin hpoor]
    generalize c.bal.getD k 0 = x at *
    clear h hb
    go_enter Tryz.func93, Tryz.ntmps93
    go_wp2_with (go_at_call 76; refine (account_any g c _ vv dv ev _ _ HC.out hlen).mono ?_; rintro e w' ⟨rfl, rfl⟩)
    go_quiet (fail)
    go_wp2
    go_ret
    exact ⟨rfl, HC.out.drewN _, (Kp.refl _ _).drewN _⟩
  · rw [chargeF_yes hin hpoor]
    have HF : Hid (LCore ((w.setCell ⟨gb, k, none⟩ (.int .i64 (c.bal.getD k 0 - c.fee))).setCell ⟨g, 5, none⟩ (.int .i64 (c.fees + c.fee))) g { setB c k (c.bal.getD k 0 - c.fee) with fees := c.fees + c.fee } (.slice (some ⟨gb, 0, none⟩) c.bal.length bc) vv dv ev) :=
      (h.setBal rfl k _).setFees _
    have HK : Hid (Kp (LS g (.slice (some ⟨gb, 0, none⟩) c.bal.length bc)) w ((w.setCell ⟨gb, k, none⟩ (.int .i64 (c.bal.getD k 0 - c.fee))).setCell ⟨g, 5, none⟩ (.int .i64 (c.fees + c.fee)))) :=
      ((Kp.refl _ w).setCell (p := ⟨gb, k, none⟩) (.inr rfl) _).setCell (p := ⟨g, 5, none⟩) (.inl rfl) _
    generalize c.bal.getD k 0 = x at *
    clear h hb
    go_enter Tryz.func93, Tryz.ntmps93
    go_wp2_with (go_at_call 76; refine (account_any g c _ vv dv ev _ _ HC.out hlen).mono ?_; rintro e w' ⟨rfl, rfl⟩)
    go_quiet (fail)
    go_wp2
    go_region
    go_wp2
    go_region
    go_wp2
    go_ret
    exact ⟨rfl, ⟨HF.out.L, HF.out.b⟩, ⟨HK.out.os, HK.out.tape, HK.out.output, HK.out.size, HK.out.block⟩⟩
end Go.Proofs.YtenjjneobkodbaaGreat
