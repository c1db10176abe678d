import Derived.Test.YtohjjgefklhmaaaGreatDoorWriteM
namespace Go.Proofs.YtohjjgefklhmaaaGreatDoor
open Go.ChangeShapes Go.WideShapes Go.ChangeAt Go.RowKit
set_option linter.unusedVariables false

/-- the ledger's plain numbers -/
structure LC where
  top : Int
  mature : Int
  fee : Int
  height : Int
  fees : Int
  pool : Int
  bal : List Int
/-- the ledger's struct and its balances in memory -/
structure LCore (w : World) (g : Nat) (c : LC) (bv vv dv ev : Value) : Prop where
  L : Has w g 81 [.int .i64 c.top, .int .i64 c.mature, .int .i64 c.fee, .int .i64 c.height, bv, .int .i64 c.fees, .int .i64 c.pool, vv, dv, ev]
  b : w.ownsRow 0 3 1 bv c.bal.length (ints c.bal)
/-- bounds that keep the numbers from wrapping -/
structure LBd (c : LC) : Prop where
  len : c.bal.length ≤ 1000
  fee0 : 0 ≤ c.fee
  fee1 : c.fee ≤ 1000000
  fees0 : 0 ≤ c.fees
  fees1 : c.fees ≤ 1000000000000
  pool0 : 0 ≤ c.pool
  pool1 : c.pool ≤ 1000000000000
  bal : ∀ k (h : k < c.bal.length), 0 ≤ c.bal[k] ∧ c.bal[k] ≤ 1000000000000
/-- what a call on the ledger's numbers may write -/
def LS (g : Nat) (bv : Value) (k : Nat) : Prop := k = g ∨ bv.ownBlock = some k

def setB (c : LC) (k : Nat) (x : Int) : LC := { c with bal := c.bal.set k x }
theorem ints_set (xs : List Int) (k : Nat) (x : Int) : (ints xs).set k (.int .i64 x) = ints (xs.set k x) := by simp [ints]

theorem LCore.setBal {w : World} {g gb n cap : Nat} {c : LC} {vv dv ev : Value} (h : LCore w g c (.slice (some ⟨gb, 0, none⟩) n cap) vv dv ev) (hn : n = c.bal.length) (k : Nat) (x : Int) :
    LCore (w.setCell ⟨gb, k, none⟩ (.int .i64 x)) g (setB c k x) (.slice (some ⟨gb, 0, none⟩) n cap) vv dv ev := by
  subst hn
  have hne : g ≠ gb := fun e => Has.apart h.L h.b (by decide) (by rw [e]; rfl)
  refine ⟨h.L.other _ _ hne, ?_⟩
  have := (h.b.stored k (.int .i64 x)).1
  rw [ints_set] at this
  simpa [setB] using this
theorem LCore.drewN {w : World} {g : Nat} {c : LC} {bv vv dv ev : Value} (h : LCore w g c bv vv dv ev) (n : Nat) : LCore (w.drewN n) g c bv vv dv ev := ⟨h.L, h.b⟩
theorem LCore.drew {w : World} {g : Nat} {c : LC} {bv vv dv ev : Value} (h : LCore w g c bv vv dv ev) : LCore w.drew g c bv vv dv ev := ⟨h.L, h.b⟩
theorem LCore.setFees {w : World} {g : Nat} {c : LC} {bv vv dv ev : Value} (h : LCore w g c bv vv dv ev) (x : Int) : LCore (w.setCell ⟨g, 5, none⟩ (.int .i64 x)) g { c with fees := x } bv vv dv ev :=
  ⟨h.L.set 5 _, ownsRow_setCell h.b _ _ (fun e => Has.apart h.L h.b (by decide) e.symm)⟩
theorem LCore.setPool {w : World} {g : Nat} {c : LC} {bv vv dv ev : Value} (h : LCore w g c bv vv dv ev) (x : Int) : LCore (w.setCell ⟨g, 6, none⟩ (.int .i64 x)) g { c with pool := x } bv vv dv ev :=
  ⟨h.L.set 6 _, ownsRow_setCell h.b _ _ (fun e => Has.apart h.L h.b (by decide) e.symm)⟩

set_option maxHeartbeats 1000000 in
set_option maxRecDepth 100000 in
theorem account_any (g : Nat) (c : LC) (bv vv dv ev : Value) (a : Int) (w : World) (h : LCore w g c bv vv dv ev) (hl : c.bal.length ≤ 1000) :
    Calls Tryz.prog 99 #[.pointer (some ⟨g, 0, none⟩), .int .i64 a] w fun e w' => e = .returned (.bool (inN a 0 ((c.bal.length : Int) - 1))) ∧ w = w' := by
  obtain ⟨ba, bc, rfl⟩ := ownsRow_slice h.b
  have c4 : w.cell? ⟨g, 4, none⟩ = some (.slice ba c.bal.length bc) := h.L.cell 4
  clear h
  go_enter Tryz.func99, Tryz.ntmps99
  go_wp2_with (go_at_call 76; refine (in_any _ _ _ _).mono ?_; rintro e w' ⟨rfl, rfl⟩)
  go_ret
  exact ⟨rfl, rfl⟩

/-- the fee of a message -/
def chargeF (c : LC) (who : Int) : Int × LC :=
  if inN who 0 ((c.bal.length : Int) - 1) = true then
    if c.bal.getD who.toNat 0 < c.fee then (4, c) else (0, { setB c who.toNat (c.bal.getD who.toNat 0 - c.fee) with fees := c.fees + c.fee })
  else (2, c)
theorem chargeF_no {c : LC} {who : Int} (h : inN who 0 ((c.bal.length : Int) - 1) = false) : chargeF c who = (2, c) := by unfold chargeF; rw [if_neg (by simp [h])]
theorem chargeF_poor {c : LC} {k : Nat} (h : inN (k : Int) 0 ((c.bal.length : Int) - 1) = true) (h2 : c.bal.getD k 0 < c.fee) : chargeF c k = (4, c) := by
  unfold chargeF; rw [if_pos h, Int.toNat_natCast, if_pos h2]
theorem chargeF_yes {c : LC} {k : Nat} (h : inN (k : Int) 0 ((c.bal.length : Int) - 1) = true) (h2 : ¬ c.bal.getD k 0 < c.fee) : chargeF c k = (0, { setB c k (c.bal.getD k 0 - c.fee) with fees := c.fees + c.fee }) := by
  unfold chargeF; rw [if_pos h, Int.toNat_natCast, if_neg h2]

set_option maxHeartbeats 4000000 in
set_option maxRecDepth 100000 in
theorem charge_any (g : Nat) (c : LC) (bv vv dv ev : Value) (who : Int) (w : World) (h : LCore w g c bv vv dv ev) (hb : LBd c) :
    Calls Tryz.prog 124 #[.pointer (some ⟨g, 0, none⟩), .int .i64 who] w fun e w' => e = .returned (.int .i64 (chargeF c who).1) ∧ LCore w' g (chargeF c who).2 bv vv dv ev ∧ Kp (LS g bv) w w' := by
  have HC : Hid (LCore w g c bv vv dv ev) := h
  have hlen := hb.len
  by_cases hin : inN who 0 ((c.bal.length : Int) - 1) = true
  case neg =>
    have hin' : inN who 0 ((c.bal.length : Int) - 1) = false := by simpa using hin
    rw [chargeF_no hin']
    clear h hb hin
    go_enter Tryz.func124, Tryz.ntmps124
    go_wp2_with (go_at_call 99; refine (account_any g c bv vv dv ev _ _ HC.out hlen).mono ?_; rintro e w' ⟨rfl, rfl⟩)
    go_ret
    exact ⟨rfl, HC.out, Kp.refl _ _⟩
  obtain ⟨q1, q2⟩ := inN_iff.1 hin
  obtain ⟨k, rfl⟩ := Int.eq_ofNat_of_zero_le q1
  have hk : k < c.bal.length := by omega
  obtain ⟨ba, bc, rfl⟩ := ownsRow_slice h.b
  obtain ⟨gb, rfl, _⟩ := ownsRow_some h.b (by omega)
  have c4 : w.cell? ⟨g, 4, none⟩ = some (.slice (some ⟨gb, 0, none⟩) c.bal.length bc) := h.L.cell 4
  have c2 : w.cell? ⟨g, 2, none⟩ = some (.int .i64 c.fee) := h.L.cell 2
  have c5 : w.cell? ⟨g, 5, none⟩ = some (.int .i64 c.fees) := h.L.cell 5
  have f5 := h.L.frozen 5
  have hgne : g ≠ gb := fun e => Has.apart h.L h.b (by decide) (by rw [e]; rfl)
  have hgne' : gb ≠ g := fun e => hgne e.symm
  have hgd : c.bal.getD k 0 = c.bal[k] := by simp [List.getD, hk]
  have cb : w.cell? ⟨gb, k, none⟩ = some (.int .i64 (c.bal.getD k 0)) := by
    rw [h.b.cellAt k (by omega)]; simp [ints, hk]
  have fb := h.b.frozenAt k
  have hbk := hb.bal k hk
  rw [← hgd] at hbk
  obtain ⟨hb0, hb1⟩ := hbk
  have hf0 := hb.fee0
  have hf1 := hb.fee1
  have hs0 := hb.fees0
  have hs1 := hb.fees1
  clear hgd
  by_cases hpoor : c.bal.getD k 0 < c.fee
  · rw [chargeF_poor hin hpoor]
    generalize c.bal.getD k 0 = x at *
    clear h hb
    go_enter Tryz.func124, Tryz.ntmps124
    go_wp2_with (go_at_call 99; refine (account_any g c _ vv dv ev _ _ HC.out hlen).mono ?_; rintro e w' ⟨rfl, rfl⟩)
    go_quiet (fail)
    go_wp2
    go_ret
    exact ⟨rfl, HC.out.drewN _, (Kp.refl _ _).drewN _⟩
  · rw [chargeF_yes hin hpoor]
    have HF : Hid (LCore ((w.setCell ⟨gb, k, none⟩ (.int .i64 (c.bal.getD k 0 - c.fee))).setCell ⟨g, 5, none⟩ (.int .i64 (c.fees + c.fee))) g { setB c k (c.bal.getD k 0 - c.fee) with fees := c.fees + c.fee } (.slice (some ⟨gb, 0, none⟩) c.bal.length bc) vv dv ev) :=
      (h.setBal rfl k _).setFees _
    have HK : Hid (Kp (LS g (.slice (some ⟨gb, 0, none⟩) c.bal.length bc)) w ((w.setCell ⟨gb, k, none⟩ (.int .i64 (c.bal.getD k 0 - c.fee))).setCell ⟨g, 5, none⟩ (.int .i64 (c.fees + c.fee)))) :=
      ((Kp.refl _ w).setCell (p := ⟨gb, k, none⟩) (.inr rfl) _).setCell (p := ⟨g, 5, none⟩) (.inl rfl) _
    generalize c.bal.getD k 0 = x at *
    clear h hb
    go_enter Tryz.func124, Tryz.ntmps124
    go_wp2_with (go_at_call 99; refine (account_any g c _ vv dv ev _ _ HC.out hlen).mono ?_; rintro e w' ⟨rfl, rfl⟩)
    go_quiet (fail)
    go_wp2
    go_region
    go_wp2
    go_region
    go_wp2
    go_ret
    exact ⟨rfl, ⟨HF.out.L, HF.out.b⟩, ⟨HK.out.os, HK.out.tape, HK.out.output, HK.out.size, HK.out.block⟩⟩
end Go.Proofs.YtohjjgefklhmaaaGreatDoor

namespace Go.Proofs.YtohjjgefklhmaaaGreatDoor
open Go.ChangeShapes Go.WideShapes Go.ChangeAt Go.RowKit
set_option linter.unusedVariables false

/-- P6, behind the fee -/
def giveF (c : LC) (who to amount : Int) : Int × LC :=
  if inN to 0 ((c.bal.length : Int) - 1) = true then
    if amount < 1 then (5, c) else
    if c.bal.getD who.toNat 0 < amount then (4, c) else
      (0, setB (setB c who.toNat (c.bal.getD who.toNat 0 - amount)) to.toNat ((c.bal.set who.toNat (c.bal.getD who.toNat 0 - amount)).getD to.toNat 0 + amount))
  else (2, c)
/-- P6 -/
def sendF (c : LC) (who to amount : Int) : Int × LC :=
  if (chargeF c who).1 = 0 then giveF (chargeF c who).2 who to amount else chargeF c who

theorem chargeF_zero {c : LC} {who : Int} (h : (chargeF c who).1 = 0) : inN who 0 ((c.bal.length : Int) - 1) = true ∧ (chargeF c who).2.bal.length = c.bal.length := by
  unfold chargeF at *
  split at h
  · rename_i h1
    rw [if_pos h1]
    split at h
    · simp at h
    · rename_i h2
      rw [if_neg h2]
      exact ⟨h1, by simp [setB]⟩
  · simp at h

set_option maxHeartbeats 4000000 in
set_option maxRecDepth 100000 in
theorem lsend_any (g : Nat) (c : LC) (bv vv dv ev : Value) (who to amount : Int) (w : World) (h : LCore w g c bv vv dv ev) (hb : LBd c) (hb2 : ∀ k (h : k < (chargeF c who).2.bal.length), 0 ≤ (chargeF c who).2.bal[k] ∧ (chargeF c who).2.bal[k] ≤ 1000000000000) :
    Calls Tryz.prog 63 #[.pointer (some ⟨g, 0, none⟩), .int .i64 who, .int .i64 to, .int .i64 amount] w fun e w' => e = .returned (.int .i64 (sendF c who to amount).1) ∧ LCore w' g (sendF c who to amount).2 bv vv dv ev ∧ Kp (LS g bv) w w' := by
  have hlen0 := hb.len
  have HCh : Hid (Calls Tryz.prog 124 #[.pointer (some ⟨g, 0, none⟩), .int .i64 who] w fun e w' => e = .returned (.int .i64 (chargeF c who).1) ∧ LCore w' g (chargeF c who).2 bv vv dv ev ∧ Kp (LS g bv) w w') := charge_any g c bv vv dv ev who _ h hb
  by_cases h0 : (chargeF c who).1 = 0
  case neg =>
    have e0 : sendF c who to amount = chargeF c who := by unfold sendF; rw [if_neg h0]
    have e1 : ((chargeF c who).1 != 0) = true := by simpa using h0
    rw [e0]
    generalize (chargeF c who).1 = q at *
    generalize (chargeF c who).2 = c1 at *
    clear h hb hb2 e0 h0
    go_enter Tryz.func63, Tryz.ntmps63
    go_wp2_with fail
    refine HCh.out.mono ?_
    rintro e w1 ⟨rfl, h1, hk1⟩
    have HC : Hid (LCore w1 g c1 bv vv dv ev) := h1
    have HK1 : Hid (Kp (LS g bv) w w1) := hk1
    clear hk1 HCh
    go_wp2
    go_ret
    exact ⟨rfl, HC.out, HK1.out⟩
  obtain ⟨hin, hl1⟩ := chargeF_zero h0
  have e0 : sendF c who to amount = giveF (chargeF c who).2 who to amount := by unfold sendF; rw [if_pos h0]
  rw [e0]
  rw [h0] at HCh
  generalize (chargeF c who).2 = c1 at *
  rw [← hl1] at hin hlen0
  have hlen : c1.bal.length ≤ 1000 := hlen0
  clear h hb e0 h0 hl1 hlen0
  obtain ⟨q1, q2⟩ := inN_iff.1 hin
  obtain ⟨k, rfl⟩ := Int.eq_ofNat_of_zero_le q1
  have hk : k < c1.bal.length := by omega
  have hbk := hb2 k hk
  have hgd : c1.bal.getD k 0 = c1.bal[k] := by simp [List.getD, hk]
  rw [← hgd] at hbk
  obtain ⟨hb0, hb1⟩ := hbk
  clear hgd
  by_cases hto : inN to 0 ((c1.bal.length : Int) - 1) = true
  case neg =>
    have hto' : inN to 0 ((c1.bal.length : Int) - 1) = false := by simpa using hto
    have eg : giveF c1 k to amount = (2, c1) := by unfold giveF; rw [if_neg hto]
    rw [eg]
    clear hb2 hto eg
    go_enter Tryz.func63, Tryz.ntmps63
    go_wp2_with fail
    refine HCh.out.mono ?_
    rintro e w1 ⟨rfl, h1, hk1⟩
    have HC : Hid (LCore w1 g c1 bv vv dv ev) := h1
    have HK1 : Hid (Kp (LS g bv) w w1) := hk1
    clear hk1 HCh
    clear h1
    go_wp2_with (go_at_call 99; refine (account_any g c1 _ vv dv ev _ _ HC.out hlen).mono ?_; rintro e w' ⟨rfl, rfl⟩)
    go_ret
    exact ⟨rfl, HC.out, HK1.out⟩
  by_cases ham : amount < 1
  · have eg : giveF c1 k to amount = (5, c1) := by unfold giveF; rw [if_pos hto, if_pos ham]
    rw [eg]
    clear hb2 eg
    go_enter Tryz.func63, Tryz.ntmps63
    go_wp2_with fail
    refine HCh.out.mono ?_
    rintro e w1 ⟨rfl, h1, hk1⟩
    have HC : Hid (LCore w1 g c1 bv vv dv ev) := h1
    have HK1 : Hid (Kp (LS g bv) w w1) := hk1
    clear hk1 HCh
    clear h1
    go_wp2_with (go_at_call 99; refine (account_any g c1 _ vv dv ev _ _ HC.out hlen).mono ?_; rintro e w' ⟨rfl, rfl⟩)
    go_ret
    exact ⟨rfl, HC.out, HK1.out⟩
  by_cases hpo : c1.bal.getD k 0 < amount
  · have eg : giveF c1 k to amount = (4, c1) := by unfold giveF; rw [if_pos hto, if_neg ham, Int.toNat_natCast, if_pos hpo]
    rw [eg]
    obtain ⟨x, hx⟩ : ∃ x, c1.bal.getD k 0 = x := ⟨_, rfl⟩
    have Hx : Hid (c1.bal.getD k 0 = x) := hx
    rw [hx] at hpo hb0 hb1
    clear hb2 eg hx
    go_enter Tryz.func63, Tryz.ntmps63
    go_wp2_with fail
    refine HCh.out.mono ?_
    rintro e w1 ⟨rfl, h1, hk1⟩
    have HC : Hid (LCore w1 g c1 bv vv dv ev) := h1
    have HK1 : Hid (Kp (LS g bv) w w1) := hk1
    clear hk1 HCh
    obtain ⟨ba, bc, rfl⟩ := ownsRow_slice h1.b
    obtain ⟨gb, rfl, _⟩ := ownsRow_some h1.b (by omega)
    have c4 : w1.cell? ⟨g, 4, none⟩ = some (.slice (some ⟨gb, 0, none⟩) c1.bal.length bc) := h1.L.cell 4
    have hgne : g ≠ gb := fun e => Has.apart h1.L h1.b (by decide) (by rw [e]; rfl)
    have hgne' : gb ≠ g := fun e => hgne e.symm
    have cb : w1.cell? ⟨gb, k, none⟩ = some (.int .i64 x) := by
      rw [h1.b.cellAt k (by omega), ← Hx.out]; simp [ints, hk]
    have fb := h1.b.frozenAt k
    clear h1
    go_wp2_with (go_at_call 99; refine (account_any g c1 _ vv dv ev _ _ HC.out hlen).mono ?_; rintro e w' ⟨rfl, rfl⟩)
    go_ret
    exact ⟨rfl, HC.out, HK1.out⟩
  obtain ⟨r1, r2⟩ := inN_iff.1 hto
  obtain ⟨j, rfl⟩ := Int.eq_ofNat_of_zero_le r1
  have hj : j < c1.bal.length := by omega
  have eg : giveF c1 k j amount = (0, setB (setB c1 k (c1.bal.getD k 0 - amount)) j ((c1.bal.set k (c1.bal.getD k 0 - amount)).getD j 0 + amount)) := by unfold giveF; rw [if_pos hto, if_neg ham, Int.toNat_natCast, Int.toNat_natCast, if_neg hpo]
  rw [eg]
  clear eg
  obtain ⟨x, hx⟩ : ∃ x, c1.bal.getD k 0 = x := ⟨_, rfl⟩
  have Hx : Hid (c1.bal.getD k 0 = x) := hx
  rw [hx] at hpo hb0 hb1 ⊢
  have hy : 0 ≤ (c1.bal.set k (x - amount)).getD j 0 ∧ (c1.bal.set k (x - amount)).getD j 0 ≤ 1000000000000 := by
    by_cases e : k = j
    · subst e; simp [List.getD, hk]; omega
    · have e2 : (c1.bal.set k (x - amount)).getD j 0 = c1.bal[j] := by simp only [List.getD, List.getElem?_set_ne e, List.getElem?_eq_getElem hj, Option.getD_some]
      rw [e2]; exact hb2 j hj
  obtain ⟨y, hyy⟩ : ∃ y, (c1.bal.set k (x - amount)).getD j 0 = y := ⟨_, rfl⟩
  have Hy : Hid ((c1.bal.set k (x - amount)).getD j 0 = y) := hyy
  rw [hyy] at hy ⊢
  obtain ⟨hy0, hy1⟩ := hy
  clear hyy hx hb2
  go_enter Tryz.func63, Tryz.ntmps63
  go_wp2_with fail
  refine HCh.out.mono ?_
  rintro e w1 ⟨rfl, h1, hk1⟩
  have HC : Hid (LCore w1 g c1 bv vv dv ev) := h1
  have HK1 : Hid (Kp (LS g bv) w w1) := hk1
  clear hk1 HCh
  obtain ⟨ba, bc, rfl⟩ := ownsRow_slice h1.b
  obtain ⟨gb, rfl, _⟩ := ownsRow_some h1.b (by omega)
  have c4 : w1.cell? ⟨g, 4, none⟩ = some (.slice (some ⟨gb, 0, none⟩) c1.bal.length bc) := h1.L.cell 4
  have hgne : g ≠ gb := fun e => Has.apart h1.L h1.b (by decide) (by rw [e]; rfl)
  have hgne' : gb ≠ g := fun e => hgne e.symm
  have cb : w1.cell? ⟨gb, k, none⟩ = some (.int .i64 x) := by
    rw [h1.b.cellAt k (by omega), ← Hx.out]; simp [ints, hk]
  have fb := h1.b.frozenAt k
  have HA : Hid (LCore (w1.setCell ⟨gb, k, none⟩ (.int .i64 (x - amount))) g (setB c1 k (x - amount)) (.slice (some ⟨gb, 0, none⟩) c1.bal.length bc) vv dv ev) := h1.setBal rfl k _
  have hjj : (setB c1 k (x - amount)).bal = c1.bal.set k (x - amount) := rfl
  have hAb : (w1.setCell ⟨gb, k, none⟩ (.int .i64 (x - amount))).ownsRow 0 3 1 (.slice (some ⟨gb, 0, none⟩) c1.bal.length bc) c1.bal.length (ints (c1.bal.set k (x - amount))) := by
    have h := HA.out.b
    rw [hjj] at h
    simpa using h
  have cj : (w1.setCell ⟨gb, k, none⟩ (.int .i64 (x - amount))).cell? ⟨gb, j, none⟩ = some (.int .i64 y) := by
    have hh := hAb.cellAt j (by omega)
    rw [hh, ← Hy.out]
    have hj' : j < (c1.bal.set k (x - amount)).length := by simpa using hj
    simp only [ints, List.getElem?_map, List.getD, List.getElem?_eq_getElem hj', Option.map_some, Option.getD_some]
  have fj := hAb.frozenAt j
  have HF : Hid (LCore ((w1.setCell ⟨gb, k, none⟩ (.int .i64 (x - amount))).setCell ⟨gb, j, none⟩ (.int .i64 (y + amount))) g (setB (setB c1 k (x - amount)) j (y + amount)) (.slice (some ⟨gb, 0, none⟩) c1.bal.length bc) vv dv ev) :=
    HA.out.setBal (by rw [hjj]; simp) j _
  have HK : Hid (Kp (LS g (.slice (some ⟨gb, 0, none⟩) c1.bal.length bc)) w ((w1.setCell ⟨gb, k, none⟩ (.int .i64 (x - amount))).setCell ⟨gb, j, none⟩ (.int .i64 (y + amount)))) :=
    (HK1.out.setCell (p := ⟨gb, k, none⟩) (.inr rfl) _).setCell (p := ⟨gb, j, none⟩) (.inr rfl) _
  clear h1 HA hjj hAb
  go_wp2_with (go_at_call 99; refine (account_any g c1 _ vv dv ev _ _ HC.out hlen).mono ?_; rintro e w' ⟨rfl, rfl⟩)
  go_region
  go_wp2
  go_region
  go_wp2
  go_ret
  exact ⟨rfl, ⟨HF.out.L, HF.out.b⟩, ⟨HK.out.os, HK.out.tape, HK.out.output, HK.out.size, HK.out.block⟩⟩

/-- P7 -/
def spendF (c : LC) (to amount : Int) : Int × LC :=
  if inN to 0 ((c.bal.length : Int) - 1) = true then
    if amount < 1 then (5, c) else
    if c.pool < amount then (4, c) else (0, setB { c with pool := c.pool - amount } to.toNat (c.bal.getD to.toNat 0 + amount))
  else (2, c)

set_option maxHeartbeats 4000000 in
set_option maxRecDepth 100000 in
theorem lspend_any (g : Nat) (c : LC) (bv vv dv ev : Value) (to amount : Int) (w : World) (h : LCore w g c bv vv dv ev) (hb : LBd c) :
    Calls Tryz.prog 64 #[.pointer (some ⟨g, 0, none⟩), .int .i64 to, .int .i64 amount] w fun e w' => e = .returned (.int .i64 (spendF c to amount).1) ∧ LCore w' g (spendF c to amount).2 bv vv dv ev ∧ Kp (LS g bv) w w' := by
  have hlen := hb.len
  have hp0 := hb.pool0
  have hp1 := hb.pool1
  have HC : Hid (LCore w g c bv vv dv ev) := h
  have c6 : w.cell? ⟨g, 6, none⟩ = some (.int .i64 c.pool) := h.L.cell 6
  have f6 := h.L.frozen 6
  by_cases hto : inN to 0 ((c.bal.length : Int) - 1) = true
  case neg =>
    have hto' : inN to 0 ((c.bal.length : Int) - 1) = false := by simpa using hto
    have eg : spendF c to amount = (2, c) := by unfold spendF; rw [if_neg hto]
    rw [eg]
    clear h hb hto eg
    go_enter Tryz.func64, Tryz.ntmps64
    go_wp2_with (go_at_call 99; refine (account_any g c _ vv dv ev _ _ HC.out hlen).mono ?_; rintro e w' ⟨rfl, rfl⟩)
    go_ret
    exact ⟨rfl, HC.out, Kp.refl _ _⟩
  by_cases ham : amount < 1
  · have eg : spendF c to amount = (5, c) := by unfold spendF; rw [if_pos hto, if_pos ham]
    rw [eg]
    clear h hb eg
    go_enter Tryz.func64, Tryz.ntmps64
    go_wp2_with (go_at_call 99; refine (account_any g c _ vv dv ev _ _ HC.out hlen).mono ?_; rintro e w' ⟨rfl, rfl⟩)
    go_ret
    exact ⟨rfl, HC.out, Kp.refl _ _⟩
  by_cases hpo : c.pool < amount
  · have eg : spendF c to amount = (4, c) := by unfold spendF; rw [if_pos hto, if_neg ham, if_pos hpo]
    rw [eg]
    clear h hb eg
    go_enter Tryz.func64, Tryz.ntmps64
    go_wp2_with (go_at_call 99; refine (account_any g c _ vv dv ev _ _ HC.out hlen).mono ?_; rintro e w' ⟨rfl, rfl⟩)
    go_ret
    exact ⟨rfl, HC.out, Kp.refl _ _⟩
  obtain ⟨r1, r2⟩ := inN_iff.1 hto
  obtain ⟨j, rfl⟩ := Int.eq_ofNat_of_zero_le r1
  have hj : j < c.bal.length := by omega
  have eg : spendF c j amount = (0, setB { c with pool := c.pool - amount } j (c.bal.getD j 0 + amount)) := by unfold spendF; rw [if_pos hto, if_neg ham, if_neg hpo, Int.toNat_natCast]
  rw [eg]
  obtain ⟨ba, bc, rfl⟩ := ownsRow_slice h.b
  obtain ⟨gb, rfl, _⟩ := ownsRow_some h.b (by omega)
  have c4 : w.cell? ⟨g, 4, none⟩ = some (.slice (some ⟨gb, 0, none⟩) c.bal.length bc) := h.L.cell 4
  have hgne : g ≠ gb := fun e => Has.apart h.L h.b (by decide) (by rw [e]; rfl)
  have hgne' : gb ≠ g := fun e => hgne e.symm
  obtain ⟨x, hx⟩ : ∃ x, c.bal.getD j 0 = x := ⟨_, rfl⟩
  have hgd : c.bal.getD j 0 = c.bal[j] := by simp [List.getD, hj]
  have hbk := hb.bal j hj
  rw [← hgd, hx] at hbk
  obtain ⟨hb0, hb1⟩ := hbk
  rw [hx]
  have cb : w.cell? ⟨gb, j, none⟩ = some (.int .i64 x) := by
    rw [h.b.cellAt j (by omega), ← hx]; simp [ints, hj]
  have fb := h.b.frozenAt j
  have HF : Hid (LCore ((w.setCell ⟨g, 6, none⟩ (.int .i64 (c.pool - amount))).setCell ⟨gb, j, none⟩ (.int .i64 (x + amount))) g (setB { c with pool := c.pool - amount } j (x + amount)) (.slice (some ⟨gb, 0, none⟩) c.bal.length bc) vv dv ev) :=
    LCore.setBal (h.setPool (c.pool - amount)) rfl j (x + amount)
  have HK : Hid (Kp (LS g (.slice (some ⟨gb, 0, none⟩) c.bal.length bc)) w ((w.setCell ⟨g, 6, none⟩ (.int .i64 (c.pool - amount))).setCell ⟨gb, j, none⟩ (.int .i64 (x + amount)))) :=
    ((Kp.refl _ w).setCell (p := ⟨g, 6, none⟩) (.inl rfl) _).setCell (p := ⟨gb, j, none⟩) (.inr rfl) _
  clear h hb eg hx hgd
  go_enter Tryz.func64, Tryz.ntmps64
  go_wp2_with (go_at_call 99; refine (account_any g c _ vv dv ev _ _ HC.out hlen).mono ?_; rintro e w' ⟨rfl, rfl⟩)
  go_region
  go_wp2
  go_ret
  exact ⟨rfl, ⟨HF.out.L, HF.out.b⟩, ⟨HK.out.os, HK.out.tape, HK.out.output, HK.out.size, HK.out.block⟩⟩
end Go.Proofs.YtohjjgefklhmaaaGreatDoor

namespace Go.Proofs.YtohjjgefklhmaaaGreatDoor
open Go.ChangeShapes Go.WideShapes Go.ChangeAt Go.RowKit
set_option linter.unusedVariables false

/-- the validators of a ledger can be read -/
structure LVals (w : World) (g : Nat) (vv : Value) (vals : List VS) : Prop where
  c7 : w.cell? ⟨g, 7, none⟩ = some vv
  rd : Rd w vv vals.length 8 (vrow vals)
  len : vals.length ≤ 1000

/-- does validator a go ahead of validator b? -/
def aheadN (vals : List VS) (a b : Nat) : Bool :=
  match vals[a]?, vals[b]? with
  | some x, some y => decide (y.tokens < x.tokens) || (decide (x.tokens = y.tokens) && decide (a < b))
  | _, _ => false
theorem aheadN_eq (vals : List VS) (a b : Nat) (ha : a < vals.length) (hb : b < vals.length) : aheadN vals a b = (decide (vals[b].tokens < vals[a].tokens) || (decide (vals[a].tokens = vals[b].tokens) && decide (a < b))) := by
  unfold aheadN; rw [List.getElem?_eq_getElem ha, List.getElem?_eq_getElem hb]

theorem LVals.facts {w : World} {g : Nat} {va : Option Addr} {n vc : Nat} {vals : List VS} (h : LVals w g (.slice va n vc) vals) {k : Nat} (hk : k < vals.length) :
    ∃ gv, va = some ⟨gv, 0, none⟩ ∧ w.cell? ⟨gv, k * 8 + 2, none⟩ = some (.int .i64 vals[k].tokens) ∧ w.cell? ⟨gv, k * 8 + 3, none⟩ = some (.int .i64 vals[k].shares) ∧ w.cell? ⟨gv, k * 8 + 6, none⟩ = some (.bool vals[k].jailed) ∧ w.cell? ⟨gv, k * 8 + 7, none⟩ = some (.bool vals[k].inset) := by
  obtain ⟨a, c, he⟩ := h.rd.form
  simp only [Value.slice.injEq] at he
  obtain ⟨rfl, rfl, rfl⟩ := he
  obtain ⟨gv, hgv, hc⟩ := h.rd.get (by omega)
  exact ⟨gv, hgv, hc _ _ (vrow_at vals k hk 2 (by omega)), hc _ _ (vrow_at vals k hk 3 (by omega)), hc _ _ (vrow_at vals k hk 6 (by omega)), hc _ _ (vrow_at vals k hk 7 (by omega))⟩

set_option maxHeartbeats 4000000 in
set_option maxRecDepth 100000 in
theorem ahead_any (g : Nat) (vv : Value) (vals : List VS) (a b : Nat) (w : World) (h : LVals w g vv vals) (ha : a < vals.length) (hb : b < vals.length) :
    Calls Tryz.prog 153 #[.pointer (some ⟨g, 0, none⟩), .int .i64 a, .int .i64 b] w fun e w' => e = .returned (.bool (aheadN vals a b)) ∧ ∃ n, w' = w.drewN n := by
  rw [aheadN_eq vals a b ha hb]
  obtain ⟨va, vc, rfl⟩ := h.rd.form
  have c7 := h.c7
  have hlen := h.len
  obtain ⟨gv, rfl, x2, _, _, _⟩ := h.facts ha
  obtain ⟨gv', he, y2, _, _, _⟩ := h.facts hb
  simp only [Option.some.injEq, Addr.mk.injEq, and_true] at he
  subst he
  generalize vals[a].tokens = ta at *
  generalize vals[b].tokens = tb at *
  clear h
  by_cases h1 : tb < ta
  · have e : (decide (tb < ta) || (decide (ta = tb) && decide (a < b))) = true := by simp [h1]
    rw [e]
    clear e
    go_enter Tryz.func153, Tryz.ntmps153
    go_wp2_with fail
    go_quiet (fail)
    go_wp2
    go_ret
    exact ⟨rfl, _, rfl⟩
  · have h1b : decide (tb < ta) = false := by simpa using h1
    by_cases h2 : ta = tb
    · by_cases h3 : a < b
      · have e : (decide (tb < ta) || (decide (ta = tb) && decide (a < b))) = true := by simp [h2, h3]
        rw [e]
        have h2b : (ta == tb) = true := by simp [h2]
        clear e h1 h2
        go_enter Tryz.func153, Tryz.ntmps153
        go_wp2_with fail
        go_quiet (fail)
        go_wp2
        go_ret
        exact ⟨rfl, _, rfl⟩
      · have e : (decide (tb < ta) || (decide (ta = tb) && decide (a < b))) = false := by simp [h1b, h3]
        rw [e]
        have h2b : (ta == tb) = true := by simp [h2]
        clear e h1 h2
        go_enter Tryz.func153, Tryz.ntmps153
        go_wp2_with fail
        go_quiet (fail)
        go_wp2
        go_ret
        exact ⟨rfl, _, rfl⟩
    · have e : (decide (tb < ta) || (decide (ta = tb) && decide (a < b))) = false := by simp [h1b, h2]
      rw [e]
      have h2b : (ta == tb) = false := by simp [h2]
      clear e h1 h2
      go_enter Tryz.func153, Tryz.ntmps153
      go_wp2_with fail
      go_quiet (fail)
      go_wp2
      go_ret
      exact ⟨rfl, _, rfl⟩
end Go.Proofs.YtohjjgefklhmaaaGreatDoor

namespace Go.Proofs.YtohjjgefklhmaaaGreatDoor
open Go.ChangeShapes Go.WideShapes Go.ChangeAt Go.RowKit
set_option linter.unusedVariables false

/-- how many of the first k go ahead of i, and are not jailed -/
def cntN (vals : List VS) (i : Nat) : Nat → Nat
  | 0 => 0
  | k + 1 => cntN vals i k + (if (aheadN vals k i && !(match vals[k]? with | some v => v.jailed | none => true)) = true then 1 else 0)
theorem cntN_le (vals : List VS) (i k : Nat) : cntN vals i k ≤ k := by
  induction k with
  | zero => simp [cntN]
  | succ k ih =>
    have h1 : ∀ b : Bool, (if b = true then 1 else 0) ≤ 1 := fun b => by cases b <;> simp
    have := h1 (aheadN vals k i && !(match vals[k]? with | some v => v.jailed | none => true))
    simp only [cntN]; omega
def selN (vals : List VS) (top : Int) (i : Nat) (v : VS) : Bool := !v.jailed && (decide (0 < v.tokens) && decide ((cntN vals i vals.length : Int) < top))
def chooseTo (vals : List VS) (top : Int) : Nat → List VS
  | 0 => vals
  | i + 1 => (chooseTo vals top i).modify i (fun v => { v with inset := selN (chooseTo vals top i) top i v })
theorem chooseTo_length (vals : List VS) (top : Int) (i : Nat) : (chooseTo vals top i).length = vals.length := by
  induction i with
  | zero => rfl
  | succ i ih => simp [chooseTo, ih]
theorem vrow_inset (l : List VS) (i : Nat) (hi : i < l.length) (f : VS → Bool) : (vrow l).set (i * 8 + 7) (.bool (f l[i])) = vrow (l.modify i (fun v => { v with inset := f v })) := by
  induction l generalizing i with
  | nil => simp at hi
  | cons v l ih =>
    cases i with
    | zero => simp [vrow, VS.cells]
    | succ i =>
      have e : (i + 1) * 8 + 7 = v.cells.length + (i * 8 + 7) := by simp [VS.cells]; omega
      rw [vrow, e, List.set_append_right _ _ (by omega), Nat.add_sub_cancel_left, List.modify_succ_cons, vrow]
      congr 1
      have := ih i (by simpa using hi)
      simpa using this

theorem ownsRow_frozen {w : World} {base : Nat} {e : TypeId} {size : Nat} {g n m cap : Nat} {xs : List Value} (h : w.ownsRow base e size (.slice (some ⟨g, 0, none⟩) m cap) n xs) (hm : m = n) (j : Nat) : w.frozen? ⟨g, j, none⟩ = false := by
  subst hm; exact h.frozenAt j
/-- the ledger's struct, and its validators, to be written -/
structure LVw (w : World) (g : Nat) (top : Int) (vv : Value) (vals : List VS) (cs : List Value) : Prop where
  L : Has w g 81 cs
  c0 : cs[0]? = some (.int .i64 top)
  c7 : cs[7]? = some vv
  v : w.ownsRow 0 114 8 vv vals.length (vrow vals)
  len : vals.length ≤ 1000
theorem LVw.vals {w : World} {g : Nat} {top : Int} {vv : Value} {vals : List VS} {cs : List Value} (h : LVw w g top vv vals cs) : LVals w g vv vals := ⟨(h.L.cell 7).trans h.c7, Rd.of_owns h.v, h.len⟩
theorem LVw.drewN {w : World} {g : Nat} {top : Int} {vv : Value} {vals : List VS} {cs : List Value} (h : LVw w g top vv vals cs) (n : Nat) : LVw (w.drewN n) g top vv vals cs := ⟨h.L, h.c0, h.c7, h.v, h.len⟩

set_option maxHeartbeats 4000000 in
set_option maxRecDepth 100000 in
theorem choose_any (g : Nat) (top : Int) (vv : Value) (vals : List VS) (cs : List Value) (w : World) (h : LVw w g top vv vals cs) :
    Calls Tryz.prog 127 #[.pointer (some ⟨g, 0, none⟩)] w fun e w' => e = .returned (.tuple #[]) ∧ LVw w' g top vv (chooseTo vals top vals.length) cs ∧ Kp (fun k => vv.ownBlock = some k) w w' := by
  obtain ⟨va, vc, (hva : vv = .slice va vals.length vc)⟩ := ownsRow_slice h.v
  subst hva
  have hlen := h.len
  have HH : Hid (LVw w g top (.slice va vals.length vc) vals cs) := h
  clear h
  go_enter Tryz.func127, Tryz.ntmps127
  go_wp2
  go_loopw [2] (fun i wr => ∃ i2 : Nat, i2 ≤ vals.length ∧ i = .int .i64 i2 ∧ LVw wr g top (.slice va vals.length vc) (chooseTo vals top i2) cs ∧ Kp (fun k => (Value.slice va vals.length vc).ownBlock = some k) w wr) (fun i _ => vals.length - (intOf i).toNat)
  case atStart => exact ⟨0, Nat.zero_le _, rfl, HH.out, Kp.refl _ _⟩
  case round =>
    clear HH
    obtain ⟨i2, hi2, rfl, hV, hK⟩ := hrel
    have hl := chooseTo_length vals top i2
    have c7 : wr.cell? ⟨g, 7, none⟩ = some (.slice va vals.length vc) := hV.vals.c7
    by_cases hlt : i2 < vals.length
    · have HS : Hid (chooseTo vals top (i2 + 1) = (chooseTo vals top i2).modify i2 (fun v => { v with inset := selN (chooseTo vals top i2) top i2 v })) := rfl
      generalize chooseTo vals top i2 = cur at *
      have hlc : i2 < cur.length := by omega
      have HL : Hid (cur.length = vals.length) := hl
      have hla : cur.length ≤ vals.length := by omega
      have hlb : vals.length ≤ cur.length := by omega
      clear hl
      obtain ⟨gv, rfl, x2, _, x6, x7⟩ := hV.vals.facts hlc
      have HV : Hid (LVw wr g top (.slice (some ⟨gv, 0, none⟩) vals.length vc) cur cs) := hV
      clear hV
      go_wp2
      obtain ⟨wo, rfl⟩ : ∃ wo : World, wo = wr := ⟨_, rfl⟩
      go_loopw [3, 4] (fun n k wr => ∃ k2 : Nat, k2 ≤ vals.length ∧ k = .int .i64 k2 ∧ n = .int .i64 (cntN cur i2 k2 : Nat) ∧ ∃ m, wr = wo.drewN m) (fun _ k _ => vals.length - (intOf k).toNat)
      case atStart => exact ⟨0, Nat.zero_le _, rfl, rfl, 0, rfl⟩
      case round =>
        obtain ⟨k2, hk2, rfl, rfl, m, rfl⟩ := hrel
        have hcn := cntN_le cur i2 k2
        by_cases hlt2 : k2 < vals.length
        · have hkc : k2 < cur.length := by omega
          obtain ⟨gv', he, _, _, y6, _⟩ := HV.out.vals.facts hkc
          simp only [Option.some.injEq, Addr.mk.injEq, and_true] at he
          subst he
          have HC : Hid (cntN cur i2 (k2 + 1) = cntN cur i2 k2 + (if (aheadN cur k2 i2 && !cur[k2].jailed) = true then 1 else 0)) := by
            show cntN cur i2 (k2 + 1) = _
            rw [cntN, List.getElem?_eq_getElem hkc]
          have HA : Hid (∀ u, Calls Tryz.prog 153 #[.pointer (some ⟨g, 0, none⟩), .int .i64 k2, .int .i64 i2] (wo.drewN u) fun e w' => e = .returned (.bool (aheadN cur k2 i2)) ∧ ∃ n, w' = wo.drewN n) := fun u => by
            refine (ahead_any g _ cur k2 i2 _ (HV.out.drewN u).vals hkc hlc).mono ?_
            rintro e w' ⟨rfl, n, rfl⟩
            exact ⟨rfl, u + n, by simp [World.drewN, Nat.add_assoc]⟩
          generalize cur[k2].jailed = jl at *
          generalize aheadN cur k2 i2 = ah at *
          generalize cntN cur i2 k2 = cn at *
          clear x2 x6 x7
          go_wp2_with fail
          refine (HA.out m).mono ?_
          rintro e w' ⟨rfl, n, rfl⟩
          clear HA
          cases ah with
          | true =>
            cases jl with
            | true =>
              go_wp2
              refine And.intro ?_ ?_
              · first | exact ⟨k2 + 1, by omega, by go_num, by rw [HC.out]; rfl, n, rfl⟩ | ((repeat apply Exists.intro); exact ⟨⟨k2 + 1, by omega, by go_num, by rw [HC.out]; rfl, n, rfl⟩, rfl⟩)
              · simp [intOf]; omega
            | false =>
              go_wp2
              refine And.intro ?_ ?_
              · first | exact ⟨k2 + 1, by omega, by go_num, by rw [HC.out]; rfl, n, rfl⟩ | ((repeat apply Exists.intro); exact ⟨⟨k2 + 1, by omega, by go_num, by rw [HC.out]; rfl, n, rfl⟩, rfl⟩)
              · simp [intOf]; omega
          | false =>
            go_wp2
            refine And.intro ?_ ?_
            · first | exact ⟨k2 + 1, by omega, by go_num, by rw [HC.out]; rfl, n, rfl⟩ | ((repeat apply Exists.intro); exact ⟨⟨k2 + 1, by omega, by go_num, by rw [HC.out]; rfl, n, rfl⟩, rfl⟩)
            · simp [intOf]; omega
        · have hke : k2 = vals.length := by omega
          have c0 : wo.cell? ⟨g, 0, none⟩ = some (.int .i64 top) := (HV.out.L.cell 0).trans HV.out.c0
          have fr7 := ownsRow_frozen HV.out.v HL.out.symm (i2 * 8 + 7)
          have HFin : Hid (∀ b, selN cur top i2 cur[i2] = b → LVw (wo.setCell ⟨gv, i2 * 8 + 7, none⟩ (.bool b)) g top (.slice (some ⟨gv, 0, none⟩) vals.length vc) (chooseTo vals top (i2 + 1)) cs ∧ Kp (fun k => (Value.slice (some ⟨gv, 0, none⟩) vals.length vc).ownBlock = some k) w (wo.setCell ⟨gv, i2 * 8 + 7, none⟩ (.bool b))) := by
            intro b hb
            have hne : g ≠ gv := fun e => Has.apart HV.out.L HV.out.v (by decide) (by rw [e]; rfl)
            refine ⟨⟨HV.out.L.other _ _ hne, HV.out.c0, HV.out.c7, ?_, ?_⟩, hK.setCell (p := ⟨gv, i2 * 8 + 7, none⟩) rfl _⟩
            · have h1 := HV.out.v
              rw [HL.out] at h1
              have h2 := (h1.stored (i2 * 8 + 7) (.bool b)).1
              rw [← hb, vrow_inset cur i2 hlc (fun v => selN cur top i2 v)] at h2
              rw [HS.out, ← hb]
              simpa [HL.out] using h2
            · rw [HS.out]; simp; omega
          have HSel : Hid (selN cur top i2 cur[i2] = (!cur[i2].jailed && (decide (0 < cur[i2].tokens) && decide ((cntN cur i2 k2 : Int) < top)))) := by
            unfold selN
            rw [HL.out, hke]
            exact rfl
          clear hke HS hK
          generalize cur[i2].jailed = jl at *
          generalize cur[i2].tokens = tk at *
          generalize cntN cur i2 k2 = cn at *
          cases jl with
          | true =>
            have hb : selN cur top i2 cur[i2] = false := by rw [HSel.out]; rfl
            have HF := HFin.out false hb
            clear HFin HV HL
            go_wp2
            go_region
            all_goals
              go_wp2
              refine And.intro ?_ ?_
              · first | exact ⟨i2 + 1, by omega, by go_num, ⟨HF.1.L, HF.1.c0, HF.1.c7, HF.1.v, HF.1.len⟩, ⟨HF.2.os, HF.2.tape, HF.2.output, HF.2.size, HF.2.block⟩⟩ | ((repeat apply Exists.intro); exact ⟨⟨i2 + 1, by omega, by go_num, ⟨HF.1.L, HF.1.c0, HF.1.c7, HF.1.v, HF.1.len⟩, ⟨HF.2.os, HF.2.tape, HF.2.output, HF.2.size, HF.2.block⟩⟩, rfl⟩)
              · simp [intOf]; omega
          | false =>
            by_cases ht : 0 < tk
            · by_cases hc : (cn : Int) < top
              · have hb : selN cur top i2 cur[i2] = true := by rw [HSel.out]; simp [ht, hc]
                have HF := HFin.out true hb
                clear HFin HV HL
                go_wp2
                go_region
                all_goals
                  go_wp2
                  refine And.intro ?_ ?_
                  · first | exact ⟨i2 + 1, by omega, by go_num, ⟨HF.1.L, HF.1.c0, HF.1.c7, HF.1.v, HF.1.len⟩, ⟨HF.2.os, HF.2.tape, HF.2.output, HF.2.size, HF.2.block⟩⟩ | ((repeat apply Exists.intro); exact ⟨⟨i2 + 1, by omega, by go_num, ⟨HF.1.L, HF.1.c0, HF.1.c7, HF.1.v, HF.1.len⟩, ⟨HF.2.os, HF.2.tape, HF.2.output, HF.2.size, HF.2.block⟩⟩, rfl⟩)
                  · simp [intOf]; omega
              · have hb : selN cur top i2 cur[i2] = false := by rw [HSel.out]; simp [hc]
                have hc' : decide ((cn : Int) < top) = false := by simpa using hc
                have HF := HFin.out false hb
                clear HFin HV HL
                go_wp2
                go_region
                all_goals
                  go_wp2
                  refine And.intro ?_ ?_
                  · first | exact ⟨i2 + 1, by omega, by go_num, ⟨HF.1.L, HF.1.c0, HF.1.c7, HF.1.v, HF.1.len⟩, ⟨HF.2.os, HF.2.tape, HF.2.output, HF.2.size, HF.2.block⟩⟩ | ((repeat apply Exists.intro); exact ⟨⟨i2 + 1, by omega, by go_num, ⟨HF.1.L, HF.1.c0, HF.1.c7, HF.1.v, HF.1.len⟩, ⟨HF.2.os, HF.2.tape, HF.2.output, HF.2.size, HF.2.block⟩⟩, rfl⟩)
                  · simp [intOf]; omega
            · have hb : selN cur top i2 cur[i2] = false := by rw [HSel.out]; simp [ht]
              have ht' : decide (0 < tk) = false := by simpa using ht
              have HF := HFin.out false hb
              clear HFin HV HL
              go_wp2
              go_region
              all_goals
                go_wp2
                refine And.intro ?_ ?_
                · first | exact ⟨i2 + 1, by omega, by go_num, ⟨HF.1.L, HF.1.c0, HF.1.c7, HF.1.v, HF.1.len⟩, ⟨HF.2.os, HF.2.tape, HF.2.output, HF.2.size, HF.2.block⟩⟩ | ((repeat apply Exists.intro); exact ⟨⟨i2 + 1, by omega, by go_num, ⟨HF.1.L, HF.1.c0, HF.1.c7, HF.1.v, HF.1.len⟩, ⟨HF.2.os, HF.2.tape, HF.2.output, HF.2.size, HF.2.block⟩⟩, rfl⟩)
                · simp [intOf]; omega
    · have hke : i2 = vals.length := by omega
      have HF : Hid (LVw wr g top (.slice va vals.length vc) (chooseTo vals top vals.length) cs) := by rw [hke] at hV; exact hV
      clear hV hke hl
      go_wp2
      go_end0
      exact ⟨rfl, HF.out, hK⟩
end Go.Proofs.YtohjjgefklhmaaaGreatDoor
