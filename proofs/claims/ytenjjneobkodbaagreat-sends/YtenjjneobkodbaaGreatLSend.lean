import Derived.Test.YtenjjneobkodbaaGreatLCore
namespace Go.Proofs.YtenjjneobkodbaaGreat
open Go.ChangeShapes Go.WideShapes Go.ChangeAt Go.RowKit
set_option linter.unusedVariables false

/-- P6, behind the fee -/
def giveF (c : LC) (who to amount : Int) : Int × LC :=
  if inN to 0 ((c.bal.length : Int) - 1) = true then
    if amount < 1 then (5, c) else
    if c.bal.getD who.toNat 0 < amount then (4, c) else
      (0, setB (setB c who.toNat (c.bal.getD who.toNat 0 - amount)) to.toNat ((c.bal.set who.toNat (c.bal.getD who.toNat 0 - amount)).getD to.toNat 0 + amount))
  else (2, c)
/-- P6 -/
def sendF (c : LC) (who to amount : Int) : Int × LC :=
  if (chargeF c who).1 = 0 then giveF (chargeF c who).2 who to amount else chargeF c who

theorem chargeF_zero {c : LC} {who : Int} (h : (chargeF c who).1 = 0) : inN who 0 ((c.bal.length : Int) - 1) = true ∧ (chargeF c who).2.bal.length = c.bal.length := by
  unfold chargeF at *
  split at h
  · rename_i h1
    rw [if_pos h1]
    split at h
    · simp at h
    · rename_i h2
      rw [if_neg h2]
      exact ⟨h1, by simp [setB]⟩
  · simp at h

set_option maxHeartbeats 4000000 in
set_option maxRecDepth 100000 in
theorem lsend_any (g : Nat) (c : LC) (bv vv dv ev : Value) (who to amount : Int) (w : World) (h : LCore w g c bv vv dv ev) (hb : LBd c) (hb2 : ∀ k (h : k < (chargeF c who).2.bal.length), 0 ≤ (chargeF c who).2.bal[k] ∧ (chargeF c who).2.bal[k] ≤ 1000000000000) :
    Calls Tryz.prog 55 #[.pointer (some ⟨g, 0, none⟩), .int .i64 who, .int .i64 to, .int .i64 amount] w fun e w' => e = .returned (.int .i64 (sendF c who to amount).1) ∧ LCore w' g (sendF c who to amount).2 bv vv dv ev ∧ Kp (LS g bv) w w' := by
  have hlen0 := hb.len
  have HCh : Hid (Calls Tryz.prog 93 #[.pointer (some ⟨g, 0, none⟩), .int .i64 who] w fun e w' => e = .returned (.int .i64 (chargeF c who).1) ∧ LCore w' g (chargeF c who).2 bv vv dv ev ∧ Kp (LS g bv) w w') := charge_any g c bv vv dv ev who _ h hb
  by_cases h0 : (chargeF c who).1 = 0
  case neg =>
    have e0 : sendF c who to amount = chargeF c who := by unfold sendF; rw [if_neg h0]
    have e1 : ((chargeF c who).1 != 0) = true := by simpa using h0
    rw [e0]
    generalize (chargeF c who).1 = q at *
    generalize (chargeF c who).2 = c1 at *
    clear h hb hb2 e0 h0
    go_enter Tryz.func55, Tryz.ntmps55
    go_wp2_with fail
    refine HCh.out.mono ?_
    rintro e w1 ⟨rfl, h1, hk1⟩
    have HC : Hid (LCore w1 g c1 bv vv dv ev) := h1
    have HK1 : Hid (Kp (LS g bv) w w1) := hk1
    clear hk1 HCh
    go_wp2
    go_ret
    exact ⟨rfl, HC.out, HK1.out⟩
  obtain ⟨hin, hl1⟩ := chargeF_zero h0
  have e0 : sendF c who to amount = giveF (chargeF c who).2 who to amount := by unfold sendF; rw [if_pos h0]
  rw [e0]
  rw [h0] at HCh
  generalize (chargeF c who).2 = c1 at *
  rw [← hl1] at hin hlen0
  have hlen : c1.bal.length ≤ 1000 := hlen0
  clear h hb e0 h0 hl1 hlen0
  obtain ⟨q1, q2⟩ := inN_iff.1 hin
  obtain ⟨k, rfl⟩ := Int.eq_ofNat_of_zero_le q1
  have hk : k < c1.bal.length := by omega
  have hbk := hb2 k hk
  have hgd : c1.bal.getD k 0 = c1.bal[k] := by simp [List.getD, hk]
  rw [← hgd] at hbk
  obtain ⟨hb0, hb1⟩ := hbk
  clear hgd
  by_cases hto : inN to 0 ((c1.bal.length : Int) - 1) = true
  case neg =>
    have hto' : inN to 0 ((c1.bal.length : Int) - 1) = false := by simpa using hto
    have eg : giveF c1 k to amount = (2, c1) := by unfold giveF; rw [if_neg hto]
    rw [eg]
    clear hb2 hto eg
    go_enter Tryz.func55, Tryz.ntmps55
    go_wp2_with fail
    refine HCh.out.mono ?_
    rintro e w1 ⟨rfl, h1, hk1⟩
    have HC : Hid (LCore w1 g c1 bv vv dv ev) := h1
    have HK1 : Hid (Kp (LS g bv) w w1) := hk1
    clear hk1 HCh
    clear h1
    go_wp2_with (go_at_call 76; refine (account_any g c1 _ vv dv ev _ _ HC.out hlen).mono ?_; rintro e w' ⟨rfl, rfl⟩)
    go_ret
    exact ⟨rfl, HC.out, HK1.out⟩
  by_cases ham : amount < 1
  · have eg : giveF c1 k to amount = (5, c1) := by unfold giveF; rw [if_pos hto, if_pos ham]
    rw [eg]
    clear hb2 eg
    go_enter Tryz.func55, Tryz.ntmps55
    go_wp2_with fail
    refine HCh.out.mono ?_
    rintro e w1 ⟨rfl, h1, hk1⟩
    have HC : Hid (LCore w1 g c1 bv vv dv ev) := h1
    have HK1 : Hid (Kp (LS g bv) w w1) := hk1
    clear hk1 HCh
    clear h1
    go_wp2_with (go_at_call 76; refine (account_any g c1 _ vv dv ev _ _ HC.out hlen).mono ?_; rintro e w' ⟨rfl, rfl⟩)
    go_ret
    exact ⟨rfl, HC.out, HK1.out⟩
  by_cases hpo : c1.bal.getD k 0 < amount
  · have eg : giveF c1 k to amount = (4, c1) := by unfold giveF; rw [if_pos hto, if_neg ham, Int.toNat_natCast, if_pos hpo]
    rw [eg]
    obtain ⟨x, hx⟩ : ∃ x, c1.bal.getD k 0 = x := ⟨_, rfl⟩
    have Hx : Hid (c1.bal.getD k 0 = x) := hx
    rw [hx] at hpo hb0 hb1
    clear hb2 eg hx
    go_enter Tryz.func55, Tryz.ntmps55
    go_wp2_with fail
    refine HCh.out.mono ?_
    rintro e w1 ⟨rfl, h1, hk1⟩
    have HC : Hid (LCore w1 g c1 bv vv dv ev) := h1
    have HK1 : Hid (Kp (LS g bv) w w1) := hk1
    clear hk1 HCh
    obtain ⟨ba, bc, rfl⟩ := ownsRow_slice h1.b
    obtain ⟨gb, rfl, _⟩ := ownsRow_some h1.b (by omega)
    have c4 : w1.cell? ⟨g, 4, none⟩ = some (.slice (some ⟨gb, 0, none⟩) c1.bal.length bc) := h1.L.cell 4
    have hgne : g ≠ gb := fun e => Has.apart h1.L h1.b (by decide) (by rw [e]; rfl)
    have hgne' : gb ≠ g := fun e => hgne e.symm
    have cb : w1.cell? ⟨gb, k, none⟩ = some (.int .i64 x) := by
      rw [h1.b.cellAt k (by omega), ← Hx.out]; simp [ints, hk]
    have fb := h1.b.frozenAt k
    clear h1
    go_wp2_with (go_at_call 76; refine (account_any g c1 _ vv dv ev _ _ HC.out hlen).mono ?_; rintro e w' ⟨rfl, rfl⟩)
    go_ret
    exact ⟨rfl, HC.out, HK1.out⟩
  obtain ⟨r1, r2⟩ := inN_iff.1 hto
  obtain ⟨j, rfl⟩ := Int.eq_ofNat_of_zero_le r1
  have hj : j < c1.bal.length := by omega
  have eg : giveF c1 k j amount = (0, setB (setB c1 k (c1.bal.getD k 0 - amount)) j ((c1.bal.set k (c1.bal.getD k 0 - amount)).getD j 0 + amount)) := by unfold giveF; rw [if_pos hto, if_neg ham, Int.toNat_natCast, Int.toNat_natCast, if_neg hpo]
  rw [eg]
  clear eg
  obtain ⟨x, hx⟩ : ∃ x, c1.bal.getD k 0 = x := ⟨_, rfl⟩
  have Hx : Hid (c1.bal.getD k 0 = x) := hx
  rw [hx] at hpo hb0 hb1 ⊢
  have hy : 0 ≤ (c1.bal.set k (x - amount)).getD j 0 ∧ (c1.bal.set k (x - amount)).getD j 0 ≤ 1000000000000 := by
    by_cases e : k = j
    · subst e; simp [List.getD, hk]; omega
    · have e2 : (c1.bal.set k (x - amount)).getD j 0 = c1.bal[j] := by simp only [List.getD, List.getElem?_set_ne e, List.getElem?_eq_getElem hj, Option.getD_some]
      rw [e2]; exact hb2 j hj
  obtain ⟨y, hyy⟩ : ∃ y, (c1.bal.set k (x - amount)).getD j 0 = y := ⟨_, rfl⟩
  have Hy : Hid ((c1.bal.set k (x - amount)).getD j 0 = y) := hyy
  rw [hyy] at hy ⊢
  obtain ⟨hy0, hy1⟩ := hy
  clear hyy hx hb2
  go_enter Tryz.func55, Tryz.ntmps55
  go_wp2_with fail
  refine HCh.out.mono ?_
  rintro e w1 ⟨rfl, h1, hk1⟩
  have HC : Hid (LCore w1 g c1 bv vv dv ev) := h1
  have HK1 : Hid (Kp (LS g bv) w w1) := hk1
  clear hk1 HCh
  obtain ⟨ba, bc, rfl⟩ := ownsRow_slice h1.b
  obtain ⟨gb, rfl, _⟩ := ownsRow_some h1.b (by omega)
  have c4 : w1.cell? ⟨g, 4, none⟩ = some (.slice (some ⟨gb, 0, none⟩) c1.bal.length bc) := h1.L.cell 4
  have hgne : g ≠ gb := fun e => Has.apart h1.L h1.b (by decide) (by rw [e]; rfl)
  have hgne' : gb ≠ g := fun e => hgne e.symm
  have cb : w1.cell? ⟨gb, k, none⟩ = some (.int .i64 x) := by
    rw [h1.b.cellAt k (by omega), ← Hx.out]; simp [ints, hk]
  have fb := h1.b.frozenAt k
  have HA : Hid (LCore (w1.setCell ⟨gb, k, none⟩ (.int .i64 (x - amount))) g (setB c1 k (x - amount)) (.slice (some ⟨gb, 0, none⟩) c1.bal.length bc) vv dv ev) := h1.setBal rfl k _
  have hjj : (setB c1 k (x - amount)).bal = c1.bal.set k (x - amount) := rfl
  have hAb : (w1.setCell ⟨gb, k, none⟩ (.int .i64 (x - amount))).ownsRow 0 3 1 (.slice (some ⟨gb, 0, none⟩) c1.bal.length bc) c1.bal.length (ints (c1.bal.set k (x - amount))) := by
    have h := HA.out.b
    rw [hjj] at h
    simpa using h
  have cj : (w1.setCell ⟨gb, k, none⟩ (.int .i64 (x - amount))).cell? ⟨gb, j, none⟩ = some (.int .i64 y) := by
    have hh := hAb.cellAt j (by omega)
    rw [hh, ← Hy.out]
    have hj' : j < (c1.bal.set k (x - amount)).length := by simpa using hj
    simp only [ints, List.getElem?_map, List.getD, List.getElem?_eq_getElem hj', Option.map_some, Option.getD_some]
  have fj := hAb.frozenAt j
  have HF : Hid (LCore ((w1.setCell ⟨gb, k, none⟩ (.int .i64 (x - amount))).setCell ⟨gb, j, none⟩ (.int .i64 (y + amount))) g (setB (setB c1 k (x - amount)) j (y + amount)) (.slice (some ⟨gb, 0, none⟩) c1.bal.length bc) vv dv ev) :=
    HA.out.setBal (by rw [hjj]; simp) j _
  have HK : Hid (Kp (LS g (.slice (some ⟨gb, 0, none⟩) c1.bal.length bc)) w ((w1.setCell ⟨gb, k, none⟩ (.int .i64 (x - amount))).setCell ⟨gb, j, none⟩ (.int .i64 (y + amount)))) :=
    (HK1.out.setCell (p := ⟨gb, k, none⟩) (.inr rfl) _).setCell (p := ⟨gb, j, none⟩) (.inr rfl) _
  clear h1 HA hjj hAb
  go_wp2_with (go_at_call 76; refine (account_any g c1 _ vv dv ev _ _ HC.out hlen).mono ?_; rintro e w' ⟨rfl, rfl⟩)
  go_region
  go_wp2
  go_region
  go_wp2
  go_ret
  exact ⟨rfl, ⟨HF.out.L, HF.out.b⟩, ⟨HK.out.os, HK.out.tape, HK.out.output, HK.out.size, HK.out.block⟩⟩

/-- P7 -/
def spendF (c : LC) (to amount : Int) : Int × LC :=
  if inN to 0 ((c.bal.length : Int) - 1) = true then
    if amount < 1 then (5, c) else
    if c.pool < amount then (4, c) else (0, setB { c with pool := c.pool - amount } to.toNat (c.bal.getD to.toNat 0 + amount))
  else (2, c)

set_option maxHeartbeats 4000000 in
set_option maxRecDepth 100000 in
theorem lspend_any (g : Nat) (c : LC) (bv vv dv ev : Value) (to amount : Int) (w : World) (h : LCore w g c bv vv dv ev) (hb : LBd c) :
    Calls Tryz.prog 56 #[.pointer (some ⟨g, 0, none⟩), .int .i64 to, .int .i64 amount] w fun e w' => e = .returned (.int .i64 (spendF c to amount).1) ∧ LCore w' g (spendF c to amount).2 bv vv dv ev ∧ Kp (LS g bv) w w' := by
  have hlen := hb.len
  have hp0 := hb.pool0
  have hp1 := hb.pool1
  have HC : Hid (LCore w g c bv vv dv ev) := h
  have c6 : w.cell? ⟨g, 6, none⟩ = some (.int .i64 c.pool) := h.L.cell 6
  have f6 := h.L.frozen 6
  by_cases hto : inN to 0 ((c.bal.length : Int) - 1) = true
  case neg =>
    have hto' : inN to 0 ((c.bal.length : Int) - 1) = false := by simpa using hto
    have eg : spendF c to amount = (2, c) := by unfold spendF; rw [if_neg hto]
    rw [eg]
    clear h hb hto eg
    go_enter Tryz.func56, Tryz.ntmps56
    go_wp2_with (go_at_call 76; refine (account_any g c _ vv dv ev _ _ HC.out hlen).mono ?_; rintro e w' ⟨rfl, rfl⟩)
    go_ret
    exact ⟨rfl, HC.out, Kp.refl _ _⟩
  by_cases ham : amount < 1
  · have eg : spendF c to amount = (5, c) := by unfold spendF; rw [if_pos hto, if_pos ham]
    rw [eg]
    clear h hb eg
    go_enter Tryz.func56, Tryz.ntmps56
    go_wp2_with (go_at_call 76; refine (account_any g c _ vv dv ev _ _ HC.out hlen).mono ?_; rintro e w' ⟨rfl, rfl⟩)
    go_ret
    exact ⟨rfl, HC.out, Kp.refl _ _⟩
  by_cases hpo : c.pool < amount
  · have eg : spendF c to amount = (4, c) := by unfold spendF; rw [if_pos hto, if_neg ham, if_pos hpo]
    rw [eg]
    clear h hb eg
    go_enter Tryz.func56, Tryz.ntmps56
    go_wp2_with (go_at_call 76; refine (account_any g c _ vv dv ev _ _ HC.out hlen).mono ?_; rintro e w' ⟨rfl, rfl⟩)
    go_ret
    exact ⟨rfl, HC.out, Kp.refl _ _⟩
  obtain ⟨r1, r2⟩ := inN_iff.1 hto
  obtain ⟨j, rfl⟩ := Int.eq_ofNat_of_zero_le r1
  have hj : j < c.bal.length := by omega
  have eg : spendF c j amount = (0, setB { c with pool := c.pool - amount } j (c.bal.getD j 0 + amount)) := by unfold spendF; rw [if_pos hto, if_neg ham, if_neg hpo, Int.toNat_natCast]
  rw [eg]
  obtain ⟨ba, bc, rfl⟩ := ownsRow_slice h.b
  obtain ⟨gb, rfl, _⟩ := ownsRow_some h.b (by omega)
  have c4 : w.cell? ⟨g, 4, none⟩ = some (.slice (some ⟨gb, 0, none⟩) c.bal.length bc) := h.L.cell 4
  have hgne : g ≠ gb := fun e => Has.apart h.L h.b (by decide) (by rw [e]; rfl)
  have hgne' : gb ≠ g := fun e => hgne e.symm
  obtain ⟨x, hx⟩ : ∃ x, c.bal.getD j 0 = x := ⟨_, rfl⟩
  have hgd : c.bal.getD j 0 = c.bal[j] := by simp [List.getD, hj]
  have hbk := hb.bal j hj
  rw [← hgd, hx] at hbk
  obtain ⟨hb0, hb1⟩ := hbk
  rw [hx]
  have cb : w.cell? ⟨gb, j, none⟩ = some (.int .i64 x) := by
    rw [h.b.cellAt j (by omega), ← hx]; simp [ints, hj]
  have fb := h.b.frozenAt j
  have HF : Hid (LCore ((w.setCell ⟨g, 6, none⟩ (.int .i64 (c.pool - amount))).setCell ⟨gb, j, none⟩ (.int .i64 (x + amount))) g (setB { c with pool := c.pool - amount } j (x + amount)) (.slice (some ⟨gb, 0, none⟩) c.bal.length bc) vv dv ev) :=
    LCore.setBal (h.setPool (c.pool - amount)) rfl j (x + amount)
  have HK : Hid (Kp (LS g (.slice (some ⟨gb, 0, none⟩) c.bal.length bc)) w ((w.setCell ⟨g, 6, none⟩ (.int .i64 (c.pool - amount))).setCell ⟨gb, j, none⟩ (.int .i64 (x + amount)))) :=
    ((Kp.refl _ w).setCell (p := ⟨g, 6, none⟩) (.inl rfl) _).setCell (p := ⟨gb, j, none⟩) (.inr rfl) _
  clear h hb eg hx hgd
  go_enter Tryz.func56, Tryz.ntmps56
  go_wp2_with (go_at_call 76; refine (account_any g c _ vv dv ev _ _ HC.out hlen).mono ?_; rintro e w' ⟨rfl, rfl⟩)
  go_region
  go_wp2
  go_ret
  exact ⟨rfl, ⟨HF.out.L, HF.out.b⟩, ⟨HK.out.os, HK.out.tape, HK.out.output, HK.out.size, HK.out.block⟩⟩
end Go.Proofs.YtenjjneobkodbaaGreat
