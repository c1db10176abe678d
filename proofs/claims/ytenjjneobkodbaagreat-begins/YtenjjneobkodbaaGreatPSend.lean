import Derived.Test.YtenjjneobkodbaaGreatPCore
namespace Go.Proofs.YtenjjneobkodbaaGreat
open Go.ChangeShapes Go.WideShapes Go.ChangeAt Go.RowKit
set_option linter.unusedVariables false

/-- what is wrong with a transfer -/
def trF (c : LC) (funds to amount : Int) : Int :=
  if inN to 0 ((c.bal.length : Int) - 1) = true then (if amount < 1 then 5 else if funds < amount then 4 else 0) else 2

set_option maxHeartbeats 1000000 in
set_option maxRecDepth 100000 in
theorem transfer_any (g : Nat) (c : LC) (bv vv dv ev : Value) (funds to amount : Int) (w : World) (h : PCore w g c bv vv dv ev) (hl : c.bal.length ≤ 1000) :
    Calls Tryz.prog 83 #[.pointer (some ⟨g, 0, none⟩), .int .i64 funds, .int .i64 to, .int .i64 amount] w fun e w' => e = .returned (.int .i64 (trF c funds to amount)) ∧ w = w' := by
  have HC : Hid (PCore w g c bv vv dv ev) := h
  clear h
  by_cases h0 : inN to 0 ((c.bal.length : Int) - 1) = true
  case neg =>
    have h0' : inN to 0 ((c.bal.length : Int) - 1) = false := by simpa using h0
    have e0 : trF c funds to amount = 2 := by unfold trF; rw [if_neg h0]
    rw [e0]
    clear e0 h0
    go_enter Tryz.func83, Tryz.ntmps83
    go_wp2_with (go_at_call 108; refine (hasAcc_any g c _ vv dv ev _ _ HC.out hl).mono ?_; rintro e w' ⟨rfl, rfl⟩)
    go_ret
    exact ⟨rfl, rfl⟩
  by_cases h1 : amount < 1
  · have e0 : trF c funds to amount = 5 := by unfold trF; rw [if_pos h0, if_pos h1]
    rw [e0]
    clear e0
    go_enter Tryz.func83, Tryz.ntmps83
    go_wp2_with (go_at_call 108; refine (hasAcc_any g c _ vv dv ev _ _ HC.out hl).mono ?_; rintro e w' ⟨rfl, rfl⟩)
    go_ret
    exact ⟨rfl, rfl⟩
  by_cases h2 : funds < amount
  · have e0 : trF c funds to amount = 4 := by unfold trF; rw [if_pos h0, if_neg h1, if_pos h2]
    rw [e0]
    clear e0
    go_enter Tryz.func83, Tryz.ntmps83
    go_wp2_with (go_at_call 108; refine (hasAcc_any g c _ vv dv ev _ _ HC.out hl).mono ?_; rintro e w' ⟨rfl, rfl⟩)
    go_ret
    exact ⟨rfl, rfl⟩
  have e0 : trF c funds to amount = 0 := by unfold trF; rw [if_pos h0, if_neg h1, if_neg h2]
  rw [e0]
  clear e0
  go_enter Tryz.func83, Tryz.ntmps83
  go_wp2_with (go_at_call 108; refine (hasAcc_any g c _ vv dv ev _ _ HC.out hl).mono ?_; rintro e w' ⟨rfl, rfl⟩)
  go_ret
  exact ⟨rfl, rfl⟩

theorem transfer_is (v : Int) (g : Nat) (c : LC) (bv vv dv ev : Value) (funds to amount : Int) (w : World) (h : PCore w g c bv vv dv ev) (hl : c.bal.length ≤ 1000) (hv : trF c funds to amount = v) :
    Calls Tryz.prog 83 #[.pointer (some ⟨g, 0, none⟩), .int .i64 funds, .int .i64 to, .int .i64 amount] w fun e w' => e = .returned (.int .i64 v) ∧ w = w' := by
  rw [← hv]; exact transfer_any g c bv vv dv ev funds to amount w h hl
theorem giveF_no {c : LC} {k : Nat} {to amount : Int} (h : trF c (c.bal.getD k 0) to amount ≠ 0) : giveF c k to amount = (trF c (c.bal.getD k 0) to amount, c) := by
  unfold trF at *
  unfold giveF
  rw [Int.toNat_natCast]
  split
  · split
    · rfl
    · split
      · rfl
      · rename_i h1 h2 h3
        rw [if_pos h1, if_neg h2, if_neg h3] at h
        exact absurd rfl h
  · rfl
theorem giveF_yes {c : LC} {k : Nat} {to amount : Int} (h : trF c (c.bal.getD k 0) to amount = 0) : inN to 0 ((c.bal.length : Int) - 1) = true ∧ ¬ amount < 1 ∧ ¬ c.bal.getD k 0 < amount := by
  unfold trF at h
  split at h
  · split at h
    · simp at h
    · split at h
      · simp at h
      · rename_i h1 h2 h3
        exact ⟨h1, h2, h3⟩
  · simp at h
theorem spendF_no {c : LC} {to amount : Int} (h : trF c c.pool to amount ≠ 0) : spendF c to amount = (trF c c.pool to amount, c) := by
  unfold trF at *
  unfold spendF
  split
  · split
    · rfl
    · split
      · rfl
      · rename_i h1 h2 h3
        rw [if_pos h1, if_neg h2, if_neg h3] at h
        exact absurd rfl h
  · rfl
theorem spendF_yes {c : LC} {to amount : Int} (h : trF c c.pool to amount = 0) : inN to 0 ((c.bal.length : Int) - 1) = true ∧ ¬ amount < 1 ∧ ¬ c.pool < amount := by
  unfold trF at h
  split at h
  · split at h
    · simp at h
    · split at h
      · simp at h
      · rename_i h1 h2 h3
        exact ⟨h1, h2, h3⟩
  · simp at h

set_option maxHeartbeats 4000000 in
set_option maxRecDepth 100000 in
theorem psend_any (g : Nat) (c : LC) (bv vv dv ev : Value) (who to amount : Int) (w : World) (h : PCore w g c bv vv dv ev) (hb : LBd c) (hb2 : ∀ k (h : k < (chargeF c who).2.bal.length), 0 ≤ (chargeF c who).2.bal[k] ∧ (chargeF c who).2.bal[k] ≤ 1000000000000) :
    Calls Tryz.prog 45 #[.pointer (some ⟨g, 0, none⟩), .int .i64 who, .int .i64 to, .int .i64 amount] w fun e w' => e = .returned (.int .i64 (sendF c who to amount).1) ∧ PCore w' g (sendF c who to amount).2 bv vv dv ev ∧ Kp (LS g bv) w w' := by
  have hlen0 := hb.len
  have HCh : Hid (Calls Tryz.prog 82 #[.pointer (some ⟨g, 0, none⟩), .int .i64 who] w fun e w' => e = .returned (.int .i64 (chargeF c who).1) ∧ PCore w' g (chargeF c who).2 bv vv dv ev ∧ Kp (LS g bv) w w') := pcharge_any g c bv vv dv ev who _ h hb
  by_cases h0 : (chargeF c who).1 = 0
  case neg =>
    have e0 : sendF c who to amount = chargeF c who := by unfold sendF; rw [if_neg h0]
    have e1 : ((chargeF c who).1 != 0) = true := by simpa using h0
    rw [e0]
    generalize (chargeF c who).1 = q at *
    generalize (chargeF c who).2 = c1 at *
    clear h hb hb2 e0 h0
    go_enter Tryz.func45, Tryz.ntmps45
    go_wp2_with fail
    refine HCh.out.mono ?_
    rintro e w1 ⟨rfl, h1, hk1⟩
    have HC : Hid (PCore w1 g c1 bv vv dv ev) := h1
    have HK1 : Hid (Kp (LS g bv) w w1) := hk1
    clear hk1 HCh
    go_wp2
    go_ret
    exact ⟨rfl, HC.out, HK1.out⟩
  obtain ⟨hin, hl1⟩ := chargeF_zero h0
  have e0 : sendF c who to amount = giveF (chargeF c who).2 who to amount := by unfold sendF; rw [if_pos h0]
  rw [e0]
  rw [h0] at HCh
  generalize (chargeF c who).2 = c1 at *
  rw [← hl1] at hin hlen0
  have hlen : c1.bal.length ≤ 1000 := hlen0
  clear h hb e0 h0 hl1 hlen0
  obtain ⟨q1, q2⟩ := inN_iff.1 hin
  obtain ⟨k, rfl⟩ := Int.eq_ofNat_of_zero_le q1
  have hk : k < c1.bal.length := by omega
  have hbk := hb2 k hk
  have hgd : c1.bal.getD k 0 = c1.bal[k] := by simp [List.getD, hk]
  rw [← hgd] at hbk
  obtain ⟨hb0, hb1⟩ := hbk
  clear hgd
  obtain ⟨x, hx⟩ : ∃ x, c1.bal.getD k 0 = x := ⟨_, rfl⟩
  by_cases htr : trF c1 (c1.bal.getD k 0) to amount = 0
  case neg =>
    have eg := giveF_no htr
    rw [eg]
    obtain ⟨v, hv⟩ : ∃ v, trF c1 (c1.bal.getD k 0) to amount = v := ⟨_, rfl⟩
    rw [hv] at htr ⊢
    have e1 : (v != 0) = true := by simpa using htr
    have Hx : Hid (c1.bal.getD k 0 = x) := hx
    rw [hx] at hb0 hb1 hv
    have HT : Hid (trF c1 x to amount = v) := hv
    clear hb2 eg hx hv htr
    go_enter Tryz.func45, Tryz.ntmps45
    go_wp2_with fail
    refine HCh.out.mono ?_
    rintro e w1 ⟨rfl, h1, hk1⟩
    have HC : Hid (PCore w1 g c1 bv vv dv ev) := h1
    have HK1 : Hid (Kp (LS g bv) w w1) := hk1
    clear hk1 HCh
    obtain ⟨ba, bc, rfl⟩ := ownsRow_slice h1.b
    obtain ⟨gb, rfl, _⟩ := ownsRow_some h1.b (by omega)
    have c4 : w1.cell? ⟨g, 4, none⟩ = some (.slice (some ⟨gb, 0, none⟩) c1.bal.length bc) := h1.L.cell 4
    have cb : w1.cell? ⟨gb, k, none⟩ = some (.int .i64 x) := by
      rw [h1.b.cellAt k (by omega), ← Hx.out]; simp [ints, hk]
    clear h1
    go_wp2_with (go_at_call 83; refine (transfer_is v g c1 _ vv dv ev _ _ _ _ HC.out hlen HT.out).mono ?_; rintro e w' ⟨rfl, rfl⟩)
    go_ret
    exact ⟨rfl, HC.out, HK1.out⟩
  obtain ⟨hto, ham, hpo⟩ := giveF_yes htr
  obtain ⟨r1, r2⟩ := inN_iff.1 hto
  obtain ⟨j, rfl⟩ := Int.eq_ofNat_of_zero_le r1
  have hj : j < c1.bal.length := by omega
  have eg : giveF c1 k j amount = (0, setB (setB c1 k (c1.bal.getD k 0 - amount)) j ((c1.bal.set k (c1.bal.getD k 0 - amount)).getD j 0 + amount)) := by unfold giveF; rw [if_pos hto, if_neg ham, Int.toNat_natCast, Int.toNat_natCast, if_neg hpo]
  rw [eg]
  clear eg
  have Hx : Hid (c1.bal.getD k 0 = x) := hx
  rw [hx] at hpo hb0 hb1 htr ⊢
  have HT : Hid (trF c1 x j amount = 0) := htr
  clear htr
  have hy : 0 ≤ (c1.bal.set k (x - amount)).getD j 0 ∧ (c1.bal.set k (x - amount)).getD j 0 ≤ 1000000000000 := by
    by_cases e : k = j
    · subst e; simp [List.getD, hk]; omega
    · have e2 : (c1.bal.set k (x - amount)).getD j 0 = c1.bal[j] := by simp only [List.getD, List.getElem?_set_ne e, List.getElem?_eq_getElem hj, Option.getD_some]
      rw [e2]; exact hb2 j hj
  obtain ⟨y, hyy⟩ : ∃ y, (c1.bal.set k (x - amount)).getD j 0 = y := ⟨_, rfl⟩
  have Hy : Hid ((c1.bal.set k (x - amount)).getD j 0 = y) := hyy
  rw [hyy] at hy ⊢
  obtain ⟨hy0, hy1⟩ := hy
  clear hyy hx hb2
  go_enter Tryz.func45, Tryz.ntmps45
  go_wp2_with fail
  refine HCh.out.mono ?_
  rintro e w1 ⟨rfl, h1, hk1⟩
  have HC : Hid (PCore w1 g c1 bv vv dv ev) := h1
  have HK1 : Hid (Kp (LS g bv) w w1) := hk1
  clear hk1 HCh
  obtain ⟨ba, bc, rfl⟩ := ownsRow_slice h1.b
  obtain ⟨gb, rfl, _⟩ := ownsRow_some h1.b (by omega)
  have c4 : w1.cell? ⟨g, 4, none⟩ = some (.slice (some ⟨gb, 0, none⟩) c1.bal.length bc) := h1.L.cell 4
  have hgne : g ≠ gb := fun e => Has.apart h1.L h1.b (by decide) (by rw [e]; rfl)
  have hgne' : gb ≠ g := fun e => hgne e.symm
  have cb : w1.cell? ⟨gb, k, none⟩ = some (.int .i64 x) := by
    rw [h1.b.cellAt k (by omega), ← Hx.out]; simp [ints, hk]
  have fb := h1.b.frozenAt k
  have HA : Hid (PCore (w1.setCell ⟨gb, k, none⟩ (.int .i64 (x - amount))) g (setB c1 k (x - amount)) (.slice (some ⟨gb, 0, none⟩) c1.bal.length bc) vv dv ev) := h1.setBal rfl k _
  have hjj : (setB c1 k (x - amount)).bal = c1.bal.set k (x - amount) := rfl
  have hAb : (w1.setCell ⟨gb, k, none⟩ (.int .i64 (x - amount))).ownsRow 0 3 1 (.slice (some ⟨gb, 0, none⟩) c1.bal.length bc) c1.bal.length (ints (c1.bal.set k (x - amount))) := by
    have h := HA.out.b
    rw [hjj] at h
    simpa using h
  have cj : (w1.setCell ⟨gb, k, none⟩ (.int .i64 (x - amount))).cell? ⟨gb, j, none⟩ = some (.int .i64 y) := by
    have hh := hAb.cellAt j (by omega)
    rw [hh, ← Hy.out]
    have hj' : j < (c1.bal.set k (x - amount)).length := by simpa using hj
    simp only [ints, List.getElem?_map, List.getD, List.getElem?_eq_getElem hj', Option.map_some, Option.getD_some]
  have fj := hAb.frozenAt j
  have HF : Hid (PCore ((w1.setCell ⟨gb, k, none⟩ (.int .i64 (x - amount))).setCell ⟨gb, j, none⟩ (.int .i64 (y + amount))) g (setB (setB c1 k (x - amount)) j (y + amount)) (.slice (some ⟨gb, 0, none⟩) c1.bal.length bc) vv dv ev) :=
    HA.out.setBal (by rw [hjj]; simp) j _
  have HK : Hid (Kp (LS g (.slice (some ⟨gb, 0, none⟩) c1.bal.length bc)) w ((w1.setCell ⟨gb, k, none⟩ (.int .i64 (x - amount))).setCell ⟨gb, j, none⟩ (.int .i64 (y + amount)))) :=
    (HK1.out.setCell (p := ⟨gb, k, none⟩) (.inr rfl) _).setCell (p := ⟨gb, j, none⟩) (.inr rfl) _
  clear h1 HA hjj hAb
  go_wp2_with (go_at_call 83; refine (transfer_is 0 g c1 _ vv dv ev _ _ _ _ HC.out hlen HT.out).mono ?_; rintro e w' ⟨rfl, rfl⟩)
  go_ret
  exact ⟨rfl, ⟨HF.out.L, HF.out.b⟩, ⟨HK.out.os, HK.out.tape, HK.out.output, HK.out.size, HK.out.block⟩⟩

set_option maxHeartbeats 4000000 in
set_option maxRecDepth 100000 in
theorem pspend_any (g : Nat) (c : LC) (bv vv dv ev : Value) (to amount : Int) (w : World) (h : PCore w g c bv vv dv ev) (hb : LBd c) :
    Calls Tryz.prog 46 #[.pointer (some ⟨g, 0, none⟩), .int .i64 to, .int .i64 amount] w fun e w' => e = .returned (.int .i64 (spendF c to amount).1) ∧ PCore w' g (spendF c to amount).2 bv vv dv ev ∧ Kp (LS g bv) w w' := by
  have hlen := hb.len
  have hp0 := hb.pool0
  have hp1 := hb.pool1
  have HC : Hid (PCore w g c bv vv dv ev) := h
  have c6 : w.cell? ⟨g, 6, none⟩ = some (.int .i64 c.pool) := h.L.cell 6
  have f6 := h.L.frozen 6
  by_cases htr : trF c c.pool to amount = 0
  case neg =>
    have eg := spendF_no htr
    rw [eg]
    obtain ⟨v, hv⟩ : ∃ v, trF c c.pool to amount = v := ⟨_, rfl⟩
    rw [hv] at htr ⊢
    have e1 : (v != 0) = true := by simpa using htr
    have HT : Hid (trF c c.pool to amount = v) := hv
    clear h hb eg hv htr
    go_enter Tryz.func46, Tryz.ntmps46
    go_wp2_with (go_at_call 83; refine (transfer_is v g c _ vv dv ev _ _ _ _ HC.out hlen HT.out).mono ?_; rintro e w' ⟨rfl, rfl⟩)
    go_ret
    exact ⟨rfl, HC.out, Kp.refl _ _⟩
  obtain ⟨hto, ham, hpo⟩ := spendF_yes htr
  obtain ⟨r1, r2⟩ := inN_iff.1 hto
  obtain ⟨j, rfl⟩ := Int.eq_ofNat_of_zero_le r1
  have hj : j < c.bal.length := by omega
  have eg : spendF c j amount = (0, setB { c with pool := c.pool - amount } j (c.bal.getD j 0 + amount)) := by unfold spendF; rw [if_pos hto, if_neg ham, if_neg hpo, Int.toNat_natCast]
  rw [eg]
  obtain ⟨ba, bc, rfl⟩ := ownsRow_slice h.b
  obtain ⟨gb, rfl, _⟩ := ownsRow_some h.b (by omega)
  have c4 : w.cell? ⟨g, 4, none⟩ = some (.slice (some ⟨gb, 0, none⟩) c.bal.length bc) := h.L.cell 4
  have hgne : g ≠ gb := fun e => Has.apart h.L h.b (by decide) (by rw [e]; rfl)
  have hgne' : gb ≠ g := fun e => hgne e.symm
  obtain ⟨x, hx⟩ : ∃ x, c.bal.getD j 0 = x := ⟨_, rfl⟩
  have hgd : c.bal.getD j 0 = c.bal[j] := by simp [List.getD, hj]
  have hbk := hb.bal j hj
  rw [← hgd, hx] at hbk
  obtain ⟨hb0, hb1⟩ := hbk
  rw [hx]
  have cb : w.cell? ⟨gb, j, none⟩ = some (.int .i64 x) := by
    rw [h.b.cellAt j (by omega), ← hx]; simp [ints, hj]
  have fb := h.b.frozenAt j
  have HF : Hid (PCore ((w.setCell ⟨g, 6, none⟩ (.int .i64 (c.pool - amount))).setCell ⟨gb, j, none⟩ (.int .i64 (x + amount))) g (setB { c with pool := c.pool - amount } j (x + amount)) (.slice (some ⟨gb, 0, none⟩) c.bal.length bc) vv dv ev) :=
    PCore.setBal (h.setPool (c.pool - amount)) rfl j (x + amount)
  have HK : Hid (Kp (LS g (.slice (some ⟨gb, 0, none⟩) c.bal.length bc)) w ((w.setCell ⟨g, 6, none⟩ (.int .i64 (c.pool - amount))).setCell ⟨gb, j, none⟩ (.int .i64 (x + amount)))) :=
    ((Kp.refl _ w).setCell (p := ⟨g, 6, none⟩) (.inl rfl) _).setCell (p := ⟨gb, j, none⟩) (.inr rfl) _
  have HT : Hid (trF c c.pool j amount = 0) := htr
  clear h hb eg hx hgd htr
  go_enter Tryz.func46, Tryz.ntmps46
  go_wp2_with (go_at_call 83; refine (transfer_is 0 g c _ vv dv ev _ _ _ _ HC.out hlen HT.out).mono ?_; rintro e w' ⟨rfl, rfl⟩)
  go_ret
  exact ⟨rfl, ⟨HF.out.L, HF.out.b⟩, ⟨HK.out.os, HK.out.tape, HK.out.output, HK.out.size, HK.out.block⟩⟩
end Go.Proofs.YtenjjneobkodbaaGreat
