import Derived.Test.YtohjjgefklhmaaaESee5M
namespace Go.Proofs.Ytohjjgefklhmaaa
open Go.ChangeShapes Go.WideShapes Go.ChangeAt Go.RowKit
set_option linter.unusedVariables false

theorem sumV_modify_le (f : VS → Int) (g : VS → VS) (l : List VS) (j : Nat) (h : ∀ v, f (g v) ≤ f v) : sumV f (l.modify j g) ≤ sumV f l := by
  by_cases hj : j < l.length
  · rw [sumV_mod f l j g hj]
    have := h (l.getD j v0)
    omega
  · have e : l.modify j g = l := by
      apply List.ext_getElem?
      intro i
      rw [List.getElem?_modify]
      by_cases ei : j = i
      · subst ei; rw [List.getElem?_eq_none (by omega)]; rfl
      · simp [ei]
    rw [e]; exact Int.le_refl _
/-- the table stands at accounts that are none; nobody comes into the set -/
structure Keep (x x' : EC) : Prop where
  bl : x'.bal.length = x.bal.length
  top : x'.top = x.top
  sh : ∀ k j, x.bal.length ≤ k → k < 6 → j < 5 → x'.sh k j = x.sh k j
  ins : sumV inI x'.vals ≤ sumV inI x.vals
theorem Keep.refl (x : EC) : Keep x x := ⟨rfl, rfl, fun _ _ _ _ _ => rfl, Int.le_refl _⟩
theorem Keep.trans {x y z : EC} (h : Keep x y) (h' : Keep y z) : Keep x z :=
  ⟨h'.bl.trans h.bl, h'.top.trans h.top, fun k j hk h6 h5 => (h'.sh k j (by rw [h.bl]; exact hk) h6 h5).trans (h.sh k j hk h6 h5), Int.le_trans h'.ins h.ins⟩
theorem getD_set_off {l : List Int} {i n : Nat} {y : Int} (h : i ≠ n) : (l.set i y).getD n 0 = l.getD n 0 := by
  simp only [List.getD]; rw [List.getElem?_set_ne h]
theorem Keep.charge (x : EC) (k : Nat) : Keep x (chargeF x k) := ⟨by simp [chargeF], rfl, fun _ _ _ _ _ => rfl, Int.le_refl _⟩
theorem Keep.pay (x : EC) (k j : Nat) : Keep x (payF x k j) :=
  ⟨by simp [payF], rfl, fun k' j' _ h6 h5 => by simp only [payF, EC.sh]; exact getD_set_off (by omega), sumV_modify_le _ _ _ _ (fun v => Int.le_refl _)⟩
theorem Keep.join (x : EC) (k j : Nat) (t : Int) (hk : k < x.bal.length) (hj : j < 5) : Keep x (joinF x k j t) :=
  (Keep.pay x k j).trans ⟨rfl, rfl, fun k' j' hk' h6 h5 => by
    have : k < k' := by simp [payF] at hk'; omega
    simp only [joinF, EC.sh]; exact getD_set_off (by omega), by
    simp only [joinF]
    exact Int.le_trans (sumV_modify_le _ _ _ _ (fun v => Int.le_refl _)) (sumV_modify_le _ _ _ _ (fun v => Int.le_refl _))⟩
theorem Keep.gone (x : EC) (k j : Nat) (n t : Int) (hk : k < x.bal.length) (hj : j < 5) : Keep x (goneF x k j n t) :=
  ⟨rfl, rfl, fun k' j' hk' h6 h5 => by simp only [goneF, EC.sh]; exact getD_set_off (by omega), by
    simp only [goneF]
    exact Int.le_trans (sumV_modify_le _ _ _ _ (fun v => Int.le_refl _)) (sumV_modify_le _ _ _ _ (fun v => Int.le_refl _))⟩
theorem Keep.clear (x : EC) (j : Nat) : Keep x (clearF x j) := ⟨rfl, rfl, fun _ _ _ _ _ => rfl, sumV_modify_le _ _ _ _ (fun v => Int.le_refl _)⟩
theorem Keep.leave (x : EC) (k j : Nat) (n : Int) (hk : k < x.bal.length) (hj : j < 5) : Keep x (leaveF x k j n) := by
  have h1 := (Keep.pay x k j).trans (Keep.gone (payF x k j) k j n (tokensForF (x.val j) n) (by simp [payF]; exact hk) hj)
  unfold leaveF
  split
  · exact h1.trans (Keep.clear _ _)
  · exact h1
theorem Keep.ent (x : EC) (k j : Nat) (t : Int) : Keep x (entF x k j t) := by
  unfold entF
  split
  · exact Keep.refl x
  · exact ⟨rfl, rfl, fun _ _ _ _ _ => rfl, Int.le_refl _⟩
theorem Keep.coll (x : EC) (k j : Nat) : Keep x (collF x k j) :=
  ⟨by simp [collF], rfl, fun _ _ _ _ _ => rfl, by
    simp only [collF]
    exact Int.le_trans (sumV_modify_le _ _ _ _ (fun v => Int.le_refl _)) (sumV_modify_le _ _ _ _ (fun v => Int.le_refl _))⟩
theorem inI_off (v : VS) : inI { v with inset := false } ≤ inI v := by
  have := (inI_bd v).1
  have e : inI { v with inset := false } = 0 := by unfold inI; rw [if_neg (by simp)]
  omega
theorem Keep.slash (x : EC) (j : Nat) (hgt p : Int) : Keep x (slashF x j hgt p) :=
  ⟨rfl, rfl, fun _ _ _ _ _ => rfl, by
    simp only [slashF, jailF, slEntF, slTokF]
    exact Int.le_trans (sumV_modify_le _ _ _ _ (fun v => inI_off v)) (Int.le_trans (sumV_modify_le _ _ _ _ (fun v => Int.le_refl _)) (sumV_modify_le _ _ _ _ (fun v => Int.le_refl _)))⟩
theorem Keep.out (x : EC) (j : Nat) : Keep x (outF x j) := ⟨rfl, rfl, fun _ _ _ _ _ => rfl, sumV_modify_le _ _ _ _ (fun v => Int.le_refl _)⟩
theorem Keep.take (x : EC) (j : Nat) (a : Int) : Keep x (takeF x j a) := by
  have h1 : Keep x { x with vals := (x.vals.modify j (fun v => { v with comm := v.comm + a * (x.val j).rate / 100 })).modify j (fun v => { v with outs := v.outs + a }) } :=
    ⟨rfl, rfl, fun _ _ _ _ _ => rfl, Int.le_trans (sumV_modify_le _ _ _ _ (fun v => Int.le_refl _)) (sumV_modify_le _ _ _ _ (fun v => Int.le_refl _))⟩
  refine h1.trans ?_
  unfold takeF shareOutF
  split
  · exact Keep.refl _
  · exact ⟨rfl, rfl, fun k' j' _ h6 h5 => by simp only [EC.sh]; exact getD_set_off (by omega), Int.le_refl _⟩
theorem Keep.loop (x : EC) (f b : Int) (k : Nat) : Keep x (shLoop x f b k).1 := by
  induction k with
  | zero => exact Keep.refl x
  | succ k ih =>
    unfold shLoop
    split
    · exact ih.trans (Keep.take _ _ _)
    · exact ih
/-- what holds besides -/
structure InvB (x : EC) : Prop where
  ins : sumV inI x.vals ≤ x.top
  sh : ∀ k j, x.bal.length ≤ k → k < 6 → j < 5 → x.sh k j = 0
theorem InvB.keep {x x' : EC} (h : InvB x) (k : Keep x x') : InvB x' :=
  ⟨by rw [k.top]; exact Int.le_trans k.ins h.ins, fun a b ha h6 h5 => by rw [k.bl] at ha; rw [k.sh a b ha h6 h5]; exact h.sh a b ha h6 h5⟩
theorem InvB.block {x : EC} (h : InvB x) (ok : Fine x) : InvB (blkR x).2 := by
  have okx : Ok x.height x := ok
  have k1 := Keep.loop x x.fees (bondedN x.vals) x.vals.length
  unfold blkR
  split
  · exact h
  · have k2 : Keep x (payEF (upF x)) := k1.trans ⟨peLoop_len _ _, rfl, fun _ _ _ _ _ => rfl, Int.le_refl _⟩
    have h2 := h.keep k2
    have ht : 0 ≤ (payEF (upF x)).top := by rw [k2.top]; have := okx.top0; omega
    exact ⟨(chooseF_best _ _ ht).2.2.1, h2.sh⟩
theorem msgR_keep {P : EC → Prop} {x : EC} {who : Int} {err : EC → Nat → Int} {act : EC → Nat → EC} (h0 : P x) (h1 : ∀ k : Nat, k < x.bal.length → P (chargeF x k)) (h2 : ∀ k : Nat, k < x.bal.length → err (chargeF x k) k = 0 → P (act (chargeF x k) k)) : P (msgR x who err act).2 := by
  by_cases hc : chErr x who = 0
  · obtain ⟨k, rfl, hk, _⟩ := chErr_ok hc
    by_cases he : err (chargeF x k) k = 0
    · rw [msgR_ok hc he]; exact h2 k hk he
    · rw [msgR_err hc he]; exact h1 k hk
  · rw [msgR_fail hc]; exact h0
theorem InvB.does {x : EC} (h : InvB x) (ok : Fine x) (k a b c d : Int) : InvB (doesR x k a b c d).2 := by
  have okx : Ok x.height x := ok
  have v5 := okx.v5
  have hch : ∀ k : Nat, k < x.bal.length → InvB (chargeF x k) := fun k _ => h.keep (Keep.charge x k)
  have hl : ∀ k : Nat, (chargeF x k).bal.length = x.bal.length := fun k => (Keep.charge x k).bl
  have hvl : ∀ k : Nat, (chargeF x k).vals.length = x.vals.length := fun k => rfl
  unfold doesR
  split
  · refine msgR_keep h hch (fun k hk he => (hch k hk).keep ⟨by simp [sentB], rfl, fun _ _ _ _ _ => rfl, Int.le_refl _⟩)
  split
  · unfold spendR
    split
    · exact h
    · exact h.keep ⟨by simp, rfl, fun _ _ _ _ _ => rfl, Int.le_refl _⟩
  split
  · refine msgR_keep h hch (fun k hk he => ?_)
    obtain ⟨j, rfl, hj, _⟩ := bondErrF_ok he
    have hkb : Keep (chargeF x k) { chargeF x k with bal := (chargeF x k).bal.set k ((chargeF x k).balAt k - c) } := ⟨by simp, rfl, fun _ _ _ _ _ => rfl, Int.le_refl _⟩
    refine (hch k hk).keep (hkb.trans (Keep.join _ k _ c ?_ ?_))
    · simp only [List.length_set]; rw [hl]; exact hk
    · rw [Int.toNat_natCast]; have := hvl k; omega
  split
  · refine msgR_keep h hch (fun k hk he => ?_)
    obtain ⟨j, rfl, hj, _⟩ := unbErrF_ok he
    refine (hch k hk).keep ((Keep.leave _ k _ c ?_ ?_).trans (Keep.ent _ _ _ _))
    · rw [hl]; exact hk
    · rw [Int.toNat_natCast]; have := hvl k; omega
  split
  · refine msgR_keep h hch (fun k hk he => ?_)
    obtain ⟨j, t, rfl, rfl, hj, ht, _⟩ := movErrF_ok he
    have k1 := Keep.leave (chargeF x k) k (Int.toNat (j : Int)) d (by rw [hl]; exact hk) (by rw [Int.toNat_natCast]; have := hvl k; omega)
    refine (hch k hk).keep (k1.trans (Keep.join _ k _ _ ?_ ?_))
    · rw [k1.bl, hl]; exact hk
    · rw [Int.toNat_natCast]; have := hvl k; omega
  split
  · exact msgR_keep h hch (fun k hk he => (hch k hk).keep (Keep.pay _ _ _))
  split
  · exact msgR_keep h hch (fun k hk he => (hch k hk).keep (Keep.coll _ _ _))
  split
  · unfold slashR
    split
    · exact h
    · exact h.keep (Keep.slash _ _ _ _)
  split
  · exact msgR_keep h hch (fun k hk he => (hch k hk).keep (Keep.out _ _))
  · exact h.block ok
theorem xN_inv {bs os rs : List Int} {top mature fee : Int} (h : GoodGen bs os rs top mature fee) : InvB (xN bs os rs top mature fee) := by
  refine ⟨?_, fun k j _ _ _ => rep_getD 65 _⟩
  have e : sumV inI (xN bs os rs top mature fee).vals = 0 := vs0_sum os rs inI (fun o r => by unfold inI; rw [if_neg (by simp)])
  rw [e]
  have := h.2.2.1
  show 0 ≤ top
  omega
end Go.Proofs.Ytohjjgefklhmaaa
