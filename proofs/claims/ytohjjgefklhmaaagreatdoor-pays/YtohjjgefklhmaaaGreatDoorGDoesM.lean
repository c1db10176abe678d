import Derived.Test.YtohjjgefklhmaaaGreatDoorESee4M
namespace Go.Proofs.YtohjjgefklhmaaaGreatDoor
open Go.ChangeShapes Go.WideShapes Go.ChangeAt Go.RowKit
set_option linter.unusedVariables false

def doesR (x : EC) (k a b c d : Int) : Int × EC :=
  if k = 1 then sendR x a b c else if k = 2 then spendR x a b else if k = 3 then bondR x a b c else if k = 4 then unbR x a b c else if k = 5 then movR x a b c d else if k = 6 then withR x a b else if k = 7 then collR x a b else if k = 8 then slashR x a b c else if k = 9 then freeR x a b else blkR x

end Go.Proofs.YtohjjgefklhmaaaGreatDoor

namespace Go.Proofs.YtohjjgefklhmaaaGreatDoor
open Go.ChangeShapes Go.WideShapes Go.ChangeAt Go.RowKit
set_option linter.unusedVariables false

theorem sumV_take (f : VS → Int) (l : List VS) (k : Nat) (h : k < l.length) : sumV f (l.take (k + 1)) = sumV f (l.take k) + f l[k] := by
  unfold sumV
  rw [List.take_succ_eq_append_getElem h, List.map_append, sumI_append]; simp [sumI]
end Go.Proofs.YtohjjgefklhmaaaGreatDoor

namespace Go.Proofs.YtohjjgefklhmaaaGreatDoor
open Go.ChangeShapes Go.WideShapes Go.ChangeAt Go.RowKit
set_option linter.unusedVariables false

def inI (v : VS) : Int := if v.inset = true then 1 else 0
def mayI (v : VS) : Int := if v.jailed = false ∧ 0 < v.tokens then 1 else 0
theorem bestL_max (l : List VS) (n : Nat) : ∀ k, k < n → (l.getD k v0).inset = false → (l.getD k v0).jailed = false → (l.getD k v0).tokens ≤ (bestL l n).2 := by
  induction n with
  | zero => intro k hk; omega
  | succ n ih =>
    intro k hk h1 h2
    unfold bestL
    by_cases e : k = n
    · subst e
      split
      · exact Int.le_refl _
      · rename_i h
        have : ¬ (bestL l k).2 < (l.getD k v0).tokens := fun h3 => h ⟨h1, h2, h3⟩
        omega
    · have h3 := ih k (by omega) h1 h2
      split
      · rename_i h; simp only; omega
      · exact h3
theorem bestL_none (l : List VS) (n : Nat) (h : (bestL l n).1 < 0) : (bestL l n).2 = 0 := by
  induction n with
  | zero => rfl
  | succ n ih =>
    unfold bestL at h ⊢
    split at h
    · simp only at h; omega
    · rename_i h2
      rw [if_neg h2]; exact ih h
/-- nobody outside has more than one inside -/
structure Best (m : List VS) : Prop where
  le : ∀ i k, i < m.length → k < m.length → (m.getD i v0).inset = true → (m.getD k v0).inset = false → (m.getD k v0).jailed = false → (m.getD k v0).tokens ≤ (m.getD i v0).tokens
  ok : ∀ i, i < m.length → (m.getD i v0).inset = true → (m.getD i v0).jailed = false ∧ 0 < (m.getD i v0).tokens
theorem sumV_congr2 {f f' : VS → Int} {l : List VS} (h : ∀ j, j < l.length → f (l.getD j v0) = f' (l.getD j v0)) : sumV f l = sumV f' l := by
  unfold sumV
  congr 1
  apply List.ext_getElem?
  intro i
  simp only [List.getElem?_map]
  by_cases hi : i < l.length
  · have := h i hi
    have e2 : l[i] = l.getD i v0 := by simp [hi]
    rw [List.getElem?_eq_getElem hi, Option.map_some, Option.map_some, e2, this]
  · rw [List.getElem?_eq_none (by omega)]; rfl
theorem chooseL_best (n : Nat) (m : List VS) (h : Best m) : Best (chooseL n m) ∧ (chooseL n m).length = m.length ∧ sumV mayI (chooseL n m) = sumV mayI m ∧ sumV inI (chooseL n m) ≤ sumV inI m + n ∧ (sumV inI (chooseL n m) = sumV inI m + n ∨ sumV inI (chooseL n m) = sumV mayI m) := by
  induction n generalizing m with
  | zero => exact ⟨h, rfl, rfl, by show sumV inI m ≤ _; omega, .inl (by show sumV inI m = _; omega)⟩
  | succ n ih =>
    unfold chooseL
    by_cases hb : (bestL m m.length).1 < 0
    · rw [if_pos hb]
      refine ⟨h, rfl, rfl, by omega, .inr ?_⟩
      refine sumV_congr2 (fun j hj => ?_)
      unfold inI mayI
      have hz := bestL_none m m.length hb
      have hmax := bestL_max m m.length j hj
      by_cases hi : (m.getD j v0).inset = true
      · rw [if_pos hi, if_pos (h.ok j hj hi)]
      · rw [if_neg hi]
        have hi' : (m.getD j v0).inset = false := by simpa using hi
        rw [if_neg]
        rintro ⟨h1, h2⟩
        have := hmax hi' h1
        omega
    · rw [if_neg hb]
      rcases bestL_at m m.length with hm | ⟨i, h1, h2, h3, h4, h5, h6⟩
      · rw [hm] at hb; omega
      · rw [h1, Int.toNat_natCast]
        have hmax := bestL_max m m.length
        have hat : ∀ j, (m.modify i (fun v => { v with inset := true })).getD j v0 = if j = i then { m.getD i v0 with inset := true } else m.getD j v0 := fun j => val_mod m i j _ h2
        have hlen : (m.modify i (fun v => { v with inset := true })).length = m.length := by simp
        have hB : Best (m.modify i (fun v => { v with inset := true })) := by
          refine ⟨fun a k ha hk hin hout hj => ?_, fun a ha hin => ?_⟩
          · rw [hlen] at ha hk
            rw [hat k] at hout hj ⊢
            rw [hat a] at hin ⊢
            by_cases ek : k = i
            · rw [if_pos ek] at hout; simp at hout
            · rw [if_neg ek] at hout hj ⊢
              by_cases ea : a = i
              · rw [if_pos ea]
                have := hmax k hk hout hj
                simp only; omega
              · rw [if_neg ea] at hin ⊢
                exact h.le a k ha hk hin hout hj
          · rw [hlen] at ha
            rw [hat a] at hin ⊢
            by_cases ea : a = i
            · rw [if_pos ea]; exact ⟨h4, by simp only; omega⟩
            · rw [if_neg ea] at hin ⊢; exact h.ok a ha hin
        obtain ⟨g1, g2, g3, g4, g5⟩ := ih _ hB
        have s1 : sumV inI (m.modify i (fun v => { v with inset := true })) = sumV inI m + 1 := by
          rw [sumV_mod _ _ _ _ h2]
          have e1 : inI (m.getD i v0) = 0 := by unfold inI; rw [if_neg (by rw [h3]; decide)]
          have e2 : inI { m.getD i v0 with inset := true } = 1 := by unfold inI; rw [if_pos rfl]
          rw [e1, e2]; omega
        have s2 : sumV mayI (m.modify i (fun v => { v with inset := true })) = sumV mayI m := by
          rw [sumV_mod _ _ _ _ h2]
          have e2 : mayI { m.getD i v0 with inset := true } = mayI (m.getD i v0) := rfl
          rw [e2]; omega
        rw [s1] at g4 g5
        rw [s2] at g3 g5
        refine ⟨g1, g2.trans hlen, g3, by omega, ?_⟩
        rcases g5 with g5 | g5
        · left; omega
        · right; exact g5
theorem offL_best (l : List VS) : Best (offL l l.length) ∧ sumV inI (offL l l.length) = 0 := by
  have hat : ∀ j, j < l.length → (offL l l.length).getD j v0 = { l.getD j v0 with inset := false } := fun j hj => by rw [offL_at l _ j hj, if_pos hj]
  have hl := offL_len l l.length
  refine ⟨⟨fun i k hi hk hin => ?_, fun i hi hin => ?_⟩, ?_⟩
  · rw [hl] at hi; rw [hat i hi] at hin; simp at hin
  · rw [hl] at hi; rw [hat i hi] at hin; simp at hin
  · have : sumV inI (offL l l.length) = sumV (fun _ => 0) (offL l l.length) := sumV_congr2 (fun j hj => by
      rw [hl] at hj
      rw [hat j hj]; rfl)
    rw [this]
    unfold sumV
    generalize offL l l.length = m
    induction m with
    | nil => rfl
    | cons a m ih => simp only [List.map_cons, sumI, ih]; rfl
/-- the set that is chosen -/
theorem chooseF_best (l : List VS) (top : Int) (ht : 0 ≤ top) : Best (chooseF l top) ∧ (chooseF l top).length = l.length ∧ sumV inI (chooseF l top) ≤ top ∧ (sumV inI (chooseF l top) = top ∨ sumV inI (chooseF l top) = sumV mayI (chooseF l top)) := by
  obtain ⟨h1, h2⟩ := offL_best l
  obtain ⟨g1, g2, g3, g4, g5⟩ := chooseL_best top.toNat _ h1
  rw [h2] at g4 g5
  unfold chooseF
  refine ⟨g1, g2.trans (offL_len l _), by omega, ?_⟩
  rw [g3]
  rcases g5 with g5 | g5
  · left; omega
  · right; exact g5
theorem inI_bd (v : VS) : 0 ≤ inI v ∧ inI v ≤ 1 := by unfold inI; split <;> omega
end Go.Proofs.YtohjjgefklhmaaaGreatDoor

namespace Go.Proofs.YtohjjgefklhmaaaGreatDoor
open Go.ChangeShapes Go.WideShapes Go.ChangeAt Go.RowKit
set_option linter.unusedVariables false

theorem sumV_modify_le (f : VS → Int) (g : VS → VS) (l : List VS) (j : Nat) (h : ∀ v, f (g v) ≤ f v) : sumV f (l.modify j g) ≤ sumV f l := by
  by_cases hj : j < l.length
  · rw [sumV_mod f l j g hj]
    have := h (l.getD j v0)
    omega
  · have e : l.modify j g = l := by
      apply List.ext_getElem?
      intro i
      rw [List.getElem?_modify]
      by_cases ei : j = i
      · subst ei; rw [List.getElem?_eq_none (by omega)]; rfl
      · simp [ei]
    rw [e]; exact Int.le_refl _
/-- the table stands at accounts that are none; nobody comes into the set -/
structure Keep (x x' : EC) : Prop where
  bl : x'.bal.length = x.bal.length
  top : x'.top = x.top
  sh : ∀ k j, x.bal.length ≤ k → k < 6 → j < 5 → x'.sh k j = x.sh k j
  ins : sumV inI x'.vals ≤ sumV inI x.vals
theorem Keep.refl (x : EC) : Keep x x := ⟨rfl, rfl, fun _ _ _ _ _ => rfl, Int.le_refl _⟩
theorem Keep.trans {x y z : EC} (h : Keep x y) (h' : Keep y z) : Keep x z :=
  ⟨h'.bl.trans h.bl, h'.top.trans h.top, fun k j hk h6 h5 => (h'.sh k j (by rw [h.bl]; exact hk) h6 h5).trans (h.sh k j hk h6 h5), Int.le_trans h'.ins h.ins⟩
theorem getD_set_off {l : List Int} {i n : Nat} {y : Int} (h : i ≠ n) : (l.set i y).getD n 0 = l.getD n 0 := by
  simp only [List.getD]; rw [List.getElem?_set_ne h]
theorem Keep.charge (x : EC) (k : Nat) : Keep x (chargeFE x k) := ⟨by simp [chargeFE], rfl, fun _ _ _ _ _ => rfl, Int.le_refl _⟩
theorem Keep.pay (x : EC) (k j : Nat) : Keep x (payF x k j) :=
  ⟨by simp [payF], rfl, fun k' j' _ h6 h5 => by simp only [payF, EC.sh]; exact getD_set_off (by omega), sumV_modify_le _ _ _ _ (fun v => Int.le_refl _)⟩
theorem Keep.join (x : EC) (k j : Nat) (t : Int) (hk : k < x.bal.length) (hj : j < 5) : Keep x (joinFE x k j t) :=
  (Keep.pay x k j).trans ⟨rfl, rfl, fun k' j' hk' h6 h5 => by
    have : k < k' := by simp [payF] at hk'; omega
    simp only [joinFE, EC.sh]; exact getD_set_off (by omega), by
    simp only [joinFE]
    exact Int.le_trans (sumV_modify_le _ _ _ _ (fun v => Int.le_refl _)) (sumV_modify_le _ _ _ _ (fun v => Int.le_refl _))⟩
theorem Keep.gone (x : EC) (k j : Nat) (n t : Int) (hk : k < x.bal.length) (hj : j < 5) : Keep x (goneF x k j n t) :=
  ⟨rfl, rfl, fun k' j' hk' h6 h5 => by simp only [goneF, EC.sh]; exact getD_set_off (by omega), by
    simp only [goneF]
    exact Int.le_trans (sumV_modify_le _ _ _ _ (fun v => Int.le_refl _)) (sumV_modify_le _ _ _ _ (fun v => Int.le_refl _))⟩
theorem Keep.clear (x : EC) (j : Nat) : Keep x (clearF x j) := ⟨rfl, rfl, fun _ _ _ _ _ => rfl, sumV_modify_le _ _ _ _ (fun v => Int.le_refl _)⟩
theorem Keep.leave (x : EC) (k j : Nat) (n : Int) (hk : k < x.bal.length) (hj : j < 5) : Keep x (leaveF x k j n) := by
  have h1 := (Keep.pay x k j).trans (Keep.gone (payF x k j) k j n (tokensForF (x.val j) n) (by simp [payF]; exact hk) hj)
  unfold leaveF
  split
  · exact h1.trans (Keep.clear _ _)
  · exact h1
theorem Keep.ent (x : EC) (k j : Nat) (t : Int) : Keep x (entF x k j t) := by
  unfold entF
  split
  · exact Keep.refl x
  · exact ⟨rfl, rfl, fun _ _ _ _ _ => rfl, Int.le_refl _⟩
theorem Keep.coll (x : EC) (k j : Nat) : Keep x (collF x k j) :=
  ⟨by simp [collF], rfl, fun _ _ _ _ _ => rfl, by
    simp only [collF]
    exact Int.le_trans (sumV_modify_le _ _ _ _ (fun v => Int.le_refl _)) (sumV_modify_le _ _ _ _ (fun v => Int.le_refl _))⟩
theorem inI_off (v : VS) : inI { v with inset := false } ≤ inI v := by
  have := (inI_bd v).1
  have e : inI { v with inset := false } = 0 := by unfold inI; rw [if_neg (by simp)]
  omega
theorem Keep.slash (x : EC) (j : Nat) (hgt p : Int) : Keep x (slashF x j hgt p) :=
  ⟨rfl, rfl, fun _ _ _ _ _ => rfl, by
    simp only [slashF, jailF, slEntF, slTokF]
    exact Int.le_trans (sumV_modify_le _ _ _ _ (fun v => inI_off v)) (Int.le_trans (sumV_modify_le _ _ _ _ (fun v => Int.le_refl _)) (sumV_modify_le _ _ _ _ (fun v => Int.le_refl _)))⟩
theorem Keep.out (x : EC) (j : Nat) : Keep x (outF x j) := ⟨rfl, rfl, fun _ _ _ _ _ => rfl, sumV_modify_le _ _ _ _ (fun v => Int.le_refl _)⟩
theorem Keep.take (x : EC) (j : Nat) (a : Int) : Keep x (takeF x j a) := by
  have h1 : Keep x { x with vals := (x.vals.modify j (fun v => { v with comm := v.comm + a * (x.val j).rate / 100 })).modify j (fun v => { v with outs := v.outs + a }) } :=
    ⟨rfl, rfl, fun _ _ _ _ _ => rfl, Int.le_trans (sumV_modify_le _ _ _ _ (fun v => Int.le_refl _)) (sumV_modify_le _ _ _ _ (fun v => Int.le_refl _))⟩
  refine h1.trans ?_
  unfold takeF shareOutF
  split
  · exact Keep.refl _
  · exact ⟨rfl, rfl, fun k' j' _ h6 h5 => by simp only [EC.sh]; exact getD_set_off (by omega), Int.le_refl _⟩
theorem Keep.loop (x : EC) (f b : Int) (k : Nat) : Keep x (shLoop x f b k).1 := by
  induction k with
  | zero => exact Keep.refl x
  | succ k ih =>
    unfold shLoop
    split
    · exact ih.trans (Keep.take _ _ _)
    · exact ih
/-- what holds besides -/
structure InvB (x : EC) : Prop where
  ins : sumV inI x.vals ≤ x.top
  sh : ∀ k j, x.bal.length ≤ k → k < 6 → j < 5 → x.sh k j = 0
theorem InvB.keep {x x' : EC} (h : InvB x) (k : Keep x x') : InvB x' :=
  ⟨by rw [k.top]; exact Int.le_trans k.ins h.ins, fun a b ha h6 h5 => by rw [k.bl] at ha; rw [k.sh a b ha h6 h5]; exact h.sh a b ha h6 h5⟩
theorem InvB.block {x : EC} (h : InvB x) (ok : Fine x) : InvB (blkR x).2 := by
  have okx : Ok x.height x := ok
  have k1 := Keep.loop x x.fees (bondedN x.vals) x.vals.length
  unfold blkR
  split
  · exact h
  · have k2 : Keep x (payEF (upF x)) := k1.trans ⟨peLoop_len _ _, rfl, fun _ _ _ _ _ => rfl, Int.le_refl _⟩
    have h2 := h.keep k2
    have ht : 0 ≤ (payEF (upF x)).top := by rw [k2.top]; have := okx.top0; omega
    exact ⟨(chooseF_best _ _ ht).2.2.1, h2.sh⟩
theorem msgR_keep {P : EC → Prop} {x : EC} {who : Int} {err : EC → Nat → Int} {act : EC → Nat → EC} (h0 : P x) (h1 : ∀ k : Nat, k < x.bal.length → P (chargeFE x k)) (h2 : ∀ k : Nat, k < x.bal.length → err (chargeFE x k) k = 0 → P (act (chargeFE x k) k)) : P (msgR x who err act).2 := by
  by_cases hc : chErr x who = 0
  · obtain ⟨k, rfl, hk, _⟩ := chErr_ok hc
    by_cases he : err (chargeFE x k) k = 0
    · rw [msgR_ok hc he]; exact h2 k hk he
    · rw [msgR_err hc he]; exact h1 k hk
  · rw [msgR_fail hc]; exact h0
theorem InvB.does {x : EC} (h : InvB x) (ok : Fine x) (k a b c d : Int) : InvB (doesR x k a b c d).2 := by
  have okx : Ok x.height x := ok
  have v5 := okx.v5
  have hch : ∀ k : Nat, k < x.bal.length → InvB (chargeFE x k) := fun k _ => h.keep (Keep.charge x k)
  have hl : ∀ k : Nat, (chargeFE x k).bal.length = x.bal.length := fun k => (Keep.charge x k).bl
  have hvl : ∀ k : Nat, (chargeFE x k).vals.length = x.vals.length := fun k => rfl
  unfold doesR
  split
  · refine msgR_keep h hch (fun k hk he => (hch k hk).keep ⟨by simp [sentB], rfl, fun _ _ _ _ _ => rfl, Int.le_refl _⟩)
  split
  · unfold spendR
    split
    · exact h
    · exact h.keep ⟨by simp, rfl, fun _ _ _ _ _ => rfl, Int.le_refl _⟩
  split
  · refine msgR_keep h hch (fun k hk he => ?_)
    obtain ⟨j, rfl, hj, _⟩ := bondErrF_ok he
    have hkb : Keep (chargeFE x k) { chargeFE x k with bal := (chargeFE x k).bal.set k ((chargeFE x k).balAt k - c) } := ⟨by simp, rfl, fun _ _ _ _ _ => rfl, Int.le_refl _⟩
    refine (hch k hk).keep (hkb.trans (Keep.join _ k _ c ?_ ?_))
    · simp only [List.length_set]; rw [hl]; exact hk
    · rw [Int.toNat_natCast]; have := hvl k; omega
  split
  · refine msgR_keep h hch (fun k hk he => ?_)
    obtain ⟨j, rfl, hj, _⟩ := unbErrF_ok he
    refine (hch k hk).keep ((Keep.leave _ k _ c ?_ ?_).trans (Keep.ent _ _ _ _))
    · rw [hl]; exact hk
    · rw [Int.toNat_natCast]; have := hvl k; omega
  split
  · refine msgR_keep h hch (fun k hk he => ?_)
    obtain ⟨j, t, rfl, rfl, hj, ht, _⟩ := movErrF_ok he
    have k1 := Keep.leave (chargeFE x k) k (Int.toNat (j : Int)) d (by rw [hl]; exact hk) (by rw [Int.toNat_natCast]; have := hvl k; omega)
    refine (hch k hk).keep (k1.trans (Keep.join _ k _ _ ?_ ?_))
    · rw [k1.bl, hl]; exact hk
    · rw [Int.toNat_natCast]; have := hvl k; omega
  split
  · exact msgR_keep h hch (fun k hk he => (hch k hk).keep (Keep.pay _ _ _))
  split
  · exact msgR_keep h hch (fun k hk he => (hch k hk).keep (Keep.coll _ _ _))
  split
  · unfold slashR
    split
    · exact h
    · exact h.keep (Keep.slash _ _ _ _)
  split
  · exact msgR_keep h hch (fun k hk he => (hch k hk).keep (Keep.out _ _))
  · exact h.block ok
theorem xN_inv {bs os rs : List Int} {top mature fee : Int} (h : GoodGen bs os rs top mature fee) : InvB (xN bs os rs top mature fee) := by
  refine ⟨?_, fun k j _ _ _ => rep_getD 65 _⟩
  have e : sumV inI (xN bs os rs top mature fee).vals = 0 := vs0_sum os rs inI (fun o r => by unfold inI; rw [if_neg (by simp)])
  rw [e]
  have := h.2.2.1
  show 0 ≤ top
  omega
end Go.Proofs.YtohjjgefklhmaaaGreatDoor

namespace Go.Proofs.YtohjjgefklhmaaaGreatDoor
open Go.ChangeShapes Go.WideShapes Go.ChangeAt Go.RowKit
set_option linter.unusedVariables false

def sumN (f : Nat → Int) : Nat → Int
  | 0 => 0
  | n + 1 => sumN f n + f n
theorem sumN_congr {f f' : Nat → Int} (n : Nat) (h : ∀ k, k < n → f' k = f k) : sumN f' n = sumN f n := by
  induction n with
  | zero => rfl
  | succ n ih => simp only [sumN]; rw [ih (fun k hk => h k (by omega)), h n (by omega)]
theorem dRow_mem (s : Nat → Nat → Int) (who n : Nat) (d : DS) (h : d ∈ dRow s who n) : ∃ j : Nat, j < n ∧ d = ⟨who, j, s who j⟩ ∧ 0 < s who j := by
  induction n with
  | zero => simp [dRow] at h
  | succ n ih =>
    unfold dRow at h
    split at h
    · rename_i h0
      rw [List.mem_append] at h
      rcases h with h | h
      · obtain ⟨j, h1, h2⟩ := ih h; exact ⟨j, by omega, h2⟩
      · simp only [List.mem_singleton] at h; exact ⟨n, by omega, h, h0⟩
    · obtain ⟨j, h1, h2⟩ := ih h; exact ⟨j, by omega, h2⟩
theorem dAll_mem (s : Nat → Nat → Int) (nv n : Nat) (d : DS) (h : d ∈ dAll s nv n) : ∃ k j : Nat, k < n ∧ j < nv ∧ d = ⟨k, j, s k j⟩ ∧ 0 < s k j := by
  induction n with
  | zero => simp [dAll] at h
  | succ n ih =>
    unfold dAll at h
    rw [List.mem_append] at h
    rcases h with h | h
    · obtain ⟨k, j, h1, h2⟩ := ih h; exact ⟨k, j, by omega, h2⟩
    · obtain ⟨j, h1, h2⟩ := dRow_mem s n nv d h; exact ⟨n, j, by omega, h1, h2⟩
section
variable {H : Int} {x : EC}
end
end Go.Proofs.YtohjjgefklhmaaaGreatDoor
