import Derived.Test.YtohjjgefklhmaabGreatDoorGAlikeM
namespace Go.Proofs.YtohjjgefklhmaabGreatDoor
open Go.ChangeShapes Go.WideShapes Go.ChangeAt Go.RowKit
set_option linter.unusedVariables false

theorem sumV_modify_le (f : VS → Int) (g : VS → VS) (l : List VS) (j : Nat) (h : ∀ v, f (g v) ≤ f v) : sumV f (l.modify j g) ≤ sumV f l := by
  by_cases hj : j < l.length
  · rw [sumV_mod f l j g hj]
    have := h (l.getD j v0)
    omega
  · have e : l.modify j g = l := by
      apply List.ext_getElem?
      intro i
      rw [List.getElem?_modify]
      by_cases ei : j = i
      · subst ei; rw [List.getElem?_eq_none (by omega)]; rfl
      · simp [ei]
    rw [e]; exact Int.le_refl _
/-- the table stands at accounts that are none; nobody comes into the set -/
structure Keep (x x' : EC) : Prop where
  bl : x'.bal.length = x.bal.length
  top : x'.top = x.top
  sh : ∀ k j, x.bal.length ≤ k → k < 6 → j < 5 → x'.sh k j = x.sh k j
  ins : sumV inI x'.vals ≤ sumV inI x.vals
theorem Keep.refl (x : EC) : Keep x x := ⟨rfl, rfl, fun _ _ _ _ _ => rfl, Int.le_refl _⟩
theorem Keep.trans {x y z : EC} (h : Keep x y) (h' : Keep y z) : Keep x z :=
  ⟨h'.bl.trans h.bl, h'.top.trans h.top, fun k j hk h6 h5 => (h'.sh k j (by rw [h.bl]; exact hk) h6 h5).trans (h.sh k j hk h6 h5), Int.le_trans h'.ins h.ins⟩
theorem getD_set_off {l : List Int} {i n : Nat} {y : Int} (h : i ≠ n) : (l.set i y).getD n 0 = l.getD n 0 := by
  simp only [List.getD]; rw [List.getElem?_set_ne h]
theorem Keep.charge (x : EC) (k : Nat) : Keep x (chargeF x k) := ⟨by simp [chargeF], rfl, fun _ _ _ _ _ => rfl, Int.le_refl _⟩
theorem Keep.pay (x : EC) (k j : Nat) : Keep x (payF x k j) :=
  ⟨by simp [payF], rfl, fun k' j' _ h6 h5 => by simp only [payF, EC.sh]; exact getD_set_off (by omega), sumV_modify_le _ _ _ _ (fun v => Int.le_refl _)⟩
theorem Keep.join (x : EC) (k j : Nat) (t : Int) (hk : k < x.bal.length) (hj : j < 5) : Keep x (joinF x k j t) :=
  (Keep.pay x k j).trans ⟨rfl, rfl, fun k' j' hk' h6 h5 => by
    have : k < k' := by simp [payF] at hk'; omega
    simp only [joinF, EC.sh]; exact getD_set_off (by omega), by
    simp only [joinF]
    exact Int.le_trans (sumV_modify_le _ _ _ _ (fun v => Int.le_refl _)) (sumV_modify_le _ _ _ _ (fun v => Int.le_refl _))⟩
theorem Keep.gone (x : EC) (k j : Nat) (n t : Int) (hk : k < x.bal.length) (hj : j < 5) : Keep x (goneF x k j n t) :=
  ⟨rfl, rfl, fun k' j' hk' h6 h5 => by simp only [goneF, EC.sh]; exact getD_set_off (by omega), by
    simp only [goneF]
    exact Int.le_trans (sumV_modify_le _ _ _ _ (fun v => Int.le_refl _)) (sumV_modify_le _ _ _ _ (fun v => Int.le_refl _))⟩
theorem Keep.clear (x : EC) (j : Nat) : Keep x (clearF x j) := ⟨rfl, rfl, fun _ _ _ _ _ => rfl, sumV_modify_le _ _ _ _ (fun v => Int.le_refl _)⟩
theorem Keep.leave (x : EC) (k j : Nat) (n : Int) (hk : k < x.bal.length) (hj : j < 5) : Keep x (leaveF x k j n) := by
  have h1 := (Keep.pay x k j).trans (Keep.gone (payF x k j) k j n (tokensForF (x.val j) n) (by simp [payF]; exact hk) hj)
  unfold leaveF
  split
  · exact h1.trans (Keep.clear _ _)
  · exact h1
theorem Keep.ent (x : EC) (k j : Nat) (t : Int) : Keep x (entF x k j t) := by
  unfold entF
  split
  · exact Keep.refl x
  · exact ⟨rfl, rfl, fun _ _ _ _ _ => rfl, Int.le_refl _⟩
theorem Keep.coll (x : EC) (k j : Nat) : Keep x (collF x k j) :=
  ⟨by simp [collF], rfl, fun _ _ _ _ _ => rfl, by
    simp only [collF]
    exact Int.le_trans (sumV_modify_le _ _ _ _ (fun v => Int.le_refl _)) (sumV_modify_le _ _ _ _ (fun v => Int.le_refl _))⟩
theorem inI_off (v : VS) : inI { v with inset := false } ≤ inI v := by
  have := (inI_bd v).1
  have e : inI { v with inset := false } = 0 := by unfold inI; rw [if_neg (by simp)]
  omega
theorem Keep.slash (x : EC) (j : Nat) (hgt p : Int) : Keep x (slashF x j hgt p) :=
  ⟨rfl, rfl, fun _ _ _ _ _ => rfl, by
    simp only [slashF, jailF, slEntF, slTokF]
    exact Int.le_trans (sumV_modify_le _ _ _ _ (fun v => inI_off v)) (Int.le_trans (sumV_modify_le _ _ _ _ (fun v => Int.le_refl _)) (sumV_modify_le _ _ _ _ (fun v => Int.le_refl _)))⟩
theorem Keep.out (x : EC) (j : Nat) : Keep x (outF x j) := ⟨rfl, rfl, fun _ _ _ _ _ => rfl, sumV_modify_le _ _ _ _ (fun v => Int.le_refl _)⟩
theorem Keep.take (x : EC) (j : Nat) (a : Int) : Keep x (takeF x j a) := by
  have h1 : Keep x { x with vals := (x.vals.modify j (fun v => { v with comm := v.comm + a * (x.val j).rate / 100 })).modify j (fun v => { v with outs := v.outs + a }) } :=
    ⟨rfl, rfl, fun _ _ _ _ _ => rfl, Int.le_trans (sumV_modify_le _ _ _ _ (fun v => Int.le_refl _)) (sumV_modify_le _ _ _ _ (fun v => Int.le_refl _))⟩
  refine h1.trans ?_
  unfold takeF shareOutF
  split
  · exact Keep.refl _
  · exact ⟨rfl, rfl, fun k' j' _ h6 h5 => by simp only [EC.sh]; exact getD_set_off (by omega), Int.le_refl _⟩
theorem Keep.loop (x : EC) (f b : Int) (k : Nat) : Keep x (shLoop x f b k).1 := by
  induction k with
  | zero => exact Keep.refl x
  | succ k ih =>
    unfold shLoop
    split
    · exact ih.trans (Keep.take _ _ _)
    · exact ih
/-- what holds besides -/
structure InvB (x : EC) : Prop where
  ins : sumV inI x.vals ≤ x.top
  sh : ∀ k j, x.bal.length ≤ k → k < 6 → j < 5 → x.sh k j = 0
theorem InvB.keep {x x' : EC} (h : InvB x) (k : Keep x x') : InvB x' :=
  ⟨by rw [k.top]; exact Int.le_trans k.ins h.ins, fun a b ha h6 h5 => by rw [k.bl] at ha; rw [k.sh a b ha h6 h5]; exact h.sh a b ha h6 h5⟩
theorem InvB.block {x : EC} (h : InvB x) (ok : Fine x) : InvB (blkR x).2 := by
  have okx : Ok x.height x := ok
  have k1 := Keep.loop x x.fees (bondedN x.vals) x.vals.length
  unfold blkR
  split
  · exact h
  · have k2 : Keep x (payEF (upF x)) := k1.trans ⟨peLoop_len _ _, rfl, fun _ _ _ _ _ => rfl, Int.le_refl _⟩
    have h2 := h.keep k2
    have ht : 0 ≤ (payEF (upF x)).top := by rw [k2.top]; have := okx.top0; omega
    exact ⟨(chooseF_best _ _ ht).2.2.1, h2.sh⟩
theorem msgR_keep {P : EC → Prop} {x : EC} {who : Int} {err : EC → Nat → Int} {act : EC → Nat → EC} (h0 : P x) (h1 : ∀ k : Nat, k < x.bal.length → P (chargeF x k)) (h2 : ∀ k : Nat, k < x.bal.length → err (chargeF x k) k = 0 → P (act (chargeF x k) k)) : P (msgR x who err act).2 := by
  by_cases hc : chErr x who = 0
  · obtain ⟨k, rfl, hk, _⟩ := chErr_ok hc
    by_cases he : err (chargeF x k) k = 0
    · rw [msgR_ok hc he]; exact h2 k hk he
    · rw [msgR_err hc he]; exact h1 k hk
  · rw [msgR_fail hc]; exact h0
theorem InvB.does {x : EC} (h : InvB x) (ok : Fine x) (k a b c d : Int) : InvB (doesR x k a b c d).2 := by
  have okx : Ok x.height x := ok
  have v5 := okx.v5
  have hch : ∀ k : Nat, k < x.bal.length → InvB (chargeF x k) := fun k _ => h.keep (Keep.charge x k)
  have hl : ∀ k : Nat, (chargeF x k).bal.length = x.bal.length := fun k => (Keep.charge x k).bl
  have hvl : ∀ k : Nat, (chargeF x k).vals.length = x.vals.length := fun k => rfl
  unfold doesR
  split
  · refine msgR_keep h hch (fun k hk he => (hch k hk).keep ⟨by simp [sentB], rfl, fun _ _ _ _ _ => rfl, Int.le_refl _⟩)
  split
  · unfold spendR
    split
    · exact h
    · exact h.keep ⟨by simp, rfl, fun _ _ _ _ _ => rfl, Int.le_refl _⟩
  split
  · refine msgR_keep h hch (fun k hk he => ?_)
    obtain ⟨j, rfl, hj, _⟩ := bondErrF_ok he
    have hkb : Keep (chargeF x k) { chargeF x k with bal := (chargeF x k).bal.set k ((chargeF x k).balAt k - c) } := ⟨by simp, rfl, fun _ _ _ _ _ => rfl, Int.le_refl _⟩
    refine (hch k hk).keep (hkb.trans (Keep.join _ k _ c ?_ ?_))
    · simp only [List.length_set]; rw [hl]; exact hk
    · rw [Int.toNat_natCast]; have := hvl k; omega
  split
  · refine msgR_keep h hch (fun k hk he => ?_)
    obtain ⟨j, rfl, hj, _⟩ := unbErrF_ok he
    refine (hch k hk).keep ((Keep.leave _ k _ c ?_ ?_).trans (Keep.ent _ _ _ _))
    · rw [hl]; exact hk
    · rw [Int.toNat_natCast]; have := hvl k; omega
  split
  · refine msgR_keep h hch (fun k hk he => ?_)
    obtain ⟨j, t, rfl, rfl, hj, ht, _⟩ := movErrF_ok he
    have k1 := Keep.leave (chargeF x k) k (Int.toNat (j : Int)) d (by rw [hl]; exact hk) (by rw [Int.toNat_natCast]; have := hvl k; omega)
    refine (hch k hk).keep (k1.trans (Keep.join _ k _ _ ?_ ?_))
    · rw [k1.bl, hl]; exact hk
    · rw [Int.toNat_natCast]; have := hvl k; omega
  split
  · exact msgR_keep h hch (fun k hk he => (hch k hk).keep (Keep.pay _ _ _))
  split
  · exact msgR_keep h hch (fun k hk he => (hch k hk).keep (Keep.coll _ _ _))
  split
  · unfold slashR
    split
    · exact h
    · exact h.keep (Keep.slash _ _ _ _)
  split
  · exact msgR_keep h hch (fun k hk he => (hch k hk).keep (Keep.out _ _))
  · exact h.block ok
theorem xN_inv {bs os rs : List Int} {top mature fee : Int} (h : GoodGen bs os rs top mature fee) : InvB (xN bs os rs top mature fee) := by
  refine ⟨?_, fun k j _ _ _ => rep_getD 65 _⟩
  have e : sumV inI (xN bs os rs top mature fee).vals = 0 := vs0_sum os rs inI (fun o r => by unfold inI; rw [if_neg (by simp)])
  rw [e]
  have := h.2.2.1
  show 0 ≤ top
  omega
end Go.Proofs.YtohjjgefklhmaabGreatDoor

namespace Go.Proofs.YtohjjgefklhmaabGreatDoor
open Go.ChangeShapes Go.WideShapes Go.ChangeAt Go.RowKit
set_option linter.unusedVariables false

def sumN (f : Nat → Int) : Nat → Int
  | 0 => 0
  | n + 1 => sumN f n + f n
theorem sumN6 (f : Nat → Int) : sumN f 6 = sum6 f := by simp [sumN, sum6]
theorem sumN_congr {f f' : Nat → Int} (n : Nat) (h : ∀ k, k < n → f' k = f k) : sumN f' n = sumN f n := by
  induction n with
  | zero => rfl
  | succ n ih => simp only [sumN]; rw [ih (fun k hk => h k (by omega)), h n (by omega)]
theorem sumN_tail {f : Nat → Int} (n d : Nat) (h : ∀ k, n ≤ k → k < n + d → f k = 0) : sumN f (n + d) = sumN f n := by
  induction d with
  | zero => rfl
  | succ d ih =>
    show sumN f (n + d) + f (n + d) = _
    rw [ih (fun k h1 h2 => h k h1 (by omega)), h (n + d) (by omega) (by omega)]; omega
theorem sumN_mono {f : Nat → Int} (n d : Nat) (h : ∀ k, n ≤ k → k < n + d → 0 ≤ f k) : sumN f n ≤ sumN f (n + d) := by
  induction d with
  | zero => exact Int.le_refl _
  | succ d ih =>
    have h1 := ih (fun k h1 h2 => h k h1 (by omega))
    have h2 := h (n + d) (by omega) (by omega)
    show _ ≤ sumN f (n + d) + f (n + d)
    omega
theorem sumN_scale {f g : Nat → Int} (c : Int) (n : Nat) (h : ∀ k, k < n → c * f k ≤ g k) : c * sumN f n ≤ sumN g n := by
  induction n with
  | zero => simp [sumN]
  | succ n ih =>
    have h1 := ih (fun k hk => h k (by omega))
    have h2 := h n (by omega)
    simp only [sumN]
    rw [Int.mul_add]; omega
theorem dRow_sum (s : Nat → Nat → Int) (who n j : Nat) (T : DS → Int) (y : Int) (hT : ∀ i : Nat, T ⟨who, i, s who i⟩ = if i = j then y else 0) : sumI ((dRow s who n).map T) = if j < n ∧ 0 < s who j then y else 0 := by
  induction n with
  | zero => simp [dRow, sumI]
  | succ n ih =>
    unfold dRow
    by_cases h : 0 < s who n
    · rw [if_pos h, List.map_append, sumI_append, ih]
      simp only [List.map_cons, List.map_nil, sumI]
      rw [hT n]
      by_cases e : n = j
      · subst e
        rw [if_neg (by omega), if_pos rfl, if_pos ⟨by omega, h⟩]; omega
      · rw [if_neg e]
        by_cases h2 : j < n ∧ 0 < s who j
        · rw [if_pos h2, if_pos ⟨by omega, h2.2⟩]; omega
        · rw [if_neg h2, if_neg (fun h3 => h2 ⟨by omega, h3.2⟩)]; omega
    · rw [if_neg h, ih]
      by_cases e : n = j
      · subst e
        rw [if_neg (by omega), if_neg (by omega)]
      · by_cases h2 : j < n ∧ 0 < s who j
        · rw [if_pos h2, if_pos ⟨by omega, h2.2⟩]
        · rw [if_neg h2, if_neg (fun h3 => h2 ⟨by omega, h3.2⟩)]
theorem dAll_sum (s : Nat → Nat → Int) (nv n j : Nat) (hj : j < nv) (T : DS → Int) (F : Nat → Int) (hT : ∀ k i : Nat, T ⟨k, i, s k i⟩ = if i = j then F k else 0) : sumI ((dAll s nv n).map T) = sumN (fun k => if 0 < s k j then F k else 0) n := by
  induction n with
  | zero => rfl
  | succ n ih =>
    unfold dAll
    rw [List.map_append, sumI_append, ih, dRow_sum s n nv j T (F n) (hT n)]
    simp only [sumN]
    by_cases h : 0 < s n j
    · rw [if_pos ⟨hj, h⟩, if_pos h]
    · rw [if_neg (fun h2 => h h2.2), if_neg h]
theorem dRow_mem (s : Nat → Nat → Int) (who n : Nat) (d : DS) (h : d ∈ dRow s who n) : ∃ j : Nat, j < n ∧ d = ⟨who, j, s who j⟩ ∧ 0 < s who j := by
  induction n with
  | zero => simp [dRow] at h
  | succ n ih =>
    unfold dRow at h
    split at h
    · rename_i h0
      rw [List.mem_append] at h
      rcases h with h | h
      · obtain ⟨j, h1, h2⟩ := ih h; exact ⟨j, by omega, h2⟩
      · simp only [List.mem_singleton] at h; exact ⟨n, by omega, h, h0⟩
    · obtain ⟨j, h1, h2⟩ := ih h; exact ⟨j, by omega, h2⟩
theorem dAll_mem (s : Nat → Nat → Int) (nv n : Nat) (d : DS) (h : d ∈ dAll s nv n) : ∃ k j : Nat, k < n ∧ j < nv ∧ d = ⟨k, j, s k j⟩ ∧ 0 < s k j := by
  induction n with
  | zero => simp [dAll] at h
  | succ n ih =>
    unfold dAll at h
    rw [List.mem_append] at h
    rcases h with h | h
    · obtain ⟨k, j, h1, h2⟩ := ih h; exact ⟨k, j, by omega, h2⟩
    · obtain ⟨j, h1, h2⟩ := dRow_mem s n nv d h; exact ⟨n, j, by omega, h1, h2⟩
/-- what a delegation adds -/
def shT (j : Int) (d : DS) : Int := if d.val = j then d.shares else 0
def uT (T : DS → Int) (j : Int) (d : DS) : Int := if d.val = j then T d else 0
def dueD (x : EC) (d : DS) : Int := x.due d.who.toNat d.val.toNat
def duT (x : EC) (j : Int) (d : DS) : Int := uT (dueD x) j d
def dels (x : EC) : List DS := dAll x.sh x.vals.length x.bal.length
def dueAt (x : EC) (j : Nat) : Int := sumI ((dels x).map (duT x j))
section
variable {H : Int} {x : EC}
theorem Ok.sharesAt (ok : Ok H x) (ib : InvB x) {j : Nat} (hj : j < x.vals.length) : sumI ((dels x).map (shT j)) = (x.val j).shares := by
  have v5 := ok.v5
  have b6 := ok.b6
  unfold dels
  rw [dAll_sum x.sh x.vals.length x.bal.length j hj (shT j) (fun k => x.sh k j) (fun k i => by
    unfold shT
    by_cases e : i = j
    · subst e; rw [if_pos rfl, if_pos rfl]
    · rw [if_neg e, if_neg (by simp only; omega)])]
  rw [← ok.shs j hj, ← sumN6]
  have e1 : sumN (fun k => if 0 < x.sh k j then x.sh k j else 0) x.bal.length = sumN (fun k => x.sh k j) x.bal.length := sumN_congr _ (fun k hk => by
    have := ok.sh0 k j (by omega) (by omega)
    split <;> omega)
  rw [e1]
  have e2 := sumN_tail (f := fun k => x.sh k j) x.bal.length (6 - x.bal.length) (fun k h1 h2 => ib.sh k j h1 (by omega) (by omega))
  rw [show x.bal.length + (6 - x.bal.length) = 6 by omega] at e2
  exact e2.symm
theorem Ok.dueAt_le (ok : Ok H x) {j : Nat} (hj : j < x.vals.length) : 0 ≤ dueAt x j ∧ dueAt x j ≤ (x.val j).outs - (x.val j).comm := by
  have v5 := ok.v5
  have b6 := ok.b6
  have e0 : dueAt x j = sumN (fun k => if 0 < x.sh k j then x.due k j else 0) x.bal.length := by
    unfold dueAt dels
    rw [dAll_sum x.sh x.vals.length x.bal.length j hj (duT x j) (fun k => x.due k j) (fun k i => by
      unfold duT uT dueD
      by_cases e : i = j
      · subst e; rw [if_pos rfl, if_pos rfl, Int.toNat_natCast, Int.toNat_natCast]
      · rw [if_neg e, if_neg (by simp only; omega)])]
  have h1 : (1073741824 : Int) * sumN (fun k => if 0 < x.sh k j then x.due k j else 0) x.bal.length ≤ sumN (fun k => x.sh k j * (x.per j - x.upto k j)) x.bal.length := sumN_scale _ _ (fun k hk => by
    split
    · exact (ok.due_le (k := k) (by omega) hj).2.2
    · have := ok.term (k := k) (j := j) (by omega) (by omega); omega)
  have h2 := sumN_mono (f := fun k => x.sh k j * (x.per j - x.upto k j)) x.bal.length (6 - x.bal.length) (fun k _ h2 => ok.term (by omega) (by omega))
  rw [show x.bal.length + (6 - x.bal.length) = 6 by omega, sumN6] at h2
  have h3 := ok.due j hj
  have h4 := sumN_mono (f := fun k => if 0 < x.sh k j then x.due k j else 0) 0 x.bal.length (fun k _ h2 => by
    split
    · exact (ok.due_le (k := k) (by omega) hj).1
    · exact Int.le_refl _)
  rw [Nat.zero_add] at h4
  have h5 : sumN (fun k => if 0 < x.sh k j then x.due k j else 0) 0 = 0 := rfl
  rw [e0]
  omega
end
theorem sumI_part {l : List Int} (h : ∀ a, a ∈ l → 0 ≤ a) (k : Nat) : 0 ≤ sumI (l.take k) ∧ sumI (l.take k) ≤ sumI l := by
  induction l generalizing k with
  | nil => simp [sumI]
  | cons a l ih =>
    have h0 := h a (by simp)
    have h1 := fun k => ih (fun b hb => h b (by simp [hb])) k
    cases k with
    | zero =>
      have := h1 l.length
      rw [List.take_of_length_le (Nat.le_refl _)] at this
      simp only [List.take_zero, sumI]; omega
    | succ k =>
      have := h1 k
      simp only [List.take_succ_cons, sumI]; omega
theorem sumT_snoc (T : DS → Int) (l : List DS) (k : Nat) (h : k < l.length) : sumI ((l.take (k + 1)).map T) = sumI ((l.take k).map T) + T l[k] := by
  rw [List.take_succ_eq_append_getElem h, List.map_append, sumI_append]
  simp [sumI]
theorem sumT_bd (T : DS → Int) (l : List DS) (h : ∀ d, d ∈ l → 0 ≤ T d) (k : Nat) : 0 ≤ sumI ((l.take k).map T) ∧ sumI ((l.take k).map T) ≤ sumI (l.map T) := by
  have := sumI_part (l := l.map T) (fun a ha => by obtain ⟨d, hd, rfl⟩ := List.mem_map.1 ha; exact h d hd) k
  rwa [← List.map_take] at this
theorem Ok.terms {H : Int} {x : EC} (ok : Ok H x) (j : Nat) : (∀ d, d ∈ dels x → 0 ≤ shT j d) ∧ (∀ d, d ∈ dels x → 0 ≤ duT x j d) := by
  have v5 := ok.v5
  have b6 := ok.b6
  constructor
  · intro d hd
    obtain ⟨k, i, h1, h2, rfl, h4⟩ := dAll_mem _ _ _ _ hd
    unfold shT; simp only; split <;> omega
  · intro d hd
    obtain ⟨k, i, h1, h2, rfl, h4⟩ := dAll_mem _ _ _ _ hd
    unfold duT uT dueD; simp only
    rw [Int.toNat_natCast, Int.toNat_natCast]
    split
    · exact (ok.due_le (k := k) (by omega) h2).1
    · exact Int.le_refl _
end Go.Proofs.YtohjjgefklhmaabGreatDoor
