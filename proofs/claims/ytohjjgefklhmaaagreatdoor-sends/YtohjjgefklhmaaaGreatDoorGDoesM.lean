import Derived.Test.YtohjjgefklhmaaaGreatDoorESee4M
namespace Go.Proofs.YtohjjgefklhmaaaGreatDoor
open Go.ChangeShapes Go.WideShapes Go.ChangeAt Go.RowKit
set_option linter.unusedVariables false

def doesR (x : EC) (k a b c d : Int) : Int × EC :=
  if k = 1 then sendR x a b c else if k = 2 then spendR x a b else if k = 3 then bondR x a b c else if k = 4 then unbR x a b c else if k = 5 then movR x a b c d else if k = 6 then withR x a b else if k = 7 then collR x a b else if k = 8 then slashR x a b c else if k = 9 then freeR x a b else blkR x

/-- what a step is told to have done -/
def DPostE (S : Nat → Prop) (W0 w' : World) (g : Nat) (x : EC) (bv vv : Value) (n : Nat) (e : Ending) (r : Int × EC) : Prop := e = .returned (.int .i64 r.1) ∧ Eng S W0 w' g r.2 bv vv ∧ Left x r.2 n

theorem Eng.below {S : Nat → Prop} {W0 w w' : World} {g : Nat} {x : EC} {bv vv : Value} (h : Eng S W0 w g x bv vv) (hb : Below w.heap.size w w') : Eng S W0 w' g x bv vv := by
  obtain ⟨ev, h⟩ := h; exact ⟨ev, h.below hb⟩
theorem Eng.alloc {S : Nat → Prop} {W0 w : World} {g : Nat} {x : EC} {bv vv : Value} (h : Eng S W0 w g x bv vv) (o : Obj) : Eng S W0 (w.alloc o) g x bv vv := by
  obtain ⟨ev, h⟩ := h; exact ⟨ev, h.alloc o⟩

end Go.Proofs.YtohjjgefklhmaaaGreatDoor

namespace Go.Proofs.YtohjjgefklhmaaaGreatDoor
open Go.ChangeShapes Go.WideShapes Go.ChangeAt Go.RowKit
set_option linter.unusedVariables false

theorem bl_sum (l : List VS) (a b : Int) : l.foldl (fun n v => if v.inset = true then n + v.tokens else n) a + l.foldl (fun n v => if v.inset = true then n else n + v.tokens) b = a + b + sumV (·.tokens) l := by
  induction l generalizing a b with
  | nil => simp [sumV, sumI]
  | cons v l ih =>
    simp only [List.foldl_cons]
    cases hv : v.inset with
    | true =>
      rw [if_pos rfl, if_pos rfl, ih]
      simp only [sumV, List.map_cons, sumI]; omega
    | false =>
      rw [if_neg (by decide), if_neg (by decide), ih]
      simp only [sumV, List.map_cons, sumI]; omega
theorem sumE_eq (l : List ES) (a : Int) : l.foldl (fun n v => n + v.amount) a = a + sumI (l.map (·.amount)) := by
  induction l generalizing a with
  | nil => simp [sumI]
  | cons v l ih => simp only [List.foldl_cons, ih, List.map_cons, sumI]; omega
theorem tot_eq (x : EC) : x.tot = x.fees + x.pool + bondedN x.vals + (looseV x.vals + sumE x.ents) + sumI x.bal + sumV (·.outs) x.vals := by
  have h1 := bl_sum x.vals 0 0
  have h2 := sumE_eq x.ents 0
  unfold EC.tot bondedN looseV sumE
  omega
theorem sumI_take (l : List Int) (k : Nat) (h : k < l.length) : sumI (l.take (k + 1)) = sumI (l.take k) + l.getD k 0 := by
  rw [List.take_succ_eq_append_getElem h, sumI_append]; simp [sumI, h]
theorem sumV_take (f : VS → Int) (l : List VS) (k : Nat) (h : k < l.length) : sumV f (l.take (k + 1)) = sumV f (l.take k) + f l[k] := by
  unfold sumV
  rw [List.take_succ_eq_append_getElem h, List.map_append, sumI_append]; simp [sumI]
theorem sumI_tk {l : List Int} (hn : ∀ k, k < l.length → 0 ≤ l.getD k 0) (k : Nat) (hk : k ≤ l.length) : 0 ≤ sumI (l.take k) ∧ sumI (l.take k) ≤ sumI l := by
  have key : ∀ m (l : List Int), (∀ k, k < l.length → 0 ≤ l.getD k 0) → 0 ≤ sumI (l.take m) ∧ sumI (l.take m) ≤ sumI l := by
    intro m
    induction m with
    | zero => intro l hn; exact ⟨by simp [sumI], by simp [sumI]; exact sumI_nn l hn⟩
    | succ m ih =>
      intro l hn
      cases l with
      | nil => simp [sumI]
      | cons a l =>
        have h0 := hn 0 (by simp)
        simp only [List.getD_cons_zero] at h0
        have := ih l (fun k hk => by have := hn (k + 1) (by simpa using hk); simpa using this)
        simp only [List.take_succ_cons, sumI]; omega
  exact key k l hn
theorem sumV_tk {f : VS → Int} {l : List VS} (hn : ∀ k (h : k < l.length), 0 ≤ f l[k]) (k : Nat) (hk : k ≤ l.length) : 0 ≤ sumV f (l.take k) ∧ sumV f (l.take k) ≤ sumV f l := by
  have := sumI_tk (l := l.map f) (fun i hi => by
    have hi' : i < l.length := by simpa using hi
    have : (l.map f).getD i 0 = f l[i] := by simp [hi']
    rw [this]; exact hn i hi') k (by simpa using hk)
  unfold sumV
  rw [List.map_take]
  exact this

end Go.Proofs.YtohjjgefklhmaaaGreatDoor

namespace Go.Proofs.YtohjjgefklhmaaaGreatDoor
open Go.ChangeShapes Go.WideShapes Go.ChangeAt Go.RowKit
set_option linter.unusedVariables false

def inI (v : VS) : Int := if v.inset = true then 1 else 0
def mayI (v : VS) : Int := if v.jailed = false ∧ 0 < v.tokens then 1 else 0
theorem bestL_max (l : List VS) (n : Nat) : ∀ k, k < n → (l.getD k v0).inset = false → (l.getD k v0).jailed = false → (l.getD k v0).tokens ≤ (bestL l n).2 := by
  induction n with
  | zero => intro k hk; omega
  | succ n ih =>
    intro k hk h1 h2
    unfold bestL
    by_cases e : k = n
    · subst e
      split
      · exact Int.le_refl _
      · rename_i h
        have : ¬ (bestL l k).2 < (l.getD k v0).tokens := fun h3 => h ⟨h1, h2, h3⟩
        omega
    · have h3 := ih k (by omega) h1 h2
      split
      · rename_i h; simp only; omega
      · exact h3
theorem bestL_none (l : List VS) (n : Nat) (h : (bestL l n).1 < 0) : (bestL l n).2 = 0 := by
  induction n with
  | zero => rfl
  | succ n ih =>
    unfold bestL at h ⊢
    split at h
    · simp only at h; omega
    · rename_i h2
      rw [if_neg h2]; exact ih h
/-- nobody outside has more than one inside -/
structure Best (m : List VS) : Prop where
  le : ∀ i k, i < m.length → k < m.length → (m.getD i v0).inset = true → (m.getD k v0).inset = false → (m.getD k v0).jailed = false → (m.getD k v0).tokens ≤ (m.getD i v0).tokens
  ok : ∀ i, i < m.length → (m.getD i v0).inset = true → (m.getD i v0).jailed = false ∧ 0 < (m.getD i v0).tokens
theorem sumV_congr {f : VS → Int} {l l' : List VS} (hl : l'.length = l.length) (h : ∀ j, j < l.length → f (l'.getD j v0) = f (l.getD j v0)) : sumV f l' = sumV f l := by
  unfold sumV
  congr 1
  apply List.ext_getElem?
  intro i
  simp only [List.getElem?_map]
  by_cases hi : i < l.length
  · have hi' : i < l'.length := by omega
    have := h i hi
    have e1 : l'[i] = l'.getD i v0 := by simp [hi']
    have e2 : l[i] = l.getD i v0 := by simp [hi]
    rw [List.getElem?_eq_getElem hi, List.getElem?_eq_getElem hi', Option.map_some, Option.map_some, e1, e2, this]
  · rw [List.getElem?_eq_none (by omega), List.getElem?_eq_none (by omega)]
theorem sumV_congr2 {f f' : VS → Int} {l : List VS} (h : ∀ j, j < l.length → f (l.getD j v0) = f' (l.getD j v0)) : sumV f l = sumV f' l := by
  unfold sumV
  congr 1
  apply List.ext_getElem?
  intro i
  simp only [List.getElem?_map]
  by_cases hi : i < l.length
  · have := h i hi
    have e2 : l[i] = l.getD i v0 := by simp [hi]
    rw [List.getElem?_eq_getElem hi, Option.map_some, Option.map_some, e2, this]
  · rw [List.getElem?_eq_none (by omega)]; rfl
theorem chooseL_best (n : Nat) (m : List VS) (h : Best m) : Best (chooseL n m) ∧ (chooseL n m).length = m.length ∧ sumV mayI (chooseL n m) = sumV mayI m ∧ sumV inI (chooseL n m) ≤ sumV inI m + n ∧ (sumV inI (chooseL n m) = sumV inI m + n ∨ sumV inI (chooseL n m) = sumV mayI m) := by
  induction n generalizing m with
  | zero => exact ⟨h, rfl, rfl, by show sumV inI m ≤ _; omega, .inl (by show sumV inI m = _; omega)⟩
  | succ n ih =>
    unfold chooseL
    by_cases hb : (bestL m m.length).1 < 0
    · rw [if_pos hb]
      refine ⟨h, rfl, rfl, by omega, .inr ?_⟩
      refine sumV_congr2 (fun j hj => ?_)
      unfold inI mayI
      have hz := bestL_none m m.length hb
      have hmax := bestL_max m m.length j hj
      by_cases hi : (m.getD j v0).inset = true
      · rw [if_pos hi, if_pos (h.ok j hj hi)]
      · rw [if_neg hi]
        have hi' : (m.getD j v0).inset = false := by simpa using hi
        rw [if_neg]
        rintro ⟨h1, h2⟩
        have := hmax hi' h1
        omega
    · rw [if_neg hb]
      rcases bestL_at m m.length with hm | ⟨i, h1, h2, h3, h4, h5, h6⟩
      · rw [hm] at hb; omega
      · rw [h1, Int.toNat_natCast]
        have hmax := bestL_max m m.length
        have hat : ∀ j, (m.modify i (fun v => { v with inset := true })).getD j v0 = if j = i then { m.getD i v0 with inset := true } else m.getD j v0 := fun j => val_mod m i j _ h2
        have hlen : (m.modify i (fun v => { v with inset := true })).length = m.length := by simp
        have hB : Best (m.modify i (fun v => { v with inset := true })) := by
          refine ⟨fun a k ha hk hin hout hj => ?_, fun a ha hin => ?_⟩
          · rw [hlen] at ha hk
            rw [hat k] at hout hj ⊢
            rw [hat a] at hin ⊢
            by_cases ek : k = i
            · rw [if_pos ek] at hout; simp at hout
            · rw [if_neg ek] at hout hj ⊢
              by_cases ea : a = i
              · rw [if_pos ea]
                have := hmax k hk hout hj
                simp only; omega
              · rw [if_neg ea] at hin ⊢
                exact h.le a k ha hk hin hout hj
          · rw [hlen] at ha
            rw [hat a] at hin ⊢
            by_cases ea : a = i
            · rw [if_pos ea]; exact ⟨h4, by simp only; omega⟩
            · rw [if_neg ea] at hin ⊢; exact h.ok a ha hin
        obtain ⟨g1, g2, g3, g4, g5⟩ := ih _ hB
        have s1 : sumV inI (m.modify i (fun v => { v with inset := true })) = sumV inI m + 1 := by
          rw [sumV_mod _ _ _ _ h2]
          have e1 : inI (m.getD i v0) = 0 := by unfold inI; rw [if_neg (by rw [h3]; decide)]
          have e2 : inI { m.getD i v0 with inset := true } = 1 := by unfold inI; rw [if_pos rfl]
          rw [e1, e2]; omega
        have s2 : sumV mayI (m.modify i (fun v => { v with inset := true })) = sumV mayI m := by
          rw [sumV_mod _ _ _ _ h2]
          have e2 : mayI { m.getD i v0 with inset := true } = mayI (m.getD i v0) := rfl
          rw [e2]; omega
        rw [s1] at g4 g5
        rw [s2] at g3 g5
        refine ⟨g1, g2.trans hlen, g3, by omega, ?_⟩
        rcases g5 with g5 | g5
        · left; omega
        · right; exact g5
theorem offL_best (l : List VS) : Best (offL l l.length) ∧ sumV inI (offL l l.length) = 0 := by
  have hat : ∀ j, j < l.length → (offL l l.length).getD j v0 = { l.getD j v0 with inset := false } := fun j hj => by rw [offL_at l _ j hj, if_pos hj]
  have hl := offL_len l l.length
  refine ⟨⟨fun i k hi hk hin => ?_, fun i hi hin => ?_⟩, ?_⟩
  · rw [hl] at hi; rw [hat i hi] at hin; simp at hin
  · rw [hl] at hi; rw [hat i hi] at hin; simp at hin
  · have : sumV inI (offL l l.length) = sumV (fun _ => 0) (offL l l.length) := sumV_congr2 (fun j hj => by
      rw [hl] at hj
      rw [hat j hj]; rfl)
    rw [this]
    unfold sumV
    generalize offL l l.length = m
    induction m with
    | nil => rfl
    | cons a m ih => simp only [List.map_cons, sumI, ih]; rfl
/-- the set that is chosen -/
theorem chooseF_best (l : List VS) (top : Int) (ht : 0 ≤ top) : Best (chooseF l top) ∧ (chooseF l top).length = l.length ∧ sumV inI (chooseF l top) ≤ top ∧ (sumV inI (chooseF l top) = top ∨ sumV inI (chooseF l top) = sumV mayI (chooseF l top)) := by
  obtain ⟨h1, h2⟩ := offL_best l
  obtain ⟨g1, g2, g3, g4, g5⟩ := chooseL_best top.toNat _ h1
  rw [h2] at g4 g5
  unfold chooseF
  refine ⟨g1, g2.trans (offL_len l _), by omega, ?_⟩
  rw [g3]
  rcases g5 with g5 | g5
  · left; omega
  · right; exact g5
theorem ind_bd (f : VS → Int) (hf : ∀ v, 0 ≤ f v ∧ f v ≤ 1) (l : List VS) (k : Nat) (hk : k ≤ l.length) : 0 ≤ sumV f (l.take k) ∧ sumV f (l.take k) ≤ k := by
  induction k with
  | zero => simp [sumV, sumI]
  | succ k ih =>
    have := ih (by omega)
    have h2 := hf l[k]
    rw [sumV_take f l k (by omega)]
    omega
theorem inI_bd (v : VS) : 0 ≤ inI v ∧ inI v ≤ 1 := by unfold inI; split <;> omega
theorem mayI_bd (v : VS) : 0 ≤ mayI v ∧ mayI v ≤ 1 := by unfold mayI; split <;> omega
end Go.Proofs.YtohjjgefklhmaaaGreatDoor

namespace Go.Proofs.YtohjjgefklhmaaaGreatDoor
open Go.ChangeShapes Go.WideShapes Go.ChangeAt Go.RowKit
set_option linter.unusedVariables false

theorem sumV_modify_le (f : VS → Int) (g : VS → VS) (l : List VS) (j : Nat) (h : ∀ v, f (g v) ≤ f v) : sumV f (l.modify j g) ≤ sumV f l := by
  by_cases hj : j < l.length
  · rw [sumV_mod f l j g hj]
    have := h (l.getD j v0)
    omega
  · have e : l.modify j g = l := by
      apply List.ext_getElem?
      intro i
      rw [List.getElem?_modify]
      by_cases ei : j = i
      · subst ei; rw [List.getElem?_eq_none (by omega)]; rfl
      · simp [ei]
    rw [e]; exact Int.le_refl _
/-- the table stands at accounts that are none; nobody comes into the set -/
structure Keep (x x' : EC) : Prop where
  bl : x'.bal.length = x.bal.length
  top : x'.top = x.top
  sh : ∀ k j, x.bal.length ≤ k → k < 6 → j < 5 → x'.sh k j = x.sh k j
  ins : sumV inI x'.vals ≤ sumV inI x.vals
theorem Keep.refl (x : EC) : Keep x x := ⟨rfl, rfl, fun _ _ _ _ _ => rfl, Int.le_refl _⟩
theorem Keep.trans {x y z : EC} (h : Keep x y) (h' : Keep y z) : Keep x z :=
  ⟨h'.bl.trans h.bl, h'.top.trans h.top, fun k j hk h6 h5 => (h'.sh k j (by rw [h.bl]; exact hk) h6 h5).trans (h.sh k j hk h6 h5), Int.le_trans h'.ins h.ins⟩
theorem getD_set_off {l : List Int} {i n : Nat} {y : Int} (h : i ≠ n) : (l.set i y).getD n 0 = l.getD n 0 := by
  simp only [List.getD]; rw [List.getElem?_set_ne h]
theorem Keep.charge (x : EC) (k : Nat) : Keep x (chargeFE x k) := ⟨by simp [chargeFE], rfl, fun _ _ _ _ _ => rfl, Int.le_refl _⟩
theorem Keep.pay (x : EC) (k j : Nat) : Keep x (payF x k j) :=
  ⟨by simp [payF], rfl, fun k' j' _ h6 h5 => by simp only [payF, EC.sh]; exact getD_set_off (by omega), sumV_modify_le _ _ _ _ (fun v => Int.le_refl _)⟩
theorem Keep.join (x : EC) (k j : Nat) (t : Int) (hk : k < x.bal.length) (hj : j < 5) : Keep x (joinFE x k j t) :=
  (Keep.pay x k j).trans ⟨rfl, rfl, fun k' j' hk' h6 h5 => by
    have : k < k' := by simp [payF] at hk'; omega
    simp only [joinFE, EC.sh]; exact getD_set_off (by omega), by
    simp only [joinFE]
    exact Int.le_trans (sumV_modify_le _ _ _ _ (fun v => Int.le_refl _)) (sumV_modify_le _ _ _ _ (fun v => Int.le_refl _))⟩
theorem Keep.gone (x : EC) (k j : Nat) (n t : Int) (hk : k < x.bal.length) (hj : j < 5) : Keep x (goneF x k j n t) :=
  ⟨rfl, rfl, fun k' j' hk' h6 h5 => by simp only [goneF, EC.sh]; exact getD_set_off (by omega), by
    simp only [goneF]
    exact Int.le_trans (sumV_modify_le _ _ _ _ (fun v => Int.le_refl _)) (sumV_modify_le _ _ _ _ (fun v => Int.le_refl _))⟩
theorem Keep.clear (x : EC) (j : Nat) : Keep x (clearF x j) := ⟨rfl, rfl, fun _ _ _ _ _ => rfl, sumV_modify_le _ _ _ _ (fun v => Int.le_refl _)⟩
theorem Keep.leave (x : EC) (k j : Nat) (n : Int) (hk : k < x.bal.length) (hj : j < 5) : Keep x (leaveF x k j n) := by
  have h1 := (Keep.pay x k j).trans (Keep.gone (payF x k j) k j n (tokensForF (x.val j) n) (by simp [payF]; exact hk) hj)
  unfold leaveF
  split
  · exact h1.trans (Keep.clear _ _)
  · exact h1
theorem Keep.ent (x : EC) (k j : Nat) (t : Int) : Keep x (entF x k j t) := by
  unfold entF
  split
  · exact Keep.refl x
  · exact ⟨rfl, rfl, fun _ _ _ _ _ => rfl, Int.le_refl _⟩
theorem Keep.coll (x : EC) (k j : Nat) : Keep x (collF x k j) :=
  ⟨by simp [collF], rfl, fun _ _ _ _ _ => rfl, by
    simp only [collF]
    exact Int.le_trans (sumV_modify_le _ _ _ _ (fun v => Int.le_refl _)) (sumV_modify_le _ _ _ _ (fun v => Int.le_refl _))⟩
theorem inI_off (v : VS) : inI { v with inset := false } ≤ inI v := by
  have := (inI_bd v).1
  have e : inI { v with inset := false } = 0 := by unfold inI; rw [if_neg (by simp)]
  omega
theorem Keep.slash (x : EC) (j : Nat) (hgt p : Int) : Keep x (slashF x j hgt p) :=
  ⟨rfl, rfl, fun _ _ _ _ _ => rfl, by
    simp only [slashF, jailF, slEntF, slTokF]
    exact Int.le_trans (sumV_modify_le _ _ _ _ (fun v => inI_off v)) (Int.le_trans (sumV_modify_le _ _ _ _ (fun v => Int.le_refl _)) (sumV_modify_le _ _ _ _ (fun v => Int.le_refl _)))⟩
theorem Keep.out (x : EC) (j : Nat) : Keep x (outF x j) := ⟨rfl, rfl, fun _ _ _ _ _ => rfl, sumV_modify_le _ _ _ _ (fun v => Int.le_refl _)⟩
theorem Keep.take (x : EC) (j : Nat) (a : Int) : Keep x (takeF x j a) := by
  have h1 : Keep x { x with vals := (x.vals.modify j (fun v => { v with comm := v.comm + a * (x.val j).rate / 100 })).modify j (fun v => { v with outs := v.outs + a }) } :=
    ⟨rfl, rfl, fun _ _ _ _ _ => rfl, Int.le_trans (sumV_modify_le _ _ _ _ (fun v => Int.le_refl _)) (sumV_modify_le _ _ _ _ (fun v => Int.le_refl _))⟩
  refine h1.trans ?_
  unfold takeF shareOutF
  split
  · exact Keep.refl _
  · exact ⟨rfl, rfl, fun k' j' _ h6 h5 => by simp only [EC.sh]; exact getD_set_off (by omega), Int.le_refl _⟩
theorem Keep.loop (x : EC) (f b : Int) (k : Nat) : Keep x (shLoop x f b k).1 := by
  induction k with
  | zero => exact Keep.refl x
  | succ k ih =>
    unfold shLoop
    split
    · exact ih.trans (Keep.take _ _ _)
    · exact ih
/-- what holds besides -/
structure InvB (x : EC) : Prop where
  ins : sumV inI x.vals ≤ x.top
  sh : ∀ k j, x.bal.length ≤ k → k < 6 → j < 5 → x.sh k j = 0
theorem InvB.keep {x x' : EC} (h : InvB x) (k : Keep x x') : InvB x' :=
  ⟨by rw [k.top]; exact Int.le_trans k.ins h.ins, fun a b ha h6 h5 => by rw [k.bl] at ha; rw [k.sh a b ha h6 h5]; exact h.sh a b ha h6 h5⟩
theorem InvB.block {x : EC} (h : InvB x) (ok : Fine x) : InvB (blkR x).2 := by
  have okx : Ok x.height x := ok
  have k1 := Keep.loop x x.fees (bondedN x.vals) x.vals.length
  unfold blkR
  split
  · exact h
  · have k2 : Keep x (payEF (upF x)) := k1.trans ⟨peLoop_len _ _, rfl, fun _ _ _ _ _ => rfl, Int.le_refl _⟩
    have h2 := h.keep k2
    have ht : 0 ≤ (payEF (upF x)).top := by rw [k2.top]; have := okx.top0; omega
    exact ⟨(chooseF_best _ _ ht).2.2.1, h2.sh⟩
theorem msgR_keep {P : EC → Prop} {x : EC} {who : Int} {err : EC → Nat → Int} {act : EC → Nat → EC} (h0 : P x) (h1 : ∀ k : Nat, k < x.bal.length → P (chargeFE x k)) (h2 : ∀ k : Nat, k < x.bal.length → err (chargeFE x k) k = 0 → P (act (chargeFE x k) k)) : P (msgR x who err act).2 := by
  by_cases hc : chErr x who = 0
  · obtain ⟨k, rfl, hk, _⟩ := chErr_ok hc
    by_cases he : err (chargeFE x k) k = 0
    · rw [msgR_ok hc he]; exact h2 k hk he
    · rw [msgR_err hc he]; exact h1 k hk
  · rw [msgR_fail hc]; exact h0
theorem InvB.does {x : EC} (h : InvB x) (ok : Fine x) (k a b c d : Int) : InvB (doesR x k a b c d).2 := by
  have okx : Ok x.height x := ok
  have v5 := okx.v5
  have hch : ∀ k : Nat, k < x.bal.length → InvB (chargeFE x k) := fun k _ => h.keep (Keep.charge x k)
  have hl : ∀ k : Nat, (chargeFE x k).bal.length = x.bal.length := fun k => (Keep.charge x k).bl
  have hvl : ∀ k : Nat, (chargeFE x k).vals.length = x.vals.length := fun k => rfl
  unfold doesR
  split
  · refine msgR_keep h hch (fun k hk he => (hch k hk).keep ⟨by simp [sentB], rfl, fun _ _ _ _ _ => rfl, Int.le_refl _⟩)
  split
  · unfold spendR
    split
    · exact h
    · exact h.keep ⟨by simp, rfl, fun _ _ _ _ _ => rfl, Int.le_refl _⟩
  split
  · refine msgR_keep h hch (fun k hk he => ?_)
    obtain ⟨j, rfl, hj, _⟩ := bondErrF_ok he
    have hkb : Keep (chargeFE x k) { chargeFE x k with bal := (chargeFE x k).bal.set k ((chargeFE x k).balAt k - c) } := ⟨by simp, rfl, fun _ _ _ _ _ => rfl, Int.le_refl _⟩
    refine (hch k hk).keep (hkb.trans (Keep.join _ k _ c ?_ ?_))
    · simp only [List.length_set]; rw [hl]; exact hk
    · rw [Int.toNat_natCast]; have := hvl k; omega
  split
  · refine msgR_keep h hch (fun k hk he => ?_)
    obtain ⟨j, rfl, hj, _⟩ := unbErrF_ok he
    refine (hch k hk).keep ((Keep.leave _ k _ c ?_ ?_).trans (Keep.ent _ _ _ _))
    · rw [hl]; exact hk
    · rw [Int.toNat_natCast]; have := hvl k; omega
  split
  · refine msgR_keep h hch (fun k hk he => ?_)
    obtain ⟨j, t, rfl, rfl, hj, ht, _⟩ := movErrF_ok he
    have k1 := Keep.leave (chargeFE x k) k (Int.toNat (j : Int)) d (by rw [hl]; exact hk) (by rw [Int.toNat_natCast]; have := hvl k; omega)
    refine (hch k hk).keep (k1.trans (Keep.join _ k _ _ ?_ ?_))
    · rw [k1.bl, hl]; exact hk
    · rw [Int.toNat_natCast]; have := hvl k; omega
  split
  · exact msgR_keep h hch (fun k hk he => (hch k hk).keep (Keep.pay _ _ _))
  split
  · exact msgR_keep h hch (fun k hk he => (hch k hk).keep (Keep.coll _ _ _))
  split
  · unfold slashR
    split
    · exact h
    · exact h.keep (Keep.slash _ _ _ _)
  split
  · exact msgR_keep h hch (fun k hk he => (hch k hk).keep (Keep.out _ _))
  · exact h.block ok
theorem xN_inv {bs os rs : List Int} {top mature fee : Int} (h : GoodGen bs os rs top mature fee) : InvB (xN bs os rs top mature fee) := by
  refine ⟨?_, fun k j _ _ _ => rep_getD 65 _⟩
  have e : sumV inI (xN bs os rs top mature fee).vals = 0 := vs0_sum os rs inI (fun o r => by unfold inI; rw [if_neg (by simp)])
  rw [e]
  have := h.2.2.1
  show 0 ≤ top
  omega
end Go.Proofs.YtohjjgefklhmaaaGreatDoor

namespace Go.Proofs.YtohjjgefklhmaaaGreatDoor
open Go.ChangeShapes Go.WideShapes Go.ChangeAt Go.RowKit
set_option linter.unusedVariables false

def sumN (f : Nat → Int) : Nat → Int
  | 0 => 0
  | n + 1 => sumN f n + f n
theorem sumN6 (f : Nat → Int) : sumN f 6 = sum6 f := by simp [sumN, sum6]
theorem sumN_congr {f f' : Nat → Int} (n : Nat) (h : ∀ k, k < n → f' k = f k) : sumN f' n = sumN f n := by
  induction n with
  | zero => rfl
  | succ n ih => simp only [sumN]; rw [ih (fun k hk => h k (by omega)), h n (by omega)]
theorem sumN_tail {f : Nat → Int} (n d : Nat) (h : ∀ k, n ≤ k → k < n + d → f k = 0) : sumN f (n + d) = sumN f n := by
  induction d with
  | zero => rfl
  | succ d ih =>
    show sumN f (n + d) + f (n + d) = _
    rw [ih (fun k h1 h2 => h k h1 (by omega)), h (n + d) (by omega) (by omega)]; omega
theorem sumN_mono {f : Nat → Int} (n d : Nat) (h : ∀ k, n ≤ k → k < n + d → 0 ≤ f k) : sumN f n ≤ sumN f (n + d) := by
  induction d with
  | zero => exact Int.le_refl _
  | succ d ih =>
    have h1 := ih (fun k h1 h2 => h k h1 (by omega))
    have h2 := h (n + d) (by omega) (by omega)
    show _ ≤ sumN f (n + d) + f (n + d)
    omega
theorem sumN_scale {f g : Nat → Int} (c : Int) (n : Nat) (h : ∀ k, k < n → c * f k ≤ g k) : c * sumN f n ≤ sumN g n := by
  induction n with
  | zero => simp [sumN]
  | succ n ih =>
    have h1 := ih (fun k hk => h k (by omega))
    have h2 := h n (by omega)
    simp only [sumN]
    rw [Int.mul_add]; omega
theorem dRow_sum (s : Nat → Nat → Int) (who n j : Nat) (T : DS → Int) (y : Int) (hT : ∀ i : Nat, T ⟨who, i, s who i⟩ = if i = j then y else 0) : sumI ((dRow s who n).map T) = if j < n ∧ 0 < s who j then y else 0 := by
  induction n with
  | zero => simp [dRow, sumI]
  | succ n ih =>
    unfold dRow
    by_cases h : 0 < s who n
    · rw [if_pos h, List.map_append, sumI_append, ih]
      simp only [List.map_cons, List.map_nil, sumI]
      rw [hT n]
      by_cases e : n = j
      · subst e
        rw [if_neg (by omega), if_pos rfl, if_pos ⟨by omega, h⟩]; omega
      · rw [if_neg e]
        by_cases h2 : j < n ∧ 0 < s who j
        · rw [if_pos h2, if_pos ⟨by omega, h2.2⟩]; omega
        · rw [if_neg h2, if_neg (fun h3 => h2 ⟨by omega, h3.2⟩)]; omega
    · rw [if_neg h, ih]
      by_cases e : n = j
      · subst e
        rw [if_neg (by omega), if_neg (by omega)]
      · by_cases h2 : j < n ∧ 0 < s who j
        · rw [if_pos h2, if_pos ⟨by omega, h2.2⟩]
        · rw [if_neg h2, if_neg (fun h3 => h2 ⟨by omega, h3.2⟩)]
theorem dAll_sum (s : Nat → Nat → Int) (nv n j : Nat) (hj : j < nv) (T : DS → Int) (F : Nat → Int) (hT : ∀ k i : Nat, T ⟨k, i, s k i⟩ = if i = j then F k else 0) : sumI ((dAll s nv n).map T) = sumN (fun k => if 0 < s k j then F k else 0) n := by
  induction n with
  | zero => rfl
  | succ n ih =>
    unfold dAll
    rw [List.map_append, sumI_append, ih, dRow_sum s n nv j T (F n) (hT n)]
    simp only [sumN]
    by_cases h : 0 < s n j
    · rw [if_pos ⟨hj, h⟩, if_pos h]
    · rw [if_neg (fun h2 => h h2.2), if_neg h]
theorem dRow_mem (s : Nat → Nat → Int) (who n : Nat) (d : DS) (h : d ∈ dRow s who n) : ∃ j : Nat, j < n ∧ d = ⟨who, j, s who j⟩ ∧ 0 < s who j := by
  induction n with
  | zero => simp [dRow] at h
  | succ n ih =>
    unfold dRow at h
    split at h
    · rename_i h0
      rw [List.mem_append] at h
      rcases h with h | h
      · obtain ⟨j, h1, h2⟩ := ih h; exact ⟨j, by omega, h2⟩
      · simp only [List.mem_singleton] at h; exact ⟨n, by omega, h, h0⟩
    · obtain ⟨j, h1, h2⟩ := ih h; exact ⟨j, by omega, h2⟩
theorem dAll_mem (s : Nat → Nat → Int) (nv n : Nat) (d : DS) (h : d ∈ dAll s nv n) : ∃ k j : Nat, k < n ∧ j < nv ∧ d = ⟨k, j, s k j⟩ ∧ 0 < s k j := by
  induction n with
  | zero => simp [dAll] at h
  | succ n ih =>
    unfold dAll at h
    rw [List.mem_append] at h
    rcases h with h | h
    · obtain ⟨k, j, h1, h2⟩ := ih h; exact ⟨k, j, by omega, h2⟩
    · obtain ⟨j, h1, h2⟩ := dRow_mem s n nv d h; exact ⟨n, j, by omega, h1, h2⟩
/-- what a delegation adds -/
def shT (j : Int) (d : DS) : Int := if d.val = j then d.shares else 0
def uT (T : DS → Int) (j : Int) (d : DS) : Int := if d.val = j then T d else 0
def dueD (x : EC) (d : DS) : Int := x.due d.who.toNat d.val.toNat
def duT (x : EC) (j : Int) (d : DS) : Int := uT (dueD x) j d
def dels (x : EC) : List DS := dAll x.sh x.vals.length x.bal.length
def dueAt (x : EC) (j : Nat) : Int := sumI ((dels x).map (duT x j))
section
variable {H : Int} {x : EC}
theorem Ok.sharesAt (ok : Ok H x) (ib : InvB x) {j : Nat} (hj : j < x.vals.length) : sumI ((dels x).map (shT j)) = (x.val j).shares := by
  have v5 := ok.v5
  have b6 := ok.b6
  unfold dels
  rw [dAll_sum x.sh x.vals.length x.bal.length j hj (shT j) (fun k => x.sh k j) (fun k i => by
    unfold shT
    by_cases e : i = j
    · subst e; rw [if_pos rfl, if_pos rfl]
    · rw [if_neg e, if_neg (by simp only; omega)])]
  rw [← ok.shs j hj, ← sumN6]
  have e1 : sumN (fun k => if 0 < x.sh k j then x.sh k j else 0) x.bal.length = sumN (fun k => x.sh k j) x.bal.length := sumN_congr _ (fun k hk => by
    have := ok.sh0 k j (by omega) (by omega)
    split <;> omega)
  rw [e1]
  have e2 := sumN_tail (f := fun k => x.sh k j) x.bal.length (6 - x.bal.length) (fun k h1 h2 => ib.sh k j h1 (by omega) (by omega))
  rw [show x.bal.length + (6 - x.bal.length) = 6 by omega] at e2
  exact e2.symm
theorem Ok.dueAt_le (ok : Ok H x) {j : Nat} (hj : j < x.vals.length) : 0 ≤ dueAt x j ∧ dueAt x j ≤ (x.val j).outs - (x.val j).comm := by
  have v5 := ok.v5
  have b6 := ok.b6
  have e0 : dueAt x j = sumN (fun k => if 0 < x.sh k j then x.due k j else 0) x.bal.length := by
    unfold dueAt dels
    rw [dAll_sum x.sh x.vals.length x.bal.length j hj (duT x j) (fun k => x.due k j) (fun k i => by
      unfold duT uT dueD
      by_cases e : i = j
      · subst e; rw [if_pos rfl, if_pos rfl, Int.toNat_natCast, Int.toNat_natCast]
      · rw [if_neg e, if_neg (by simp only; omega)])]
  have h1 : (1073741824 : Int) * sumN (fun k => if 0 < x.sh k j then x.due k j else 0) x.bal.length ≤ sumN (fun k => x.sh k j * (x.per j - x.upto k j)) x.bal.length := sumN_scale _ _ (fun k hk => by
    split
    · exact (ok.due_le (k := k) (by omega) hj).2.2
    · have := ok.term (k := k) (j := j) (by omega) (by omega); omega)
  have h2 := sumN_mono (f := fun k => x.sh k j * (x.per j - x.upto k j)) x.bal.length (6 - x.bal.length) (fun k _ h2 => ok.term (by omega) (by omega))
  rw [show x.bal.length + (6 - x.bal.length) = 6 by omega, sumN6] at h2
  have h3 := ok.due j hj
  have h4 := sumN_mono (f := fun k => if 0 < x.sh k j then x.due k j else 0) 0 x.bal.length (fun k _ h2 => by
    split
    · exact (ok.due_le (k := k) (by omega) hj).1
    · exact Int.le_refl _)
  rw [Nat.zero_add] at h4
  have h5 : sumN (fun k => if 0 < x.sh k j then x.due k j else 0) 0 = 0 := rfl
  rw [e0]
  omega
end
theorem sumI_part {l : List Int} (h : ∀ a, a ∈ l → 0 ≤ a) (k : Nat) : 0 ≤ sumI (l.take k) ∧ sumI (l.take k) ≤ sumI l := by
  induction l generalizing k with
  | nil => simp [sumI]
  | cons a l ih =>
    have h0 := h a (by simp)
    have h1 := fun k => ih (fun b hb => h b (by simp [hb])) k
    cases k with
    | zero =>
      have := h1 l.length
      rw [List.take_of_length_le (Nat.le_refl _)] at this
      simp only [List.take_zero, sumI]; omega
    | succ k =>
      have := h1 k
      simp only [List.take_succ_cons, sumI]; omega
theorem sumT_snoc (T : DS → Int) (l : List DS) (k : Nat) (h : k < l.length) : sumI ((l.take (k + 1)).map T) = sumI ((l.take k).map T) + T l[k] := by
  rw [List.take_succ_eq_append_getElem h, List.map_append, sumI_append]
  simp [sumI]
theorem sumT_bd (T : DS → Int) (l : List DS) (h : ∀ d, d ∈ l → 0 ≤ T d) (k : Nat) : 0 ≤ sumI ((l.take k).map T) ∧ sumI ((l.take k).map T) ≤ sumI (l.map T) := by
  have := sumI_part (l := l.map T) (fun a ha => by obtain ⟨d, hd, rfl⟩ := List.mem_map.1 ha; exact h d hd) k
  rwa [← List.map_take] at this
theorem Ok.terms {H : Int} {x : EC} (ok : Ok H x) (j : Nat) : (∀ d, d ∈ dels x → 0 ≤ shT j d) ∧ (∀ d, d ∈ dels x → 0 ≤ duT x j d) := by
  have v5 := ok.v5
  have b6 := ok.b6
  constructor
  · intro d hd
    obtain ⟨k, i, h1, h2, rfl, h4⟩ := dAll_mem _ _ _ _ hd
    unfold shT; simp only; split <;> omega
  · intro d hd
    obtain ⟨k, i, h1, h2, rfl, h4⟩ := dAll_mem _ _ _ _ hd
    unfold duT uT dueD; simp only
    rw [Int.toNat_natCast, Int.toNat_natCast]
    split
    · exact (ok.due_le (k := k) (by omega) h2).1
    · exact Int.le_refl _
end Go.Proofs.YtohjjgefklhmaaaGreatDoor
