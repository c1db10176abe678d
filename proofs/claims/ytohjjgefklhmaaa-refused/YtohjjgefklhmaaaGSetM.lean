import Derived.Test.YtohjjgefklhmaaaGStepM
namespace Go.Proofs.Ytohjjgefklhmaaa
open Go.ChangeShapes Go.WideShapes Go.ChangeAt Go.RowKit
set_option linter.unusedVariables false

def inI (v : VS) : Int := if v.inset = true then 1 else 0
def mayI (v : VS) : Int := if v.jailed = false ∧ 0 < v.tokens then 1 else 0
theorem bestL_max (l : List VS) (n : Nat) : ∀ k, k < n → (l.getD k v0).inset = false → (l.getD k v0).jailed = false → (l.getD k v0).tokens ≤ (bestL l n).2 := by
  induction n with
  | zero => intro k hk; omega
  | succ n ih =>
    intro k hk h1 h2
    unfold bestL
    by_cases e : k = n
    · subst e
      split
      · exact Int.le_refl _
      · rename_i h
        have : ¬ (bestL l k).2 < (l.getD k v0).tokens := fun h3 => h ⟨h1, h2, h3⟩
        omega
    · have h3 := ih k (by omega) h1 h2
      split
      · rename_i h; simp only; omega
      · exact h3
theorem bestL_none (l : List VS) (n : Nat) (h : (bestL l n).1 < 0) : (bestL l n).2 = 0 := by
  induction n with
  | zero => rfl
  | succ n ih =>
    unfold bestL at h ⊢
    split at h
    · simp only at h; omega
    · rename_i h2
      rw [if_neg h2]; exact ih h
/-- nobody outside has more than one inside -/
structure Best (m : List VS) : Prop where
  le : ∀ i k, i < m.length → k < m.length → (m.getD i v0).inset = true → (m.getD k v0).inset = false → (m.getD k v0).jailed = false → (m.getD k v0).tokens ≤ (m.getD i v0).tokens
  ok : ∀ i, i < m.length → (m.getD i v0).inset = true → (m.getD i v0).jailed = false ∧ 0 < (m.getD i v0).tokens
theorem sumV_congr {f : VS → Int} {l l' : List VS} (hl : l'.length = l.length) (h : ∀ j, j < l.length → f (l'.getD j v0) = f (l.getD j v0)) : sumV f l' = sumV f l := by
  unfold sumV
  congr 1
  apply List.ext_getElem?
  intro i
  simp only [List.getElem?_map]
  by_cases hi : i < l.length
  · have hi' : i < l'.length := by omega
    have := h i hi
    have e1 : l'[i] = l'.getD i v0 := by simp [hi']
    have e2 : l[i] = l.getD i v0 := by simp [hi]
    rw [List.getElem?_eq_getElem hi, List.getElem?_eq_getElem hi', Option.map_some, Option.map_some, e1, e2, this]
  · rw [List.getElem?_eq_none (by omega), List.getElem?_eq_none (by omega)]
theorem sumV_congr2 {f f' : VS → Int} {l : List VS} (h : ∀ j, j < l.length → f (l.getD j v0) = f' (l.getD j v0)) : sumV f l = sumV f' l := by
  unfold sumV
  congr 1
  apply List.ext_getElem?
  intro i
  simp only [List.getElem?_map]
  by_cases hi : i < l.length
  · have := h i hi
    have e2 : l[i] = l.getD i v0 := by simp [hi]
    rw [List.getElem?_eq_getElem hi, Option.map_some, Option.map_some, e2, this]
  · rw [List.getElem?_eq_none (by omega)]; rfl
theorem chooseL_best (n : Nat) (m : List VS) (h : Best m) : Best (chooseL n m) ∧ (chooseL n m).length = m.length ∧ sumV mayI (chooseL n m) = sumV mayI m ∧ sumV inI (chooseL n m) ≤ sumV inI m + n ∧ (sumV inI (chooseL n m) = sumV inI m + n ∨ sumV inI (chooseL n m) = sumV mayI m) := by
  induction n generalizing m with
  | zero => exact ⟨h, rfl, rfl, by show sumV inI m ≤ _; omega, .inl (by show sumV inI m = _; omega)⟩
  | succ n ih =>
    unfold chooseL
    by_cases hb : (bestL m m.length).1 < 0
    · rw [if_pos hb]
      refine ⟨h, rfl, rfl, by omega, .inr ?_⟩
      refine sumV_congr2 (fun j hj => ?_)
      unfold inI mayI
      have hz := bestL_none m m.length hb
      have hmax := bestL_max m m.length j hj
      by_cases hi : (m.getD j v0).inset = true
      · rw [if_pos hi, if_pos (h.ok j hj hi)]
      · rw [if_neg hi]
        have hi' : (m.getD j v0).inset = false := by simpa using hi
        rw [if_neg]
        rintro ⟨h1, h2⟩
        have := hmax hi' h1
        omega
    · rw [if_neg hb]
      rcases bestL_at m m.length with hm | ⟨i, h1, h2, h3, h4, h5, h6⟩
      · rw [hm] at hb; omega
      · rw [h1, Int.toNat_natCast]
        have hmax := bestL_max m m.length
        have hat : ∀ j, (m.modify i (fun v => { v with inset := true })).getD j v0 = if j = i then { m.getD i v0 with inset := true } else m.getD j v0 := fun j => val_mod m i j _ h2
        have hlen : (m.modify i (fun v => { v with inset := true })).length = m.length := by simp
        have hB : Best (m.modify i (fun v => { v with inset := true })) := by
          refine ⟨fun a k ha hk hin hout hj => ?_, fun a ha hin => ?_⟩
          · rw [hlen] at ha hk
            rw [hat k] at hout hj ⊢
            rw [hat a] at hin ⊢
            by_cases ek : k = i
            · rw [if_pos ek] at hout; simp at hout
            · rw [if_neg ek] at hout hj ⊢
              by_cases ea : a = i
              · rw [if_pos ea]
                have := hmax k hk hout hj
                simp only; omega
              · rw [if_neg ea] at hin ⊢
                exact h.le a k ha hk hin hout hj
          · rw [hlen] at ha
            rw [hat a] at hin ⊢
            by_cases ea : a = i
            · rw [if_pos ea]; exact ⟨h4, by simp only; omega⟩
            · rw [if_neg ea] at hin ⊢; exact h.ok a ha hin
        obtain ⟨g1, g2, g3, g4, g5⟩ := ih _ hB
        have s1 : sumV inI (m.modify i (fun v => { v with inset := true })) = sumV inI m + 1 := by
          rw [sumV_mod _ _ _ _ h2]
          have e1 : inI (m.getD i v0) = 0 := by unfold inI; rw [if_neg (by rw [h3]; decide)]
          have e2 : inI { m.getD i v0 with inset := true } = 1 := by unfold inI; rw [if_pos rfl]
          rw [e1, e2]; omega
        have s2 : sumV mayI (m.modify i (fun v => { v with inset := true })) = sumV mayI m := by
          rw [sumV_mod _ _ _ _ h2]
          have e2 : mayI { m.getD i v0 with inset := true } = mayI (m.getD i v0) := rfl
          rw [e2]; omega
        rw [s1] at g4 g5
        rw [s2] at g3 g5
        refine ⟨g1, g2.trans hlen, g3, by omega, ?_⟩
        rcases g5 with g5 | g5
        · left; omega
        · right; exact g5
theorem offL_best (l : List VS) : Best (offL l l.length) ∧ sumV inI (offL l l.length) = 0 := by
  have hat : ∀ j, j < l.length → (offL l l.length).getD j v0 = { l.getD j v0 with inset := false } := fun j hj => by rw [offL_at l _ j hj, if_pos hj]
  have hl := offL_len l l.length
  refine ⟨⟨fun i k hi hk hin => ?_, fun i hi hin => ?_⟩, ?_⟩
  · rw [hl] at hi; rw [hat i hi] at hin; simp at hin
  · rw [hl] at hi; rw [hat i hi] at hin; simp at hin
  · have : sumV inI (offL l l.length) = sumV (fun _ => 0) (offL l l.length) := sumV_congr2 (fun j hj => by
      rw [hl] at hj
      rw [hat j hj]; rfl)
    rw [this]
    unfold sumV
    generalize offL l l.length = m
    induction m with
    | nil => rfl
    | cons a m ih => simp only [List.map_cons, sumI, ih]; rfl
/-- the set that is chosen -/
theorem chooseF_best (l : List VS) (top : Int) (ht : 0 ≤ top) : Best (chooseF l top) ∧ (chooseF l top).length = l.length ∧ sumV inI (chooseF l top) ≤ top ∧ (sumV inI (chooseF l top) = top ∨ sumV inI (chooseF l top) = sumV mayI (chooseF l top)) := by
  obtain ⟨h1, h2⟩ := offL_best l
  obtain ⟨g1, g2, g3, g4, g5⟩ := chooseL_best top.toNat _ h1
  rw [h2] at g4 g5
  unfold chooseF
  refine ⟨g1, g2.trans (offL_len l _), by omega, ?_⟩
  rw [g3]
  rcases g5 with g5 | g5
  · left; omega
  · right; exact g5
theorem ind_bd (f : VS → Int) (hf : ∀ v, 0 ≤ f v ∧ f v ≤ 1) (l : List VS) (k : Nat) (hk : k ≤ l.length) : 0 ≤ sumV f (l.take k) ∧ sumV f (l.take k) ≤ k := by
  induction k with
  | zero => simp [sumV, sumI]
  | succ k ih =>
    have := ih (by omega)
    have h2 := hf l[k]
    rw [sumV_take f l k (by omega)]
    omega
theorem inI_bd (v : VS) : 0 ≤ inI v ∧ inI v ≤ 1 := by unfold inI; split <;> omega
theorem mayI_bd (v : VS) : 0 ≤ mayI v ∧ mayI v ≤ 1 := by unfold mayI; split <;> omega
end Go.Proofs.Ytohjjgefklhmaaa
