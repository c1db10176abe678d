import Derived.Test.YtohjjgefklhmaaaGKeepM
namespace Go.Proofs.Ytohjjgefklhmaaa
open Go.ChangeShapes Go.WideShapes Go.ChangeAt Go.RowKit
set_option linter.unusedVariables false

def sumN (f : Nat → Int) : Nat → Int
  | 0 => 0
  | n + 1 => sumN f n + f n
theorem sumN6 (f : Nat → Int) : sumN f 6 = sum6 f := by simp [sumN, sum6]
theorem sumN_congr {f f' : Nat → Int} (n : Nat) (h : ∀ k, k < n → f' k = f k) : sumN f' n = sumN f n := by
  induction n with
  | zero => rfl
  | succ n ih => simp only [sumN]; rw [ih (fun k hk => h k (by omega)), h n (by omega)]
theorem sumN_tail {f : Nat → Int} (n d : Nat) (h : ∀ k, n ≤ k → k < n + d → f k = 0) : sumN f (n + d) = sumN f n := by
  induction d with
  | zero => rfl
  | succ d ih =>
    show sumN f (n + d) + f (n + d) = _
    rw [ih (fun k h1 h2 => h k h1 (by omega)), h (n + d) (by omega) (by omega)]; omega
theorem sumN_mono {f : Nat → Int} (n d : Nat) (h : ∀ k, n ≤ k → k < n + d → 0 ≤ f k) : sumN f n ≤ sumN f (n + d) := by
  induction d with
  | zero => exact Int.le_refl _
  | succ d ih =>
    have h1 := ih (fun k h1 h2 => h k h1 (by omega))
    have h2 := h (n + d) (by omega) (by omega)
    show _ ≤ sumN f (n + d) + f (n + d)
    omega
theorem sumN_scale {f g : Nat → Int} (c : Int) (n : Nat) (h : ∀ k, k < n → c * f k ≤ g k) : c * sumN f n ≤ sumN g n := by
  induction n with
  | zero => simp [sumN]
  | succ n ih =>
    have h1 := ih (fun k hk => h k (by omega))
    have h2 := h n (by omega)
    simp only [sumN]
    rw [Int.mul_add]; omega
theorem dRow_sum (s : Nat → Nat → Int) (who n j : Nat) (T : DS → Int) (y : Int) (hT : ∀ i : Nat, T ⟨who, i, s who i⟩ = if i = j then y else 0) : sumI ((dRow s who n).map T) = if j < n ∧ 0 < s who j then y else 0 := by
  induction n with
  | zero => simp [dRow, sumI]
  | succ n ih =>
    unfold dRow
    by_cases h : 0 < s who n
    · rw [if_pos h, List.map_append, sumI_append, ih]
      simp only [List.map_cons, List.map_nil, sumI]
      rw [hT n]
      by_cases e : n = j
      · subst e
        rw [if_neg (by omega), if_pos rfl, if_pos ⟨by omega, h⟩]; omega
      · rw [if_neg e]
        by_cases h2 : j < n ∧ 0 < s who j
        · rw [if_pos h2, if_pos ⟨by omega, h2.2⟩]; omega
        · rw [if_neg h2, if_neg (fun h3 => h2 ⟨by omega, h3.2⟩)]; omega
    · rw [if_neg h, ih]
      by_cases e : n = j
      · subst e
        rw [if_neg (by omega), if_neg (by omega)]
      · by_cases h2 : j < n ∧ 0 < s who j
        · rw [if_pos h2, if_pos ⟨by omega, h2.2⟩]
        · rw [if_neg h2, if_neg (fun h3 => h2 ⟨by omega, h3.2⟩)]
theorem dAll_sum (s : Nat → Nat → Int) (nv n j : Nat) (hj : j < nv) (T : DS → Int) (F : Nat → Int) (hT : ∀ k i : Nat, T ⟨k, i, s k i⟩ = if i = j then F k else 0) : sumI ((dAll s nv n).map T) = sumN (fun k => if 0 < s k j then F k else 0) n := by
  induction n with
  | zero => rfl
  | succ n ih =>
    unfold dAll
    rw [List.map_append, sumI_append, ih, dRow_sum s n nv j T (F n) (hT n)]
    simp only [sumN]
    by_cases h : 0 < s n j
    · rw [if_pos ⟨hj, h⟩, if_pos h]
    · rw [if_neg (fun h2 => h h2.2), if_neg h]
theorem dRow_mem (s : Nat → Nat → Int) (who n : Nat) (d : DS) (h : d ∈ dRow s who n) : ∃ j : Nat, j < n ∧ d = ⟨who, j, s who j⟩ ∧ 0 < s who j := by
  induction n with
  | zero => simp [dRow] at h
  | succ n ih =>
    unfold dRow at h
    split at h
    · rename_i h0
      rw [List.mem_append] at h
      rcases h with h | h
      · obtain ⟨j, h1, h2⟩ := ih h; exact ⟨j, by omega, h2⟩
      · simp only [List.mem_singleton] at h; exact ⟨n, by omega, h, h0⟩
    · obtain ⟨j, h1, h2⟩ := ih h; exact ⟨j, by omega, h2⟩
theorem dAll_mem (s : Nat → Nat → Int) (nv n : Nat) (d : DS) (h : d ∈ dAll s nv n) : ∃ k j : Nat, k < n ∧ j < nv ∧ d = ⟨k, j, s k j⟩ ∧ 0 < s k j := by
  induction n with
  | zero => simp [dAll] at h
  | succ n ih =>
    unfold dAll at h
    rw [List.mem_append] at h
    rcases h with h | h
    · obtain ⟨k, j, h1, h2⟩ := ih h; exact ⟨k, j, by omega, h2⟩
    · obtain ⟨j, h1, h2⟩ := dRow_mem s n nv d h; exact ⟨n, j, by omega, h1, h2⟩
/-- what a delegation adds -/
def shT (j : Int) (d : DS) : Int := if d.val = j then d.shares else 0
def uT (T : DS → Int) (j : Int) (d : DS) : Int := if d.val = j then T d else 0
def dueD (x : EC) (d : DS) : Int := x.due d.who.toNat d.val.toNat
def duT (x : EC) (j : Int) (d : DS) : Int := uT (dueD x) j d
def dels (x : EC) : List DS := dAll x.sh x.vals.length x.bal.length
def dueAt (x : EC) (j : Nat) : Int := sumI ((dels x).map (duT x j))
section
variable {H : Int} {x : EC}
theorem Ok.sharesAt (ok : Ok H x) (ib : InvB x) {j : Nat} (hj : j < x.vals.length) : sumI ((dels x).map (shT j)) = (x.val j).shares := by
  have v5 := ok.v5
  have b6 := ok.b6
  unfold dels
  rw [dAll_sum x.sh x.vals.length x.bal.length j hj (shT j) (fun k => x.sh k j) (fun k i => by
    unfold shT
    by_cases e : i = j
    · subst e; rw [if_pos rfl, if_pos rfl]
    · rw [if_neg e, if_neg (by simp only; omega)])]
  rw [← ok.shs j hj, ← sumN6]
  have e1 : sumN (fun k => if 0 < x.sh k j then x.sh k j else 0) x.bal.length = sumN (fun k => x.sh k j) x.bal.length := sumN_congr _ (fun k hk => by
    have := ok.sh0 k j (by omega) (by omega)
    split <;> omega)
  rw [e1]
  have e2 := sumN_tail (f := fun k => x.sh k j) x.bal.length (6 - x.bal.length) (fun k h1 h2 => ib.sh k j h1 (by omega) (by omega))
  rw [show x.bal.length + (6 - x.bal.length) = 6 by omega] at e2
  exact e2.symm
theorem Ok.dueAt_le (ok : Ok H x) {j : Nat} (hj : j < x.vals.length) : 0 ≤ dueAt x j ∧ dueAt x j ≤ (x.val j).outs - (x.val j).comm := by
  have v5 := ok.v5
  have b6 := ok.b6
  have e0 : dueAt x j = sumN (fun k => if 0 < x.sh k j then x.due k j else 0) x.bal.length := by
    unfold dueAt dels
    rw [dAll_sum x.sh x.vals.length x.bal.length j hj (duT x j) (fun k => x.due k j) (fun k i => by
      unfold duT uT dueD
      by_cases e : i = j
      · subst e; rw [if_pos rfl, if_pos rfl, Int.toNat_natCast, Int.toNat_natCast]
      · rw [if_neg e, if_neg (by simp only; omega)])]
  have h1 : (1073741824 : Int) * sumN (fun k => if 0 < x.sh k j then x.due k j else 0) x.bal.length ≤ sumN (fun k => x.sh k j * (x.per j - x.upto k j)) x.bal.length := sumN_scale _ _ (fun k hk => by
    split
    · exact (ok.due_le (k := k) (by omega) hj).2.2
    · have := ok.term (k := k) (j := j) (by omega) (by omega); omega)
  have h2 := sumN_mono (f := fun k => x.sh k j * (x.per j - x.upto k j)) x.bal.length (6 - x.bal.length) (fun k _ h2 => ok.term (by omega) (by omega))
  rw [show x.bal.length + (6 - x.bal.length) = 6 by omega, sumN6] at h2
  have h3 := ok.due j hj
  have h4 := sumN_mono (f := fun k => if 0 < x.sh k j then x.due k j else 0) 0 x.bal.length (fun k _ h2 => by
    split
    · exact (ok.due_le (k := k) (by omega) hj).1
    · exact Int.le_refl _)
  rw [Nat.zero_add] at h4
  have h5 : sumN (fun k => if 0 < x.sh k j then x.due k j else 0) 0 = 0 := rfl
  rw [e0]
  omega
end
theorem sumI_part {l : List Int} (h : ∀ a, a ∈ l → 0 ≤ a) (k : Nat) : 0 ≤ sumI (l.take k) ∧ sumI (l.take k) ≤ sumI l := by
  induction l generalizing k with
  | nil => simp [sumI]
  | cons a l ih =>
    have h0 := h a (by simp)
    have h1 := fun k => ih (fun b hb => h b (by simp [hb])) k
    cases k with
    | zero =>
      have := h1 l.length
      rw [List.take_of_length_le (Nat.le_refl _)] at this
      simp only [List.take_zero, sumI]; omega
    | succ k =>
      have := h1 k
      simp only [List.take_succ_cons, sumI]; omega
theorem sumT_snoc (T : DS → Int) (l : List DS) (k : Nat) (h : k < l.length) : sumI ((l.take (k + 1)).map T) = sumI ((l.take k).map T) + T l[k] := by
  rw [List.take_succ_eq_append_getElem h, List.map_append, sumI_append]
  simp [sumI]
theorem sumT_bd (T : DS → Int) (l : List DS) (h : ∀ d, d ∈ l → 0 ≤ T d) (k : Nat) : 0 ≤ sumI ((l.take k).map T) ∧ sumI ((l.take k).map T) ≤ sumI (l.map T) := by
  have := sumI_part (l := l.map T) (fun a ha => by obtain ⟨d, hd, rfl⟩ := List.mem_map.1 ha; exact h d hd) k
  rwa [← List.map_take] at this
theorem Ok.terms {H : Int} {x : EC} (ok : Ok H x) (j : Nat) : (∀ d, d ∈ dels x → 0 ≤ shT j d) ∧ (∀ d, d ∈ dels x → 0 ≤ duT x j d) := by
  have v5 := ok.v5
  have b6 := ok.b6
  constructor
  · intro d hd
    obtain ⟨k, i, h1, h2, rfl, h4⟩ := dAll_mem _ _ _ _ hd
    unfold shT; simp only; split <;> omega
  · intro d hd
    obtain ⟨k, i, h1, h2, rfl, h4⟩ := dAll_mem _ _ _ _ hd
    unfold duT uT dueD; simp only
    rw [Int.toNat_natCast, Int.toNat_natCast]
    split
    · exact (ok.due_le (k := k) (by omega) h2).1
    · exact Int.le_refl _
end Go.Proofs.Ytohjjgefklhmaaa
