import Derived.Test.YtenjjneobkodbaaGreatLBlock
namespace Go.Proofs.YtenjjneobkodbaaGreat
open Go.ChangeShapes Go.WideShapes Go.ChangeAt Go.RowKit
set_option linter.unusedVariables false

theorem foldl_add (xs : List Int) (a : Int) : xs.foldl (· + ·) a = a + sumL xs := by
  induction xs generalizing a with
  | nil => simp [sumL]
  | cons x xs ih =>
    have h1 := ih (a + x)
    have h2 := ih x
    simp only [sumL, List.foldl_cons, Int.zero_add] at *
    rw [h1, h2]; omega
theorem sumL_cons (x : Int) (xs : List Int) : sumL (x :: xs) = x + sumL xs := by
  have := foldl_add xs x
  simpa [sumL] using this
theorem sumL_set (l : List Int) (k : Nat) (h : k < l.length) (x : Int) : sumL (l.set k x) = sumL l - l.getD k 0 + x := by
  induction l generalizing k with
  | nil => simp at h
  | cons y l ih =>
    cases k with
    | zero => simp [sumL_cons]; omega
    | succ k =>
      have := ih k (by simpa using h)
      simp only [List.set_cons_succ, sumL_cons, this, List.getD_cons_succ]
      omega
theorem sumL_mem (l : List Int) (h0 : ∀ y ∈ l, 0 ≤ y) : 0 ≤ sumL l ∧ ∀ y ∈ l, y ≤ sumL l := by
  induction l with
  | nil => simp [sumL]
  | cons x l ih =>
    obtain ⟨h1, h2⟩ := ih (fun y hy => h0 y (List.mem_cons_of_mem _ hy))
    have hx := h0 x List.mem_cons_self
    refine ⟨by rw [sumL_cons]; omega, fun y hy => ?_⟩
    rw [sumL_cons]
    rcases List.mem_cons.1 hy with rfl | hy
    · omega
    · have := h2 y hy; omega

/-- the numbers of an engine where nobody is bonded -/
structure GoodC (c : LC) : Prop where
  len1 : 1 ≤ c.bal.length
  len : c.bal.length ≤ 6
  fee0 : 0 ≤ c.fee
  fee1 : c.fee ≤ 100
  fees0 : 0 ≤ c.fees
  pool0 : 0 ≤ c.pool
  bal0 : ∀ y ∈ c.bal, 0 ≤ y
  tot : sumL c.bal + c.fees + c.pool ≤ 1000000
  top1 : 1 ≤ c.top
  mat : 0 ≤ c.mature ∧ c.mature ≤ 1000
  h0 : 0 ≤ c.height
  h1 : c.height ≤ 1000
theorem GoodC.at {c : LC} (h : GoodC c) {k : Nat} (hk : k < c.bal.length) : 0 ≤ c.bal.getD k 0 ∧ c.bal.getD k 0 ≤ sumL c.bal := by
  have e : c.bal.getD k 0 = c.bal[k] := by simp [List.getD, hk]
  rw [e]
  exact ⟨h.bal0 _ (List.getElem_mem hk), (sumL_mem _ h.bal0).2 _ (List.getElem_mem hk)⟩
theorem GoodC.bd {c : LC} (h : GoodC c) (k : Nat) (hk : k < c.bal.length) : 0 ≤ c.bal[k] ∧ c.bal[k] ≤ 1000000 := by
  have h1 := h.bal0 _ (List.getElem_mem hk)
  have h2 := (sumL_mem _ h.bal0).2 _ (List.getElem_mem hk)
  have h3 := h.tot
  have h4 := h.fees0
  have h5 := h.pool0
  exact ⟨h1, by omega⟩
theorem GoodC.lbd {c : LC} (h : GoodC c) : LBd c := by
  have h2 := (sumL_mem _ h.bal0).1
  have h3 := h.tot
  have h4 := h.fees0
  have h5 := h.pool0
  have h6 := h.fee1
  have h7 := h.len
  exact ⟨by omega, h.fee0, by omega, h4, by omega, h5, by omega, fun k hk => by have := h.bd k hk; omega⟩
theorem set_mem0 {l : List Int} (h : ∀ y ∈ l, 0 ≤ y) (k : Nat) (x : Int) (hx : 0 ≤ x) : ∀ y ∈ l.set k x, 0 ≤ y := by
  intro y hy
  rcases List.mem_or_eq_of_mem_set hy with h1 | h1
  · exact h y h1
  · omega
theorem getD0 {l : List Int} (h : ∀ y ∈ l, 0 ≤ y) (j : Nat) : 0 ≤ l.getD j 0 := by
  unfold List.getD
  cases e : l[j]? with
  | none => simp
  | some y => simpa using h y (List.mem_of_getElem? e)
theorem inN_nat {n : Int} {m : Nat} (h : inN n 0 ((m : Int) - 1) = true) : ∃ k : Nat, n = k ∧ k < m := by
  obtain ⟨q1, q2⟩ := inN_iff.1 h
  obtain ⟨k, rfl⟩ := Int.eq_ofNat_of_zero_le q1
  exact ⟨k, rfl, by omega⟩
theorem GoodC.charge {c : LC} (h : GoodC c) (who : Int) : GoodC (chargeF c who).2 ∧ (chargeF c who).2.bal.length = c.bal.length := by
  unfold chargeF
  split
  · rename_i hin
    obtain ⟨k, rfl, hk⟩ := inN_nat hin
    rw [Int.toNat_natCast]
    split
    · exact ⟨h, rfl⟩
    · rename_i hp
      have h1 := h.at hk
      have h2 := sumL_set c.bal k hk (c.bal.getD k 0 - c.fee)
      have h3 := h.tot
      have h4 := h.fees0
      have h5 := h.fee0
      refine ⟨⟨?_, ?_, h.fee0, h.fee1, ?_, h.pool0, set_mem0 h.bal0 k _ (by omega), ?_, h.top1, h.mat, h.h0, h.h1⟩, by simp [setB]⟩
      · simp only [setB, List.length_set]; exact h.len1
      · simp only [setB, List.length_set]; exact h.len
      · simp only; omega
      · simp only [setB]; omega
  · exact ⟨h, rfl⟩
theorem GoodC.give {c : LC} (h : GoodC c) {k : Nat} (hk : k < c.bal.length) (to amount : Int) : GoodC (giveF c k to amount).2 ∧ (giveF c k to amount).2.bal.length = c.bal.length := by
  unfold giveF
  rw [Int.toNat_natCast]
  split
  · rename_i hin
    obtain ⟨j, rfl, hj⟩ := inN_nat hin
    rw [Int.toNat_natCast]
    split
    · exact ⟨h, rfl⟩
    · split
      · exact ⟨h, rfl⟩
      · rename_i ha hp
        have h1 := h.at hk
        have h2 := sumL_set c.bal k hk (c.bal.getD k 0 - amount)
        have hm := set_mem0 h.bal0 k (c.bal.getD k 0 - amount) (by omega)
        have hj' : j < (c.bal.set k (c.bal.getD k 0 - amount)).length := by simpa using hj
        have h3 := sumL_set (c.bal.set k (c.bal.getD k 0 - amount)) j hj' ((c.bal.set k (c.bal.getD k 0 - amount)).getD j 0 + amount)
        have h4 : 0 ≤ (c.bal.set k (c.bal.getD k 0 - amount)).getD j 0 := getD0 hm j
        have h5 := h.tot
        refine ⟨⟨?_, ?_, h.fee0, h.fee1, h.fees0, h.pool0, set_mem0 hm j _ (by omega), ?_, h.top1, h.mat, h.h0, h.h1⟩, by simp [setB]⟩
        · simp only [setB, List.length_set]; exact h.len1
        · simp only [setB, List.length_set]; exact h.len
        · simp only [setB]; omega
  · exact ⟨h, rfl⟩
theorem GoodC.send {c : LC} (h : GoodC c) (who to amount : Int) : GoodC (sendF c who to amount).2 := by
  unfold sendF
  split
  · rename_i h0
    obtain ⟨hin, hl⟩ := chargeF_zero h0
    obtain ⟨k, rfl, hk⟩ := inN_nat hin
    exact ((h.charge k).1.give (by rw [(h.charge k).2]; exact hk) to amount).1
  · exact (h.charge who).1
theorem GoodC.spend {c : LC} (h : GoodC c) (to amount : Int) : GoodC (spendF c to amount).2 := by
  unfold spendF
  split
  · rename_i hin
    obtain ⟨j, rfl, hj⟩ := inN_nat hin
    rw [Int.toNat_natCast]
    split
    · exact h
    · split
      · exact h
      · rename_i ha hp
        have h1 := h.at hj
        have h2 := sumL_set c.bal j hj (c.bal.getD j 0 + amount)
        have h3 := h.tot
        refine ⟨?_, ?_, h.fee0, h.fee1, h.fees0, ?_, set_mem0 h.bal0 j _ (by omega), ?_, h.top1, h.mat, h.h0, h.h1⟩
        · simp only [setB, List.length_set]; exact h.len1
        · simp only [setB, List.length_set]; exact h.len
        · simp only [setB]; omega
        · simp only [setB]; omega
  · exact h
theorem GoodC.block {c : LC} (h : GoodC c) : GoodC (blockF c).2 := by
  unfold blockF
  split
  · exact h
  · rename_i hh
    have h1 := h.h0
    have h2 := h.h1
    have h3 := h.tot
    have h4 := h.fees0
    have h5 := h.pool0
    exact ⟨h.len1, h.len, h.fee0, h.fee1, by simp only; omega, by simp only; omega, h.bal0, by simp only; omega, h.top1, h.mat, by simp only; omega, by simp only; omega⟩
theorem GoodC.begin {bs os rs : List Int} {top mature fee : Int} (h : GoodGen bs os rs top mature fee) : GoodC { top := top, mature := mature, fee := fee, height := 0, fees := 0, pool := 0, bal := bs } := by
  obtain ⟨⟨h1, h2, h3, h4⟩, _, ⟨a1, a2, a3, a4, a5, a6⟩⟩ := h
  refine ⟨h1, h2, a5, a6, Int.le_refl _, Int.le_refl _, ?_, by simp only; omega, a1, ⟨by simp only; omega, by simp only; omega⟩, Int.le_refl _, by simp⟩
  intro y hy
  obtain ⟨j, hj, rfl⟩ := List.getElem_of_mem hy
  exact (h3 j bs[j] hj (by simp [hj])).1
theorem vs0_ZV (os rs : List Int) : ZV (vs0 os rs) := fun k h => by simp [vs0]
end Go.Proofs.YtenjjneobkodbaaGreat
