import Derived.Test.YtkdekfmblpkecaaSee
namespace Go.Proofs.Ytkdekfmblpkecaa
open Go.ChangeShapes Go.WideShapes Go.ChangeAt Go.RowKit
set_option linter.unusedVariables false

/-- the ledger's delegations: with the value of their parts -/
def dprow : List DS → List Value → List Value
  | d :: l, p :: ps => d.cells ++ p :: dprow l ps
  | _, _ => []
def bondedN (l : List VS) : Int := l.foldl (fun n v => if v.inset = true then n + v.tokens else n) 0
def looseV (l : List VS) : Int := l.foldl (fun n v => if v.inset = true then n else n + v.tokens) 0
def sumE (l : List ES) : Int := l.foldl (fun n v => n + v.amount) 0
theorem foldl_snoc {α β : Type} (f : β → α → β) (a : β) (l : List α) (k : Nat) (h : k < l.length) : (l.take (k + 1)).foldl f a = f ((l.take k).foldl f a) l[k] := by
  rw [List.take_succ_eq_append_getElem h, List.foldl_append]; rfl
theorem bondedN_snoc (l : List VS) (k : Nat) (h : k < l.length) : bondedN (l.take (k + 1)) = if l[k].inset = true then bondedN (l.take k) + l[k].tokens else bondedN (l.take k) := by
  unfold bondedN; rw [foldl_snoc _ _ l k h]
theorem looseV_snoc (l : List VS) (k : Nat) (h : k < l.length) : looseV (l.take (k + 1)) = if l[k].inset = true then looseV (l.take k) else looseV (l.take k) + l[k].tokens := by
  unfold looseV; rw [foldl_snoc _ _ l k h]
theorem sumE_snoc (l : List ES) (k : Nat) (h : k < l.length) : sumE (l.take (k + 1)) = sumE (l.take k) + l[k].amount := by
  unfold sumE; rw [foldl_snoc _ _ l k h]
/-- bounds that keep sums small -/
def VB (l : List VS) : Prop := ∀ k (h : k < l.length), 0 ≤ l[k].tokens ∧ l[k].tokens ≤ 1000000
def EB (l : List ES) : Prop := ∀ k (h : k < l.length), 0 ≤ l[k].amount ∧ l[k].amount ≤ 1000000
theorem bondedN_bd {l : List VS} (h : VB l) (k : Nat) (hk : k ≤ l.length) : 0 ≤ bondedN (l.take k) ∧ bondedN (l.take k) ≤ 1000000 * k := by
  induction k with
  | zero => simp [bondedN]
  | succ k ih =>
    have h1 := ih (by omega)
    have h2 := h k (by omega)
    rw [bondedN_snoc l k (by omega)]
    split <;> omega
theorem looseV_bd {l : List VS} (h : VB l) (k : Nat) (hk : k ≤ l.length) : 0 ≤ looseV (l.take k) ∧ looseV (l.take k) ≤ 1000000 * k := by
  induction k with
  | zero => simp [looseV]
  | succ k ih =>
    have h1 := ih (by omega)
    have h2 := h k (by omega)
    rw [looseV_snoc l k (by omega)]
    split <;> omega
theorem sumE_bd {l : List ES} (h : EB l) (k : Nat) (hk : k ≤ l.length) : 0 ≤ sumE (l.take k) ∧ sumE (l.take k) ≤ 1000000 * k := by
  induction k with
  | zero => simp [sumE]
  | succ k ih =>
    have h1 := ih (by omega)
    have h2 := h k (by omega)
    rw [sumE_snoc l k (by omega)]
    omega
theorem erow_length (l : List ES) : (erow l).length = l.length * 4 := by
  induction l with
  | nil => rfl
  | cons v l ih => simp [erow, ih, ES.cells]; omega
theorem erow_at (l : List ES) (k : Nat) (h : k < l.length) (i : Nat) (hi : i < 4) : (erow l)[k * 4 + i]? = l[k].cells[i]? := by
  induction l generalizing k with
  | nil => simp at h
  | cons v l ih =>
    cases k with
    | zero => simp [erow, List.getElem?_append_left (show i < v.cells.length by simpa [ES.cells] using hi)]
    | succ k =>
      rw [erow, List.getElem?_append_right (by simp [ES.cells]; omega)]
      have e : (k + 1) * 4 + i - v.cells.length = k * 4 + i := by simp [ES.cells]; omega
      rw [e, ih k (by simpa using h)]
      simp
theorem drow_length (l : List DS) : (drow l).length = l.length * 3 := by
  induction l with
  | nil => rfl
  | cons v l ih => simp [drow, ih, DS.cells]; omega
theorem drow_at (l : List DS) (k : Nat) (h : k < l.length) (i : Nat) (hi : i < 3) : (drow l)[k * 3 + i]? = l[k].cells[i]? := by
  induction l generalizing k with
  | nil => simp at h
  | cons v l ih =>
    cases k with
    | zero => simp [drow, List.getElem?_append_left (show i < v.cells.length by simpa [DS.cells] using hi)]
    | succ k =>
      rw [drow, List.getElem?_append_right (by simp [DS.cells]; omega)]
      have e : (k + 1) * 3 + i - v.cells.length = k * 3 + i := by simp [DS.cells]; omega
      rw [e, ih k (by simpa using h)]
      simp
/-- reading a slice: its cells -/
theorem Rd.get {w : World} {a : Option Addr} {n cap sz : Nat} {L : List Value} (h : Rd w (.slice a n cap) n sz L) (h0 : 0 < n) : ∃ g, a = some ⟨g, 0, none⟩ ∧ ∀ (j : Nat) u, L[j]? = some u → w.cell? ⟨g, j, none⟩ = some u := by
  obtain ⟨_, a', c', he, hx⟩ := h
  simp only [Value.slice.injEq, true_and] at he
  obtain ⟨rfl, rfl⟩ := he
  exact hx h0
theorem Rd.form {w : World} {v : Value} {n sz : Nat} {L : List Value} (h : Rd w v n sz L) : ∃ a cap, v = .slice a n cap := by
  obtain ⟨_, a', c', he, hx⟩ := h
  exact ⟨a', c', he⟩

end Go.Proofs.Ytkdekfmblpkecaa
