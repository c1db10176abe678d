import Derived.Test.YtkdekfmblpkecaaEEng
namespace Go.Proofs.Ytkdekfmblpkecaa
open Go.ChangeShapes Go.WideShapes Go.ChangeAt Go.RowKit
set_option linter.unusedVariables false

def v0 : VS := ⟨0, 0, 0, 0, 0, 0, false, false⟩
/-- the best of those that are not in the set -/
def bestL (l : List VS) : Nat → Int × Int
  | 0 => (-1, 0)
  | k + 1 => if (l.getD k v0).inset = false ∧ (l.getD k v0).jailed = false ∧ (bestL l k).2 < (l.getD k v0).tokens then ((k : Int), (l.getD k v0).tokens) else bestL l k
theorem bestL_range (l : List VS) (k : Nat) : (bestL l k).1 = -1 ∨ (0 ≤ (bestL l k).1 ∧ (bestL l k).1 < k) := by
  induction k with
  | zero => exact .inl rfl
  | succ k ih =>
    unfold bestL
    split
    · right; simp only; omega
    · rcases ih with h | h
      · exact .inl h
      · right; omega
theorem bestL_pos (l : List VS) (k : Nat) : 0 ≤ (bestL l k).2 := by
  induction k with
  | zero => exact Int.le_refl _
  | succ k ih =>
    unfold bestL
    split
    · rename_i h; simp only; omega
    · exact ih
def offL (l : List VS) : Nat → List VS
  | 0 => l
  | k + 1 => (offL l k).modify k (fun v => { v with inset := false })
theorem offL_len (l : List VS) (k : Nat) : (offL l k).length = l.length := by
  induction k with
  | zero => rfl
  | succ k ih => simp [offL, ih]
def chooseL : Nat → List VS → List VS
  | 0, l => l
  | n + 1, l => if (bestL l l.length).1 < 0 then l else chooseL n (l.modify (bestL l l.length).1.toNat (fun v => { v with inset := true }))
def chooseF (l : List VS) (top : Int) : List VS := chooseL top.toNat (offL l l.length)

set_option maxHeartbeats 2000000 in
set_option maxRecDepth 100000 in
theorem ebest (g : Nat) (vals : List VS) (vv : Value) (w : World) (c7 : w.cell? ⟨g, 7, none⟩ = some vv) (hv : Rd w vv vals.length 8 (vrow vals)) (l2 : vals.length ≤ 1000) :
    Calls Try.prog 62 #[.pointer (some ⟨g, 0, none⟩)] w fun e w' => e = .returned (.int .i64 (bestL vals vals.length).1) ∧ Below w.heap.size w w' := by
  obtain ⟨va, vc, rfl⟩ := hv.form
  go_enter Try.func62, Try.ntmps62
  go_wp2
  go_loopw [3, 4, 12] (fun b m i wr => ∃ k : Nat, k ≤ vals.length ∧ i = .int .i64 k ∧ b = .int .i64 (bestL vals k).1 ∧ m = .int .i64 (bestL vals k).2 ∧ Below w.heap.size w wr) (fun _ _ i _ => vals.length - (intOf i).toNat)
  case atStart => exact ⟨0, Nat.zero_le _, rfl, rfl, rfl, Below.refl _ _⟩
  case round =>
    obtain ⟨k, hk, rfl, rfl, rfl, hbw⟩ := hrel
    have hv' := hv.below hbw (Nat.le_refl _)
    by_cases hlt : k < vals.length
    · obtain ⟨gv, rfl, hc⟩ := hv'.get (by omega)
      have y0 := hc _ _ (vrow_at vals k hlt 0 (by omega))
      have y1 := hc _ _ (vrow_at vals k hlt 1 (by omega))
      have y2 := hc _ _ (vrow_at vals k hlt 2 (by omega))
      have y3 := hc _ _ (vrow_at vals k hlt 3 (by omega))
      have y4 := hc _ _ (vrow_at vals k hlt 4 (by omega))
      have y5 := hc _ _ (vrow_at vals k hlt 5 (by omega))
      have y6 := hc _ _ (vrow_at vals k hlt 6 (by omega))
      have y7 := hc _ _ (vrow_at vals k hlt 7 (by omega))
      rw [Nat.add_zero] at y0
      have HB : Hid (∀ o, Below w.heap.size w (wr.alloc o)) := fun o => hbw.alloc hbw.size o
      have hS : bestL vals (k + 1) = if vals[k].inset = false ∧ vals[k].jailed = false ∧ (bestL vals k).2 < vals[k].tokens then ((k : Int), vals[k].tokens) else bestL vals k := by
        have e : vals.getD k v0 = vals[k] := by simp [hlt]
        rw [← e]; rfl
      have HS : Hid (bestL vals (k + 1) = if vals[k].inset = false ∧ vals[k].jailed = false ∧ (bestL vals k).2 < vals[k].tokens then ((k : Int), vals[k].tokens) else bestL vals k) := hS
      clear hS
      generalize vals[k] = x at *
      obtain ⟨xo, xr, xt, xs, xc, xou, xj, xi⟩ := x
      dsimp only at y0 y1 y2 y3 y4 y5 y6 y7
      clear hc hv hv' hbw
      by_cases hm : (bestL vals k).2 < xt
      · cases xi <;> cases xj <;> go_wp2
        all_goals
          refine And.intro ?_ ?_
          · first
              | exact ⟨k + 1, by omega, by go_num, by rw [HS.out]; simp [hm], by rw [HS.out]; simp [hm], HB.out _⟩
              | ((repeat apply Exists.intro); exact ⟨⟨k + 1, by omega, by go_num, by rw [HS.out]; simp [hm], by rw [HS.out]; simp [hm], HB.out _⟩, rfl⟩)
          · simp [intOf]; omega
      · cases xi <;> cases xj <;> go_wp2
        all_goals
          refine And.intro ?_ ?_
          · first
              | exact ⟨k + 1, by omega, by go_num, by rw [HS.out]; simp [hm], by rw [HS.out]; simp [hm], HB.out _⟩
              | ((repeat apply Exists.intro); exact ⟨⟨k + 1, by omega, by go_num, by rw [HS.out]; simp [hm], by rw [HS.out]; simp [hm], HB.out _⟩, rfl⟩)
          · simp [intOf]; omega
    · have e : k = vals.length := by omega
      have HE : Hid (k = vals.length) := e
      clear e
      go_wp2
      go_ret
      refine ⟨ret_int ?_, hbw⟩
      rw [HE.out]
end Go.Proofs.Ytkdekfmblpkecaa
