import Derived.Test.YtohjjgefklhmaabGreatDoorSmallM
namespace Go.Proofs.YtohjjgefklhmaabGreatDoor
open Go.ChangeShapes Go.WideShapes Go.ChangeAt Go.RowKit
set_option linter.unusedVariables false

theorem ret_bool {a b : Bool} (h : a = b) : Ending.returned (.bool a) = .returned (.bool b) := by rw [h]
theorem ret_int {k : IntKind} {a b : Int} (h : a = b) : Ending.returned (.int k a) = .returned (.int k b) := by rw [h]

/-- a bool that says whether p -/
def BoolIff (e : Ending) (p : Prop) : Prop := ∃ b, e = .returned (.bool b) ∧ (b = true ↔ p)
theorem BoolIff.tt {p : Prop} (h : p) : BoolIff (.returned (.bool true)) p := ⟨true, rfl, by simp [h]⟩
theorem BoolIff.ff {p : Prop} (h : ¬ p) : BoolIff (.returned (.bool false)) p := ⟨false, rfl, by simp [h]⟩
theorem BoolIff.of {b : Bool} {p : Prop} (h : b = true ↔ p) : BoolIff (.returned (.bool b)) p := ⟨b, rfl, h⟩

/-! ### plain mathematics of a beginning -/
def sumL (xs : List Int) : Int := xs.foldl (· + ·) 0
theorem sumL_snoc (xs : List Int) (x : Int) : sumL (xs ++ [x]) = sumL xs + x := by simp [sumL, List.foldl_append]
theorem take_snoc (xs : List Int) (k : Nat) (h : k < xs.length) : xs.take (k + 1) = xs.take k ++ [xs[k]] := List.take_succ_eq_append_getElem h
theorem sumL_take (xs : List Int) (k : Nat) (h : k < xs.length) : sumL (xs.take (k + 1)) = sumL (xs.take k) + xs[k] := by rw [take_snoc xs k h, sumL_snoc]
/-- all of the first k are in a range -/
def AllIn (xs : List Int) (k : Nat) (lo hi : Int) : Prop := ∀ j x, j < k → xs[j]? = some x → lo ≤ x ∧ x ≤ hi
theorem AllIn.zero (xs : List Int) (lo hi : Int) : AllIn xs 0 lo hi := fun j x h => by omega
theorem AllIn.succ {xs : List Int} {k : Nat} {lo hi : Int} (h : AllIn xs k lo hi) (hk : k < xs.length) (h1 : lo ≤ xs[k]) (h2 : xs[k] ≤ hi) : AllIn xs (k + 1) lo hi := by
  intro j x hj hx
  by_cases e : j = k
  · subst e; simp [hk] at hx; subst hx; exact ⟨h1, h2⟩
  · exact h j x (by omega) hx
theorem AllIn.not {xs : List Int} {k : Nat} {lo hi : Int} (hk : k < xs.length) (h : ¬ (lo ≤ xs[k] ∧ xs[k] ≤ hi)) : ¬ AllIn xs xs.length lo hi := fun H => h (H k xs[k] hk (by simp [hk]))
theorem AllIn.mono {xs : List Int} {k : Nat} {lo hi hi' : Int} (h : AllIn xs k lo hi) (hh : hi ≤ hi') : AllIn xs k lo hi' := fun j x hj hx => by
  have := h j x hj hx; omega
theorem sumL_mono (xs : List Int) (h : AllIn xs xs.length 0 9223372036854775807) (k : Nat) (hk : k ≤ xs.length) : sumL (xs.take k) ≤ sumL xs := by
  obtain ⟨d, hd⟩ : ∃ d, k + d = xs.length := ⟨xs.length - k, by omega⟩
  induction d generalizing k with
  | zero => simp at hd; rw [List.take_of_length_le (by omega)]; omega
  | succ d ih =>
    have h1 := ih (k + 1) (by omega) (by omega)
    rw [sumL_take xs k (by omega)] at h1
    have := h k xs[k] (by omega) (by simp)
    omega
theorem sumL_nonneg (xs : List Int) (k : Nat) (hk : k ≤ xs.length) (h : AllIn xs k 0 9223372036854775807) : 0 ≤ sumL (xs.take k) := by
  induction k with
  | zero => simp [sumL]
  | succ k ih =>
    have h1 := ih (by omega) (fun j x hj hx => h j x (by omega) hx)
    have h2 := h k xs[k] (by omega) (by simp)
    rw [sumL_take xs k (by omega)]; omega

theorem AllIn.le_sum {xs : List Int} (h : AllIn xs xs.length 0 9223372036854775807) {M : Int} (hs : sumL xs ≤ M) : AllIn xs xs.length 0 M := by
  intro j x hj hx
  have h1 := h j x hj hx
  have h2 := sumL_mono xs h (j + 1) (by omega)
  have h3 := sumL_nonneg xs j (by omega) (fun i y hi hy => h i y (by omega) hy)
  rw [sumL_take xs j hj] at h2
  have e : xs[j] = x := by rw [List.getElem?_eq_getElem hj] at hx; exact Option.some.inj hx
  omega
theorem ints_snoc (xs : List Int) (k : Nat) (h : k < xs.length) : ints (xs.take (k + 1)) = ints (xs.take k) ++ [.int .i64 xs[k]] := by
  rw [take_snoc xs k h]; unfold ints; rw [List.map_append]; rfl
theorem AllIn.sum_le {xs : List Int} {M : Int} (k : Nat) (hk : k ≤ xs.length) (h : AllIn xs k 0 M) : sumL (xs.take k) ≤ k * M := by
  induction k with
  | zero => simp [sumL]
  | succ k ih =>
    have h1 := ih (by omega) (fun j x hj hx => h j x (by omega) hx)
    have h2 := h k xs[k] (by omega) (by simp)
    rw [sumL_take xs k (by omega)]
    have e : ((k + 1 : Nat) : Int) * M = k * M + M := by rw [Int.natCast_add, Int.add_mul]; simp
    omega
/-- P3, of the balances -/
def GoodBal (bs : List Int) : Prop := 1 ≤ bs.length ∧ bs.length ≤ 6 ∧ AllIn bs bs.length 0 9223372036854775807 ∧ sumL bs ≤ 1000000
/-- P3, of the validators -/
def GoodVal (os rs : List Int) (n : Nat) : Prop := 1 ≤ os.length ∧ os.length ≤ 5 ∧ rs.length = os.length ∧ AllIn os os.length 0 (n - 1) ∧ AllIn rs rs.length 0 100
/-- P3, of the rest -/
def GoodRules (top mature fee : Int) : Prop := 1 ≤ top ∧ top ≤ 5 ∧ 1 ≤ mature ∧ mature ≤ 20 ∧ 0 ≤ fee ∧ fee ≤ 100

/-! ### walks -/
set_option maxHeartbeats 400000 in
set_option maxRecDepth 100000 in
theorem copyNumbers_any (v : Value) (xs : List Int) (w : World) (hv : IntSl w v xs) (hlen : xs.length ≤ 1048576) :
    Calls Tryz.prog 23 #[v] w fun e w' => e = .returned (.slice (some ⟨w.heap.size, 0, none⟩) xs.length xs.length) ∧
      w' = w.alloc (.cells (ints xs).toArray 3) := by
  obtain ⟨a, cap, rfl, hx0⟩ := hv
  have hx : Hid (0 < xs.length → ∃ g, a = some ⟨g, 0, none⟩ ∧ ∀ (j : Nat) x, xs[j]? = some x → w.cell? ⟨g, j, none⟩ = some (.int .i64 x)) := hx0
  clear hx0
  obtain ⟨i0, hi, hz0, hz1, hz2⟩ := info_parts info_int
  have hmk : ∀ u : World, (Instr.makeSlice 23 (.int .i64 (xs.length : Int)) (.int .i64 (xs.length : Int))).run Tryz.prog u =
      .ok (.slice (some ⟨u.heap.size, 0, none⟩) xs.length xs.length) (u.alloc (.cells (madeCells #[.int .i64 0] xs.length) 3)) := fun u => by
    have h := run_make (P := Tryz.prog) u 23 3 i0 (.int .i64 0) Tryz.underlying23 hi hz0 .i64 .i64 (xs.length : Int) (xs.length : Int) (by omega) (Int.le_refl _) (by rw [hz2]; omega) (by omega)
    simpa [hz1, Value.cells] using h
  have hcp : (Builtin.copy_ #[23, 23] 3 #[.slice (some ⟨w.heap.size, 0, none⟩) xs.length xs.length, .slice a xs.length cap]).run Tryz.prog (w.alloc (.cells (madeCells #[.int .i64 0] xs.length) 3)) =
      .ok (.int .i64 xs.length) (w.alloc (.cells (ints xs).toArray 3)) := by
    have h := run_copy_any (P := Tryz.prog) (w.alloc (.cells (madeCells #[.int .i64 0] xs.length) 3)) 23 23 3 3 1 w.heap.size xs.length xs.length a xs.length cap
      (List.replicate xs.length (.int .i64 0)) 3 (ints xs) Tryz.underlying23 size_int (by rw [← toList_madeCells_one, Array.toArray_toList]; exact heap_alloc_new w _) (by simp [ints]) ?_ (by simp [ints]) oneCell_ints
    · rw [alloc_setRow] at h
      have e1 : Nat.min xs.length xs.length = xs.length := by simp
      rw [e1] at h
      have e2 : List.drop (ints xs).length (List.replicate xs.length (Value.int .i64 0)) = [] := by simp [ints]
      rw [e2, List.append_nil] at h
      exact h
    · intro h0
      obtain ⟨g, rfl, hc⟩ := hx.out (by simpa [ints] using h0)
      refine ⟨_, rfl, fun j v hj => ?_⟩
      obtain ⟨x, hx1, rfl⟩ : ∃ x, xs[j]? = some x ∧ Value.int .i64 x = v := by simpa [ints] using hj
      have h1 := hc j x hx1
      rw [addr_add0]
      rw [(Below.refl w.heap.size w).alloc (Nat.le_refl _) _ |>.cell (World.block_lt_of_cell? w _ h1)]
      exact h1
  go_enter Tryz.func23, Tryz.ntmps23
  go_wp2
  go_ret
  exact ⟨rfl, rfl⟩

set_option maxHeartbeats 1000000 in
set_option maxRecDepth 100000 in
theorem goodBalances_any (v : Value) (xs : List Int) (w : World) (hv : IntSl w v xs) (hlen : xs.length ≤ 1048576) :
    Calls Tryz.prog 57 #[v] w fun e w' => BoolIff e (GoodBal xs) ∧ w' = w := by
  obtain ⟨a, cap, rfl, hx0⟩ := hv
  have hx : Hid (0 < xs.length → ∃ g, a = some ⟨g, 0, none⟩ ∧ ∀ (j : Nat) x, xs[j]? = some x → w.cell? ⟨g, j, none⟩ = some (.int .i64 x)) := hx0
  clear hx0
  by_cases h1 : xs.length < 1
  · have HB : Hid (¬ GoodBal xs) := fun h => by unfold GoodBal at h; omega
    go_enter Tryz.func57, Tryz.ntmps57
    go_wp2
    go_ret
    exact ⟨BoolIff.ff HB.out, rfl⟩
  by_cases h2 : 6 < xs.length
  · have HB : Hid (¬ GoodBal xs) := fun h => by unfold GoodBal at h; omega
    go_enter Tryz.func57, Tryz.ntmps57
    go_wp2
    go_ret
    exact ⟨BoolIff.ff HB.out, rfl⟩
  obtain ⟨g, rfl, hc⟩ := hx.out (by omega)
  clear hx
  go_enter Tryz.func57, Tryz.ntmps57
  go_wp2
  go_loop [3, 16] (fun left i => ∃ k : Nat, k ≤ xs.length ∧ i = .int .i64 k ∧ left = .int .i64 (1000000 - sumL (xs.take k)) ∧ AllIn xs k 0 9223372036854775807 ∧ sumL (xs.take k) ≤ 1000000) (fun _ i => xs.length - (intOf i).toNat)
  case atStart => exact ⟨0, Nat.zero_le _, rfl, rfl, AllIn.zero _ _ _, by simp [sumL]⟩
  case round =>
    obtain ⟨k, hk, rfl, rfl, hA, hS⟩ := hrel
    have hN := sumL_nonneg xs k hk hA
    by_cases hlt : k < xs.length
    · have hck := hc k xs[k] (by simp [hlt])
      have hsn := sumL_take xs k hlt
      generalize hb : xs[k] = b at *
      by_cases hn : b < 0
      · have HB : Hid (¬ GoodBal xs) := fun h => by
          have := h.2.2.1 k b hlt (by simp [hlt, hb]); omega
        clear hA hsn hc
        go_wp2
        go_ret
        exact ⟨BoolIff.ff HB.out, rfl⟩
      · by_cases hm : 1000000 - sumL (xs.take k) < b
        · have HB : Hid (¬ GoodBal xs) := fun h => by
            have := sumL_mono xs h.2.2.1 (k + 1) (by omega)
            have h4 := h.2.2.2
            omega
          clear hA hsn hc
          go_wp2
          go_ret
          exact ⟨BoolIff.ff HB.out, rfl⟩
        · have HA : Hid (AllIn xs (k + 1) 0 9223372036854775807) := AllIn.succ hA hlt (by rw [hb]; omega) (by rw [hb]; omega)
          have HS : Hid (sumL (xs.take (k + 1)) = sumL (xs.take k) + b) := hsn
          clear hA hsn hc
          go_wp2
          go_round
          case rel => exact ⟨k + 1, by omega, by go_num, by rw [HS.out]; go_num, HA.out, by rw [HS.out]; omega⟩
          case measure => simp [intOf]; omega
    · have hke : k = xs.length := by omega
      have HB : Hid (GoodBal xs) := ⟨by omega, by omega, by rw [← hke]; exact hA, by rw [hke, List.take_of_length_le (Nat.le_refl _)] at hS; exact hS⟩
      clear hke
      go_wp2
      go_ret
      exact ⟨BoolIff.tt HB.out, rfl⟩
end Go.Proofs.YtohjjgefklhmaabGreatDoor

namespace Go.Proofs.YtohjjgefklhmaabGreatDoor
open Go.ChangeShapes Go.WideShapes Go.ChangeAt Go.RowKit
set_option linter.unusedVariables false

set_option maxHeartbeats 2000000 in
set_option maxRecDepth 100000 in
theorem goodValidators_any (v u : Value) (os rs : List Int) (n : Nat) (w : World) (hv : IntSl w v os) (hu : IntSl w u rs) (hlen : os.length ≤ 1048576) (hlen2 : rs.length ≤ 1048576) (hn : n ≤ 1048576) :
    Calls Tryz.prog 58 #[v, u, .int .i64 n] w fun e w' => BoolIff e (GoodVal os rs n) ∧ w' = w := by
  obtain ⟨a, cap, rfl, hx0⟩ := hv
  have hx : Hid (0 < os.length → ∃ g, a = some ⟨g, 0, none⟩ ∧ ∀ (j : Nat) x, os[j]? = some x → w.cell? ⟨g, j, none⟩ = some (.int .i64 x)) := hx0
  clear hx0
  obtain ⟨a', cap', rfl, hx0⟩ := hu
  have hy : Hid (0 < rs.length → ∃ g, a' = some ⟨g, 0, none⟩ ∧ ∀ (j : Nat) x, rs[j]? = some x → w.cell? ⟨g, j, none⟩ = some (.int .i64 x)) := hx0
  clear hx0
  by_cases h1 : os.length < 1
  · have HB : Hid (¬ GoodVal os rs n) := fun h => by unfold GoodVal at h; omega
    go_enter Tryz.func58, Tryz.ntmps58
    go_wp2
    go_ret
    exact ⟨BoolIff.ff HB.out, rfl⟩
  by_cases h2 : 5 < os.length
  · have HB : Hid (¬ GoodVal os rs n) := fun h => by unfold GoodVal at h; omega
    go_enter Tryz.func58, Tryz.ntmps58
    go_wp2
    go_ret
    exact ⟨BoolIff.ff HB.out, rfl⟩
  by_cases h3 : rs.length = os.length
  case neg =>
    have HB : Hid (¬ GoodVal os rs n) := fun h => by unfold GoodVal at h; omega
    have h3b : ((rs.length : Int) != (os.length : Int)) = true := by simp; omega
    go_enter Tryz.func58, Tryz.ntmps58
    go_wp2
    go_ret
    exact ⟨BoolIff.ff HB.out, rfl⟩
  have h3b : ((rs.length : Int) != (os.length : Int)) = false := by simp; omega
  have H3 : Hid (rs.length = os.length) := h3
  obtain ⟨g, rfl, hc⟩ := hx.out (by omega)
  obtain ⟨g', rfl, hc'⟩ := hy.out (by omega)
  clear hx hy h3
  go_enter Tryz.func58, Tryz.ntmps58
  go_wp2
  go_loop [28] (fun i => ∃ k : Nat, k ≤ os.length ∧ i = .int .i64 k ∧ AllIn os k 0 ((n : Int) - 1)) (fun i => os.length - (intOf i).toNat)
  case atStart => exact ⟨0, Nat.zero_le _, rfl, AllIn.zero _ _ _⟩
  case round =>
    obtain ⟨k, hk, rfl, hA⟩ := hrel
    by_cases hlt : k < os.length
    · have hck := hc k os[k] (by simp [hlt])
      generalize hb : os[k] = b at *
      by_cases hn : b < 0
      · have HB : Hid (¬ GoodVal os rs n) := fun h => by
          have := h.2.2.2.1 k b hlt (by simp [hlt, hb]); omega
        clear hA hc hc'
        go_wp2
        go_ret
        exact ⟨BoolIff.ff HB.out, rfl⟩
      · by_cases hm : (n : Int) ≤ b
        · have HB : Hid (¬ GoodVal os rs n) := fun h => by
            have := h.2.2.2.1 k b hlt (by simp [hlt, hb]); omega
          clear hA hc hc'
          go_wp2
          go_ret
          exact ⟨BoolIff.ff HB.out, rfl⟩
        · have HA : Hid (AllIn os (k + 1) 0 ((n : Int) - 1)) := AllIn.succ hA hlt (by rw [hb]; omega) (by rw [hb]; omega)
          clear hA hc hc'
          go_wp2
          go_round
          case rel => exact ⟨k + 1, by omega, by go_num, HA.out⟩
          case measure => simp [intOf]; omega
    · have HO : Hid (AllIn os os.length 0 ((n : Int) - 1)) := by
        have hke : k = os.length := by omega
        rw [hke] at hA; exact hA
      clear hA hc
      go_wp2
      go_loop [42] (fun i => ∃ k : Nat, k ≤ rs.length ∧ i = .int .i64 k ∧ AllIn rs k 0 100) (fun i => rs.length - (intOf i).toNat)
      case atStart => exact ⟨0, Nat.zero_le _, rfl, AllIn.zero _ _ _⟩
      case round =>
        obtain ⟨k2, hk2, rfl, hA⟩ := hrel
        by_cases hlt2 : k2 < rs.length
        · have hck := hc' k2 rs[k2] (by simp [hlt2])
          generalize hb : rs[k2] = b at *
          by_cases hn : b < 0
          · have HB : Hid (¬ GoodVal os rs n) := fun h => by
              have := h.2.2.2.2 k2 b hlt2 (by simp [hlt2, hb]); omega
            clear hA hc'
            go_wp2
            go_ret
            exact ⟨BoolIff.ff HB.out, rfl⟩
          · by_cases hm : 100 < b
            · have HB : Hid (¬ GoodVal os rs n) := fun h => by
                have := h.2.2.2.2 k2 b hlt2 (by simp [hlt2, hb]); omega
              clear hA hc'
              go_wp2
              go_ret
              exact ⟨BoolIff.ff HB.out, rfl⟩
            · have HA : Hid (AllIn rs (k2 + 1) 0 100) := AllIn.succ hA hlt2 (by rw [hb]; omega) (by rw [hb]; omega)
              clear hA hc'
              go_wp2
              go_round
              case rel => exact ⟨k2 + 1, by omega, by go_num, HA.out⟩
              case measure => simp [intOf]; omega
        · have HB : Hid (GoodVal os rs n) := ⟨by omega, by omega, H3.out, HO.out, by
            have hke : k2 = rs.length := by omega
            rw [hke] at hA; exact hA⟩
          clear hA hc'
          go_wp2
          go_ret
          exact ⟨BoolIff.tt HB.out, rfl⟩

/-- a beginning, as it is handed to New -/
def genV (vb vo vr : Value) (top mature fee : Int) : Value := .agg #[vb, vo, vr, .int .i64 top, .int .i64 mature, .int .i64 fee]

set_option maxHeartbeats 2000000 in
set_option maxRecDepth 100000 in
theorem goodRules_any (vb vo vr : Value) (top mature fee : Int) (w : World) :
    Calls Tryz.prog 59 #[.agg #[vb, vo, vr, .int .i64 top, .int .i64 mature, .int .i64 fee]] w fun e w' => BoolIff e (GoodRules top mature fee) ∧ Below w.heap.size w w' := by
  by_cases h1 : top < 1
  · have HB : Hid (¬ GoodRules top mature fee) := fun h => by unfold GoodRules at h; omega
    go_enter Tryz.func59, Tryz.ntmps59
    go_wp2
    go_ret
    exact ⟨BoolIff.ff HB.out, (Below.refl _ _).alloc (Nat.le_refl _) _⟩
  by_cases h2 : 5 < top
  · have HB : Hid (¬ GoodRules top mature fee) := fun h => by unfold GoodRules at h; omega
    go_enter Tryz.func59, Tryz.ntmps59
    go_wp2
    go_ret
    exact ⟨BoolIff.ff HB.out, (Below.refl _ _).alloc (Nat.le_refl _) _⟩
  by_cases h3 : mature < 1
  · have HB : Hid (¬ GoodRules top mature fee) := fun h => by unfold GoodRules at h; omega
    go_enter Tryz.func59, Tryz.ntmps59
    go_wp2
    go_ret
    exact ⟨BoolIff.ff HB.out, (Below.refl _ _).alloc (Nat.le_refl _) _⟩
  by_cases h4 : 20 < mature
  · have HB : Hid (¬ GoodRules top mature fee) := fun h => by unfold GoodRules at h; omega
    go_enter Tryz.func59, Tryz.ntmps59
    go_wp2
    go_ret
    exact ⟨BoolIff.ff HB.out, (Below.refl _ _).alloc (Nat.le_refl _) _⟩
  by_cases h5 : 0 ≤ fee
  case neg =>
    have HB : Hid (¬ GoodRules top mature fee) := fun h => by unfold GoodRules at h; omega
    go_enter Tryz.func59, Tryz.ntmps59
    go_wp2
    go_ret
    exact ⟨BoolIff.ff HB.out, (Below.refl _ _).alloc (Nat.le_refl _) _⟩
  by_cases h6 : fee ≤ 100
  case neg =>
    have HB : Hid (¬ GoodRules top mature fee) := fun h => by unfold GoodRules at h; omega
    go_enter Tryz.func59, Tryz.ntmps59
    go_wp2
    go_ret
    exact ⟨BoolIff.ff HB.out, (Below.refl _ _).alloc (Nat.le_refl _) _⟩
  have HB : Hid (GoodRules top mature fee) := ⟨by omega, by omega, by omega, by omega, by omega, by omega⟩
  go_enter Tryz.func59, Tryz.ntmps59
  go_wp2
  go_ret
  exact ⟨BoolIff.tt HB.out, (Below.refl _ _).alloc (Nat.le_refl _) _⟩

def GoodGen (bs os rs : List Int) (top mature fee : Int) : Prop := GoodBal bs ∧ GoodVal os rs bs.length ∧ GoodRules top mature fee

set_option maxHeartbeats 2000000 in
set_option maxRecDepth 100000 in
theorem goodGenesis_any (vb vo vr : Value) (bs os rs : List Int) (top mature fee : Int) (w : World) (hb : IntSl w vb bs) (ho : IntSl w vo os) (hr : IntSl w vr rs)
    (l1 : bs.length ≤ 1048576) (l2 : os.length ≤ 1048576) (l3 : rs.length ≤ 1048576) :
    Calls Tryz.prog 22 #[.agg #[vb, vo, vr, .int .i64 top, .int .i64 mature, .int .i64 fee]] w fun e w' => BoolIff e (GoodGen bs os rs top mature fee) ∧ Below w.heap.size w w' := by
  have hB : ∀ o, Below w.heap.size w (w.alloc o) := fun o => (Below.refl _ _).alloc (Nat.le_refl _) _
  obtain ⟨ab, cb, rfl, _⟩ := id hb
  obtain ⟨ao, co, rfl, _⟩ := id ho
  obtain ⟨ar, cr, rfl, _⟩ := id hr
  go_enter Tryz.func22, Tryz.ntmps22
  go_wp2_with fail
  refine (goodBalances_any _ bs _ (hb.below (hB _) (Nat.le_refl _)) l1).mono ?_
  rintro e w1 ⟨⟨b1, rfl, hb1⟩, rfl⟩
  cases b1 with
  | false =>
    have HB : Hid (¬ GoodGen bs os rs top mature fee) := fun h => by have := hb1.2 h.1; cases this
    clear hb1
    go_wp2
    go_ret
    exact ⟨BoolIff.ff HB.out, hB _⟩
  | true =>
    have HB : Hid (GoodBal bs) := hb1.1 rfl
    clear hb1
    go_wp2_with fail
    refine (goodValidators_any _ _ os rs bs.length _ (ho.below (hB _) (Nat.le_refl _)) (hr.below (hB _) (Nat.le_refl _)) l2 l3 l1).mono ?_
    rintro e w2 ⟨⟨b2, rfl, hb2⟩, rfl⟩
    cases b2 with
    | false =>
      have HG : Hid (¬ GoodGen bs os rs top mature fee) := fun h => by have := hb2.2 h.2.1; cases this
      clear hb2
      go_wp2
      go_ret
      exact ⟨BoolIff.ff HG.out, hB _⟩
    | true =>
      have HV : Hid (GoodVal os rs bs.length) := hb2.1 rfl
      clear hb2
      go_wp2_with fail
      refine (goodRules_any _ _ _ top mature fee _).mono ?_
      rintro e w3 ⟨⟨b3, rfl, hb3⟩, hb4⟩
      have HG : Hid (b3 = true ↔ GoodGen bs os rs top mature fee) := ⟨fun h => ⟨HB.out, HV.out, hb3.1 h⟩, fun h => hb3.2 h.2.2⟩
      clear hb3
      go_wp2
      go_ret
      exact ⟨BoolIff.of HG.out, (hB _).trans (hb4.mono (by simp))⟩
end Go.Proofs.YtohjjgefklhmaabGreatDoor
