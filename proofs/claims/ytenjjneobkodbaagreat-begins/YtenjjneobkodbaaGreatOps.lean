import Derived.Test.YtenjjneobkodbaaGreatApp2
namespace Go.Proofs.YtenjjneobkodbaaGreat
open Go.ChangeShapes Go.WideShapes Go.ChangeAt Go.RowKit
set_option linter.unusedVariables false

/-- a step of a script -/
structure OpD where
  kind : Int
  x : Int
  a : Int
  b : Int
  c : Int
  d : Int
  s : ByteArray
def OpD.cells (o : OpD) : List Value := [.int .i64 o.kind, .int .i64 o.x, .int .i64 o.a, .int .i64 o.b, .int .i64 o.c, .int .i64 o.d, .string o.s]
def i64R (n : Int) : Prop := -9223372036854775808 ≤ n ∧ n ≤ 9223372036854775807
def OpD.ok (o : OpD) : Prop := i64R o.kind ∧ i64R o.x ∧ i64R o.a ∧ i64R o.b ∧ i64R o.c ∧ i64R o.d
def oprow : List OpD → List Value
  | [] => []
  | o :: l => o.cells ++ oprow l
theorem oprow_length (l : List OpD) : (oprow l).length = l.length * 7 := by
  induction l with
  | nil => rfl
  | cons v l ih => simp [oprow, ih, OpD.cells]; omega
theorem oprow_at (l : List OpD) (k : Nat) (h : k < l.length) (i : Nat) (hi : i < 7) : (oprow l)[k * 7 + i]? = l[k].cells[i]? := by
  induction l generalizing k with
  | nil => simp at h
  | cons v l ih =>
    cases k with
    | zero => simp [oprow, List.getElem?_append_left (show i < v.cells.length by simpa [OpD.cells] using hi)]
    | succ k =>
      rw [oprow, List.getElem?_append_right (by simp [OpD.cells]; omega)]
      have e : (k + 1) * 7 + i - v.cells.length = k * 7 + i := by simp [OpD.cells]; omega
      rw [e, ih k (by simpa using h)]
      simp
theorem oprow_snoc (l : List OpD) (o : OpD) : oprow (l ++ [o]) = oprow l ++ o.cells := by
  induction l with
  | nil => simp [oprow]
  | cons v l ih => simp [oprow, ih]
/-- a script in memory -/
def OpSl (w : World) (v : Value) (ops : List OpD) : Prop :=
  ∃ a cap, v = .slice a ops.length cap ∧ (0 < ops.length → ∃ g off, a = some ⟨g, off, none⟩ ∧ ∀ k (h : k < ops.length), ∀ i, i < 7 → w.cell? ⟨g, off + k * 7 + i, none⟩ = ops[k].cells[i]?)
theorem OpSl.get {w : World} {a : Option Addr} {cap : Nat} {ops : List OpD} (h : OpSl w (.slice a ops.length cap) ops) (h0 : 0 < ops.length) : ∃ g off, a = some ⟨g, off, none⟩ ∧ ∀ k (h : k < ops.length), ∀ i, i < 7 → w.cell? ⟨g, off + k * 7 + i, none⟩ = ops[k].cells[i]? := by
  obtain ⟨a', c', he, hx⟩ := h
  simp only [Value.slice.injEq, true_and] at he
  obtain ⟨rfl, rfl⟩ := he
  exact hx h0
theorem OpSl.below {w w' : World} {B : Nat} {v : Value} {ops : List OpD} (h : OpSl w v ops) (hb : Below B w w') (hB : w.heap.size ≤ B) : OpSl w' v ops := by
  obtain ⟨a, cap, rfl, hx⟩ := h
  refine ⟨a, cap, rfl, fun h0 => ?_⟩
  obtain ⟨g, off, rfl, hc⟩ := hx h0
  refine ⟨g, off, rfl, fun k hk i hi => ?_⟩
  have h1 := hc k hk i hi
  have h2 : ∃ u, ops[k].cells[i]? = some u := ⟨_, List.getElem?_eq_getElem (by simpa [OpD.cells] using hi)⟩
  obtain ⟨u, hu⟩ := h2
  rw [hb.cell (p := ⟨g, off + k * 7 + i, none⟩) (Nat.lt_of_lt_of_le (World.block_lt_of_cell? w _ (h1.trans hu)) hB)]
  exact h1

/-- not too much -/
def SmallOk (ops : List OpD) : Prop := ops.length ≤ 16384 ∧ ∀ k (h : k < ops.length), ops[k].s.size ≤ 16384
/-- true only where it is not too much -/
def BoolIf (e : Ending) (p : Prop) : Prop := ∃ b, e = .returned (.bool b) ∧ (b = true → p)
theorem BoolIf.tt {p : Prop} (h : p) : BoolIf (.returned (.bool true)) p := ⟨true, rfl, fun _ => h⟩
theorem BoolIf.ff {p : Prop} : BoolIf (.returned (.bool false)) p := ⟨false, rfl, fun h => by cases h⟩

set_option maxHeartbeats 1000000 in
set_option maxRecDepth 100000 in
theorem small_any (v : Value) (ops : List OpD) (w : World) (hv : OpSl w v ops) (hl : ops.length ≤ 9000000000000000) (hs : ∀ k (h : k < ops.length), ops[k].s.size ≤ 9000000000000000) :
    Calls Tryz.prog 9 #[v] w fun e w' => BoolIf e (SmallOk ops) ∧ w = w' := by
  obtain ⟨a, cap, rfl, hx0⟩ := id hv
  clear hx0
  by_cases hbig : 16384 < ops.length
  · clear hv hs
    go_enter Tryz.func9, Tryz.ntmps9
    go_wp2
    go_ret
    exact ⟨BoolIf.ff, rfl⟩
  · go_enter Tryz.func9, Tryz.ntmps9
    go_wp2
    go_loop [3, 4] (fun n i => ∃ k : Nat, k ≤ ops.length ∧ i = .int .i64 k ∧ ∃ m : Nat, m ≤ 16384 ∧ n = .int .i64 m ∧ ∀ j (h : j < ops.length), j < k → ops[j].s.size ≤ 16384) (fun _ i => ops.length - (intOf i).toNat)
    case atStart => exact ⟨0, Nat.zero_le _, rfl, ops.length, by omega, rfl, fun j _ h => by omega⟩
    case round =>
      obtain ⟨k, hk, rfl, m, hm, rfl, hA⟩ := hrel
      by_cases hlt : k < ops.length
      · obtain ⟨g, off, rfl, hc⟩ := hv.get (by omega)
        have x6 := hc k hlt 6 (by omega)
        have hsk := hs k hlt
        have HA : Hid (ops[k].s.size ≤ 16384 → ∀ j (h : j < ops.length), j < k + 1 → ops[j].s.size ≤ 16384) := fun h0 j h h1 => by
          by_cases e : j = k
          · subst e; exact h0
          · exact hA j h (by omega)
        generalize ops[k] = o at *
        simp only [OpD.cells, List.getElem?_cons_succ, List.getElem?_cons_zero] at x6
        clear hc hA hv hs
        by_cases hov : 16384 < m + o.s.size
        · go_wp2
          go_ret
          exact ⟨BoolIf.ff, rfl⟩
        · go_wp2
          go_round
          case rel => exact ⟨k + 1, by omega, by go_num, m + o.s.size, by omega, by go_num, HA.out (by omega)⟩
          case measure => simp [intOf]; omega
      · have HA : Hid (SmallOk ops) := ⟨by omega, fun j h => hA j h (by omega)⟩
        clear hA hv hs
        go_wp2
        go_ret
        exact ⟨BoolIf.tt HA.out, rfl⟩
end Go.Proofs.YtenjjneobkodbaaGreat
