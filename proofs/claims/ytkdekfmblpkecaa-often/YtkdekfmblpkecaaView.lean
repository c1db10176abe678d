import Derived.Test.YtkdekfmblpkecaaApp
namespace Go.Proofs.Ytkdekfmblpkecaa
open Go.ChangeShapes Go.WideShapes Go.ChangeAt Go.RowKit
set_option linter.unusedVariables false

/-- a slice of n elements of sz cells that can be read: its cells -/
def Rd (w : World) (v : Value) (n sz : Nat) (L : List Value) : Prop :=
  L.length = n * sz ∧ ∃ a cap, v = .slice a n cap ∧ (0 < n → ∃ g, a = some ⟨g, 0, none⟩ ∧ ∀ (j : Nat) u, L[j]? = some u → w.cell? ⟨g, j, none⟩ = some u)

theorem Rd.of_owns {w : World} {base : Nat} {e : TypeId} {size : Nat} {v : Value} {n : Nat} {xs : List Value} (h : w.ownsRow base e size v n xs) : Rd w v n size xs := by
  refine ⟨h.1, ?_⟩
  rcases id h.2 with ⟨rfl, rfl⟩ | ⟨g, cap, cur, rfl, _⟩
  · exact ⟨none, 0, rfl, fun h => by omega⟩
  · refine ⟨_, cap, rfl, fun _ => ⟨g, rfl, fun j u hu => ?_⟩⟩
    have := h.cells (g := g) rfl j u hu
    rwa [addr_add0] at this
theorem Rd.ints {w : World} {v : Value} {xs : List Int} {n : Nat} (h : Rd w v n 1 (ints xs)) : IntSl w v xs := by
  obtain ⟨hl, a, cap, rfl, hx⟩ := h
  have e : xs.length = n := by simpa [Go.Proofs.Ytkdekfmblpkecaa.ints] using hl
  subst e
  exact ⟨a, cap, rfl, fun h0 => by
    obtain ⟨g, rfl, hc⟩ := hx h0
    exact ⟨g, rfl, fun j x hj => hc j _ (by simp [Go.Proofs.Ytkdekfmblpkecaa.ints, hj])⟩⟩
theorem IntSl.rd {w : World} {v : Value} {xs : List Int} (h : IntSl w v xs) : Rd w v xs.length 1 (ints xs) := by
  obtain ⟨a, cap, rfl, hx⟩ := h
  refine ⟨by simp [ints], a, cap, rfl, fun h0 => ?_⟩
  obtain ⟨g, rfl, hc⟩ := hx h0
  refine ⟨g, rfl, fun j u hj => ?_⟩
  obtain ⟨x, hx1, rfl⟩ : ∃ x, xs[j]? = some x ∧ Value.int .i64 x = u := by simpa [ints] using hj
  exact hc j x hx1
theorem Rd.below {w w' : World} {B : Nat} {v : Value} {n sz : Nat} {L : List Value} (h : Rd w v n sz L) (hb : Below B w w') (hB : w.heap.size ≤ B) : Rd w' v n sz L := by
  obtain ⟨hl, a, cap, rfl, hx⟩ := h
  refine ⟨hl, a, cap, rfl, fun h0 => ?_⟩
  obtain ⟨g, rfl, hc⟩ := hx h0
  refine ⟨g, rfl, fun j x hj => ?_⟩
  have h1 := hc j x hj
  rw [hb.cell (p := ⟨g, j, none⟩) (Nat.lt_of_lt_of_le (World.block_lt_of_cell? w _ h1) hB)]
  exact h1
theorem Rd.kp {S : Nat → Prop} {w w' : World} {v : Value} {n sz : Nat} {L : List Value} (h : Rd w v n sz L) (k : Kp S w w') (ho : IntSl.off v S) : Rd w' v n sz L := by
  obtain ⟨hl, a, cap, rfl, hx⟩ := h
  refine ⟨hl, a, cap, rfl, fun h0 => ?_⟩
  obtain ⟨g, rfl, hc⟩ := hx h0
  exact ⟨g, rfl, fun j x hj => k.cell (hc j x hj) (ho ⟨g, 0, none⟩ _ _ rfl)⟩

/-- a validator, as See and the ledger tell it -/
structure VS where
  owner : Int
  rate : Int
  tokens : Int
  shares : Int
  comm : Int
  outs : Int
  jailed : Bool
  inset : Bool
def VS.cells (v : VS) : List Value := [.int .i64 v.owner, .int .i64 v.rate, .int .i64 v.tokens, .int .i64 v.shares, .int .i64 v.comm, .int .i64 v.outs, .bool v.jailed, .bool v.inset]
def vrow : List VS → List Value
  | [] => []
  | v :: l => v.cells ++ vrow l
theorem vrow_length (l : List VS) : (vrow l).length = l.length * 8 := by
  induction l with
  | nil => rfl
  | cons v l ih => simp [vrow, ih, VS.cells]; omega
theorem vrow_at (l : List VS) (k : Nat) (h : k < l.length) (i : Nat) (hi : i < 8) : (vrow l)[k * 8 + i]? = l[k].cells[i]? := by
  induction l generalizing k with
  | nil => simp at h
  | cons v l ih =>
    cases k with
    | zero => simp [vrow, List.getElem?_append_left (show i < v.cells.length by simpa [VS.cells] using hi)]
    | succ k =>
      rw [vrow, List.getElem?_append_right (by simp [VS.cells]; omega)]
      have e : (k + 1) * 8 + i - v.cells.length = k * 8 + i := by simp [VS.cells]; omega
      rw [e, ih k (by simpa using h)]
      simp
theorem vrow_one (l : List VS) : ∀ u ∈ vrow l, u.oneCell' = true := by
  induction l with
  | nil => simp [vrow]
  | cons v l ih =>
    intro u hu
    simp only [vrow, List.mem_append] at hu
    rcases hu with hu | hu
    · simp [VS.cells] at hu
      rcases hu with rfl | rfl | rfl | rfl | rfl | rfl | rfl | rfl <;> rfl
    · exact ih u hu

theorem size_val : (Try.prog.info? 47).map (·.size) = some 8 := by kernel_rfl

set_option maxHeartbeats 400000 in
set_option maxRecDepth 100000 in
theorem copyValidators_any (v : Value) (n : Nat) (L : List Value) (w : World) (hv : Rd w v n 8 L) (hlen : n ≤ 1048576) (h1 : ∀ u ∈ L, u.oneCell' = true) :
    Calls Try.prog 38 #[v] w fun e w' => e = .returned (.slice (some ⟨w.heap.size, 0, none⟩) n n) ∧
      w' = w.alloc (.cells L.toArray 47) := by
  obtain ⟨hL, a, cap, rfl, hx0⟩ := hv
  have HL : Hid (L.length = n * 8) := hL
  have hx : Hid (0 < n → ∃ g, a = some ⟨g, 0, none⟩ ∧ ∀ (j : Nat) x, L[j]? = some x → w.cell? ⟨g, j, none⟩ = some x) := hx0
  have H1 : Hid (∀ u ∈ L, u.oneCell' = true) := h1
  clear hx0 hL h1
  obtain ⟨i0, hi, hz0, hz1, hz2⟩ := info_parts info_val
  obtain ⟨Z, hZ⟩ : ∃ Z : Array Value, Z = madeCells #[.int .i64 0, .int .i64 0, .int .i64 0, .int .i64 0, .int .i64 0, .int .i64 0, .bool false, .bool false] (n * 8) := ⟨_, rfl⟩
  have hmk : ∀ u : World, (Instr.makeSlice 38 (.int .i64 (n : Int)) (.int .i64 (n : Int))).run Try.prog u =
      .ok (.slice (some ⟨u.heap.size, 0, none⟩) n n) (u.alloc (.cells Z 47)) := fun u => by
    have h := run_make (P := Try.prog) u 38 47 i0 _ Try.underlying38 hi hz0 .i64 .i64 (n : Int) (n : Int) (by omega) (Int.le_refl _) (by rw [hz2]; omega) (by omega)
    rw [hZ]
    simpa [hz1, Value.cells] using h
  have hZs : Z.size = n * 8 := by rw [hZ, size_madeCells]
  have hcp : (Builtin.copy_ #[38, 38] 3 #[.slice (some ⟨w.heap.size, 0, none⟩) n n, .slice a n cap]).run Try.prog (w.alloc (.cells Z 47)) =
      .ok (.int .i64 n) (w.alloc (.cells L.toArray 47)) := by
    have h := run_copy_any (P := Try.prog) (w.alloc (.cells Z 47)) 38 38 3 47 8 w.heap.size n n a n cap
      Z.toList 47 L Try.underlying38 size_val (by rw [Array.toArray_toList]; exact heap_alloc_new w _) (by rw [HL.out]; simp) ?_ (by rw [HL.out]; simp [hZs]) H1.out
    · rw [alloc_setRow] at h
      have e1 : Nat.min n n = n := by simp
      rw [e1] at h
      have e2 : List.drop L.length Z.toList = [] := by apply List.drop_eq_nil_of_le; rw [HL.out]; simp [hZs]
      rw [e2, List.append_nil] at h
      exact h
    · intro h0
      obtain ⟨g, rfl, hc⟩ := hx.out (by rw [HL.out] at h0; omega)
      refine ⟨_, rfl, fun j v hj => ?_⟩
      have h1 := hc j v hj
      rw [addr_add0]
      rw [(Below.refl w.heap.size w).alloc (Nat.le_refl _) _ |>.cell (World.block_lt_of_cell? w _ h1)]
      exact h1
  clear hZ hZs
  go_enter Try.func38, Try.ntmps38
  go_wp2
  go_ret
  exact ⟨rfl, rfl⟩
end Go.Proofs.Ytkdekfmblpkecaa
