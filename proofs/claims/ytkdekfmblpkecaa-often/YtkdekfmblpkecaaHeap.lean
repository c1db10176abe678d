import Derived.Test.YtkdekfmblpkecaaSmall
namespace Go.Proofs.Ytkdekfmblpkecaa
open Go.ChangeShapes Go.WideShapes Go.ChangeAt Go.RowKit
set_option linter.unusedVariables false

def ints (xs : List Int) : List Value := xs.map (Value.int .i64)

/-- block g has the cells L of element type e, none frozen -/
def Has (w : World) (g : Nat) (e : TypeId) (L : List Value) : Prop := w.heap[g]? = some (.cells L.toArray e (0, 0))

theorem Has.lt {w : World} {g : Nat} {e : TypeId} {L : List Value} (h : Has w g e L) : g < w.heap.size := (Array.getElem?_eq_some_iff.1 h).1
theorem Has.cell {w : World} {g : Nat} {e : TypeId} {L : List Value} (h : Has w g e L) (i : Nat) : w.cell? ⟨g, i, none⟩ = L[i]? := by
  unfold Has at h; simp [World.cell?, h]
theorem Has.frozen {w : World} {g : Nat} {e : TypeId} {L : List Value} (h : Has w g e L) (i : Nat) : w.frozen? ⟨g, i, none⟩ = false := by
  unfold Has at h; simp [World.frozen?, h]
theorem Has.below {w w' : World} {g B : Nat} {e : TypeId} {L : List Value} (h : Has w g e L) (hb : Below B w w') (hg : g < B) : Has w' g e L := by
  unfold Has at *; rw [hb.block g hg]; exact h
theorem Has.drew {w : World} {g : Nat} {e : TypeId} {L : List Value} (h : Has w g e L) : Has w.drew g e L := h
theorem Has.alloc {w : World} {g : Nat} {e : TypeId} {L : List Value} (h : Has w g e L) (o : Obj) : Has (w.alloc o) g e L :=
  h.below ((Below.refl w.heap.size w).alloc (Nat.le_refl _) o) h.lt
theorem Has.new (w : World) (e : TypeId) (L : List Value) : Has (w.alloc (.cells L.toArray e)) w.heap.size e L := by
  unfold Has; exact heap_alloc_new w _
theorem Has.newA (w : World) (e : TypeId) (A : Array Value) : Has (w.alloc (.cells A e)) w.heap.size e A.toList := by
  unfold Has; simp only [Array.toArray_toList]; exact heap_alloc_new w _
theorem Has.set {w : World} {g : Nat} {e : TypeId} {L : List Value} (h : Has w g e L) (i : Nat) (v : Value) : Has (w.setCell ⟨g, i, none⟩ v) g e (L.set i v) := by
  have hlt := h.lt
  unfold Has at *
  simp [World.setCell, Array.getElem?_modify, h]
theorem Has.other {w : World} {g : Nat} {e : TypeId} {L : List Value} (h : Has w g e L) (a : Addr) (v : Value) (hne : g ≠ a.block) : Has (w.setCell a v) g e L := by
  unfold Has at *; rw [Below.heap_setCell w a v g hne]; exact h

/-- a slice of ints that can be read -/
def IntSl (w : World) (v : Value) (xs : List Int) : Prop :=
  ∃ a cap, v = .slice a xs.length cap ∧ (0 < xs.length → ∃ g, a = some ⟨g, 0, none⟩ ∧ ∀ (j : Nat) x, xs[j]? = some x → w.cell? ⟨g, j, none⟩ = some (.int .i64 x))

theorem addr_add0 (g j : Nat) : (⟨g, 0, none⟩ : Addr).add j = ⟨g, j, none⟩ := by unfold Addr.add; split <;> simp_all

theorem IntSl.of_has {w : World} {g cap : Nat} {xs : List Int} {r : List Value} (h : Has w g 3 (ints xs ++ r)) : IntSl w (.slice (some ⟨g, 0, none⟩) xs.length cap) xs := by
  refine ⟨_, _, rfl, fun _ => ⟨_, rfl, fun j x hx => ?_⟩⟩
  rw [h.cell]
  obtain ⟨hj, _⟩ := List.getElem?_eq_some_iff.1 hx
  rw [List.getElem?_append_left (by simpa [ints] using hj)]; simp [ints, hx]
theorem IntSl.nil (w : World) (cap : Nat) : IntSl w (.slice none 0 cap) [] := ⟨none, cap, rfl, fun h => by simp at h⟩
theorem IntSl.below {w w' : World} {B : Nat} {v : Value} {xs : List Int} (h : IntSl w v xs) (hb : Below B w w') (hB : w.heap.size ≤ B) : IntSl w' v xs := by
  obtain ⟨a, cap, rfl, hx⟩ := h
  refine ⟨a, cap, rfl, fun h0 => ?_⟩
  obtain ⟨g, rfl, hc⟩ := hx h0
  refine ⟨g, rfl, fun j x hj => ?_⟩
  have h1 := hc j x hj
  rw [hb.cell (p := ⟨g, j, none⟩) (Nat.lt_of_lt_of_le (World.block_lt_of_cell? w _ h1) hB)]
  exact h1

theorem info_int : (Try.prog.info? 3).map (fun i => (i.zero, i.size, i.bytes)) = some (some (.int .i64 0), 1, 8) := by kernel_rfl
theorem size_int : (Try.prog.info? 3).map (·.size) = some 1 := by kernel_rfl

theorem oneCell_ints {xs : List Int} : ∀ v ∈ ints xs, v.oneCell' = true := by
  intro v hv
  obtain ⟨x, _, rfl⟩ := List.mem_map.1 hv
  rfl

theorem alloc_setRow (w : World) (A B : Array Value) (t : TypeId) : (w.alloc (.cells A t)).setRow w.heap.size B = w.alloc (.cells B t) := by
  unfold World.setRow World.alloc
  congr 1
  apply Array.ext_getElem?
  intro k
  rw [Array.getElem?_modify]
  by_cases hk : w.heap.size = k
  · subst hk; simp
  · rw [if_neg hk, Array.getElem?_push, Array.getElem?_push, if_neg (by omega), if_neg (by omega)]

/-- copy(dst, src): dst at the head of a row that is known; src can be read (or is empty). Elements of whatever size. -/
theorem run_copy_any {P : Program} (w : World) (dT sT ty elem : TypeId) (size g dLen dCap : Nat) (sp : Option Addr) (sLen sCap : Nat) (cur : List Value) (t : TypeId) (cs : List Value)
    (hu : P.underlying dT = some (.slice elem)) (hs : (P.info? elem).map (·.size) = some size)
    (hg : w.heap[g]? = some (.cells cur.toArray t (0, 0))) (hn : cs.length = Nat.min sLen dLen * size)
    (hpos : 0 < cs.length → ∃ a, sp = some a ∧ ∀ j v, cs[j]? = some v → w.cell? (a.add j) = some v)
    (hfit : cs.length ≤ cur.length) (h1 : ∀ v ∈ cs, v.oneCell' = true) :
    (Builtin.copy_ #[dT, sT] ty #[.slice (some ⟨g, 0, none⟩) dLen dCap, .slice sp sLen sCap]).run P w =
      .ok (goInt (Nat.min sLen dLen)) (w.setRow g (cs ++ cur.drop cs.length).toArray) := by
  have hst := run_storeCells_at P g 0 t cs 0 cur.toArray w hg (by simpa using hfit) h1
  simp only [Nat.zero_add, List.take_zero, List.nil_append] at hst
  cases hq : P.info? elem with
  | none => simp [hq] at hs
  | some i =>
    have hi : i.size = size := by simpa [hq] using hs
    subst hi
    by_cases h0 : 0 < cs.length
    · obtain ⟨a, rfl, hsrc⟩ := hpos h0
      have hl := run_loadCells_list (P := P) w a cs hsrc
      simp [Builtin.copy_, run_underlying hu, Builtin.lenOf, Builtin.firstCells, sizeOf, typeInfo, hq, ← hn, hl, hst]
    · obtain rfl : cs = [] := List.eq_nil_of_length_eq_zero (by omega)
      have hl : ∀ a, (loadCells a 0).run P w = .ok #[] w := fun a => by simpa using run_loadCells_list (P := P) w a [] (fun j v h => by simp at h)
      have hn' : Nat.min sLen dLen * i.size = 0 := by simpa using hn.symm
      cases sp with
      | none => simp [Builtin.copy_, run_underlying hu, Builtin.lenOf, Builtin.firstCells, sizeOf, typeInfo, hq, hst]
      | some a => simp [Builtin.copy_, run_underlying hu, Builtin.lenOf, Builtin.firstCells, sizeOf, typeInfo, hq, hn', hl, hst]

end Go.Proofs.Ytkdekfmblpkecaa
