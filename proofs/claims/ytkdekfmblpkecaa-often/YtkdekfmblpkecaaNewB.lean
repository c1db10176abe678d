import Derived.Test.YtkdekfmblpkecaaView
namespace Go.Proofs.Ytkdekfmblpkecaa
open Go.ChangeShapes Go.WideShapes Go.ChangeAt Go.RowKit
set_option linter.unusedVariables false

theorem bcell {W w1 : World} {B : Nat} (hb : Below B W w1) : (∀ b o, b < B → w1.cell? ⟨b, o, none⟩ = W.cell? ⟨b, o, none⟩) ∧ (∀ b o, b < B → w1.frozen? ⟨b, o, none⟩ = W.frozen? ⟨b, o, none⟩) :=
  ⟨fun b o h => hb.cell (p := ⟨b, o, none⟩) h, fun b o h => hb.frozen (p := ⟨b, o, none⟩) h⟩

/-- the validators of a beginning -/
def vs0 (os rs : List Int) : List VS := List.zipWith (fun o r => { owner := o, rate := r, tokens := 0, shares := 0, comm := 0, outs := 0, jailed := false, inset := false }) os rs
theorem valsOf_vs0 (os rs : List Int) : valsOf os rs = vrow (vs0 os rs) := by
  induction os generalizing rs with
  | nil => simp [valsOf, vs0, vrow]
  | cons o os ih =>
    cases rs with
    | nil => simp [valsOf, vs0, vrow]
    | cons r rs => simp [valsOf, vs0, vrow, ih rs, valCells, VS.cells]
theorem vs0_length (os rs : List Int) (h : rs.length = os.length) : (vs0 os rs).length = os.length := by simp [vs0, h]

theorem ownsRow_slice {w : World} {base : Nat} {e : TypeId} {size : Nat} {v : Value} {n : Nat} {xs : List Value} (h : w.ownsRow base e size v n xs) : ∃ a cap, v = .slice a n cap := by
  rcases h.2 with ⟨rfl, rfl⟩ | ⟨g, cap, cur, rfl, _⟩
  · exact ⟨none, 0, rfl⟩
  · exact ⟨_, cap, rfl⟩
theorem ownsRow_new (w : World) (e : TypeId) (size n : Nat) (L : List Value) (hl : L.length = n * size) (hn : n ≤ maxLen) :
    (w.alloc (.cells L.toArray e)).ownsRow w.heap.size e size (.slice (some ⟨w.heap.size, 0, none⟩) n n) n L :=
  ⟨hl, .inr ⟨w.heap.size, n, L.toArray, rfl, Nat.le_refl _, heap_alloc_new w _, Nat.le_refl _, hn, by simpa using hl, by simp [← hl]⟩⟩
theorem ownsRow_below {w w' : World} {B base : Nat} {e : TypeId} {size : Nat} {v : Value} {n : Nat} {xs : List Value} (h : w.ownsRow base e size v n xs) (hb : Below B w w') (hB : w.heap.size ≤ B) : w'.ownsRow base e size v n xs :=
  h.kept (row := none) ⟨hb.os, hb.tape, hb.output, hb.size, fun k hk _ => hb.block k (by omega)⟩ (by cases hv : v.ownBlock <;> simp)
theorem ownsRow_setCell {w : World} {base : Nat} {e : TypeId} {size : Nat} {v : Value} {n : Nat} {xs : List Value} (h : w.ownsRow base e size v n xs) (p : Addr) (u : Value) (hp : v.ownBlock ≠ some p.block) : (w.setCell p u).ownsRow base e size v n xs :=
  h.kept (row := some p.block) ⟨rfl, rfl, rfl, by simp [World.setCell], fun k hk hn => Below.heap_setCell _ _ _ _ (fun e => hn (by rw [e]))⟩ (by
    cases hv : v.ownBlock with
    | none => simp
    | some b => right; rw [hv] at hp; exact hp)

theorem ownsRow_apart {w : World} {base base' : Nat} {e e' : TypeId} {size size' : Nat} {v v' : Value} {n n' : Nat} {xs xs' : List Value} (h : w.ownsRow base e size v n xs) (h' : w.ownsRow base' e' size' v' n' xs') (hne : e ≠ e') :
    v.ownBlock = none ∨ v.ownBlock ≠ v'.ownBlock := by
  rcases h.2 with ⟨rfl, rfl⟩ | ⟨g, cap, cur, rfl, _, hg, _⟩
  · exact .inl rfl
  · right
    rcases h'.2 with ⟨rfl, rfl⟩ | ⟨g', cap', cur', rfl, _, hg', _⟩
    · simp [Value.ownBlock]
    · simp only [Value.ownBlock, ne_eq, Option.some.injEq]
      intro e0
      subst e0
      rw [hg] at hg'
      simp only [Option.some.injEq, Obj.cells.injEq] at hg'
      exact hne hg'.2.1
theorem Has.apart {w : World} {g : Nat} {e e' : TypeId} {L : List Value} {base size : Nat} {v : Value} {n : Nat} {xs : List Value} (h : Has w g e L) (h' : w.ownsRow base e' size v n xs) (hne : e ≠ e') : some g ≠ v.ownBlock := by
  rcases h'.2 with ⟨rfl, rfl⟩ | ⟨g', cap', cur', rfl, _, hg', _⟩
  · simp [Value.ownBlock]
  · simp only [Value.ownBlock, ne_eq, Option.some.injEq]
    intro e0
    subst e0
    unfold Has at h
    rw [h] at hg'
    simp only [Option.some.injEq, Obj.cells.injEq] at hg'
    exact hne hg'.2.1
theorem vs0_snoc (os rs : List Int) (h : rs.length = os.length) (k : Nat) (hk : k < os.length) :
    vrow (vs0 (os.take (k + 1)) (rs.take (k + 1))) = vrow (vs0 (os.take k) (rs.take k)) ++ valCells os[k] (rs[k]'(by omega)) := by
  rw [← valsOf_vs0, ← valsOf_vs0, valsOf_snoc os rs h k hk]

end Go.Proofs.Ytkdekfmblpkecaa
