import Derived.Test.YtkdekfmblpkecaaHeap
namespace Go.Proofs.Ytkdekfmblpkecaa
open Go.ChangeShapes Go.WideShapes Go.ChangeAt Go.RowKit
set_option linter.unusedVariables false

/-- all blocks but those of S are as they were -/
structure Kp (S : Nat → Prop) (w w' : World) : Prop where
  os : w'.os = w.os
  tape : w'.tape = w.tape
  output : w'.output = w.output
  size : w.heap.size ≤ w'.heap.size
  block : ∀ k, k < w.heap.size → ¬ S k → w'.heap[k]? = w.heap[k]?

theorem Kp.refl (S : Nat → Prop) (w : World) : Kp S w w := ⟨rfl, rfl, rfl, Nat.le_refl _, fun _ _ _ => rfl⟩
theorem Kp.trans {S : Nat → Prop} {a b c : World} (h : Kp S a b) (k : Kp S b c) : Kp S a c :=
  ⟨k.os.trans h.os, k.tape.trans h.tape, k.output.trans h.output, Nat.le_trans h.size k.size, fun i hi hs => (k.block i (Nat.lt_of_lt_of_le hi h.size) hs).trans (h.block i hi hs)⟩
theorem Kp.mono {S S' : Nat → Prop} {w w' : World} (h : Kp S w w') (hS : ∀ k, k < w.heap.size → S k → S' k) : Kp S' w w' :=
  ⟨h.os, h.tape, h.output, h.size, fun k hk hs => h.block k hk (fun h' => hs (hS k hk h'))⟩
theorem Kp.drew {S : Nat → Prop} {a w : World} (h : Kp S a w) : Kp S a w.drew := ⟨h.os, h.tape, h.output, h.size, h.block⟩
theorem Kp.drewN {S : Nat → Prop} {a w : World} (h : Kp S a w) (n : Nat) : Kp S a (w.drewN n) := ⟨h.os, h.tape, h.output, h.size, h.block⟩
theorem Has.drewN {w : World} {g : Nat} {e : TypeId} {L : List Value} (h : Has w g e L) (n : Nat) : Has (w.drewN n) g e L := h
theorem Kp.alloc {S : Nat → Prop} {a w : World} (h : Kp S a w) (o : Obj) : Kp S a (w.alloc o) :=
  h.trans ⟨rfl, rfl, rfl, by simp, fun k hk _ => Below.heap_alloc _ _ _ hk⟩
theorem Kp.setCell {S : Nat → Prop} {a w : World} (h : Kp S a w) {p : Addr} (hp : S p.block) (u : Value) : Kp S a (w.setCell p u) :=
  h.trans ⟨rfl, rfl, rfl, by simp [World.setCell], fun k hk hs => Below.heap_setCell _ _ _ _ (fun e => hs (e ▸ hp))⟩
theorem Kp.of_below {w w' : World} (h : Below w.heap.size w w') (S : Nat → Prop) : Kp S w w' :=
  ⟨h.os, h.tape, h.output, h.size, fun k hk _ => h.block k hk⟩
theorem Kp.toBelow {S : Nat → Prop} {w w' : World} {B : Nat} (h : Kp S w w') (hB : B ≤ w.heap.size) (hS : ∀ k, k < B → ¬ S k) : Below B w w' :=
  ⟨h.os, h.tape, h.output, h.size, fun k hk => h.block k (by omega) (hS k hk)⟩
theorem Kp.cell {S : Nat → Prop} {w w' : World} (h : Kp S w w') {p : Addr} {v : Value} (hv : w.cell? p = some v) (hs : ¬ S p.block) : w'.cell? p = some v :=
  (World.cell?_of_block (h.block p.block (World.block_lt_of_cell? w p hv) hs)).trans hv
theorem Has.kp {S : Nat → Prop} {w w' : World} {g : Nat} {e : TypeId} {L : List Value} (h : Has w g e L) (k : Kp S w w') (hs : ¬ S g) : Has w' g e L := by
  have := h.lt; unfold Has at *; rw [k.block g this hs]; exact h

/-- the blocks in which a slice of ints is read -/
def IntSl.off (v : Value) (S : Nat → Prop) : Prop := ∀ a n c, v = .slice (some a) n c → ¬ S a.block
theorem add_block (a : Addr) (j : Nat) : (a.add j).block = a.block := by unfold Addr.add; split <;> rfl
theorem IntSl.kp {S : Nat → Prop} {w w' : World} {v : Value} {xs : List Int} (h : IntSl w v xs) (k : Kp S w w') (ho : IntSl.off v S) : IntSl w' v xs := by
  obtain ⟨a, cap, rfl, hx⟩ := h
  refine ⟨a, cap, rfl, fun h0 => ?_⟩
  obtain ⟨g, rfl, hc⟩ := hx h0
  exact ⟨g, rfl, fun j x hj => k.cell (hc j x hj) (ho ⟨g, 0, none⟩ _ _ rfl)⟩

def m7 : Value := .int .i64 (-7)
/-- the row of a list that is written over, k cells of it done -/
def over (xs : List Int) (k : Nat) : List Value := List.replicate k (.int .i64 (-7)) ++ (ints xs).drop k ++ [.int .i64 (-7), .int .i64 (-7)]

theorem over_zero (xs : List Int) : over xs 0 = ints xs ++ [.int .i64 (-7), .int .i64 (-7)] := by simp [over]
theorem over_len (xs : List Int) (k : Nat) (hk : k ≤ xs.length) : (over xs k).length = xs.length + 2 := by simp [over, ints]; omega
theorem over_at (xs : List Int) (k : Nat) (hk : k < xs.length) : (over xs k)[k]? = some (.int .i64 xs[k]) := by
  unfold over
  rw [List.append_assoc, List.getElem?_append_right (by simp), List.getElem?_append_left (by simp [ints]; omega)]
  simp [ints, hk]
theorem over_set (xs : List Int) (k : Nat) (hk : k < xs.length) : (over xs k).set k (.int .i64 (-7)) = over xs (k + 1) := by
  unfold over
  have h : (ints xs).drop k = .int .i64 xs[k] :: (ints xs).drop (k + 1) := by
    rw [List.drop_eq_getElem_cons (by simpa [ints] using hk)]; simp [ints]
  rw [h, List.append_assoc, List.set_append_right _ _ (by simp)]
  simp [List.replicate_succ', List.append_assoc]
theorem over_end (xs : List Int) (k i : Nat) (hk : k ≤ xs.length) (hi : i < 2) : (over xs k)[xs.length + i]? = some (.int .i64 (-7)) := by
  unfold over
  rw [List.getElem?_append_right (by simp [ints]; omega)]
  simp [ints]
  match i, hi with
  | 0, _ => simp [show k + (xs.length - k) = xs.length from by omega]
  | 1, _ => simp [show xs.length + 1 - (k + (xs.length - k)) = 1 from by omega]

end Go.Proofs.Ytkdekfmblpkecaa
