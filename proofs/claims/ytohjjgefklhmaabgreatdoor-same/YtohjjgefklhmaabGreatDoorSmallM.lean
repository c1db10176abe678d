import Derived.Test.YtohjjgefklhmaabGreatDoorRows
import Derived.WalkKit
import Derived.ProofKit
import Derived.OpenShut
import Derived.Deep.QuietTactic
import Derived.BigQuiet
import Derived.BigRegion
import Derived.WalkLawsBesides
namespace Go.Proofs.YtohjjgefklhmaabGreatDoor
open Go.ChangeShapes Go.WideShapes Go.ChangeAt Go.RowKit
set_option linter.unusedVariables false

/-- which of n things the raw number c speaks of -/
def pickN (c : Int) (n : Int) : Int := if c < 0 then -((c + 1).tmod n) else c % n

theorem pickN_range (c n : Int) (hn : 1 ≤ n) : 0 ≤ pickN c n ∧ pickN c n < n := by
  unfold pickN
  split
  · rw [← Int.neg_tmod, Int.tmod_eq_emod_of_nonneg (by omega)]
    exact ⟨Int.emod_nonneg _ (by omega), Int.emod_lt_of_pos _ (by omega)⟩
  · exact ⟨Int.emod_nonneg _ (by omega), Int.emod_lt_of_pos _ (by omega)⟩

theorem pickN_neg (c n : Int) (h : c < 0) : pickN c n = -((c + 1).tmod n) := by unfold pickN; rw [if_pos h]
theorem pickN_pos (c n : Int) (h : ¬ c < 0) : pickN c n = c % n := by unfold pickN; rw [if_neg h]

set_option maxHeartbeats 400000 in
theorem pick_any (c n : Int) (w : World) (hc1 : -9223372036854775808 ≤ c) (hc2 : c ≤ 9223372036854775807) (hn1 : 1 ≤ n) (hn2 : n ≤ 9223372036854775807) :
    Calls Tryz.prog 16 #[.int .i64 c, .int .i64 n] w fun e w' => e = .returned (.int .i64 (pickN c n)) ∧ w = w' := by
  by_cases h : c < 0
  · rw [pickN_neg c n h]
    go_enter Tryz.func16, Tryz.ntmps16
    go_wp2
    go_ret
    exact ⟨rfl, rfl⟩
  · rw [pickN_pos c n h]
    go_enter Tryz.func16, Tryz.ntmps16
    go_wp2
    go_ret
    exact ⟨rfl, rfl⟩

/-- in -/
def inN (n lo hi : Int) : Bool := decide (lo ≤ n) && decide (n ≤ hi)
theorem inN_tt {n lo hi : Int} (h : lo ≤ n) (h2 : n ≤ hi) : inN n lo hi = true := by simp [inN, h, h2]
theorem inN_hi {n lo hi : Int} (h2 : ¬ n ≤ hi) : inN n lo hi = false := by simp only [inN, h2, decide_false, Bool.and_false]
theorem inN_lo {n lo hi : Int} (h : ¬ lo ≤ n) : inN n lo hi = false := by simp only [inN, h, decide_false, Bool.false_and]
theorem inN_iff {n lo hi : Int} : inN n lo hi = true ↔ lo ≤ n ∧ n ≤ hi := by simp [inN]
end Go.Proofs.YtohjjgefklhmaabGreatDoor

namespace Go.Proofs.YtohjjgefklhmaabGreatDoor
open Go.ChangeShapes Go.WideShapes Go.ChangeAt Go.RowKit
set_option linter.unusedVariables false

def ints (xs : List Int) : List Value := xs.map (Value.int .i64)

/-- block g has the cells L of element type e, none frozen -/
def Has (w : World) (g : Nat) (e : TypeId) (L : List Value) : Prop := w.heap[g]? = some (.cells L.toArray e (0, 0))

theorem Has.lt {w : World} {g : Nat} {e : TypeId} {L : List Value} (h : Has w g e L) : g < w.heap.size := (Array.getElem?_eq_some_iff.1 h).1
theorem Has.cell {w : World} {g : Nat} {e : TypeId} {L : List Value} (h : Has w g e L) (i : Nat) : w.cell? ⟨g, i, none⟩ = L[i]? := by
  unfold Has at h; simp [World.cell?, h]
theorem Has.frozen {w : World} {g : Nat} {e : TypeId} {L : List Value} (h : Has w g e L) (i : Nat) : w.frozen? ⟨g, i, none⟩ = false := by
  unfold Has at h; simp [World.frozen?, h]
theorem Has.below {w w' : World} {g B : Nat} {e : TypeId} {L : List Value} (h : Has w g e L) (hb : Below B w w') (hg : g < B) : Has w' g e L := by
  unfold Has at *; rw [hb.block g hg]; exact h
theorem Has.drew {w : World} {g : Nat} {e : TypeId} {L : List Value} (h : Has w g e L) : Has w.drew g e L := h
theorem Has.alloc {w : World} {g : Nat} {e : TypeId} {L : List Value} (h : Has w g e L) (o : Obj) : Has (w.alloc o) g e L :=
  h.below ((Below.refl w.heap.size w).alloc (Nat.le_refl _) o) h.lt
theorem Has.new (w : World) (e : TypeId) (L : List Value) : Has (w.alloc (.cells L.toArray e)) w.heap.size e L := by
  unfold Has; exact heap_alloc_new w _
theorem Has.newA (w : World) (e : TypeId) (A : Array Value) : Has (w.alloc (.cells A e)) w.heap.size e A.toList := by
  unfold Has; simp only [Array.toArray_toList]; exact heap_alloc_new w _
theorem Has.set {w : World} {g : Nat} {e : TypeId} {L : List Value} (h : Has w g e L) (i : Nat) (v : Value) : Has (w.setCell ⟨g, i, none⟩ v) g e (L.set i v) := by
  have hlt := h.lt
  unfold Has at *
  simp [World.setCell, Array.getElem?_modify, h]
theorem Has.other {w : World} {g : Nat} {e : TypeId} {L : List Value} (h : Has w g e L) (a : Addr) (v : Value) (hne : g ≠ a.block) : Has (w.setCell a v) g e L := by
  unfold Has at *; rw [Below.heap_setCell w a v g hne]; exact h

/-- a slice of ints that can be read -/
def IntSl (w : World) (v : Value) (xs : List Int) : Prop :=
  ∃ a cap, v = .slice a xs.length cap ∧ (0 < xs.length → ∃ g, a = some ⟨g, 0, none⟩ ∧ ∀ (j : Nat) x, xs[j]? = some x → w.cell? ⟨g, j, none⟩ = some (.int .i64 x))

theorem addr_add0 (g j : Nat) : (⟨g, 0, none⟩ : Addr).add j = ⟨g, j, none⟩ := by unfold Addr.add; split <;> simp_all

theorem IntSl.of_has {w : World} {g cap : Nat} {xs : List Int} {r : List Value} (h : Has w g 3 (ints xs ++ r)) : IntSl w (.slice (some ⟨g, 0, none⟩) xs.length cap) xs := by
  refine ⟨_, _, rfl, fun _ => ⟨_, rfl, fun j x hx => ?_⟩⟩
  rw [h.cell]
  obtain ⟨hj, _⟩ := List.getElem?_eq_some_iff.1 hx
  rw [List.getElem?_append_left (by simpa [ints] using hj)]; simp [ints, hx]
theorem IntSl.nil (w : World) (cap : Nat) : IntSl w (.slice none 0 cap) [] := ⟨none, cap, rfl, fun h => by simp at h⟩
theorem IntSl.below {w w' : World} {B : Nat} {v : Value} {xs : List Int} (h : IntSl w v xs) (hb : Below B w w') (hB : w.heap.size ≤ B) : IntSl w' v xs := by
  obtain ⟨a, cap, rfl, hx⟩ := h
  refine ⟨a, cap, rfl, fun h0 => ?_⟩
  obtain ⟨g, rfl, hc⟩ := hx h0
  refine ⟨g, rfl, fun j x hj => ?_⟩
  have h1 := hc j x hj
  rw [hb.cell (p := ⟨g, j, none⟩) (Nat.lt_of_lt_of_le (World.block_lt_of_cell? w _ h1) hB)]
  exact h1

theorem info_int : (Tryz.prog.info? 3).map (fun i => (i.zero, i.size, i.bytes)) = some (some (.int .i64 0), 1, 8) := by kernel_rfl
theorem size_int : (Tryz.prog.info? 3).map (·.size) = some 1 := by kernel_rfl

theorem oneCell_ints {xs : List Int} : ∀ v ∈ ints xs, v.oneCell' = true := by
  intro v hv
  obtain ⟨x, _, rfl⟩ := List.mem_map.1 hv
  rfl

theorem alloc_setRow (w : World) (A B : Array Value) (t : TypeId) : (w.alloc (.cells A t)).setRow w.heap.size B = w.alloc (.cells B t) := by
  unfold World.setRow World.alloc
  congr 1
  apply Array.ext_getElem?
  intro k
  rw [Array.getElem?_modify]
  by_cases hk : w.heap.size = k
  · subst hk; simp
  · rw [if_neg hk, Array.getElem?_push, Array.getElem?_push, if_neg (by omega), if_neg (by omega)]

/-- copy(dst, src): dst at the head of a row that is known; src can be read (or is empty). Elements of whatever size. -/
theorem run_copy_any {P : Program} (w : World) (dT sT ty elem : TypeId) (size g dLen dCap : Nat) (sp : Option Addr) (sLen sCap : Nat) (cur : List Value) (t : TypeId) (cs : List Value)
    (hu : P.underlying dT = some (.slice elem)) (hs : (P.info? elem).map (·.size) = some size)
    (hg : w.heap[g]? = some (.cells cur.toArray t (0, 0))) (hn : cs.length = Nat.min sLen dLen * size)
    (hpos : 0 < cs.length → ∃ a, sp = some a ∧ ∀ j v, cs[j]? = some v → w.cell? (a.add j) = some v)
    (hfit : cs.length ≤ cur.length) (h1 : ∀ v ∈ cs, v.oneCell' = true) :
    (Builtin.copy_ #[dT, sT] ty #[.slice (some ⟨g, 0, none⟩) dLen dCap, .slice sp sLen sCap]).run P w =
      .ok (goInt (Nat.min sLen dLen)) (w.setRow g (cs ++ cur.drop cs.length).toArray) := by
  have hst := run_storeCells_at P g 0 t cs 0 cur.toArray w hg (by simpa using hfit) h1
  simp only [Nat.zero_add, List.take_zero, List.nil_append] at hst
  cases hq : P.info? elem with
  | none => simp [hq] at hs
  | some i =>
    have hi : i.size = size := by simpa [hq] using hs
    subst hi
    by_cases h0 : 0 < cs.length
    · obtain ⟨a, rfl, hsrc⟩ := hpos h0
      have hl := run_loadCells_list (P := P) w a cs hsrc
      simp [Builtin.copy_, run_underlying hu, Builtin.lenOf, Builtin.firstCells, sizeOf, typeInfo, hq, ← hn, hl, hst]
    · obtain rfl : cs = [] := List.eq_nil_of_length_eq_zero (by omega)
      have hl : ∀ a, (loadCells a 0).run P w = .ok #[] w := fun a => by simpa using run_loadCells_list (P := P) w a [] (fun j v h => by simp at h)
      have hn' : Nat.min sLen dLen * i.size = 0 := by simpa using hn.symm
      cases sp with
      | none => simp [Builtin.copy_, run_underlying hu, Builtin.lenOf, Builtin.firstCells, sizeOf, typeInfo, hq, hst]
      | some a => simp [Builtin.copy_, run_underlying hu, Builtin.lenOf, Builtin.firstCells, sizeOf, typeInfo, hq, hn', hl, hst]

end Go.Proofs.YtohjjgefklhmaabGreatDoor

namespace Go.Proofs.YtohjjgefklhmaabGreatDoor
open Go.ChangeShapes Go.WideShapes Go.ChangeAt Go.RowKit
set_option linter.unusedVariables false

/-- all blocks but those of S are as they were -/
structure Kp (S : Nat → Prop) (w w' : World) : Prop where
  os : w'.os = w.os
  tape : w'.tape = w.tape
  output : w'.output = w.output
  size : w.heap.size ≤ w'.heap.size
  block : ∀ k, k < w.heap.size → ¬ S k → w'.heap[k]? = w.heap[k]?

theorem Kp.refl (S : Nat → Prop) (w : World) : Kp S w w := ⟨rfl, rfl, rfl, Nat.le_refl _, fun _ _ _ => rfl⟩
theorem Kp.trans {S : Nat → Prop} {a b c : World} (h : Kp S a b) (k : Kp S b c) : Kp S a c :=
  ⟨k.os.trans h.os, k.tape.trans h.tape, k.output.trans h.output, Nat.le_trans h.size k.size, fun i hi hs => (k.block i (Nat.lt_of_lt_of_le hi h.size) hs).trans (h.block i hi hs)⟩
theorem Kp.mono {S S' : Nat → Prop} {w w' : World} (h : Kp S w w') (hS : ∀ k, k < w.heap.size → S k → S' k) : Kp S' w w' :=
  ⟨h.os, h.tape, h.output, h.size, fun k hk hs => h.block k hk (fun h' => hs (hS k hk h'))⟩
theorem Kp.drew {S : Nat → Prop} {a w : World} (h : Kp S a w) : Kp S a w.drew := ⟨h.os, h.tape, h.output, h.size, h.block⟩
theorem Kp.drewN {S : Nat → Prop} {a w : World} (h : Kp S a w) (n : Nat) : Kp S a (w.drewN n) := ⟨h.os, h.tape, h.output, h.size, h.block⟩
theorem Has.drewN {w : World} {g : Nat} {e : TypeId} {L : List Value} (h : Has w g e L) (n : Nat) : Has (w.drewN n) g e L := h
theorem Kp.alloc {S : Nat → Prop} {a w : World} (h : Kp S a w) (o : Obj) : Kp S a (w.alloc o) :=
  h.trans ⟨rfl, rfl, rfl, by simp, fun k hk _ => Below.heap_alloc _ _ _ hk⟩
theorem Kp.setCell {S : Nat → Prop} {a w : World} (h : Kp S a w) {p : Addr} (hp : S p.block) (u : Value) : Kp S a (w.setCell p u) :=
  h.trans ⟨rfl, rfl, rfl, by simp [World.setCell], fun k hk hs => Below.heap_setCell _ _ _ _ (fun e => hs (e ▸ hp))⟩
theorem Kp.of_below {w w' : World} (h : Below w.heap.size w w') (S : Nat → Prop) : Kp S w w' :=
  ⟨h.os, h.tape, h.output, h.size, fun k hk _ => h.block k hk⟩
theorem Kp.toBelow {S : Nat → Prop} {w w' : World} {B : Nat} (h : Kp S w w') (hB : B ≤ w.heap.size) (hS : ∀ k, k < B → ¬ S k) : Below B w w' :=
  ⟨h.os, h.tape, h.output, h.size, fun k hk => h.block k (by omega) (hS k hk)⟩
theorem Kp.cell {S : Nat → Prop} {w w' : World} (h : Kp S w w') {p : Addr} {v : Value} (hv : w.cell? p = some v) (hs : ¬ S p.block) : w'.cell? p = some v :=
  (World.cell?_of_block (h.block p.block (World.block_lt_of_cell? w p hv) hs)).trans hv
theorem Has.kp {S : Nat → Prop} {w w' : World} {g : Nat} {e : TypeId} {L : List Value} (h : Has w g e L) (k : Kp S w w') (hs : ¬ S g) : Has w' g e L := by
  have := h.lt; unfold Has at *; rw [k.block g this hs]; exact h

/-- the blocks in which a slice of ints is read -/
def IntSl.off (v : Value) (S : Nat → Prop) : Prop := ∀ a n c, v = .slice (some a) n c → ¬ S a.block
theorem add_block (a : Addr) (j : Nat) : (a.add j).block = a.block := by unfold Addr.add; split <;> rfl
theorem IntSl.kp {S : Nat → Prop} {w w' : World} {v : Value} {xs : List Int} (h : IntSl w v xs) (k : Kp S w w') (ho : IntSl.off v S) : IntSl w' v xs := by
  obtain ⟨a, cap, rfl, hx⟩ := h
  refine ⟨a, cap, rfl, fun h0 => ?_⟩
  obtain ⟨g, rfl, hc⟩ := hx h0
  exact ⟨g, rfl, fun j x hj => k.cell (hc j x hj) (ho ⟨g, 0, none⟩ _ _ rfl)⟩

def m7 : Value := .int .i64 (-7)
/-- the row of a list that is written over, k cells of it done -/
def over (xs : List Int) (k : Nat) : List Value := List.replicate k (.int .i64 (-7)) ++ (ints xs).drop k ++ [.int .i64 (-7), .int .i64 (-7)]

theorem over_zero (xs : List Int) : over xs 0 = ints xs ++ [.int .i64 (-7), .int .i64 (-7)] := by simp [over]
theorem over_len (xs : List Int) (k : Nat) (hk : k ≤ xs.length) : (over xs k).length = xs.length + 2 := by simp [over, ints]; omega
theorem over_at (xs : List Int) (k : Nat) (hk : k < xs.length) : (over xs k)[k]? = some (.int .i64 xs[k]) := by
  unfold over
  rw [List.append_assoc, List.getElem?_append_right (by simp), List.getElem?_append_left (by simp [ints]; omega)]
  simp [ints, hk]
theorem over_set (xs : List Int) (k : Nat) (hk : k < xs.length) : (over xs k).set k (.int .i64 (-7)) = over xs (k + 1) := by
  unfold over
  have h : (ints xs).drop k = .int .i64 xs[k] :: (ints xs).drop (k + 1) := by
    rw [List.drop_eq_getElem_cons (by simpa [ints] using hk)]; simp [ints]
  rw [h, List.append_assoc, List.set_append_right _ _ (by simp)]
  simp [List.replicate_succ', List.append_assoc]
theorem over_end (xs : List Int) (k i : Nat) (hk : k ≤ xs.length) (hi : i < 2) : (over xs k)[xs.length + i]? = some (.int .i64 (-7)) := by
  unfold over
  rw [List.getElem?_append_right (by simp [ints]; omega)]
  simp [ints]
  match i, hi with
  | 0, _ => simp [show k + (xs.length - k) = xs.length from by omega]
  | 1, _ => simp [show xs.length + 1 - (k + (xs.length - k)) = 1 from by omega]

end Go.Proofs.YtohjjgefklhmaabGreatDoor
