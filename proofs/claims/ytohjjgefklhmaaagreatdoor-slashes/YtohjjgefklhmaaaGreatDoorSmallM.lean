import Derived.Test.YtohjjgefklhmaaaGreatDoorRows
import Derived.WalkKit
import Derived.ProofKit
import Derived.OpenShut
import Derived.Deep.QuietTactic
import Derived.BigQuiet
import Derived.BigRegion
import Derived.WalkLawsBesides
namespace Go.Proofs.YtohjjgefklhmaaaGreatDoor
open Go.ChangeShapes Go.WideShapes Go.ChangeAt Go.RowKit
set_option linter.unusedVariables false

/-- which of n things the raw number c speaks of -/
def pickN (c : Int) (n : Int) : Int := if c < 0 then -((c + 1).tmod n) else c % n

theorem pickN_range (c n : Int) (hn : 1 ≤ n) : 0 ≤ pickN c n ∧ pickN c n < n := by
  unfold pickN
  split
  · rw [← Int.neg_tmod, Int.tmod_eq_emod_of_nonneg (by omega)]
    exact ⟨Int.emod_nonneg _ (by omega), Int.emod_lt_of_pos _ (by omega)⟩
  · exact ⟨Int.emod_nonneg _ (by omega), Int.emod_lt_of_pos _ (by omega)⟩

theorem pickN_neg (c n : Int) (h : c < 0) : pickN c n = -((c + 1).tmod n) := by unfold pickN; rw [if_pos h]
theorem pickN_pos (c n : Int) (h : ¬ c < 0) : pickN c n = c % n := by unfold pickN; rw [if_neg h]

set_option maxHeartbeats 400000 in
theorem pick_any (c n : Int) (w : World) (hc1 : -9223372036854775808 ≤ c) (hc2 : c ≤ 9223372036854775807) (hn1 : 1 ≤ n) (hn2 : n ≤ 9223372036854775807) :
    Calls Tryz.prog 16 #[.int .i64 c, .int .i64 n] w fun e w' => e = .returned (.int .i64 (pickN c n)) ∧ w = w' := by
  by_cases h : c < 0
  · rw [pickN_neg c n h]
    go_enter Tryz.func16, Tryz.ntmps16
    go_wp2
    go_ret
    exact ⟨rfl, rfl⟩
  · rw [pickN_pos c n h]
    go_enter Tryz.func16, Tryz.ntmps16
    go_wp2
    go_ret
    exact ⟨rfl, rfl⟩

/-- in -/
def inN (n lo hi : Int) : Bool := decide (lo ≤ n) && decide (n ≤ hi)
theorem inN_tt {n lo hi : Int} (h : lo ≤ n) (h2 : n ≤ hi) : inN n lo hi = true := by simp [inN, h, h2]
theorem inN_hi {n lo hi : Int} (h2 : ¬ n ≤ hi) : inN n lo hi = false := by simp only [inN, h2, decide_false, Bool.and_false]
theorem inN_lo {n lo hi : Int} (h : ¬ lo ≤ n) : inN n lo hi = false := by simp only [inN, h, decide_false, Bool.false_and]
theorem inN_iff {n lo hi : Int} : inN n lo hi = true ↔ lo ≤ n ∧ n ≤ hi := by simp [inN]
set_option maxHeartbeats 400000 in
theorem in_any (n lo hi : Int) (w : World) :
    Calls Tryz.prog 76 #[.int .i64 n, .int .i64 lo, .int .i64 hi] w fun e w' => e = .returned (.bool (inN n lo hi)) ∧ w = w' := by
  by_cases h : lo ≤ n
  · by_cases h2 : n ≤ hi
    · rw [inN_tt h h2]
      go_enter Tryz.func76, Tryz.ntmps76
      go_wp2
      go_ret
      exact ⟨rfl, rfl⟩
    · rw [inN_hi h2]
      go_enter Tryz.func76, Tryz.ntmps76
      go_wp2
      go_ret
      exact ⟨rfl, rfl⟩
  · rw [inN_lo h]
    go_enter Tryz.func76, Tryz.ntmps76
    go_wp2
    go_ret
    exact ⟨rfl, rfl⟩

set_option maxHeartbeats 400000 in
theorem num_any (n : Int) (w : World) :
    Calls Tryz.prog 30 #[.int .i64 n] w fun e w' => e = .returned (.int .i64 n) ∧ w = w' := by
  go_enter Tryz.func30, Tryz.ntmps30
  go_wp2
  go_ret
  exact ⟨rfl, rfl⟩
end Go.Proofs.YtohjjgefklhmaaaGreatDoor

namespace Go.Proofs.YtohjjgefklhmaaaGreatDoor
open Go.ChangeShapes Go.WideShapes Go.ChangeAt Go.RowKit
set_option linter.unusedVariables false

def ints (xs : List Int) : List Value := xs.map (Value.int .i64)

/-- block g has the cells L of element type e, none frozen -/
def Has (w : World) (g : Nat) (e : TypeId) (L : List Value) : Prop := w.heap[g]? = some (.cells L.toArray e (0, 0))

theorem Has.lt {w : World} {g : Nat} {e : TypeId} {L : List Value} (h : Has w g e L) : g < w.heap.size := (Array.getElem?_eq_some_iff.1 h).1
theorem Has.cell {w : World} {g : Nat} {e : TypeId} {L : List Value} (h : Has w g e L) (i : Nat) : w.cell? ⟨g, i, none⟩ = L[i]? := by
  unfold Has at h; simp [World.cell?, h]
theorem Has.frozen {w : World} {g : Nat} {e : TypeId} {L : List Value} (h : Has w g e L) (i : Nat) : w.frozen? ⟨g, i, none⟩ = false := by
  unfold Has at h; simp [World.frozen?, h]
theorem Has.below {w w' : World} {g B : Nat} {e : TypeId} {L : List Value} (h : Has w g e L) (hb : Below B w w') (hg : g < B) : Has w' g e L := by
  unfold Has at *; rw [hb.block g hg]; exact h
theorem Has.drew {w : World} {g : Nat} {e : TypeId} {L : List Value} (h : Has w g e L) : Has w.drew g e L := h
theorem Has.alloc {w : World} {g : Nat} {e : TypeId} {L : List Value} (h : Has w g e L) (o : Obj) : Has (w.alloc o) g e L :=
  h.below ((Below.refl w.heap.size w).alloc (Nat.le_refl _) o) h.lt
theorem Has.new (w : World) (e : TypeId) (L : List Value) : Has (w.alloc (.cells L.toArray e)) w.heap.size e L := by
  unfold Has; exact heap_alloc_new w _
theorem Has.newA (w : World) (e : TypeId) (A : Array Value) : Has (w.alloc (.cells A e)) w.heap.size e A.toList := by
  unfold Has; simp only [Array.toArray_toList]; exact heap_alloc_new w _
theorem Has.set {w : World} {g : Nat} {e : TypeId} {L : List Value} (h : Has w g e L) (i : Nat) (v : Value) : Has (w.setCell ⟨g, i, none⟩ v) g e (L.set i v) := by
  have hlt := h.lt
  unfold Has at *
  simp [World.setCell, Array.getElem?_modify, h]
theorem Has.other {w : World} {g : Nat} {e : TypeId} {L : List Value} (h : Has w g e L) (a : Addr) (v : Value) (hne : g ≠ a.block) : Has (w.setCell a v) g e L := by
  unfold Has at *; rw [Below.heap_setCell w a v g hne]; exact h

/-- a slice of ints that can be read -/
def IntSl (w : World) (v : Value) (xs : List Int) : Prop :=
  ∃ a cap, v = .slice a xs.length cap ∧ (0 < xs.length → ∃ g, a = some ⟨g, 0, none⟩ ∧ ∀ (j : Nat) x, xs[j]? = some x → w.cell? ⟨g, j, none⟩ = some (.int .i64 x))

theorem addr_add0 (g j : Nat) : (⟨g, 0, none⟩ : Addr).add j = ⟨g, j, none⟩ := by unfold Addr.add; split <;> simp_all

theorem IntSl.of_has {w : World} {g cap : Nat} {xs : List Int} {r : List Value} (h : Has w g 3 (ints xs ++ r)) : IntSl w (.slice (some ⟨g, 0, none⟩) xs.length cap) xs := by
  refine ⟨_, _, rfl, fun _ => ⟨_, rfl, fun j x hx => ?_⟩⟩
  rw [h.cell]
  obtain ⟨hj, _⟩ := List.getElem?_eq_some_iff.1 hx
  rw [List.getElem?_append_left (by simpa [ints] using hj)]; simp [ints, hx]
theorem IntSl.nil (w : World) (cap : Nat) : IntSl w (.slice none 0 cap) [] := ⟨none, cap, rfl, fun h => by simp at h⟩
theorem IntSl.below {w w' : World} {B : Nat} {v : Value} {xs : List Int} (h : IntSl w v xs) (hb : Below B w w') (hB : w.heap.size ≤ B) : IntSl w' v xs := by
  obtain ⟨a, cap, rfl, hx⟩ := h
  refine ⟨a, cap, rfl, fun h0 => ?_⟩
  obtain ⟨g, rfl, hc⟩ := hx h0
  refine ⟨g, rfl, fun j x hj => ?_⟩
  have h1 := hc j x hj
  rw [hb.cell (p := ⟨g, j, none⟩) (Nat.lt_of_lt_of_le (World.block_lt_of_cell? w _ h1) hB)]
  exact h1

theorem info_int : (Tryz.prog.info? 3).map (fun i => (i.zero, i.size, i.bytes)) = some (some (.int .i64 0), 1, 8) := by kernel_rfl
theorem size_int : (Tryz.prog.info? 3).map (·.size) = some 1 := by kernel_rfl

theorem oneCell_ints {xs : List Int} : ∀ v ∈ ints xs, v.oneCell' = true := by
  intro v hv
  obtain ⟨x, _, rfl⟩ := List.mem_map.1 hv
  rfl

theorem alloc_setRow (w : World) (A B : Array Value) (t : TypeId) : (w.alloc (.cells A t)).setRow w.heap.size B = w.alloc (.cells B t) := by
  unfold World.setRow World.alloc
  congr 1
  apply Array.ext_getElem?
  intro k
  rw [Array.getElem?_modify]
  by_cases hk : w.heap.size = k
  · subst hk; simp
  · rw [if_neg hk, Array.getElem?_push, Array.getElem?_push, if_neg (by omega), if_neg (by omega)]

/-- copy(dst, src): dst at the head of a row that is known; src can be read (or is empty). Elements of whatever size. -/
theorem run_copy_any {P : Program} (w : World) (dT sT ty elem : TypeId) (size g dLen dCap : Nat) (sp : Option Addr) (sLen sCap : Nat) (cur : List Value) (t : TypeId) (cs : List Value)
    (hu : P.underlying dT = some (.slice elem)) (hs : (P.info? elem).map (·.size) = some size)
    (hg : w.heap[g]? = some (.cells cur.toArray t (0, 0))) (hn : cs.length = Nat.min sLen dLen * size)
    (hpos : 0 < cs.length → ∃ a, sp = some a ∧ ∀ j v, cs[j]? = some v → w.cell? (a.add j) = some v)
    (hfit : cs.length ≤ cur.length) (h1 : ∀ v ∈ cs, v.oneCell' = true) :
    (Builtin.copy_ #[dT, sT] ty #[.slice (some ⟨g, 0, none⟩) dLen dCap, .slice sp sLen sCap]).run P w =
      .ok (goInt (Nat.min sLen dLen)) (w.setRow g (cs ++ cur.drop cs.length).toArray) := by
  have hst := run_storeCells_at P g 0 t cs 0 cur.toArray w hg (by simpa using hfit) h1
  simp only [Nat.zero_add, List.take_zero, List.nil_append] at hst
  cases hq : P.info? elem with
  | none => simp [hq] at hs
  | some i =>
    have hi : i.size = size := by simpa [hq] using hs
    subst hi
    by_cases h0 : 0 < cs.length
    · obtain ⟨a, rfl, hsrc⟩ := hpos h0
      have hl := run_loadCells_list (P := P) w a cs hsrc
      simp [Builtin.copy_, run_underlying hu, Builtin.lenOf, Builtin.firstCells, sizeOf, typeInfo, hq, ← hn, hl, hst]
    · obtain rfl : cs = [] := List.eq_nil_of_length_eq_zero (by omega)
      have hl : ∀ a, (loadCells a 0).run P w = .ok #[] w := fun a => by simpa using run_loadCells_list (P := P) w a [] (fun j v h => by simp at h)
      have hn' : Nat.min sLen dLen * i.size = 0 := by simpa using hn.symm
      cases sp with
      | none => simp [Builtin.copy_, run_underlying hu, Builtin.lenOf, Builtin.firstCells, sizeOf, typeInfo, hq, hst]
      | some a => simp [Builtin.copy_, run_underlying hu, Builtin.lenOf, Builtin.firstCells, sizeOf, typeInfo, hq, hn', hl, hst]

set_option maxHeartbeats 400000 in
set_option maxRecDepth 100000 in
theorem spare_any (v : Value) (xs : List Int) (w : World) (hv : IntSl w v xs) (hlen : xs.length ≤ 1048576) :
    Calls Tryz.prog 31 #[v] w fun e w' => e = .returned (.slice (some ⟨w.heap.size, 0, none⟩) xs.length (xs.length + 2)) ∧
      Has w' w.heap.size 3 (ints xs ++ [.int .i64 (-7), .int .i64 (-7)]) ∧ Below w.heap.size w w' := by
  obtain ⟨a, cap, rfl, hx0⟩ := hv
  have hx : Hid (0 < xs.length → ∃ g, a = some ⟨g, 0, none⟩ ∧ ∀ (j : Nat) x, xs[j]? = some x → w.cell? ⟨g, j, none⟩ = some (.int .i64 x)) := hx0
  clear hx0
  obtain ⟨i0, hi, hz0, hz1, hz2⟩ := info_parts info_int
  have hmk : ∀ u : World, (Instr.makeSlice 24 (.int .i64 ((xs.length : Int) + 2)) (.int .i64 ((xs.length : Int) + 2))).run Tryz.prog u =
      .ok (.slice (some ⟨u.heap.size, 0, none⟩) (xs.length + 2) (xs.length + 2)) (u.alloc (.cells (madeCells #[.int .i64 0] (xs.length + 2)) 3)) := fun u => by
    have h := run_make (P := Tryz.prog) u 24 3 i0 (.int .i64 0) Tryz.underlying24 hi hz0 .i64 .i64 ((xs.length : Int) + 2) ((xs.length : Int) + 2) (by omega) (Int.le_refl _) (by rw [hz2]; omega) (by omega)
    have e : ((xs.length : Int) + 2).toNat = xs.length + 2 := by omega
    rw [e] at h
    simpa [hz1, Value.cells] using h
  have hcp : (Builtin.copy_ #[24, 24] 3 #[.slice (some ⟨w.heap.size, 0, none⟩) (xs.length + 2) (xs.length + 2), .slice a xs.length cap]).run Tryz.prog (w.alloc (.cells (madeCells #[.int .i64 0] (xs.length + 2)) 3)) =
      .ok (.int .i64 xs.length) (w.alloc (.cells (ints xs ++ [Value.int .i64 0, Value.int .i64 0]).toArray 3)) := by
    have h := run_copy_any (P := Tryz.prog) (w.alloc (.cells (madeCells #[.int .i64 0] (xs.length + 2)) 3)) 24 24 3 3 1 w.heap.size (xs.length + 2) (xs.length + 2) a xs.length cap
      (List.replicate (xs.length + 2) (.int .i64 0)) 3 (ints xs) Tryz.underlying24 size_int (by rw [← toList_madeCells_one, Array.toArray_toList]; exact heap_alloc_new w _) (by simp [ints]) ?_ (by simp [ints]) oneCell_ints
    · rw [alloc_setRow] at h
      have e1 : Nat.min xs.length (xs.length + 2) = xs.length := by simp
      rw [e1] at h
      have e2 : List.drop (ints xs).length (List.replicate (xs.length + 2) (Value.int .i64 0)) = [.int .i64 0, .int .i64 0] := by simp [ints]
      rw [e2] at h
      exact h
    · intro h0
      obtain ⟨g, rfl, hc⟩ := hx.out (by simpa [ints] using h0)
      refine ⟨_, rfl, fun j v hj => ?_⟩
      obtain ⟨x, hx1, rfl⟩ : ∃ x, xs[j]? = some x ∧ Value.int .i64 x = v := by simpa [ints] using hj
      have h1 := hc j x hx1
      rw [addr_add0]
      rw [(Below.refl w.heap.size w).alloc (Nat.le_refl _) _ |>.cell (World.block_lt_of_cell? w _ h1)]
      exact h1
  have hA : (ints xs ++ [Value.int .i64 0, Value.int .i64 0])[xs.length]? = some (.int .i64 0) := by
    rw [List.getElem?_append_right (by simp [ints])]; simp [ints]
  have hB : ((ints xs ++ [Value.int .i64 0, Value.int .i64 0]).set xs.length (.int .i64 (-7)))[xs.length + 1]? = some (.int .i64 0) := by
    rw [List.getElem?_set_ne (by omega), List.getElem?_append_right (by simp [ints])]; simp [ints]
  have hE : ((ints xs ++ [Value.int .i64 0, Value.int .i64 0]).set xs.length (.int .i64 (-7))).set (xs.length + 1) (.int .i64 (-7)) = ints xs ++ [.int .i64 (-7), .int .i64 (-7)] := by
    rw [List.set_append_right _ _ (by simp [ints]), List.set_append_right _ _ (by simp [ints])]; simp [ints]
  have HE : Hid (((ints xs ++ [Value.int .i64 0, Value.int .i64 0]).set xs.length (.int .i64 (-7))).set (xs.length + 1) (.int .i64 (-7)) = ints xs ++ [.int .i64 (-7), .int .i64 (-7)]) := hE
  clear hE
  go_enter Tryz.func31, Tryz.ntmps31
  go_wp2
  go_ret
  rw [HE.out]
  exact ⟨rfl, Has.new _ _ _, (Below.refl _ _).alloc (Nat.le_refl _) _⟩
end Go.Proofs.YtohjjgefklhmaaaGreatDoor

namespace Go.Proofs.YtohjjgefklhmaaaGreatDoor
open Go.ChangeShapes Go.WideShapes Go.ChangeAt Go.RowKit
set_option linter.unusedVariables false

/-- all blocks but those of S are as they were -/
structure Kp (S : Nat → Prop) (w w' : World) : Prop where
  os : w'.os = w.os
  tape : w'.tape = w.tape
  output : w'.output = w.output
  size : w.heap.size ≤ w'.heap.size
  block : ∀ k, k < w.heap.size → ¬ S k → w'.heap[k]? = w.heap[k]?

theorem Kp.refl (S : Nat → Prop) (w : World) : Kp S w w := ⟨rfl, rfl, rfl, Nat.le_refl _, fun _ _ _ => rfl⟩
theorem Kp.trans {S : Nat → Prop} {a b c : World} (h : Kp S a b) (k : Kp S b c) : Kp S a c :=
  ⟨k.os.trans h.os, k.tape.trans h.tape, k.output.trans h.output, Nat.le_trans h.size k.size, fun i hi hs => (k.block i (Nat.lt_of_lt_of_le hi h.size) hs).trans (h.block i hi hs)⟩
theorem Kp.mono {S S' : Nat → Prop} {w w' : World} (h : Kp S w w') (hS : ∀ k, k < w.heap.size → S k → S' k) : Kp S' w w' :=
  ⟨h.os, h.tape, h.output, h.size, fun k hk hs => h.block k hk (fun h' => hs (hS k hk h'))⟩
theorem Kp.drew {S : Nat → Prop} {a w : World} (h : Kp S a w) : Kp S a w.drew := ⟨h.os, h.tape, h.output, h.size, h.block⟩
theorem Kp.drewN {S : Nat → Prop} {a w : World} (h : Kp S a w) (n : Nat) : Kp S a (w.drewN n) := ⟨h.os, h.tape, h.output, h.size, h.block⟩
theorem Has.drewN {w : World} {g : Nat} {e : TypeId} {L : List Value} (h : Has w g e L) (n : Nat) : Has (w.drewN n) g e L := h
theorem Kp.alloc {S : Nat → Prop} {a w : World} (h : Kp S a w) (o : Obj) : Kp S a (w.alloc o) :=
  h.trans ⟨rfl, rfl, rfl, by simp, fun k hk _ => Below.heap_alloc _ _ _ hk⟩
theorem Kp.setCell {S : Nat → Prop} {a w : World} (h : Kp S a w) {p : Addr} (hp : S p.block) (u : Value) : Kp S a (w.setCell p u) :=
  h.trans ⟨rfl, rfl, rfl, by simp [World.setCell], fun k hk hs => Below.heap_setCell _ _ _ _ (fun e => hs (e ▸ hp))⟩
theorem Kp.of_below {w w' : World} (h : Below w.heap.size w w') (S : Nat → Prop) : Kp S w w' :=
  ⟨h.os, h.tape, h.output, h.size, fun k hk _ => h.block k hk⟩
theorem Kp.toBelow {S : Nat → Prop} {w w' : World} {B : Nat} (h : Kp S w w') (hB : B ≤ w.heap.size) (hS : ∀ k, k < B → ¬ S k) : Below B w w' :=
  ⟨h.os, h.tape, h.output, h.size, fun k hk => h.block k (by omega) (hS k hk)⟩
theorem Kp.cell {S : Nat → Prop} {w w' : World} (h : Kp S w w') {p : Addr} {v : Value} (hv : w.cell? p = some v) (hs : ¬ S p.block) : w'.cell? p = some v :=
  (World.cell?_of_block (h.block p.block (World.block_lt_of_cell? w p hv) hs)).trans hv
theorem Has.kp {S : Nat → Prop} {w w' : World} {g : Nat} {e : TypeId} {L : List Value} (h : Has w g e L) (k : Kp S w w') (hs : ¬ S g) : Has w' g e L := by
  have := h.lt; unfold Has at *; rw [k.block g this hs]; exact h

/-- the blocks in which a slice of ints is read -/
def IntSl.off (v : Value) (S : Nat → Prop) : Prop := ∀ a n c, v = .slice (some a) n c → ¬ S a.block
theorem add_block (a : Addr) (j : Nat) : (a.add j).block = a.block := by unfold Addr.add; split <;> rfl
theorem IntSl.kp {S : Nat → Prop} {w w' : World} {v : Value} {xs : List Int} (h : IntSl w v xs) (k : Kp S w w') (ho : IntSl.off v S) : IntSl w' v xs := by
  obtain ⟨a, cap, rfl, hx⟩ := h
  refine ⟨a, cap, rfl, fun h0 => ?_⟩
  obtain ⟨g, rfl, hc⟩ := hx h0
  exact ⟨g, rfl, fun j x hj => k.cell (hc j x hj) (ho ⟨g, 0, none⟩ _ _ rfl)⟩

def m7 : Value := .int .i64 (-7)
/-- the row of a list that is written over, k cells of it done -/
def over (xs : List Int) (k : Nat) : List Value := List.replicate k (.int .i64 (-7)) ++ (ints xs).drop k ++ [.int .i64 (-7), .int .i64 (-7)]

theorem over_zero (xs : List Int) : over xs 0 = ints xs ++ [.int .i64 (-7), .int .i64 (-7)] := by simp [over]
theorem over_len (xs : List Int) (k : Nat) (hk : k ≤ xs.length) : (over xs k).length = xs.length + 2 := by simp [over, ints]; omega
theorem over_at (xs : List Int) (k : Nat) (hk : k < xs.length) : (over xs k)[k]? = some (.int .i64 xs[k]) := by
  unfold over
  rw [List.append_assoc, List.getElem?_append_right (by simp), List.getElem?_append_left (by simp [ints]; omega)]
  simp [ints, hk]
theorem over_set (xs : List Int) (k : Nat) (hk : k < xs.length) : (over xs k).set k (.int .i64 (-7)) = over xs (k + 1) := by
  unfold over
  have h : (ints xs).drop k = .int .i64 xs[k] :: (ints xs).drop (k + 1) := by
    rw [List.drop_eq_getElem_cons (by simpa [ints] using hk)]; simp [ints]
  rw [h, List.append_assoc, List.set_append_right _ _ (by simp)]
  simp [List.replicate_succ', List.append_assoc]
theorem over_end (xs : List Int) (k i : Nat) (hk : k ≤ xs.length) (hi : i < 2) : (over xs k)[xs.length + i]? = some (.int .i64 (-7)) := by
  unfold over
  rw [List.getElem?_append_right (by simp [ints]; omega)]
  simp [ints]
  match i, hi with
  | 0, _ => simp [show k + (xs.length - k) = xs.length from by omega]
  | 1, _ => simp [show xs.length + 1 - (k + (xs.length - k)) = 1 from by omega]

set_option maxHeartbeats 1000000 in
set_option maxRecDepth 100000 in
theorem still_any (g : Nat) (v : Value) (xs : List Int) (w : World) (hg : Has w g 3 (ints xs ++ [.int .i64 (-7), .int .i64 (-7)])) (hv : IntSl w v xs) (ho : IntSl.off v (· = g)) (hlen : xs.length ≤ 1048576) :
    Calls Tryz.prog 33 #[.slice (some ⟨g, 0, none⟩) xs.length (xs.length + 2), v] w fun e w' => e = .returned (.bool true) ∧ Kp (· = g) w w' := by
  rw [← over_zero] at hg
  have hv2 := hv
  obtain ⟨a, cap, rfl, hx0⟩ := hv
  clear hx0
  have e0 : w.cell? ⟨g, xs.length, none⟩ = some (.int .i64 (-7)) := by rw [hg.cell]; simpa using over_end xs 0 0 (by omega) (by omega)
  have e1 : w.cell? ⟨g, xs.length + 1, none⟩ = some (.int .i64 (-7)) := by rw [hg.cell]; simpa using over_end xs 0 1 (by omega) (by omega)
  go_enter Tryz.func33, Tryz.ntmps33
  go_wp2
  go_loopw [7, 8] (fun ok i wr => ∃ k : Nat, k ≤ xs.length ∧ ok = .bool true ∧ i = .int .i64 k ∧ Has wr g 3 (over xs k) ∧ Kp (· = g) w wr) (fun _ i _ => xs.length - (intOf i).toNat)
  case atStart => exact ⟨0, Nat.zero_le _, rfl, rfl, hg, Kp.refl _ _⟩
  case round =>
    obtain ⟨k, hk, rfl, rfl, hgk, hkp⟩ := hrel
    by_cases hlt : k < xs.length
    · have hcell : wr.cell? ⟨g, k, none⟩ = some (.int .i64 xs[k]) := by rw [hgk.cell]; exact over_at xs k hlt
      obtain ⟨a', cap', he, hx1⟩ := hv2.kp hkp ho
      simp only [Value.slice.injEq, true_and] at he
      obtain ⟨rfl, rfl⟩ := he
      obtain ⟨h, rfl, hc⟩ := hx1 (by omega)
      have hck := hc k xs[k] (by simp [hlt])
      have hfr := hgk.frozen k
      clear hx1 hc e0 e1 hv2 ho
      go_wp2_with fail
      go_quiet (fail)
      go_wp2
      go_roundw
      case rel => exact ⟨k + 1, by omega, by simp, by go_num, by rw [← over_set xs k hlt]; exact Has.set (hgk.drewN nq) k _, Kp.setCell (p := ⟨g, k, none⟩) (hkp.drewN nq) rfl _⟩
      case measure => simp [intOf]; omega
    · go_wp2
      go_ret
      exact ⟨rfl, hkp⟩
end Go.Proofs.YtohjjgefklhmaaaGreatDoor

namespace Go.Proofs.YtohjjgefklhmaaaGreatDoor
open Go.ChangeShapes Go.WideShapes Go.ChangeAt Go.RowKit
set_option linter.unusedVariables false

theorem ret_bool {a b : Bool} (h : a = b) : Ending.returned (.bool a) = .returned (.bool b) := by rw [h]
theorem ret_int {k : IntKind} {a b : Int} (h : a = b) : Ending.returned (.int k a) = .returned (.int k b) := by rw [h]

/-- a bool that says whether p -/
def BoolIff (e : Ending) (p : Prop) : Prop := ∃ b, e = .returned (.bool b) ∧ (b = true ↔ p)
theorem BoolIff.tt {p : Prop} (h : p) : BoolIff (.returned (.bool true)) p := ⟨true, rfl, by simp [h]⟩
theorem BoolIff.ff {p : Prop} (h : ¬ p) : BoolIff (.returned (.bool false)) p := ⟨false, rfl, by simp [h]⟩
theorem BoolIff.of {b : Bool} {p : Prop} (h : b = true ↔ p) : BoolIff (.returned (.bool b)) p := ⟨b, rfl, h⟩

/-! ### plain mathematics of a beginning -/
def sumL (xs : List Int) : Int := xs.foldl (· + ·) 0
theorem sumL_snoc (xs : List Int) (x : Int) : sumL (xs ++ [x]) = sumL xs + x := by simp [sumL, List.foldl_append]
theorem take_snoc (xs : List Int) (k : Nat) (h : k < xs.length) : xs.take (k + 1) = xs.take k ++ [xs[k]] := List.take_succ_eq_append_getElem h
theorem sumL_take (xs : List Int) (k : Nat) (h : k < xs.length) : sumL (xs.take (k + 1)) = sumL (xs.take k) + xs[k] := by rw [take_snoc xs k h, sumL_snoc]
/-- all of the first k are in a range -/
def AllIn (xs : List Int) (k : Nat) (lo hi : Int) : Prop := ∀ j x, j < k → xs[j]? = some x → lo ≤ x ∧ x ≤ hi
theorem AllIn.zero (xs : List Int) (lo hi : Int) : AllIn xs 0 lo hi := fun j x h => by omega
theorem AllIn.succ {xs : List Int} {k : Nat} {lo hi : Int} (h : AllIn xs k lo hi) (hk : k < xs.length) (h1 : lo ≤ xs[k]) (h2 : xs[k] ≤ hi) : AllIn xs (k + 1) lo hi := by
  intro j x hj hx
  by_cases e : j = k
  · subst e; simp [hk] at hx; subst hx; exact ⟨h1, h2⟩
  · exact h j x (by omega) hx
theorem AllIn.not {xs : List Int} {k : Nat} {lo hi : Int} (hk : k < xs.length) (h : ¬ (lo ≤ xs[k] ∧ xs[k] ≤ hi)) : ¬ AllIn xs xs.length lo hi := fun H => h (H k xs[k] hk (by simp [hk]))
theorem AllIn.mono {xs : List Int} {k : Nat} {lo hi hi' : Int} (h : AllIn xs k lo hi) (hh : hi ≤ hi') : AllIn xs k lo hi' := fun j x hj hx => by
  have := h j x hj hx; omega
theorem sumL_mono (xs : List Int) (h : AllIn xs xs.length 0 9223372036854775807) (k : Nat) (hk : k ≤ xs.length) : sumL (xs.take k) ≤ sumL xs := by
  obtain ⟨d, hd⟩ : ∃ d, k + d = xs.length := ⟨xs.length - k, by omega⟩
  induction d generalizing k with
  | zero => simp at hd; rw [List.take_of_length_le (by omega)]; omega
  | succ d ih =>
    have h1 := ih (k + 1) (by omega) (by omega)
    rw [sumL_take xs k (by omega)] at h1
    have := h k xs[k] (by omega) (by simp)
    omega
theorem sumL_nonneg (xs : List Int) (k : Nat) (hk : k ≤ xs.length) (h : AllIn xs k 0 9223372036854775807) : 0 ≤ sumL (xs.take k) := by
  induction k with
  | zero => simp [sumL]
  | succ k ih =>
    have h1 := ih (by omega) (fun j x hj hx => h j x (by omega) hx)
    have h2 := h k xs[k] (by omega) (by simp)
    rw [sumL_take xs k (by omega)]; omega

theorem AllIn.le_sum {xs : List Int} (h : AllIn xs xs.length 0 9223372036854775807) {M : Int} (hs : sumL xs ≤ M) : AllIn xs xs.length 0 M := by
  intro j x hj hx
  have h1 := h j x hj hx
  have h2 := sumL_mono xs h (j + 1) (by omega)
  have h3 := sumL_nonneg xs j (by omega) (fun i y hi hy => h i y (by omega) hy)
  rw [sumL_take xs j hj] at h2
  have e : xs[j] = x := by rw [List.getElem?_eq_getElem hj] at hx; exact Option.some.inj hx
  omega
theorem ints_snoc (xs : List Int) (k : Nat) (h : k < xs.length) : ints (xs.take (k + 1)) = ints (xs.take k) ++ [.int .i64 xs[k]] := by
  rw [take_snoc xs k h]; unfold ints; rw [List.map_append]; rfl
theorem AllIn.sum_le {xs : List Int} {M : Int} (k : Nat) (hk : k ≤ xs.length) (h : AllIn xs k 0 M) : sumL (xs.take k) ≤ k * M := by
  induction k with
  | zero => simp [sumL]
  | succ k ih =>
    have h1 := ih (by omega) (fun j x hj hx => h j x (by omega) hx)
    have h2 := h k xs[k] (by omega) (by simp)
    rw [sumL_take xs k (by omega)]
    have e : ((k + 1 : Nat) : Int) * M = k * M + M := by rw [Int.natCast_add, Int.add_mul]; simp
    omega
/-- P3, of the balances -/
def GoodBal (bs : List Int) : Prop := 1 ≤ bs.length ∧ bs.length ≤ 6 ∧ AllIn bs bs.length 0 9223372036854775807 ∧ sumL bs ≤ 1000000
/-- P3, of the validators -/
def GoodVal (os rs : List Int) (n : Nat) : Prop := 1 ≤ os.length ∧ os.length ≤ 5 ∧ rs.length = os.length ∧ AllIn os os.length 0 (n - 1) ∧ AllIn rs rs.length 0 100
/-- P3, of the rest -/
def GoodRules (top mature fee : Int) : Prop := 1 ≤ top ∧ top ≤ 5 ∧ 1 ≤ mature ∧ mature ≤ 20 ∧ 0 ≤ fee ∧ fee ≤ 100

/-! ### walks -/
set_option maxHeartbeats 400000 in
set_option maxRecDepth 100000 in
theorem copyNumbers_any (v : Value) (xs : List Int) (w : World) (hv : IntSl w v xs) (hlen : xs.length ≤ 1048576) :
    Calls Tryz.prog 74 #[v] w fun e w' => e = .returned (.slice (some ⟨w.heap.size, 0, none⟩) xs.length xs.length) ∧
      w' = w.alloc (.cells (ints xs).toArray 3) := by
  obtain ⟨a, cap, rfl, hx0⟩ := hv
  have hx : Hid (0 < xs.length → ∃ g, a = some ⟨g, 0, none⟩ ∧ ∀ (j : Nat) x, xs[j]? = some x → w.cell? ⟨g, j, none⟩ = some (.int .i64 x)) := hx0
  clear hx0
  obtain ⟨i0, hi, hz0, hz1, hz2⟩ := info_parts info_int
  have hmk : ∀ u : World, (Instr.makeSlice 24 (.int .i64 (xs.length : Int)) (.int .i64 (xs.length : Int))).run Tryz.prog u =
      .ok (.slice (some ⟨u.heap.size, 0, none⟩) xs.length xs.length) (u.alloc (.cells (madeCells #[.int .i64 0] xs.length) 3)) := fun u => by
    have h := run_make (P := Tryz.prog) u 24 3 i0 (.int .i64 0) Tryz.underlying24 hi hz0 .i64 .i64 (xs.length : Int) (xs.length : Int) (by omega) (Int.le_refl _) (by rw [hz2]; omega) (by omega)
    simpa [hz1, Value.cells] using h
  have hcp : (Builtin.copy_ #[24, 24] 3 #[.slice (some ⟨w.heap.size, 0, none⟩) xs.length xs.length, .slice a xs.length cap]).run Tryz.prog (w.alloc (.cells (madeCells #[.int .i64 0] xs.length) 3)) =
      .ok (.int .i64 xs.length) (w.alloc (.cells (ints xs).toArray 3)) := by
    have h := run_copy_any (P := Tryz.prog) (w.alloc (.cells (madeCells #[.int .i64 0] xs.length) 3)) 24 24 3 3 1 w.heap.size xs.length xs.length a xs.length cap
      (List.replicate xs.length (.int .i64 0)) 3 (ints xs) Tryz.underlying24 size_int (by rw [← toList_madeCells_one, Array.toArray_toList]; exact heap_alloc_new w _) (by simp [ints]) ?_ (by simp [ints]) oneCell_ints
    · rw [alloc_setRow] at h
      have e1 : Nat.min xs.length xs.length = xs.length := by simp
      rw [e1] at h
      have e2 : List.drop (ints xs).length (List.replicate xs.length (Value.int .i64 0)) = [] := by simp [ints]
      rw [e2, List.append_nil] at h
      exact h
    · intro h0
      obtain ⟨g, rfl, hc⟩ := hx.out (by simpa [ints] using h0)
      refine ⟨_, rfl, fun j v hj => ?_⟩
      obtain ⟨x, hx1, rfl⟩ : ∃ x, xs[j]? = some x ∧ Value.int .i64 x = v := by simpa [ints] using hj
      have h1 := hc j x hx1
      rw [addr_add0]
      rw [(Below.refl w.heap.size w).alloc (Nat.le_refl _) _ |>.cell (World.block_lt_of_cell? w _ h1)]
      exact h1
  go_enter Tryz.func74, Tryz.ntmps74
  go_wp2
  go_ret
  exact ⟨rfl, rfl⟩

set_option maxHeartbeats 1000000 in
set_option maxRecDepth 100000 in
theorem goodBalances_any (v : Value) (xs : List Int) (w : World) (hv : IntSl w v xs) (hlen : xs.length ≤ 1048576) :
    Calls Tryz.prog 135 #[v] w fun e w' => BoolIff e (GoodBal xs) ∧ w' = w := by
  obtain ⟨a, cap, rfl, hx0⟩ := hv
  have hx : Hid (0 < xs.length → ∃ g, a = some ⟨g, 0, none⟩ ∧ ∀ (j : Nat) x, xs[j]? = some x → w.cell? ⟨g, j, none⟩ = some (.int .i64 x)) := hx0
  clear hx0
  by_cases h1 : xs.length < 1
  · have HB : Hid (¬ GoodBal xs) := fun h => by unfold GoodBal at h; omega
    go_enter Tryz.func135, Tryz.ntmps135
    go_wp2
    go_ret
    exact ⟨BoolIff.ff HB.out, rfl⟩
  by_cases h2 : 6 < xs.length
  · have HB : Hid (¬ GoodBal xs) := fun h => by unfold GoodBal at h; omega
    go_enter Tryz.func135, Tryz.ntmps135
    go_wp2
    go_ret
    exact ⟨BoolIff.ff HB.out, rfl⟩
  obtain ⟨g, rfl, hc⟩ := hx.out (by omega)
  clear hx
  go_enter Tryz.func135, Tryz.ntmps135
  go_wp2
  go_loop [3, 16] (fun left i => ∃ k : Nat, k ≤ xs.length ∧ i = .int .i64 k ∧ left = .int .i64 (1000000 - sumL (xs.take k)) ∧ AllIn xs k 0 9223372036854775807 ∧ sumL (xs.take k) ≤ 1000000) (fun _ i => xs.length - (intOf i).toNat)
  case atStart => exact ⟨0, Nat.zero_le _, rfl, rfl, AllIn.zero _ _ _, by simp [sumL]⟩
  case round =>
    obtain ⟨k, hk, rfl, rfl, hA, hS⟩ := hrel
    have hN := sumL_nonneg xs k hk hA
    by_cases hlt : k < xs.length
    · have hck := hc k xs[k] (by simp [hlt])
      have hsn := sumL_take xs k hlt
      generalize hb : xs[k] = b at *
      by_cases hn : b < 0
      · have HB : Hid (¬ GoodBal xs) := fun h => by
          have := h.2.2.1 k b hlt (by simp [hlt, hb]); omega
        clear hA hsn hc
        go_wp2
        go_ret
        exact ⟨BoolIff.ff HB.out, rfl⟩
      · by_cases hm : 1000000 - sumL (xs.take k) < b
        · have HB : Hid (¬ GoodBal xs) := fun h => by
            have := sumL_mono xs h.2.2.1 (k + 1) (by omega)
            have h4 := h.2.2.2
            omega
          clear hA hsn hc
          go_wp2
          go_ret
          exact ⟨BoolIff.ff HB.out, rfl⟩
        · have HA : Hid (AllIn xs (k + 1) 0 9223372036854775807) := AllIn.succ hA hlt (by rw [hb]; omega) (by rw [hb]; omega)
          have HS : Hid (sumL (xs.take (k + 1)) = sumL (xs.take k) + b) := hsn
          clear hA hsn hc
          go_wp2
          go_round
          case rel => exact ⟨k + 1, by omega, by go_num, by rw [HS.out]; go_num, HA.out, by rw [HS.out]; omega⟩
          case measure => simp [intOf]; omega
    · have hke : k = xs.length := by omega
      have HB : Hid (GoodBal xs) := ⟨by omega, by omega, by rw [← hke]; exact hA, by rw [hke, List.take_of_length_le (Nat.le_refl _)] at hS; exact hS⟩
      clear hke
      go_wp2
      go_ret
      exact ⟨BoolIff.tt HB.out, rfl⟩
end Go.Proofs.YtohjjgefklhmaaaGreatDoor

namespace Go.Proofs.YtohjjgefklhmaaaGreatDoor
open Go.ChangeShapes Go.WideShapes Go.ChangeAt Go.RowKit
set_option linter.unusedVariables false

set_option maxHeartbeats 2000000 in
set_option maxRecDepth 100000 in
theorem goodValidators_any (v u : Value) (os rs : List Int) (n : Nat) (w : World) (hv : IntSl w v os) (hu : IntSl w u rs) (hlen : os.length ≤ 1048576) (hlen2 : rs.length ≤ 1048576) (hn : n ≤ 1048576) :
    Calls Tryz.prog 136 #[v, u, .int .i64 n] w fun e w' => BoolIff e (GoodVal os rs n) ∧ w' = w := by
  obtain ⟨a, cap, rfl, hx0⟩ := hv
  have hx : Hid (0 < os.length → ∃ g, a = some ⟨g, 0, none⟩ ∧ ∀ (j : Nat) x, os[j]? = some x → w.cell? ⟨g, j, none⟩ = some (.int .i64 x)) := hx0
  clear hx0
  obtain ⟨a', cap', rfl, hx0⟩ := hu
  have hy : Hid (0 < rs.length → ∃ g, a' = some ⟨g, 0, none⟩ ∧ ∀ (j : Nat) x, rs[j]? = some x → w.cell? ⟨g, j, none⟩ = some (.int .i64 x)) := hx0
  clear hx0
  by_cases h1 : os.length < 1
  · have HB : Hid (¬ GoodVal os rs n) := fun h => by unfold GoodVal at h; omega
    go_enter Tryz.func136, Tryz.ntmps136
    go_wp2
    go_ret
    exact ⟨BoolIff.ff HB.out, rfl⟩
  by_cases h2 : 5 < os.length
  · have HB : Hid (¬ GoodVal os rs n) := fun h => by unfold GoodVal at h; omega
    go_enter Tryz.func136, Tryz.ntmps136
    go_wp2
    go_ret
    exact ⟨BoolIff.ff HB.out, rfl⟩
  by_cases h3 : rs.length = os.length
  case neg =>
    have HB : Hid (¬ GoodVal os rs n) := fun h => by unfold GoodVal at h; omega
    have h3b : ((rs.length : Int) != (os.length : Int)) = true := by simp; omega
    go_enter Tryz.func136, Tryz.ntmps136
    go_wp2
    go_ret
    exact ⟨BoolIff.ff HB.out, rfl⟩
  have h3b : ((rs.length : Int) != (os.length : Int)) = false := by simp; omega
  have H3 : Hid (rs.length = os.length) := h3
  obtain ⟨g, rfl, hc⟩ := hx.out (by omega)
  obtain ⟨g', rfl, hc'⟩ := hy.out (by omega)
  clear hx hy h3
  go_enter Tryz.func136, Tryz.ntmps136
  go_wp2
  go_loop [28] (fun i => ∃ k : Nat, k ≤ os.length ∧ i = .int .i64 k ∧ AllIn os k 0 ((n : Int) - 1)) (fun i => os.length - (intOf i).toNat)
  case atStart => exact ⟨0, Nat.zero_le _, rfl, AllIn.zero _ _ _⟩
  case round =>
    obtain ⟨k, hk, rfl, hA⟩ := hrel
    by_cases hlt : k < os.length
    · have hck := hc k os[k] (by simp [hlt])
      generalize hb : os[k] = b at *
      by_cases hn : b < 0
      · have HB : Hid (¬ GoodVal os rs n) := fun h => by
          have := h.2.2.2.1 k b hlt (by simp [hlt, hb]); omega
        clear hA hc hc'
        go_wp2
        go_ret
        exact ⟨BoolIff.ff HB.out, rfl⟩
      · by_cases hm : (n : Int) ≤ b
        · have HB : Hid (¬ GoodVal os rs n) := fun h => by
            have := h.2.2.2.1 k b hlt (by simp [hlt, hb]); omega
          clear hA hc hc'
          go_wp2
          go_ret
          exact ⟨BoolIff.ff HB.out, rfl⟩
        · have HA : Hid (AllIn os (k + 1) 0 ((n : Int) - 1)) := AllIn.succ hA hlt (by rw [hb]; omega) (by rw [hb]; omega)
          clear hA hc hc'
          go_wp2
          go_round
          case rel => exact ⟨k + 1, by omega, by go_num, HA.out⟩
          case measure => simp [intOf]; omega
    · have HO : Hid (AllIn os os.length 0 ((n : Int) - 1)) := by
        have hke : k = os.length := by omega
        rw [hke] at hA; exact hA
      clear hA hc
      go_wp2
      go_loop [42] (fun i => ∃ k : Nat, k ≤ rs.length ∧ i = .int .i64 k ∧ AllIn rs k 0 100) (fun i => rs.length - (intOf i).toNat)
      case atStart => exact ⟨0, Nat.zero_le _, rfl, AllIn.zero _ _ _⟩
      case round =>
        obtain ⟨k2, hk2, rfl, hA⟩ := hrel
        by_cases hlt2 : k2 < rs.length
        · have hck := hc' k2 rs[k2] (by simp [hlt2])
          generalize hb : rs[k2] = b at *
          by_cases hn : b < 0
          · have HB : Hid (¬ GoodVal os rs n) := fun h => by
              have := h.2.2.2.2 k2 b hlt2 (by simp [hlt2, hb]); omega
            clear hA hc'
            go_wp2
            go_ret
            exact ⟨BoolIff.ff HB.out, rfl⟩
          · by_cases hm : 100 < b
            · have HB : Hid (¬ GoodVal os rs n) := fun h => by
                have := h.2.2.2.2 k2 b hlt2 (by simp [hlt2, hb]); omega
              clear hA hc'
              go_wp2
              go_ret
              exact ⟨BoolIff.ff HB.out, rfl⟩
            · have HA : Hid (AllIn rs (k2 + 1) 0 100) := AllIn.succ hA hlt2 (by rw [hb]; omega) (by rw [hb]; omega)
              clear hA hc'
              go_wp2
              go_round
              case rel => exact ⟨k2 + 1, by omega, by go_num, HA.out⟩
              case measure => simp [intOf]; omega
        · have HB : Hid (GoodVal os rs n) := ⟨by omega, by omega, H3.out, HO.out, by
            have hke : k2 = rs.length := by omega
            rw [hke] at hA; exact hA⟩
          clear hA hc'
          go_wp2
          go_ret
          exact ⟨BoolIff.tt HB.out, rfl⟩

/-- a beginning, as it is handed to New -/
def genV (vb vo vr : Value) (top mature fee : Int) : Value := .agg #[vb, vo, vr, .int .i64 top, .int .i64 mature, .int .i64 fee]

set_option maxHeartbeats 2000000 in
set_option maxRecDepth 100000 in
theorem goodRules_any (vb vo vr : Value) (top mature fee : Int) (w : World) :
    Calls Tryz.prog 137 #[.agg #[vb, vo, vr, .int .i64 top, .int .i64 mature, .int .i64 fee]] w fun e w' => BoolIff e (GoodRules top mature fee) ∧ Below w.heap.size w w' := by
  by_cases h1 : top < 1
  · have HB : Hid (¬ GoodRules top mature fee) := fun h => by unfold GoodRules at h; omega
    go_enter Tryz.func137, Tryz.ntmps137
    go_wp2
    go_ret
    exact ⟨BoolIff.ff HB.out, (Below.refl _ _).alloc (Nat.le_refl _) _⟩
  by_cases h2 : 5 < top
  · have HB : Hid (¬ GoodRules top mature fee) := fun h => by unfold GoodRules at h; omega
    go_enter Tryz.func137, Tryz.ntmps137
    go_wp2
    go_ret
    exact ⟨BoolIff.ff HB.out, (Below.refl _ _).alloc (Nat.le_refl _) _⟩
  by_cases h3 : mature < 1
  · have HB : Hid (¬ GoodRules top mature fee) := fun h => by unfold GoodRules at h; omega
    go_enter Tryz.func137, Tryz.ntmps137
    go_wp2
    go_ret
    exact ⟨BoolIff.ff HB.out, (Below.refl _ _).alloc (Nat.le_refl _) _⟩
  by_cases h4 : 20 < mature
  · have HB : Hid (¬ GoodRules top mature fee) := fun h => by unfold GoodRules at h; omega
    go_enter Tryz.func137, Tryz.ntmps137
    go_wp2
    go_ret
    exact ⟨BoolIff.ff HB.out, (Below.refl _ _).alloc (Nat.le_refl _) _⟩
  by_cases h5 : 0 ≤ fee
  case neg =>
    have HB : Hid (¬ GoodRules top mature fee) := fun h => by unfold GoodRules at h; omega
    go_enter Tryz.func137, Tryz.ntmps137
    go_wp2
    go_ret
    exact ⟨BoolIff.ff HB.out, (Below.refl _ _).alloc (Nat.le_refl _) _⟩
  by_cases h6 : fee ≤ 100
  case neg =>
    have HB : Hid (¬ GoodRules top mature fee) := fun h => by unfold GoodRules at h; omega
    go_enter Tryz.func137, Tryz.ntmps137
    go_wp2
    go_ret
    exact ⟨BoolIff.ff HB.out, (Below.refl _ _).alloc (Nat.le_refl _) _⟩
  have HB : Hid (GoodRules top mature fee) := ⟨by omega, by omega, by omega, by omega, by omega, by omega⟩
  go_enter Tryz.func137, Tryz.ntmps137
  go_wp2
  go_ret
  exact ⟨BoolIff.tt HB.out, (Below.refl _ _).alloc (Nat.le_refl _) _⟩

def GoodGen (bs os rs : List Int) (top mature fee : Int) : Prop := GoodBal bs ∧ GoodVal os rs bs.length ∧ GoodRules top mature fee

set_option maxHeartbeats 2000000 in
set_option maxRecDepth 100000 in
theorem goodGenesis_any (vb vo vr : Value) (bs os rs : List Int) (top mature fee : Int) (w : World) (hb : IntSl w vb bs) (ho : IntSl w vo os) (hr : IntSl w vr rs)
    (l1 : bs.length ≤ 1048576) (l2 : os.length ≤ 1048576) (l3 : rs.length ≤ 1048576) :
    Calls Tryz.prog 73 #[.agg #[vb, vo, vr, .int .i64 top, .int .i64 mature, .int .i64 fee]] w fun e w' => BoolIff e (GoodGen bs os rs top mature fee) ∧ Below w.heap.size w w' := by
  have hB : ∀ o, Below w.heap.size w (w.alloc o) := fun o => (Below.refl _ _).alloc (Nat.le_refl _) _
  obtain ⟨ab, cb, rfl, _⟩ := id hb
  obtain ⟨ao, co, rfl, _⟩ := id ho
  obtain ⟨ar, cr, rfl, _⟩ := id hr
  go_enter Tryz.func73, Tryz.ntmps73
  go_wp2_with fail
  refine (goodBalances_any _ bs _ (hb.below (hB _) (Nat.le_refl _)) l1).mono ?_
  rintro e w1 ⟨⟨b1, rfl, hb1⟩, rfl⟩
  cases b1 with
  | false =>
    have HB : Hid (¬ GoodGen bs os rs top mature fee) := fun h => by have := hb1.2 h.1; cases this
    clear hb1
    go_wp2
    go_ret
    exact ⟨BoolIff.ff HB.out, hB _⟩
  | true =>
    have HB : Hid (GoodBal bs) := hb1.1 rfl
    clear hb1
    go_wp2_with fail
    refine (goodValidators_any _ _ os rs bs.length _ (ho.below (hB _) (Nat.le_refl _)) (hr.below (hB _) (Nat.le_refl _)) l2 l3 l1).mono ?_
    rintro e w2 ⟨⟨b2, rfl, hb2⟩, rfl⟩
    cases b2 with
    | false =>
      have HG : Hid (¬ GoodGen bs os rs top mature fee) := fun h => by have := hb2.2 h.2.1; cases this
      clear hb2
      go_wp2
      go_ret
      exact ⟨BoolIff.ff HG.out, hB _⟩
    | true =>
      have HV : Hid (GoodVal os rs bs.length) := hb2.1 rfl
      clear hb2
      go_wp2_with fail
      refine (goodRules_any _ _ _ top mature fee _).mono ?_
      rintro e w3 ⟨⟨b3, rfl, hb3⟩, hb4⟩
      have HG : Hid (b3 = true ↔ GoodGen bs os rs top mature fee) := ⟨fun h => ⟨HB.out, HV.out, hb3.1 h⟩, fun h => hb3.2 h.2.2⟩
      clear hb3
      go_wp2
      go_ret
      exact ⟨BoolIff.of HG.out, (hB _).trans (hb4.mono (by simp))⟩
end Go.Proofs.YtohjjgefklhmaaaGreatDoor
