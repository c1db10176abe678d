import Derived.Test.YtohjjgefklhmaaaGreatDoorRows
import Derived.WalkKit
import Derived.ProofKit
import Derived.OpenShut
import Derived.Deep.QuietTactic
import Derived.BigQuiet
import Derived.BigRegion
import Derived.WalkLawsBesides
namespace Go.Proofs.YtohjjgefklhmaaaGreatDoor
open Go.ChangeShapes Go.WideShapes Go.ChangeAt Go.RowKit
set_option linter.unusedVariables false
set_option maxHeartbeats 40000000
set_option maxRecDepth 100000
variable {p : Prop} {n lo hi : Int} {w w' a : World} {g B k : Nat} {e : TypeId} {L : List Value} {xs : List Int} {v : Value} {S : Nat -> Prop} {b : Bool}
theorem Hd (h : p) : Hid p := h
def GV (c : Int) (n : Int) : Int := if c < 0 then -((c + 1).tmod n) else c % n
theorem D9 (c n : Int) (hn : 1 <= n) : 0 <= GV c n ∧ GV c n < n := by
 unfold GV
 split
 ·rw [<- Int.neg_tmod, Int.tmod_eq_emod_of_nonneg (by omega)]
  exact ⟨Int.emod_nonneg _ (by omega), Int.emod_lt_of_pos _ (by omega)⟩
 ·exact ⟨Int.emod_nonneg _ (by omega), Int.emod_lt_of_pos _ (by omega)⟩
theorem MN (c n : Int) (h : c < 0) : GV c n = -((c + 1).tmod n) := by unfold GV; rw [if_pos h]
theorem NI (c n : Int) (h : ¬ c < 0) : GV c n = c % n := by unfold GV; rw [if_neg h]
theorem Gp (c n : Int) (w : World) (hc1 : -9223372036854775808 <= c) (hc2 : c <= 9223372036854775807) (hn1 : 1 <= n) (hn2 : n <= 9223372036854775807) :
  Calls Tryz.prog 16 #[.int .i64 c, .int .i64 n] w fun e w' => e = .returned (.int .i64 (GV c n)) ∧ w = w' := by
 by_cases h : c < 0
 ·rw [MN c n h]
  go_enter Tryz.func16, Tryz.ntmps16
  go_wp2
  go_ret
  exact ⟨rfl, rfl⟩
 ·rw [NI c n h]
  go_enter Tryz.func16, Tryz.ntmps16
  go_wp2
  go_ret
  exact ⟨rfl, rfl⟩
def inN (n lo hi : Int) : Bool := decide (lo <= n) && decide (n <= hi)
theorem GQ (h : lo <= n) (h2 : n <= hi) : inN n lo hi = true := by simp [inN, h, h2]
theorem Rv (h2 : ¬ n <= hi) : inN n lo hi = false := by simp only [inN, h2, decide_false, Bool.and_false]
theorem RK (h : ¬ lo <= n) : inN n lo hi = false := by simp only [inN, h, decide_false, Bool.false_and]
theorem AQ : inN n lo hi = true ↔ lo <= n ∧ n <= hi := by simp [inN]
theorem EK (n lo hi : Int) (w : World) :
  Calls Tryz.prog 76 #[.int .i64 n, .int .i64 lo, .int .i64 hi] w fun e w' => e = .returned (.bool (inN n lo hi)) ∧ w = w' := by
 by_cases h : lo <= n
 ·by_cases h2 : n <= hi
  ·rw [GQ h h2]
   go_enter Tryz.func76, Tryz.ntmps76
   go_wp2
   go_ret
   exact ⟨rfl, rfl⟩
  ·rw [Rv h2]
   go_enter Tryz.func76, Tryz.ntmps76
   go_wp2
   go_ret
   exact ⟨rfl, rfl⟩
 ·rw [RK h]
  go_enter Tryz.func76, Tryz.ntmps76
  go_wp2
  go_ret
  exact ⟨rfl, rfl⟩
theorem DV (n : Int) (w : World) :
  Calls Tryz.prog 30 #[.int .i64 n] w fun e w' => e = .returned (.int .i64 n) ∧ w = w' := by
 go_enter Tryz.func30, Tryz.ntmps30
 go_wp2
 go_ret
 exact ⟨rfl, rfl⟩
def Ai (xs : List Int) : List Value := xs.map (Value.int .i64)
def Has (w : World) (g : Nat) (e : TypeId) (L : List Value) : Prop := w.heap[g]? = some (.cells L.toArray e (0, 0))
theorem Has.lt (h : Has w g e L) : g < w.heap.size := (Array.getElem?_eq_some_iff.1 h).1
theorem Has.cell (h : Has w g e L) (i : Nat) : w.cell? ⟨g, i, none⟩ = L[i]? := by
 unfold Has at h; simp [World.cell?, h]
theorem Has.frozen (h : Has w g e L) (i : Nat) : w.frozen? ⟨g, i, none⟩ = false := by
 unfold Has at h; simp [World.frozen?, h]
theorem Has.below (h : Has w g e L) (hb : Below B w w') (hg : g < B) : Has w' g e L := by
 unfold Has at *; rw [hb.block g hg]; exact h
theorem Has.drew (h : Has w g e L) : Has w.drew g e L := h
theorem Has.alloc (h : Has w g e L) (o : Obj) : Has (w.alloc o) g e L :=
 h.below ((Below.refl w.heap.size w).alloc (Nat.le_refl _) o) h.lt
theorem Has.new (w : World) (e : TypeId) (L : List Value) : Has (w.alloc (.cells L.toArray e)) w.heap.size e L := by
 unfold Has; exact heap_alloc_new w _
theorem Has.newA (w : World) (e : TypeId) (A : Array Value) : Has (w.alloc (.cells A e)) w.heap.size e A.toList := by
 unfold Has; simp only [Array.toArray_toList]; exact heap_alloc_new w _
theorem Has.set (h : Has w g e L) (i : Nat) (v : Value) : Has (w.setCell ⟨g, i, none⟩ v) g e (L.set i v) := by
 have hlt := h.lt
 unfold Has at *
 simp [World.setCell, Array.getElem?_modify, h]
theorem Has.other (h : Has w g e L) (a : Addr) (v : Value) (hne : g ≠ a.block) : Has (w.setCell a v) g e L := by
 unfold Has at *; rw [Below.heap_setCell w a v g hne]; exact h
def AM (w : World) (v : Value) (xs : List Int) : Prop :=
 ∃ a cap, v = .slice a xs.length cap ∧ (0 < xs.length -> ∃ g, a = some ⟨g, 0, none⟩ ∧ ∀ (j : Nat) x, xs[j]? = some x -> w.cell? ⟨g, j, none⟩ = some (.int .i64 x))
theorem Dl (g j : Nat) : (⟨g, 0, none⟩ : Addr).add j = ⟨g, j, none⟩ := by unfold Addr.add; split <;> simp_all
theorem AM.of_has {cap : Nat} {r : List Value} (h : Has w g 3 (Ai xs ++ r)) : AM w (.slice (some ⟨g, 0, none⟩) xs.length cap) xs := by
 refine ⟨_, _, rfl, fun _ => ⟨_, rfl, fun j x hx => ?_⟩⟩
 rw [h.cell]
 obtain ⟨hj, _⟩ := List.getElem?_eq_some_iff.1 hx
 rw [List.getElem?_append_left (by simpa [Ai] using hj)]; simp [Ai, hx]
theorem AM.below (h : AM w v xs) (hb : Below B w w') (hB : w.heap.size <= B) : AM w' v xs := by
 obtain ⟨a, cap, rfl, hx⟩ := h
 refine ⟨a, cap, rfl, fun h0 => ?_⟩
 obtain ⟨g, rfl, hc⟩ := hx h0
 refine ⟨g, rfl, fun j x hj => ?_⟩
 have h1 := hc j x hj
 rw [hb.cell (p := ⟨g, j, none⟩) (Nat.lt_of_lt_of_le (World.block_lt_of_cell? w _ h1) hB)]
 exact h1
theorem Cn : (Tryz.prog.info? 3).map (fun i => (i.zero, i.size, i.bytes)) = some (some (.int .i64 0), 1, 8) := by kernel_rfl
theorem K2 : (Tryz.prog.info? 3).map (·.size) = some 1 := by kernel_rfl
theorem Gq : ∀ v ∈ Ai xs, v.oneCell' = true := by
 intro v hv
 obtain ⟨x, _, rfl⟩ := List.mem_map.1 hv
 rfl
theorem DW (w : World) (A B : Array Value) (t : TypeId) : (w.alloc (.cells A t)).setRow w.heap.size B = w.alloc (.cells B t) := by
 unfold World.setRow World.alloc
 congr 1
 apply Array.ext_getElem?
 intro k
 rw [Array.getElem?_modify]
 by_cases hk : w.heap.size = k
 ·subst hk; simp
 ·rw [if_neg hk, Array.getElem?_push, Array.getElem?_push, if_neg (by omega), if_neg (by omega)]
theorem DX {P : Program} (w : World) (dT sT ty elem : TypeId) (size g dLen dCap : Nat) (sp : Option Addr) (sLen sCap : Nat) (cur : List Value) (t : TypeId) (cs : List Value)
  (hu : P.underlying dT = some (.slice elem)) (hs : (P.info? elem).map (·.size) = some size)
  (hg : w.heap[g]? = some (.cells cur.toArray t (0, 0))) (hn : cs.length = Nat.min sLen dLen * size)
  (hpos : 0 < cs.length -> ∃ a, sp = some a ∧ ∀ j v, cs[j]? = some v -> w.cell? (a.add j) = some v)
  (hfit : cs.length <= cur.length) (h1 : ∀ v ∈ cs, v.oneCell' = true) :
  (Builtin.copy_ #[dT, sT] ty #[.slice (some ⟨g, 0, none⟩) dLen dCap, .slice sp sLen sCap]).run P w =
   .ok (goInt (Nat.min sLen dLen)) (w.setRow g (cs ++ cur.drop cs.length).toArray) := by
 have hst := run_storeCells_at P g 0 t cs 0 cur.toArray w hg (by simpa using hfit) h1
 simp only [Nat.zero_add, List.take_zero, List.nil_append] at hst
 cases hq : P.info? elem with
 | none => simp [hq] at hs
 | some i =>
  have hi : i.size = size := by simpa [hq] using hs
  subst hi
  by_cases h0 : 0 < cs.length
  ·obtain ⟨a, rfl, hsrc⟩ := hpos h0
   have hl := run_loadCells_list (P := P) w a cs hsrc
   simp [Builtin.copy_, run_underlying hu, Builtin.lenOf, Builtin.firstCells, sizeOf, typeInfo, hq, <- hn, hl, hst]
  ·obtain rfl : cs = [] := List.eq_nil_of_length_eq_zero (by omega)
   have hl : ∀ a, (loadCells a 0).run P w = .ok #[] w := fun a => by simpa using run_loadCells_list (P := P) w a [] (fun j v h => by simp at h)
   have hn' : Nat.min sLen dLen * i.size = 0 := by simpa using hn.symm
   cases sp with
   | none => simp [Builtin.copy_, run_underlying hu, Builtin.lenOf, Builtin.firstCells, sizeOf, typeInfo, hq, hst]
   | some a => simp [Builtin.copy_, run_underlying hu, Builtin.lenOf, Builtin.firstCells, sizeOf, typeInfo, hq, hn', hl, hst]
theorem GK (v : Value) (xs : List Int) (w : World) (hv : AM w v xs) (hlen : xs.length <= 1048576) :
  Calls Tryz.prog 31 #[v] w fun e w' => e = .returned (.slice (some ⟨w.heap.size, 0, none⟩) xs.length (xs.length + 2)) ∧
   Has w' w.heap.size 3 (Ai xs ++ [.int .i64 (-7), .int .i64 (-7)]) ∧ Below w.heap.size w w' := by
 obtain ⟨a, cap, rfl, hx0⟩ := hv
 have hx : Hid (0 < xs.length -> ∃ g, a = some ⟨g, 0, none⟩ ∧ ∀ (j : Nat) x, xs[j]? = some x -> w.cell? ⟨g, j, none⟩ = some (.int .i64 x)) := hx0
 clear hx0
 obtain ⟨i0, hi, hz0, hz1, hz2⟩ := info_parts Cn
 have hmk : ∀ u : World, (Instr.makeSlice 24 (.int .i64 ((xs.length : Int) + 2)) (.int .i64 ((xs.length : Int) + 2))).run Tryz.prog u =
   .ok (.slice (some ⟨u.heap.size, 0, none⟩) (xs.length + 2) (xs.length + 2)) (u.alloc (.cells (madeCells #[.int .i64 0] (xs.length + 2)) 3)) := fun u => by
  have h := run_make (P := Tryz.prog) u 24 3 i0 (.int .i64 0) Tryz.underlying24 hi hz0 .i64 .i64 ((xs.length : Int) + 2) ((xs.length : Int) + 2) (by omega) (Int.le_refl _) (by rw [hz2]; omega) (by omega)
  have e : ((xs.length : Int) + 2).toNat = xs.length + 2 := by omega
  rw [e] at h
  simpa [hz1, Value.cells] using h
 have hcp : (Builtin.copy_ #[24, 24] 3 #[.slice (some ⟨w.heap.size, 0, none⟩) (xs.length + 2) (xs.length + 2), .slice a xs.length cap]).run Tryz.prog (w.alloc (.cells (madeCells #[.int .i64 0] (xs.length + 2)) 3)) =
   .ok (.int .i64 xs.length) (w.alloc (.cells (Ai xs ++ [Value.int .i64 0, Value.int .i64 0]).toArray 3)) := by
  have h := DX (P := Tryz.prog) (w.alloc (.cells (madeCells #[.int .i64 0] (xs.length + 2)) 3)) 24 24 3 3 1 w.heap.size (xs.length + 2) (xs.length + 2) a xs.length cap
   (List.replicate (xs.length + 2) (.int .i64 0)) 3 (Ai xs) Tryz.underlying24 K2 (by rw [<- toList_madeCells_one, Array.toArray_toList]; exact heap_alloc_new w _) (by simp [Ai]) ?_ (by simp [Ai]) Gq
  ·rw [DW] at h
   have e1 : Nat.min xs.length (xs.length + 2) = xs.length := by simp
   rw [e1] at h
   have e2 : List.drop (Ai xs).length (List.replicate (xs.length + 2) (Value.int .i64 0)) = [.int .i64 0, .int .i64 0] := by simp [Ai]
   rw [e2] at h
   exact h
  ·intro h0
   obtain ⟨g, rfl, hc⟩ := hx.out (by simpa [Ai] using h0)
   refine ⟨_, rfl, fun j v hj => ?_⟩
   obtain ⟨x, hx1, rfl⟩ : ∃ x, xs[j]? = some x ∧ Value.int .i64 x = v := by simpa [Ai] using hj
   have h1 := hc j x hx1
   rw [Dl]
   rw [(Below.refl w.heap.size w).alloc (Nat.le_refl _) _ |>.cell (World.block_lt_of_cell? w _ h1)]
   exact h1
 have hA : (Ai xs ++ [Value.int .i64 0, Value.int .i64 0])[xs.length]? = some (.int .i64 0) := by
  rw [List.getElem?_append_right (by simp [Ai])]; simp [Ai]
 have hB : ((Ai xs ++ [Value.int .i64 0, Value.int .i64 0]).set xs.length (.int .i64 (-7)))[xs.length + 1]? = some (.int .i64 0) := by
  rw [List.getElem?_set_ne (by omega), List.getElem?_append_right (by simp [Ai])]; simp [Ai]
 have hE : ((Ai xs ++ [Value.int .i64 0, Value.int .i64 0]).set xs.length (.int .i64 (-7))).set (xs.length + 1) (.int .i64 (-7)) = Ai xs ++ [.int .i64 (-7), .int .i64 (-7)] := by
  rw [List.set_append_right _ _ (by simp [Ai]), List.set_append_right _ _ (by simp [Ai])]; simp [Ai]
 have HE : Hid (((Ai xs ++ [Value.int .i64 0, Value.int .i64 0]).set xs.length (.int .i64 (-7))).set (xs.length + 1) (.int .i64 (-7)) = Ai xs ++ [.int .i64 (-7), .int .i64 (-7)]) := hE
 clear hE
 go_enter Tryz.func31, Tryz.ntmps31
 go_wp2
 go_ret
 rw [HE.out]
 exact ⟨rfl, Has.new _ _ _, (Below.refl _ _).alloc (Nat.le_refl _) _⟩
structure Kp (S : Nat -> Prop) (w w' : World) : Prop where
 os : w'.os = w.os
 tape : w'.tape = w.tape
 output : w'.output = w.output
 size : w.heap.size <= w'.heap.size
 block : ∀ k, k < w.heap.size -> ¬ S k -> w'.heap[k]? = w.heap[k]?
theorem Kp.refl (S : Nat -> Prop) (w : World) : Kp S w w := ⟨rfl, rfl, rfl, Nat.le_refl _, fun _ _ _ => rfl⟩
theorem Kp.trans {b c : World} (h : Kp S a b) (k : Kp S b c) : Kp S a c :=
 ⟨k.os.trans h.os, k.tape.trans h.tape, k.output.trans h.output, Nat.le_trans h.size k.size, fun i hi hs => (k.block i (Nat.lt_of_lt_of_le hi h.size) hs).trans (h.block i hi hs)⟩
theorem Kp.mono {S' : Nat -> Prop} (h : Kp S w w') (hS : ∀ k, k < w.heap.size -> S k -> S' k) : Kp S' w w' :=
 ⟨h.os, h.tape, h.output, h.size, fun k hk hs => h.block k hk (fun h' => hs (hS k hk h'))⟩
theorem Kp.drew (h : Kp S a w) : Kp S a w.drew := ⟨h.os, h.tape, h.output, h.size, h.block⟩
theorem Kp.drewN (h : Kp S a w) (n : Nat) : Kp S a (w.drewN n) := ⟨h.os, h.tape, h.output, h.size, h.block⟩
theorem Has.drewN (h : Has w g e L) (n : Nat) : Has (w.drewN n) g e L := h
theorem Kp.alloc (h : Kp S a w) (o : Obj) : Kp S a (w.alloc o) :=
 h.trans ⟨rfl, rfl, rfl, by simp, fun k hk _ => Below.heap_alloc _ _ _ hk⟩
theorem Kp.setCell (h : Kp S a w) {p : Addr} (hp : S p.block) (u : Value) : Kp S a (w.setCell p u) :=
 h.trans ⟨rfl, rfl, rfl, by simp [World.setCell], fun k hk hs => Below.heap_setCell _ _ _ _ (fun e => hs (e ▸ hp))⟩
theorem Kp.of_below (h : Below w.heap.size w w') (S : Nat -> Prop) : Kp S w w' :=
 ⟨h.os, h.tape, h.output, h.size, fun k hk _ => h.block k hk⟩
theorem Kp.toBelow (h : Kp S w w') (hB : B <= w.heap.size) (hS : ∀ k, k < B -> ¬ S k) : Below B w w' :=
 ⟨h.os, h.tape, h.output, h.size, fun k hk => h.block k (by omega) (hS k hk)⟩
theorem Kp.cell (h : Kp S w w') {p : Addr} {v : Value} (hv : w.cell? p = some v) (hs : ¬ S p.block) : w'.cell? p = some v :=
 (World.cell?_of_block (h.block p.block (World.block_lt_of_cell? w p hv) hs)).trans hv
theorem Has.kp (h : Has w g e L) (k : Kp S w w') (hs : ¬ S g) : Has w' g e L := by
 have := h.lt; unfold Has at *; rw [k.block g this hs]; exact h
def AM.off (v : Value) (S : Nat -> Prop) : Prop := ∀ a n c, v = .slice (some a) n c -> ¬ S a.block
theorem AM.kp (h : AM w v xs) (k : Kp S w w') (ho : AM.off v S) : AM w' v xs := by
 obtain ⟨a, cap, rfl, hx⟩ := h
 refine ⟨a, cap, rfl, fun h0 => ?_⟩
 obtain ⟨g, rfl, hc⟩ := hx h0
 exact ⟨g, rfl, fun j x hj => k.cell (hc j x hj) (ho ⟨g, 0, none⟩ _ _ rfl)⟩
def m7 : Value := .int .i64 (-7)
def Ja (xs : List Int) (k : Nat) : List Value := List.replicate k (.int .i64 (-7)) ++ (Ai xs).drop k ++ [.int .i64 (-7), .int .i64 (-7)]
theorem Nd (xs : List Int) : Ja xs 0 = Ai xs ++ [.int .i64 (-7), .int .i64 (-7)] := by simp [Ja]
theorem QM (xs : List Int) (k : Nat) (hk : k < xs.length) : (Ja xs k)[k]? = some (.int .i64 xs[k]) := by
 unfold Ja
 rw [List.append_assoc, List.getElem?_append_right (by simp), List.getElem?_append_left (by simp [Ai]; omega)]
 simp [Ai, hk]
theorem Pm (xs : List Int) (k : Nat) (hk : k < xs.length) : (Ja xs k).set k (.int .i64 (-7)) = Ja xs (k + 1) := by
 unfold Ja
 have h : (Ai xs).drop k = .int .i64 xs[k] :: (Ai xs).drop (k + 1) := by
  rw [List.drop_eq_getElem_cons (by simpa [Ai] using hk)]; simp [Ai]
 rw [h, List.append_assoc, List.set_append_right _ _ (by simp)]
 simp [List.replicate_succ', List.append_assoc]
theorem Kr (xs : List Int) (k i : Nat) (hk : k <= xs.length) (hi : i < 2) : (Ja xs k)[xs.length + i]? = some (.int .i64 (-7)) := by
 unfold Ja
 rw [List.getElem?_append_right (by simp [Ai]; omega)]
 simp [Ai]
 match i, hi with
 | 0, _ => simp [show k + (xs.length - k) = xs.length from by omega]
 | 1, _ => simp [show xs.length + 1 - (k + (xs.length - k)) = 1 from by omega]
theorem DZ (g : Nat) (v : Value) (xs : List Int) (w : World) (hg : Has w g 3 (Ai xs ++ [.int .i64 (-7), .int .i64 (-7)])) (hv : AM w v xs) (ho : AM.off v (· = g)) (hlen : xs.length <= 1048576) :
  Calls Tryz.prog 33 #[.slice (some ⟨g, 0, none⟩) xs.length (xs.length + 2), v] w fun e w' => e = .returned (.bool true) ∧ Kp (· = g) w w' := by
 rw [<- Nd] at hg
 have hv2 := hv
 obtain ⟨a, cap, rfl, hx0⟩ := hv
 clear hx0
 have e0 : w.cell? ⟨g, xs.length, none⟩ = some (.int .i64 (-7)) := by rw [hg.cell]; simpa using Kr xs 0 0 (by omega) (by omega)
 have e1 : w.cell? ⟨g, xs.length + 1, none⟩ = some (.int .i64 (-7)) := by rw [hg.cell]; simpa using Kr xs 0 1 (by omega) (by omega)
 go_enter Tryz.func33, Tryz.ntmps33
 go_wp2
 go_loopw [7, 8] (fun ok i wr => ∃ k : Nat, k <= xs.length ∧ ok = .bool true ∧ i = .int .i64 k ∧ Has wr g 3 (Ja xs k) ∧ Kp (· = g) w wr) (fun _ i _ => xs.length - (intOf i).toNat)
 case atStart => exact ⟨0, Nat.zero_le _, rfl, rfl, hg, Kp.refl _ _⟩
 case round =>
  obtain ⟨k, hk, rfl, rfl, hgk, hkp⟩ := hrel
  by_cases hlt : k < xs.length
  ·have hcell : wr.cell? ⟨g, k, none⟩ = some (.int .i64 xs[k]) := by rw [hgk.cell]; exact QM xs k hlt
   obtain ⟨a', cap', he, hx1⟩ := hv2.kp hkp ho
   simp only [Value.slice.injEq, true_and] at he
   obtain ⟨rfl, rfl⟩ := he
   obtain ⟨h, rfl, hc⟩ := hx1 (by omega)
   have hck := hc k xs[k] (by simp [hlt])
   have hfr := hgk.frozen k
   clear hx1 hc e0 e1 hv2 ho
   go_wp2_with fail
   go_quiet (fail)
   go_wp2
   go_roundw
   case rel => exact ⟨k + 1, by omega, by simp, by go_num, by rw [<- Pm xs k hlt]; exact Has.set (hgk.drewN nq) k _, Kp.setCell (p := ⟨g, k, none⟩) (hkp.drewN nq) rfl _⟩
   case measure => simp [intOf]; omega
  ·go_wp2
   go_ret
   exact ⟨rfl, hkp⟩
theorem II {a : Bool} (h : a = b) : Ending.returned (.bool a) = .returned (.bool b) := by rw [h]
theorem As {k : IntKind} {a b : Int} (h : a = b) : Ending.returned (.int k a) = .returned (.int k b) := by rw [h]
def Ax (e : Ending) (p : Prop) : Prop := ∃ b, e = .returned (.bool b) ∧ (b = true ↔ p)
theorem Ax.tt (h : p) : Ax (.returned (.bool true)) p := ⟨true, rfl, by simp [h]⟩
theorem Ax.ff (h : ¬ p) : Ax (.returned (.bool false)) p := ⟨false, rfl, by simp [h]⟩
theorem Ax.of (h : b = true ↔ p) : Ax (.returned (.bool b)) p := ⟨b, rfl, h⟩
def Dd (xs : List Int) : Int := xs.foldl (· + ·) 0
theorem MO (xs : List Int) (x : Int) : Dd (xs ++ [x]) = Dd xs + x := by simp [Dd, List.foldl_append]
theorem Jm (xs : List Int) (k : Nat) (h : k < xs.length) : xs.take (k + 1) = xs.take k ++ [xs[k]] := List.take_succ_eq_append_getElem h
theorem DY (xs : List Int) (k : Nat) (h : k < xs.length) : Dd (xs.take (k + 1)) = Dd (xs.take k) + xs[k] := by rw [Jm xs k h, MO]
def A6 (xs : List Int) (k : Nat) (lo hi : Int) : Prop := ∀ j x, j < k -> xs[j]? = some x -> lo <= x ∧ x <= hi
theorem A6.zero (xs : List Int) (lo hi : Int) : A6 xs 0 lo hi := fun j x h => by omega
theorem A6.succ (h : A6 xs k lo hi) (hk : k < xs.length) (h1 : lo <= xs[k]) (h2 : xs[k] <= hi) : A6 xs (k + 1) lo hi := by
 intro j x hj hx
 by_cases e : j = k
 ·subst e; simp [hk] at hx; subst hx; exact ⟨h1, h2⟩
 ·exact h j x (by omega) hx
theorem A6.mono {hi' : Int} (h : A6 xs k lo hi) (hh : hi <= hi') : A6 xs k lo hi' := fun j x hj hx => by
 have := h j x hj hx; omega
theorem Jj (xs : List Int) (h : A6 xs xs.length 0 9223372036854775807) (k : Nat) (hk : k <= xs.length) : Dd (xs.take k) <= Dd xs := by
 obtain ⟨d, hd⟩ : ∃ d, k + d = xs.length := ⟨xs.length - k, by omega⟩
 induction d generalizing k with
 | zero => simp at hd; rw [List.take_of_length_le (by omega)]; omega
 | succ d ih =>
  have h1 := ih (k + 1) (by omega) (by omega)
  rw [DY xs k (by omega)] at h1
  have := h k xs[k] (by omega) (by simp)
  omega
theorem E9 (xs : List Int) (k : Nat) (hk : k <= xs.length) (h : A6 xs k 0 9223372036854775807) : 0 <= Dd (xs.take k) := by
 induction k with
 | zero => simp [Dd]
 | succ k ih =>
  have h1 := ih (by omega) (fun j x hj hx => h j x (by omega) hx)
  have h2 := h k xs[k] (by omega) (by simp)
  rw [DY xs k (by omega)]; omega
theorem A6.le_sum (h : A6 xs xs.length 0 9223372036854775807) {M : Int} (hs : Dd xs <= M) : A6 xs xs.length 0 M := by
 intro j x hj hx
 have h1 := h j x hj hx
 have h2 := Jj xs h (j + 1) (by omega)
 have h3 := E9 xs j (by omega) (fun i y hi hy => h i y (by omega) hy)
 rw [DY xs j hj] at h2
 have e : xs[j] = x := by rw [List.getElem?_eq_getElem hj] at hx; exact Option.some.inj hx
 omega
theorem NZ (xs : List Int) (k : Nat) (h : k < xs.length) : Ai (xs.take (k + 1)) = Ai (xs.take k) ++ [.int .i64 xs[k]] := by
 rw [Jm xs k h]; unfold Ai; rw [List.map_append]; rfl
theorem A6.sum_le {M : Int} (k : Nat) (hk : k <= xs.length) (h : A6 xs k 0 M) : Dd (xs.take k) <= k * M := by
 induction k with
 | zero => simp [Dd]
 | succ k ih =>
  have h1 := ih (by omega) (fun j x hj hx => h j x (by omega) hx)
  have h2 := h k xs[k] (by omega) (by simp)
  rw [DY xs k (by omega)]
  have e : ((k + 1 : Nat) : Int) * M = k * M + M := by rw [Int.natCast_add, Int.add_mul]; simp
  omega
def Dv (bs : List Int) : Prop := 1 <= bs.length ∧ bs.length <= 6 ∧ A6 bs bs.length 0 9223372036854775807 ∧ Dd bs <= 1000000
def Cr (os rs : List Int) (n : Nat) : Prop := 1 <= os.length ∧ os.length <= 5 ∧ rs.length = os.length ∧ A6 os os.length 0 (n - 1) ∧ A6 rs rs.length 0 100
def Br (top mature fee : Int) : Prop := 1 <= top ∧ top <= 5 ∧ 1 <= mature ∧ mature <= 20 ∧ 0 <= fee ∧ fee <= 100
theorem EN (v : Value) (xs : List Int) (w : World) (hv : AM w v xs) (hlen : xs.length <= 1048576) :
  Calls Tryz.prog 74 #[v] w fun e w' => e = .returned (.slice (some ⟨w.heap.size, 0, none⟩) xs.length xs.length) ∧
   w' = w.alloc (.cells (Ai xs).toArray 3) := by
 obtain ⟨a, cap, rfl, hx0⟩ := hv
 have hx : Hid (0 < xs.length -> ∃ g, a = some ⟨g, 0, none⟩ ∧ ∀ (j : Nat) x, xs[j]? = some x -> w.cell? ⟨g, j, none⟩ = some (.int .i64 x)) := hx0
 clear hx0
 obtain ⟨i0, hi, hz0, hz1, hz2⟩ := info_parts Cn
 have hmk : ∀ u : World, (Instr.makeSlice 24 (.int .i64 (xs.length : Int)) (.int .i64 (xs.length : Int))).run Tryz.prog u =
   .ok (.slice (some ⟨u.heap.size, 0, none⟩) xs.length xs.length) (u.alloc (.cells (madeCells #[.int .i64 0] xs.length) 3)) := fun u => by
  have h := run_make (P := Tryz.prog) u 24 3 i0 (.int .i64 0) Tryz.underlying24 hi hz0 .i64 .i64 (xs.length : Int) (xs.length : Int) (by omega) (Int.le_refl _) (by rw [hz2]; omega) (by omega)
  simpa [hz1, Value.cells] using h
 have hcp : (Builtin.copy_ #[24, 24] 3 #[.slice (some ⟨w.heap.size, 0, none⟩) xs.length xs.length, .slice a xs.length cap]).run Tryz.prog (w.alloc (.cells (madeCells #[.int .i64 0] xs.length) 3)) =
   .ok (.int .i64 xs.length) (w.alloc (.cells (Ai xs).toArray 3)) := by
  have h := DX (P := Tryz.prog) (w.alloc (.cells (madeCells #[.int .i64 0] xs.length) 3)) 24 24 3 3 1 w.heap.size xs.length xs.length a xs.length cap
   (List.replicate xs.length (.int .i64 0)) 3 (Ai xs) Tryz.underlying24 K2 (by rw [<- toList_madeCells_one, Array.toArray_toList]; exact heap_alloc_new w _) (by simp [Ai]) ?_ (by simp [Ai]) Gq
  ·rw [DW] at h
   have e1 : Nat.min xs.length xs.length = xs.length := by simp
   rw [e1] at h
   have e2 : List.drop (Ai xs).length (List.replicate xs.length (Value.int .i64 0)) = [] := by simp [Ai]
   rw [e2, List.append_nil] at h
   exact h
  ·intro h0
   obtain ⟨g, rfl, hc⟩ := hx.out (by simpa [Ai] using h0)
   refine ⟨_, rfl, fun j v hj => ?_⟩
   obtain ⟨x, hx1, rfl⟩ : ∃ x, xs[j]? = some x ∧ Value.int .i64 x = v := by simpa [Ai] using hj
   have h1 := hc j x hx1
   rw [Dl]
   rw [(Below.refl w.heap.size w).alloc (Nat.le_refl _) _ |>.cell (World.block_lt_of_cell? w _ h1)]
   exact h1
 go_enter Tryz.func74, Tryz.ntmps74
 go_wp2
 go_ret
 exact ⟨rfl, rfl⟩
theorem GE (v : Value) (xs : List Int) (w : World) (hv : AM w v xs) (hlen : xs.length <= 1048576) :
  Calls Tryz.prog 135 #[v] w fun e w' => Ax e (Dv xs) ∧ w' = w := by
 obtain ⟨a, cap, rfl, hx0⟩ := hv
 have hx : Hid (0 < xs.length -> ∃ g, a = some ⟨g, 0, none⟩ ∧ ∀ (j : Nat) x, xs[j]? = some x -> w.cell? ⟨g, j, none⟩ = some (.int .i64 x)) := hx0
 clear hx0
 by_cases h1 : xs.length < 1
 ·have HB : Hid (¬ Dv xs) := fun h => by unfold Dv at h; omega
  go_enter Tryz.func135, Tryz.ntmps135
  go_wp2
  go_ret
  exact ⟨Ax.ff HB.out, rfl⟩
 by_cases h2 : 6 < xs.length
 ·have HB : Hid (¬ Dv xs) := fun h => by unfold Dv at h; omega
  go_enter Tryz.func135, Tryz.ntmps135
  go_wp2
  go_ret
  exact ⟨Ax.ff HB.out, rfl⟩
 obtain ⟨g, rfl, hc⟩ := hx.out (by omega)
 clear hx
 go_enter Tryz.func135, Tryz.ntmps135
 go_wp2
 go_loop [3, 16] (fun left i => ∃ k : Nat, k <= xs.length ∧ i = .int .i64 k ∧ left = .int .i64 (1000000 - Dd (xs.take k)) ∧ A6 xs k 0 9223372036854775807 ∧ Dd (xs.take k) <= 1000000) (fun _ i => xs.length - (intOf i).toNat)
 case atStart => exact ⟨0, Nat.zero_le _, rfl, rfl, A6.zero _ _ _, by simp [Dd]⟩
 case round =>
  obtain ⟨k, hk, rfl, rfl, hA, hS⟩ := hrel
  have hN := E9 xs k hk hA
  by_cases hlt : k < xs.length
  ·have hck := hc k xs[k] (by simp [hlt])
   have hsn := DY xs k hlt
   generalize hb : xs[k] = b at *
   by_cases hn : b < 0
   ·have HB : Hid (¬ Dv xs) := fun h => by
     have := h.2.2.1 k b hlt (by simp [hlt, hb]); omega
    clear hA hsn hc
    go_wp2
    go_ret
    exact ⟨Ax.ff HB.out, rfl⟩
   ·by_cases hm : 1000000 - Dd (xs.take k) < b
    ·have HB : Hid (¬ Dv xs) := fun h => by
      have := Jj xs h.2.2.1 (k + 1) (by omega)
      have h4 := h.2.2.2
      omega
     clear hA hsn hc
     go_wp2
     go_ret
     exact ⟨Ax.ff HB.out, rfl⟩
    ·have HA : Hid (A6 xs (k + 1) 0 9223372036854775807) := A6.succ hA hlt (by rw [hb]; omega) (by rw [hb]; omega)
     have HS : Hid (Dd (xs.take (k + 1)) = Dd (xs.take k) + b) := hsn
     clear hA hsn hc
     go_wp2
     go_round
     case rel => exact ⟨k + 1, by omega, by go_num, by rw [HS.out]; go_num, HA.out, by rw [HS.out]; omega⟩
     case measure => simp [intOf]; omega
  ·have hke : k = xs.length := by omega
   have HB : Hid (Dv xs) := ⟨by omega, by omega, by rw [<- hke]; exact hA, by rw [hke, List.take_of_length_le (Nat.le_refl _)] at hS; exact hS⟩
   clear hke
   go_wp2
   go_ret
   exact ⟨Ax.tt HB.out, rfl⟩
theorem FU (v u : Value) (os rs : List Int) (n : Nat) (w : World) (hv : AM w v os) (hu : AM w u rs) (hlen : os.length <= 1048576) (hlen2 : rs.length <= 1048576) (hn : n <= 1048576) :
  Calls Tryz.prog 136 #[v, u, .int .i64 n] w fun e w' => Ax e (Cr os rs n) ∧ w' = w := by
 obtain ⟨a, cap, rfl, hx0⟩ := hv
 have hx : Hid (0 < os.length -> ∃ g, a = some ⟨g, 0, none⟩ ∧ ∀ (j : Nat) x, os[j]? = some x -> w.cell? ⟨g, j, none⟩ = some (.int .i64 x)) := hx0
 clear hx0
 obtain ⟨a', cap', rfl, hx0⟩ := hu
 have hy : Hid (0 < rs.length -> ∃ g, a' = some ⟨g, 0, none⟩ ∧ ∀ (j : Nat) x, rs[j]? = some x -> w.cell? ⟨g, j, none⟩ = some (.int .i64 x)) := hx0
 clear hx0
 by_cases h1 : os.length < 1
 ·have HB : Hid (¬ Cr os rs n) := fun h => by unfold Cr at h; omega
  go_enter Tryz.func136, Tryz.ntmps136
  go_wp2
  go_ret
  exact ⟨Ax.ff HB.out, rfl⟩
 by_cases h2 : 5 < os.length
 ·have HB : Hid (¬ Cr os rs n) := fun h => by unfold Cr at h; omega
  go_enter Tryz.func136, Tryz.ntmps136
  go_wp2
  go_ret
  exact ⟨Ax.ff HB.out, rfl⟩
 by_cases h3 : rs.length = os.length
 case neg =>
  have HB : Hid (¬ Cr os rs n) := fun h => by unfold Cr at h; omega
  have h3b : ((rs.length : Int) != (os.length : Int)) = true := by simp; omega
  go_enter Tryz.func136, Tryz.ntmps136
  go_wp2
  go_ret
  exact ⟨Ax.ff HB.out, rfl⟩
 have h3b : ((rs.length : Int) != (os.length : Int)) = false := by simp; omega
 have H3 : Hid (rs.length = os.length) := h3
 obtain ⟨g, rfl, hc⟩ := hx.out (by omega)
 obtain ⟨g', rfl, hc'⟩ := hy.out (by omega)
 clear hx hy h3
 go_enter Tryz.func136, Tryz.ntmps136
 go_wp2
 go_loop [28] (fun i => ∃ k : Nat, k <= os.length ∧ i = .int .i64 k ∧ A6 os k 0 ((n : Int) - 1)) (fun i => os.length - (intOf i).toNat)
 case atStart => exact ⟨0, Nat.zero_le _, rfl, A6.zero _ _ _⟩
 case round =>
  obtain ⟨k, hk, rfl, hA⟩ := hrel
  by_cases hlt : k < os.length
  ·have hck := hc k os[k] (by simp [hlt])
   generalize hb : os[k] = b at *
   by_cases hn : b < 0
   ·have HB : Hid (¬ Cr os rs n) := fun h => by
     have := h.2.2.2.1 k b hlt (by simp [hlt, hb]); omega
    clear hA hc hc'
    go_wp2
    go_ret
    exact ⟨Ax.ff HB.out, rfl⟩
   ·by_cases hm : (n : Int) <= b
    ·have HB : Hid (¬ Cr os rs n) := fun h => by
      have := h.2.2.2.1 k b hlt (by simp [hlt, hb]); omega
     clear hA hc hc'
     go_wp2
     go_ret
     exact ⟨Ax.ff HB.out, rfl⟩
    ·have HA : Hid (A6 os (k + 1) 0 ((n : Int) - 1)) := A6.succ hA hlt (by rw [hb]; omega) (by rw [hb]; omega)
     clear hA hc hc'
     go_wp2
     go_round
     case rel => exact ⟨k + 1, by omega, by go_num, HA.out⟩
     case measure => simp [intOf]; omega
  ·have HO : Hid (A6 os os.length 0 ((n : Int) - 1)) := by
    have hke : k = os.length := by omega
    rw [hke] at hA; exact hA
   clear hA hc
   go_wp2
   go_loop [42] (fun i => ∃ k : Nat, k <= rs.length ∧ i = .int .i64 k ∧ A6 rs k 0 100) (fun i => rs.length - (intOf i).toNat)
   case atStart => exact ⟨0, Nat.zero_le _, rfl, A6.zero _ _ _⟩
   case round =>
    obtain ⟨k2, hk2, rfl, hA⟩ := hrel
    by_cases hlt2 : k2 < rs.length
    ·have hck := hc' k2 rs[k2] (by simp [hlt2])
     generalize hb : rs[k2] = b at *
     by_cases hn : b < 0
     ·have HB : Hid (¬ Cr os rs n) := fun h => by
       have := h.2.2.2.2 k2 b hlt2 (by simp [hlt2, hb]); omega
      clear hA hc'
      go_wp2
      go_ret
      exact ⟨Ax.ff HB.out, rfl⟩
     ·by_cases hm : 100 < b
      ·have HB : Hid (¬ Cr os rs n) := fun h => by
        have := h.2.2.2.2 k2 b hlt2 (by simp [hlt2, hb]); omega
       clear hA hc'
       go_wp2
       go_ret
       exact ⟨Ax.ff HB.out, rfl⟩
      ·have HA : Hid (A6 rs (k2 + 1) 0 100) := A6.succ hA hlt2 (by rw [hb]; omega) (by rw [hb]; omega)
       clear hA hc'
       go_wp2
       go_round
       case rel => exact ⟨k2 + 1, by omega, by go_num, HA.out⟩
       case measure => simp [intOf]; omega
    ·have HB : Hid (Cr os rs n) := ⟨by omega, by omega, H3.out, HO.out, by
      have hke : k2 = rs.length := by omega
      rw [hke] at hA; exact hA⟩
     clear hA hc'
     go_wp2
     go_ret
     exact ⟨Ax.tt HB.out, rfl⟩
def RV (vb vo vr : Value) (top mature fee : Int) : Value := .agg #[vb, vo, vr, .int .i64 top, .int .i64 mature, .int .i64 fee]
theorem I8 (vb vo vr : Value) (top mature fee : Int) (w : World) :
  Calls Tryz.prog 137 #[.agg #[vb, vo, vr, .int .i64 top, .int .i64 mature, .int .i64 fee]] w fun e w' => Ax e (Br top mature fee) ∧ Below w.heap.size w w' := by
 by_cases h1 : top < 1
 ·have HB : Hid (¬ Br top mature fee) := fun h => by unfold Br at h; omega
  go_enter Tryz.func137, Tryz.ntmps137
  go_wp2
  go_ret
  exact ⟨Ax.ff HB.out, (Below.refl _ _).alloc (Nat.le_refl _) _⟩
 by_cases h2 : 5 < top
 ·have HB : Hid (¬ Br top mature fee) := fun h => by unfold Br at h; omega
  go_enter Tryz.func137, Tryz.ntmps137
  go_wp2
  go_ret
  exact ⟨Ax.ff HB.out, (Below.refl _ _).alloc (Nat.le_refl _) _⟩
 by_cases h3 : mature < 1
 ·have HB : Hid (¬ Br top mature fee) := fun h => by unfold Br at h; omega
  go_enter Tryz.func137, Tryz.ntmps137
  go_wp2
  go_ret
  exact ⟨Ax.ff HB.out, (Below.refl _ _).alloc (Nat.le_refl _) _⟩
 by_cases h4 : 20 < mature
 ·have HB : Hid (¬ Br top mature fee) := fun h => by unfold Br at h; omega
  go_enter Tryz.func137, Tryz.ntmps137
  go_wp2
  go_ret
  exact ⟨Ax.ff HB.out, (Below.refl _ _).alloc (Nat.le_refl _) _⟩
 by_cases h5 : 0 <= fee
 case neg =>
  have HB : Hid (¬ Br top mature fee) := fun h => by unfold Br at h; omega
  go_enter Tryz.func137, Tryz.ntmps137
  go_wp2
  go_ret
  exact ⟨Ax.ff HB.out, (Below.refl _ _).alloc (Nat.le_refl _) _⟩
 by_cases h6 : fee <= 100
 case neg =>
  have HB : Hid (¬ Br top mature fee) := fun h => by unfold Br at h; omega
  go_enter Tryz.func137, Tryz.ntmps137
  go_wp2
  go_ret
  exact ⟨Ax.ff HB.out, (Below.refl _ _).alloc (Nat.le_refl _) _⟩
 have HB : Hid (Br top mature fee) := ⟨by omega, by omega, by omega, by omega, by omega, by omega⟩
 go_enter Tryz.func137, Tryz.ntmps137
 go_wp2
 go_ret
 exact ⟨Ax.tt HB.out, (Below.refl _ _).alloc (Nat.le_refl _) _⟩
def Bm (bs os rs : List Int) (top mature fee : Int) : Prop := Dv bs ∧ Cr os rs bs.length ∧ Br top mature fee
theorem EQ (vb vo vr : Value) (bs os rs : List Int) (top mature fee : Int) (w : World) (hb : AM w vb bs) (ho : AM w vo os) (hr : AM w vr rs)
  (l1 : bs.length <= 1048576) (l2 : os.length <= 1048576) (l3 : rs.length <= 1048576) :
  Calls Tryz.prog 73 #[.agg #[vb, vo, vr, .int .i64 top, .int .i64 mature, .int .i64 fee]] w fun e w' => Ax e (Bm bs os rs top mature fee) ∧ Below w.heap.size w w' := by
 have hB : ∀ o, Below w.heap.size w (w.alloc o) := fun o => (Below.refl _ _).alloc (Nat.le_refl _) _
 obtain ⟨ab, cb, rfl, _⟩ := id hb
 obtain ⟨ao, co, rfl, _⟩ := id ho
 obtain ⟨ar, cr, rfl, _⟩ := id hr
 go_enter Tryz.func73, Tryz.ntmps73
 go_wp2_with fail
 refine (GE _ bs _ (hb.below (hB _) (Nat.le_refl _)) l1).mono ?_
 rintro e w1 ⟨⟨b1, rfl, hb1⟩, rfl⟩
 cases b1 with
 | false =>
  have HB : Hid (¬ Bm bs os rs top mature fee) := fun h => by have := hb1.2 h.1; cases this
  clear hb1
  go_wp2
  go_ret
  exact ⟨Ax.ff HB.out, hB _⟩
 | true =>
  have HB : Hid (Dv bs) := hb1.1 rfl
  clear hb1
  go_wp2_with fail
  refine (FU _ _ os rs bs.length _ (ho.below (hB _) (Nat.le_refl _)) (hr.below (hB _) (Nat.le_refl _)) l2 l3 l1).mono ?_
  rintro e w2 ⟨⟨b2, rfl, hb2⟩, rfl⟩
  cases b2 with
  | false =>
   have HG : Hid (¬ Bm bs os rs top mature fee) := fun h => by have := hb2.2 h.2.1; cases this
   clear hb2
   go_wp2
   go_ret
   exact ⟨Ax.ff HG.out, hB _⟩
  | true =>
   have HV : Hid (Cr os rs bs.length) := hb2.1 rfl
   clear hb2
   go_wp2_with fail
   refine (I8 _ _ _ top mature fee _).mono ?_
   rintro e w3 ⟨⟨b3, rfl, hb3⟩, hb4⟩
   have HG : Hid (b3 = true ↔ Bm bs os rs top mature fee) := ⟨fun h => ⟨HB.out, HV.out, hb3.1 h⟩, fun h => hb3.2 h.2.2⟩
   clear hb3
   go_wp2
   go_ret
   exact ⟨Ax.of HG.out, (hB _).trans (hb4.mono (by simp))⟩
end Go.Proofs.YtohjjgefklhmaaaGreatDoor
