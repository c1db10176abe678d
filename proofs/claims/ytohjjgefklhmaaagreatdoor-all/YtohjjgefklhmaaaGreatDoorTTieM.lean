import Derived.Test.YtohjjgefklhmaaaGreatDoorESee4M
import Derived.Test.YtohjjgefklhmaaaGreatDoorLUnbM
namespace Go.Proofs.YtohjjgefklhmaaaGreatDoor
open Go.ChangeShapes Go.WideShapes Go.ChangeAt Go.RowKit
set_option linter.unusedVariables false
set_option linter.unusedSimpArgs false
set_option maxHeartbeats 40000000
set_option maxRecDepth 100000
variable {ps : List PS} {p h who v H : Int} {x x' : EC} {α : Type} {i k j g : Nat} {F0 : Nat -> Prop} {W0 w : World} {c : LC} {bv vv dv : Value} {vals : List VS} {ents : List ES}
def ud1 (l : List PS) : Int × Int := ud 1 l
theorem K9 (sh : Int) (l : List PS) (p : Int × Int) : l.foldl (fun p o => (p.1 * o.shares + o.of * sh * p.2, p.2 * o.shares)) p = (p.1 * (l.foldl (fun p o => (p.1 * o.shares + o.of * sh * p.2, p.2 * o.shares)) (0, 1)).2 + p.2 * (l.foldl (fun p o => (p.1 * o.shares + o.of * sh * p.2, p.2 * o.shares)) (0, 1)).1, p.2 * (l.foldl (fun p o => (p.1 * o.shares + o.of * sh * p.2, p.2 * o.shares)) (0, 1)).2) := by
 induction l generalizing p with
 | nil => simp
 | cons o l ih =>
  rw [List.foldl_cons, ih, List.foldl_cons, ih (0 * o.shares + o.of * sh * 1, 1 * o.shares)]
  simp only [Prod.mk.injEq]
  constructor
  ·simp only [Int.add_mul, Int.mul_add, Int.zero_mul, Int.zero_add, Int.one_mul, Int.mul_one]
   have e1 : p.2 * (o.of * sh * (l.foldl (fun p o => (p.1 * o.shares + o.of * sh * p.2, p.2 * o.shares)) (0, 1)).2) = o.of * sh * p.2 * (l.foldl (fun p o => (p.1 * o.shares + o.of * sh * p.2, p.2 * o.shares)) (0, 1)).2 := by
    rw [<- Int.mul_assoc, Int.mul_comm p.2]
   rw [e1, Int.mul_assoc p.1, Int.mul_assoc p.2, Int.add_assoc]
  ·simp only [Int.one_mul]; rw [Int.mul_assoc]
theorem Kb (sh : Int) (o : PS) (l : List PS) : ud sh (o :: l) = (o.of * sh * (ud sh l).2 + o.shares * (ud sh l).1, o.shares * (ud sh l).2) := by
 unfold ud
 rw [List.foldl_cons, K9]
 simp
theorem ud_nil (sh : Int) : ud sh [] = (0, 1) := rfl
theorem Sx (sh : Int) (l : List PS) : ud sh l = (sh * (ud1 l).1, (ud1 l).2) := by
 unfold ud1
 induction l with
 | nil => simp [ud_nil]
 | cons o l ih =>
  rw [Kb, Kb, ih]
  simp only [Prod.mk.injEq, and_true, Int.mul_one]
  rw [Int.mul_add]
  congr 1
  ·rw [Int.mul_comm o.of sh, Int.mul_assoc]
  ·rw [<- Int.mul_assoc, Int.mul_comm o.shares sh, Int.mul_assoc]
theorem IS (o : PS) (l : List PS) : ud1 (o :: l) = (o.of * (ud1 l).2 + o.shares * (ud1 l).1, o.shares * (ud1 l).2) := by
 unfold ud1; rw [Kb]; simp
theorem ud1_nil : ud1 [] = (0, 1) := rfl
def ShP (l : List PS) : Prop := ∀ q ∈ l, 1 <= q.shares
theorem ML (l : List PS) (h : ShP l) : 1 <= (ud1 l).2 := by
 induction l with
 | nil => simp [ud1_nil]
 | cons o l ih =>
  rw [IS]
  have h1 := h o (by simp)
  have h2 := ih (fun q hq => h q (by simp [hq]))
  exact Int.le_trans (by omega) (Int.mul_le_mul h1 h2 (by omega) (by omega))
theorem L7 (l : List PS) (p : PS) : ud1 (l ++ [p]) = ((ud1 l).1 * p.shares + p.of * (ud1 l).2, (ud1 l).2 * p.shares) := by
 unfold ud1 ud
 rw [List.foldl_append]
 simp
theorem I5 (p : PS) (l : List PS) (h : ∀ q ∈ l, q.shares ≠ p.shares) : l.map (Ch p) = l := by
 induction l with
 | nil => rfl
 | cons o l ih =>
  rw [List.map_cons, ih (fun q hq => h q (by simp [hq]))]
  unfold Ch; rw [if_neg (h o (by simp))]
def Kc (l : List PS) : Prop := (l.map (·.shares)).Nodup
theorem JU (p q : PS) : (Ch p q).shares = q.shares := by unfold Ch; split <;> rfl
theorem JT (l : List PS) (p : PS) : (Cb l p).map (·.shares) = l.map (·.shares) ++ (if Dp p l = true then [] else [p.shares]) := by
 unfold Cb
 rw [List.map_append, List.map_map]
 have e : ((fun q : PS => q.shares) ∘ Ch p) = (fun q : PS => q.shares) := funext (fun q => JU p q)
 rw [e]
 split <;> simp
theorem GM (p : PS) (l : List PS) : Dp p l = true ↔ ∃ q ∈ l, q.shares = p.shares := by
 unfold Dp; simp
theorem Kc.with {l : List PS} (h : Kc l) (p : PS) : Kc (Cb l p) := by
 unfold Kc
 rw [JT]
 by_cases ht : Dp p l = true
 ·rw [if_pos ht, List.append_nil]; exact h
 ·rw [if_neg ht]
  refine List.nodup_append.2 ⟨h, by simp, fun a ha b hb e => ?_⟩
  simp only [List.mem_singleton] at hb
  subst hb
  subst e
  obtain ⟨q, hq, e⟩ := List.mem_map.1 ha
  exact ht ((GM p l).2 ⟨q, hq, e⟩)
theorem Lo (l : List PS) (p : PS) (hd : Kc l) : (ud1 (Cb l p)).1 * ((ud1 l).2 * p.shares) = ((ud1 l).1 * p.shares + p.of * (ud1 l).2) * (ud1 (Cb l p)).2 := by
 by_cases ht : Dp p l = true
 ·have e : Cb l p = l.map (Ch p) := by unfold Cb; rw [if_pos ht]; simp
  rw [e]
  obtain ⟨q, hq, hs⟩ := (GM p l).1 ht
  clear e ht
  -- the denominator stands, the numerator grows
  have key : (ud1 (l.map (Ch p))).2 = (ud1 l).2 ∧ (ud1 (l.map (Ch p))).1 * p.shares = (ud1 l).1 * p.shares + p.of * (ud1 l).2 := by
   induction l with
   | nil => simp at hq
   | cons o l ih =>
    rw [List.map_cons, IS, IS]
    have hd' : Kc l := by unfold Kc at hd ⊢; simp only [List.map_cons, List.nodup_cons] at hd; exact hd.2
    by_cases ho : o.shares = p.shares
    ·have hno : ∀ r ∈ l, r.shares ≠ p.shares := fun r hr e => by
      unfold Kc at hd
      simp only [List.map_cons, List.nodup_cons] at hd
      exact hd.1 (List.mem_map.2 ⟨r, hr, by rw [e, ho]⟩)
     rw [I5 p l hno]
     have ej : Ch p o = ⟨o.of + p.of, o.shares⟩ := by unfold Ch; rw [if_pos ho]
     rw [ej]
     refine ⟨rfl, ?_⟩
     simp only
     rw [ho, Int.add_mul, Int.add_mul, Int.add_mul, Int.add_mul]
     have e1 : p.of * (ud1 l).2 * p.shares = p.of * (p.shares * (ud1 l).2) := by rw [Int.mul_assoc, Int.mul_comm (ud1 l).2]
     omega
    ·have hql : q ∈ l := by
      rcases List.mem_cons.1 hq with h1 | h1
      ·rw [h1] at hs; exact absurd hs ho
      ·exact h1
     obtain ⟨i1, i2⟩ := ih hd' hql
     have ej : Ch p o = o := by unfold Ch; rw [if_neg ho]
     rw [ej, i1]
     refine ⟨rfl, ?_⟩
     simp only
     rw [Int.add_mul, Int.mul_assoc o.shares, i2, Int.mul_add, Int.add_mul]
     have e1 : o.shares * (p.of * (ud1 l).2) = p.of * (o.shares * (ud1 l).2) := by rw [<- Int.mul_assoc, Int.mul_comm o.shares, Int.mul_assoc]
     have e2 : o.shares * ((ud1 l).1 * p.shares) = o.shares * (ud1 l).1 * p.shares := by rw [Int.mul_assoc]
     omega
  rw [key.1, Int.mul_comm (ud1 l).2 p.shares, <- Int.mul_assoc, key.2]
 ·have hno : ∀ r ∈ l, r.shares ≠ p.shares := fun r hr e => ht ((GM p l).2 ⟨r, hr, e⟩)
  have e : Cb l p = l ++ [p] := by unfold Cb; rw [if_neg ht, I5 p l hno]
  rw [e, L7]
structure PR (ps : List PS) (p h : Int) : Prop where
 dst : Kc ps
 len : (ps.length : Int) <= h
 ofs : ∀ q ∈ ps, 0 <= q.of ∧ q.of <= 1000000 * h
 shs : ∀ q ∈ ps, 1 <= q.shares ∧ q.shares <= 1000000
 lo : p * (ud1 ps).2 <= 1073741824 * (ud1 ps).1
 hi : 1073741824 * (ud1 ps).1 <= (p + h) * (ud1 ps).2
theorem PR.pos (r : PR ps p h) : 1 <= (ud1 ps).2 := ML ps (fun q hq => (r.shs q hq).1)
theorem PR.nil (h0 : 0 <= h) : PR [] 0 h := ⟨List.nodup_nil, by simpa using h0, fun q hq => (by cases hq), fun q hq => (by cases hq), by simp [ud1_nil], by simpa [ud1_nil] using h0⟩
theorem PR.up {h' : Int} (r : PR ps p h) (hh : h <= h') : PR ps p h' := by
 have hp := r.pos
 refine ⟨r.dst, Int.le_trans r.len hh, fun q hq => ⟨(r.ofs q hq).1, by have := (r.ofs q hq).2; omega⟩, r.shs, r.lo, Int.le_trans r.hi (Int.mul_le_mul_of_nonneg_right (by omega) (by omega))⟩
theorem PR.with {of s : Int} (r : PR ps p h) (o0 : 0 <= of) (o1 : of <= 1000000) (s0 : 1 <= s) (s1 : s <= 1000000) (h0 : 0 <= h) : PR (Cb ps ⟨of, s⟩) (p + of * 1073741824 / s) (h + 1) := by
 have hD := r.pos
 have hrat := Lo ps ⟨of, s⟩ r.dst
 simp only at hrat
 have hmem : ∀ q ∈ Cb ps ⟨of, s⟩, (0 <= q.of ∧ q.of <= 1000000 * (h + 1)) ∧ 1 <= q.shares ∧ q.shares <= 1000000 := by
  intro q hq
  unfold Cb at hq
  rcases List.mem_append.1 hq with h1 | h1
  ·obtain ⟨q', hq', rfl⟩ := List.mem_map.1 h1
   have a := r.ofs q' hq'
   have b := r.shs q' hq'
   unfold Ch
   split
   ·exact ⟨⟨by simp only; omega, by simp only; omega⟩, b⟩
   ·exact ⟨⟨a.1, by omega⟩, b⟩
  ·split at h1
   ·cases h1
   ·simp only [List.mem_singleton] at h1
    subst h1
    exact ⟨⟨o0, by simp only; omega⟩, s0, s1⟩
 have hD' : 1 <= (ud1 (Cb ps ⟨of, s⟩)).2 := ML _ (fun q hq => (hmem q hq).2.1)
 have hlen : (Cb ps ⟨of, s⟩).length <= ps.length + 1 := by
  unfold Cb
  rw [List.length_append, List.length_map]
  split <;> simp
 have hl := r.len
 have hlo := r.lo
 have hhi := r.hi
 refine ⟨r.dst.with _, by omega, fun q hq => (hmem q hq).1, fun q hq => (hmem q hq).2, ?_, ?_⟩
 all_goals
  generalize (ud1 (Cb ps ⟨of, s⟩)).1 = U' at *
  generalize (ud1 (Cb ps ⟨of, s⟩)).2 = D' at *
  generalize (ud1 ps).1 = U at *
  generalize (ud1 ps).2 = D at *
  have f1 : of * 1073741824 / s * s <= of * 1073741824 := Int.ediv_mul_le _ (by omega)
  have f2 : of * 1073741824 < (of * 1073741824 / s + 1) * s := Int.lt_ediv_add_one_mul_self _ (by omega)
  generalize of * 1073741824 / s = f at *
  have hDs : 0 < D * s := Int.mul_pos (by omega) (by omega)
 ·-- (p + f) D' <= 2^30 U'
  have h1 : (p + f) * (D * s) <= 1073741824 * (U * s + of * D) := by
   have a1 : p * D * s <= 1073741824 * U * s := Int.mul_le_mul_of_nonneg_right hlo (by omega)
   have a2 : f * s * D <= of * 1073741824 * D := Int.mul_le_mul_of_nonneg_right f1 (by omega)
   have e1 : (p + f) * (D * s) = p * D * s + f * s * D := by rw [Int.add_mul, Int.mul_assoc p, Int.mul_assoc f, Int.mul_comm s D]
   have e2 : 1073741824 * (U * s + of * D) = 1073741824 * U * s + of * 1073741824 * D := by rw [Int.mul_add, <- Int.mul_assoc, <- Int.mul_assoc, Int.mul_comm of]
   omega
  have h2 : (p + f) * (D * s) * D' <= 1073741824 * (U * s + of * D) * D' := Int.mul_le_mul_of_nonneg_right h1 (by omega)
  have e3 : 1073741824 * (U * s + of * D) * D' = 1073741824 * U' * (D * s) := by rw [Int.mul_assoc, <- hrat, Int.mul_assoc]
  have e4 : (p + f) * (D * s) * D' = (p + f) * D' * (D * s) := by rw [Int.mul_assoc, Int.mul_comm (D * s), Int.mul_assoc]
  rw [e3, e4] at h2
  exact Int.le_of_mul_le_mul_right h2 hDs
 ·have h1 : 1073741824 * (U * s + of * D) <= (p + f + (h + 1)) * (D * s) := by
   have a1 : 1073741824 * U * s <= (p + h) * D * s := Int.mul_le_mul_of_nonneg_right hhi (by omega)
   have a2 : of * 1073741824 * D <= (f + 1) * s * D := Int.mul_le_mul_of_nonneg_right (by omega) (by omega)
   have e1 : (p + f + (h + 1)) * (D * s) = (p + h) * D * s + (f + 1) * s * D := by
    rw [Int.mul_assoc, Int.mul_assoc (f + 1), Int.mul_comm s D, <- Int.add_mul]; congr 1; omega
   have e2 : 1073741824 * (U * s + of * D) = 1073741824 * U * s + of * 1073741824 * D := by rw [Int.mul_add, <- Int.mul_assoc, <- Int.mul_assoc, Int.mul_comm of]
   omega
  have h2 : 1073741824 * (U * s + of * D) * D' <= (p + f + (h + 1)) * (D * s) * D' := Int.mul_le_mul_of_nonneg_right h1 (by omega)
  have e3 : 1073741824 * (U * s + of * D) * D' = 1073741824 * U' * (D * s) := by rw [Int.mul_assoc, <- hrat, Int.mul_assoc]
  have e4 : (p + f + (h + 1)) * (D * s) * D' = (p + f + (h + 1)) * D' * (D * s) := by rw [Int.mul_assoc, Int.mul_comm (D * s), Int.mul_assoc]
  rw [e3, e4] at h2
  exact Int.le_of_mul_le_mul_right h2 hDs
theorem PR.may {sh : Int} (r : PR ps p h) (h1 : h <= 1000) (s0 : 0 <= sh) (s1 : sh <= 1000000) : LA sh ps (sh * p / 1073741824) = true := by
 unfold LA
 rw [Sx]
 simp only [Bool.and_eq_true, Bool.not_eq_true', decide_eq_false_iff_not, decide_eq_true_eq]
 have hD := r.pos
 have hlo := r.lo
 have hhi := r.hi
 generalize (ud1 ps).1 = U at *
 generalize (ud1 ps).2 = D at *
 have f1 : sh * p / 1073741824 * 1073741824 <= sh * p := Int.ediv_mul_le _ (by omega)
 have f2 : sh * p < (sh * p / 1073741824 + 1) * 1073741824 := Int.lt_ediv_add_one_mul_self _ (by omega)
 generalize sh * p / 1073741824 = q at *
 constructor
 ·intro hc
  have a1 : q * 1073741824 * D <= sh * p * D := Int.mul_le_mul_of_nonneg_right f1 (by omega)
  have a2 : sh * (p * D) <= sh * (1073741824 * U) := Int.mul_le_mul_of_nonneg_left hlo s0
  have e1 : sh * (1073741824 * U) = 1073741824 * (sh * U) := by rw [<- Int.mul_assoc, Int.mul_comm sh, Int.mul_assoc]
  have e2 : q * 1073741824 * D = 1073741824 * (q * D) := by rw [Int.mul_comm q, Int.mul_assoc]
  have e3 : sh * p * D = sh * (p * D) := Int.mul_assoc _ _ _
  omega
 ·have a2 : sh * (1073741824 * U) <= sh * ((p + h) * D) := Int.mul_le_mul_of_nonneg_left hhi s0
  have e1 : sh * (1073741824 * U) = 1073741824 * (sh * U) := by rw [<- Int.mul_assoc, Int.mul_comm sh, Int.mul_assoc]
  have e4 : sh * ((p + h) * D) = (sh * p + sh * h) * D := by rw [<- Int.mul_assoc, Int.mul_add]
  have a3 : sh * h <= 1000000 * 1000 := by
   by_cases hh : 0 <= h
   ·exact Int.mul_le_mul s1 h1 hh (by omega)
   ·have : sh * h <= 0 := Int.mul_nonpos_of_nonneg_of_nonpos s0 (by omega)
    omega
  have a4 : (sh * p + sh * h) * D < ((q + 2) * 1073741824) * D := Int.mul_lt_mul_of_pos_right (by omega) (by omega)
  have e5 : (q + 2) * 1073741824 * D = 1073741824 * ((q + 2) * D) := by rw [Int.mul_comm (q + 2), Int.mul_assoc]
  omega
def dkey (d : DA) : Int := d.who * 5 + d.val
def M5 (x : EC) (d : DA) : Prop := ∃ k j : Nat, d.who = k ∧ d.val = j ∧ k < x.bal.length ∧ j < x.vals.length ∧ d.shares = x.sh k j ∧ 0 < d.shares ∧ PR d.parts (x.per j - x.upto k j) x.height
structure A8 (x : EC) (ds : List (DA × Value)) : Prop where
 srt : (ds.map (fun d => dkey d.1)).Pairwise (· < ·)
 rng : ∀ d ∈ ds, M5 x d.1
 all : ∀ k j, k < x.bal.length -> j < x.vals.length -> 0 < x.sh k j -> ∃ d ∈ ds, d.1.who = k ∧ d.1.val = j
theorem A8.congr {ds ds' : List (DA × Value)} (h : A8 x ds) (e : ds'.map Prod.fst = ds.map Prod.fst) : A8 x ds' := by
 have hm : ∀ f : DA -> Int, ds'.map (fun d => f d.1) = ds.map (fun d => f d.1) := fun f => by
  have := congrArg (List.map f) e
  simpa [List.map_map, Function.comp_def] using this
 have hmem : ∀ {a b : List (DA × Value)}, a.map Prod.fst = b.map Prod.fst -> ∀ d ∈ a, ∃ d' ∈ b, d'.1 = d.1 := fun {a b} e d hd => by
  have : d.1 ∈ b.map Prod.fst := by rw [<- e]; exact List.mem_map.2 ⟨d, hd, rfl⟩
  obtain ⟨d', h1, h2⟩ := List.mem_map.1 this
  exact ⟨d', h1, h2⟩
 refine ⟨by rw [hm dkey]; exact h.srt, fun d hd => ?_, fun k j hk hj hs => ?_⟩
 ·obtain ⟨d', h1, h2⟩ := hmem e d hd
  rw [<- h2]; exact h.rng d' h1
 ·obtain ⟨d, h1, h2⟩ := h.all k j hk hj hs
  obtain ⟨d', h3, h4⟩ := hmem e.symm d h1
  exact ⟨d', h3, by rw [h4]; exact h2⟩
section
variable {x : EC} {ds : List (DA × Value)}
theorem A8.lt (h : A8 x ds) {i j : Nat} (hi : i < ds.length) (hj : j < ds.length) (hij : i < j) : dkey ds[i].1 < dkey ds[j].1 := by
 have := List.pairwise_iff_getElem.1 h.srt i j (by simpa using hi) (by simpa using hj) hij
 simpa using this
theorem A8.uniq (h : A8 x ds) {i j : Nat} (hi : i < ds.length) (hj : j < ds.length) (hw : ds[i].1.who = ds[j].1.who) (hv : ds[i].1.val = ds[j].1.val) : i = j := by
 have e : dkey ds[i].1 = dkey ds[j].1 := by unfold dkey; rw [hw, hv]
 rcases Nat.lt_trichotomy i j with h1 | h1 | h1
 ·have := h.lt hi hj h1; omega
 ·exact h1
 ·have := h.lt hj hi h1; omega
theorem A8.key0 (h : A8 x ds) (b6 : x.bal.length <= 6) (v5 : x.vals.length <= 5) {i : Nat} (hi : i < ds.length) : (i : Int) <= dkey ds[i].1 ∧ dkey ds[i].1 < 30 := by
 have hr : ∀ i (hi : i < ds.length), 0 <= dkey ds[i].1 ∧ dkey ds[i].1 < 30 := fun i hi => by
  obtain ⟨k, j, h1, h2, h3, h4, _⟩ := h.rng _ (List.getElem_mem hi)
  unfold dkey; omega
 refine ⟨?_, (hr i hi).2⟩
 induction i with
 | zero => exact (hr 0 hi).1
 | succ i ih =>
  have := ih (by omega)
  have := h.lt (show i < ds.length by omega) hi (by omega)
  omega
theorem A8.len (h : A8 x ds) (b6 : x.bal.length <= 6) (v5 : x.vals.length <= 5) : ds.length <= 30 := by
 by_cases h0 : ds.length = 0
 ·omega
 ·have := h.key0 b6 v5 (show ds.length - 1 < ds.length by omega)
  omega
theorem A8.at (h : A8 x ds) {k j : Nat} (hk : k < x.bal.length) (hj : j < x.vals.length) (hs : 0 < x.sh k j) : ∃ i : Nat, ∃ hi : i < ds.length, atF ds k j = i ∧ ds[i].1.who = k ∧ ds[i].1.val = j ∧ ds[i].1.shares = x.sh k j ∧ PR ds[i].1.parts (x.per j - x.upto k j) x.height := by
 obtain ⟨d, hd, h1, h2⟩ := h.all k j hk hj hs
 obtain ⟨i, hi, rfl⟩ := List.getElem_of_mem hd
 refine ⟨i, hi, Mq hi (fun i' hi' hlt he => ?_) ⟨h1, h2⟩, h1, h2, ?_⟩
 ·have := h.uniq hi' hi (by rw [he.1, h1]) (by rw [he.2, h2])
  omega
 ·obtain ⟨k', j', q1, q2, _, _, q5, _, q7⟩ := h.rng _ hd
  have ek : k' = k := by omega
  have ej : j' = j := by omega
  subst ek ej
  exact ⟨q5, q7⟩
theorem A8.no (h : A8 x ds) {who v : Int} (hn : ∀ k j : Nat, who = k -> v = j -> k < x.bal.length -> j < x.vals.length -> ¬ 0 < x.sh k j) : atF ds who v = -1 := by
 refine PO (fun i hi he => ?_)
 obtain ⟨k, j, q1, q2, q3, q4, q5, q6, _⟩ := h.rng _ (List.getElem_mem hi)
 exact hn k j (by rw [<- he.1, q1]) (by rw [<- he.2, q2]) q3 q4 (by omega)
theorem KN {l : List α} {f : α -> α} {d : α} (h : d ∈ l.modify i f) : (∃ i', ∃ hi : i' < l.length, i' ≠ i ∧ d = l[i']) ∨ ∃ hi : i < l.length, d = f l[i] := by
 obtain ⟨j, hj, rfl⟩ := List.getElem_of_mem h
 have hj' : j < l.length := by simpa using hj
 rw [List.getElem_modify]
 by_cases e : i = j
 ·subst e; exact .inr ⟨hj', by simp⟩
 ·simp only [if_neg e]; exact .inl ⟨j, hj', fun h => e h.symm, rfl⟩
structure Jd (x x' : EC) (k j : Nat) : Prop where
 bl : x'.bal.length = x.bal.length
 vl : x'.vals.length = x.vals.length
 hh : x'.height = x.height
 oth : ∀ k' j', k' < 6 -> j' < 5 -> ¬ (k' = k ∧ j' = j) -> x'.sh k' j' = x.sh k' j' ∧ x'.per j' - x'.upto k' j' = x.per j' - x.upto k' j'
theorem M5.oth {d : DA} (h : M5 x d) (o : Jd x x' k j) (b6 : x.bal.length <= 6) (v5 : x.vals.length <= 5) (hn : ¬ (d.who = k ∧ d.val = j)) : M5 x' d := by
 obtain ⟨k', j', q1, q2, q3, q4, q5, q6, q7⟩ := h
 have := o.oth k' j' (by omega) (by omega) (fun e => hn ⟨by omega, by omega⟩)
 exact ⟨k', j', q1, q2, by rw [o.bl]; exact q3, by rw [o.vl]; exact q4, by rw [this.1]; exact q5, q6, by rw [this.2, o.hh]; exact q7⟩
theorem A8.upd (h : A8 x ds) (o : Jd x x' k j) (b6 : x.bal.length <= 6) (v5 : x.vals.length <= 5) (hi : i < ds.length) (hw : ds[i].1.who = k) (hv : ds[i].1.val = j) (f : DA × Value -> DA × Value) (fw : (f ds[i]).1.who = k) (fv : (f ds[i]).1.val = j) (hf : M5 x' (f ds[i]).1) : A8 x' (ds.modify i f) := by
 have hm : (ds.modify i f).map (fun d => dkey d.1) = ds.map (fun d => dkey d.1) := by
  apply List.ext_getElem?
  intro n
  simp only [List.getElem?_map, List.getElem?_modify]
  by_cases e : i = n
  ·subst e
   rw [List.getElem?_eq_getElem hi]
   simp [dkey, fw, fv, hw, hv]
  ·simp [e]
 refine ⟨by rw [hm]; exact h.srt, fun d hd => ?_, fun k' j' hk hj hs => ?_⟩
 ·rcases KN hd with ⟨i', hi', hne, rfl⟩ | ⟨_, rfl⟩
  ·refine (h.rng _ (List.getElem_mem hi')).oth o b6 v5 (fun e => hne (h.uniq hi' hi (by rw [e.1, hw]) (by rw [e.2, hv])))
  ·exact hf
 ·rw [o.bl] at hk
  rw [o.vl] at hj
  by_cases e : k' = k ∧ j' = j
  ·obtain ⟨rfl, rfl⟩ := e
   refine ⟨f ds[i], ?_, fw, fv⟩
   have : (ds.modify i f)[i]'(by simpa using hi) = f ds[i] := by rw [List.getElem_modify]; simp
   rw [<- this]; exact List.getElem_mem _
  ·rw [(o.oth k' j' (by omega) (by omega) e).1] at hs
   obtain ⟨d, hd, q1, q2⟩ := h.all k' j' hk hj hs
   obtain ⟨i', hi', rfl⟩ := List.getElem_of_mem hd
   have hne : ¬ i = i' := fun e' => by subst e'; exact e ⟨by omega, by omega⟩
   refine ⟨ds[i'], ?_, q1, q2⟩
   have : (ds.modify i f)[i']'(by simpa using hi') = ds[i'] := by rw [List.getElem_modify]; simp [hne]
   rw [<- this]; exact List.getElem_mem _
theorem A8.gone (h : A8 x ds) (o : Jd x x' k j) (b6 : x.bal.length <= 6) (v5 : x.vals.length <= 5) (hi : i < ds.length) (hw : ds[i].1.who = k) (hv : ds[i].1.val = j) (hz : ¬ 0 < x'.sh k j) : A8 x' (ds.eraseIdx i) := by
 refine ⟨?_, fun d hd => ?_, fun k' j' hk hj hs => ?_⟩
 ·exact List.Pairwise.sublist ((List.eraseIdx_sublist ds i).map _) h.srt
 ·obtain ⟨i', hi', hne, rfl⟩ := List.mem_eraseIdx_iff_getElem.1 hd
  exact (h.rng _ (List.getElem_mem hi')).oth o b6 v5 (fun e => hne (h.uniq hi' hi (by rw [e.1, hw]) (by rw [e.2, hv])))
 ·rw [o.bl] at hk
  rw [o.vl] at hj
  by_cases e : k' = k ∧ j' = j
  ·obtain ⟨rfl, rfl⟩ := e; exact absurd hs hz
  ·rw [(o.oth k' j' (by omega) (by omega) e).1] at hs
   obtain ⟨d, hd, q1, q2⟩ := h.all k' j' hk hj hs
   obtain ⟨i', hi', rfl⟩ := List.getElem_of_mem hd
   have hne : i' ≠ i := fun e' => by subst e'; exact e ⟨by omega, by omega⟩
   exact ⟨ds[i'], List.mem_eraseIdx_iff_getElem.2 ⟨i', hi', hne, rfl⟩, q1, q2⟩
end
theorem Mh (d : DA × Value) (l : List (DA × Value)) (k : Nat) (hk : k <= l.length) :
  (Cf d l k = (l.take k, false) ∧ ∀ i (hi : i < l.length), i < k -> GJ d.1.who d.1.val l[i] = false) ∨
  ∃ p, ∃ hp : p < l.length, p < k ∧ GJ d.1.who d.1.val l[p] = true ∧ (∀ i (hi : i < l.length), i < p -> GJ d.1.who d.1.val l[i] = false) ∧ Cf d l k = (l.take p ++ d :: (l.take k).drop p, true) := by
 induction k with
 | zero => exact .inl ⟨by simp [Cf], fun i hi h => by omega⟩
 | succ k ih =>
  have hkl : k < l.length := by omega
  rw [EL d l k hkl]
  rcases ih (by omega) with ⟨e, ha⟩ | ⟨p, hp, hpk, hap, ha, e⟩
  ·rw [e]
   unfold DO
   by_cases hc : GJ d.1.who d.1.val l[k] = true
   ·right
    refine ⟨k, hkl, by omega, hc, ha, ?_⟩
    rw [if_pos ⟨rfl, hc⟩]
    have : (l.take (k + 1)).drop k = [l[k]] := by
     rw [List.take_succ_eq_append_getElem hkl, List.drop_append_of_le_length (by simp; omega)]
     simp
    rw [this]
    simp
   ·left
    rw [if_neg (fun h => hc h.2)]
    refine ⟨by rw [List.take_succ_eq_append_getElem hkl], fun i hi h => ?_⟩
    by_cases e' : i = k
    ·subst e'; simpa using hc
    ·exact ha i hi (by omega)
  ·right
   refine ⟨p, hp, by omega, hap, ha, ?_⟩
   rw [e]
   unfold DO
   rw [if_neg (fun h => by simp at h)]
   rw [List.take_succ_eq_append_getElem hkl, List.drop_append_of_le_length (by simp; omega)]
   simp
theorem Nx (d : DA × Value) (l : List (DA × Value)) : ∃ p, p <= l.length ∧ (∀ i (hi : i < l.length), i < p -> GJ d.1.who d.1.val l[i] = false) ∧ (∀ hp : p < l.length, GJ d.1.who d.1.val l[p] = true) ∧ FZ d l = l.take p ++ d :: l.drop p := by
 unfold FZ
 rcases Mh d l l.length (Nat.le_refl _) with ⟨e, ha⟩ | ⟨p, hp, _, hap, ha, e⟩
 ·refine ⟨l.length, Nat.le_refl _, fun i hi h => ha i hi h, fun hp => by omega, ?_⟩
  rw [e, if_neg (by simp)]
  simp
 ·refine ⟨p, by omega, ha, fun _ => hap, ?_⟩
  rw [e, if_pos rfl, List.take_length]
theorem A8.new {ds : List (DA × Value)} (h : A8 x ds) (o : Jd x x' k j) (b6 : x.bal.length <= 6) (v5 : x.vals.length <= 5) (hz : ¬ 0 < x.sh k j) (hk : k < x.bal.length) (hj : j < x.vals.length) (d : DA × Value) (dw : d.1.who = k) (dv : d.1.val = j) (hd : M5 x' d.1) : A8 x' (FZ d ds) := by
 obtain ⟨p, hp, hb, ha, e⟩ := Nx d ds
 rw [e]
 have hr : ∀ i (hi : i < ds.length), ∃ k' j' : Nat, ds[i].1.who = k' ∧ ds[i].1.val = j' ∧ k' < 6 ∧ j' < 5 ∧ ¬ (k' = k ∧ j' = j) := fun i hi => by
  obtain ⟨k', j', q1, q2, q3, q4, q5, q6, _⟩ := h.rng _ (List.getElem_mem hi)
  refine ⟨k', j', q1, q2, by omega, by omega, fun e => ?_⟩
  obtain ⟨rfl, rfl⟩ := e
  omega
 have hlo : ∀ i (hi : i < ds.length), i < p -> dkey ds[i].1 < dkey d.1 := fun i hi hip => by
  have h1 := hb i hi hip
  obtain ⟨k', j', q1, q2, q3, q4, q5⟩ := hr i hi
  unfold GJ at h1
  rw [dw, dv, q1, q2] at h1
  simp only [Bool.or_eq_false_iff, Bool.and_eq_false_iff, decide_eq_false_iff_not] at h1
  unfold dkey
  rw [dw, dv, q1, q2]
  omega
 have hhi : ∀ i (hi : i < ds.length), p <= i -> dkey d.1 < dkey ds[i].1 := fun i hi hip => by
  have hpl : p < ds.length := by omega
  have h1 := ha hpl
  obtain ⟨k', j', q1, q2, q3, q4, q5⟩ := hr p hpl
  unfold GJ at h1
  rw [dw, dv, q1, q2] at h1
  simp only [Bool.or_eq_true, Bool.and_eq_true, decide_eq_true_eq] at h1
  have h2 : dkey d.1 < dkey ds[p].1 := by
   unfold dkey
   rw [dw, dv, q1, q2]
   omega
  by_cases e' : p = i
  ·subst e'; exact h2
  ·have := h.lt hpl hi (by omega); omega
 have hmem : ∀ c, c ∈ ds.take p ++ d :: ds.drop p ↔ c = d ∨ c ∈ ds := fun c => by
  rw [List.mem_append, List.mem_cons]
  have : c ∈ ds ↔ c ∈ ds.take p ∨ c ∈ ds.drop p := by
   conv => lhs; rw [<- List.take_append_drop p ds]
   exact List.mem_append
  rw [this]
  constructor
  ·rintro (h | h | h) <;> simp [h]
  ·rintro (h | h | h) <;> simp [h]
 refine ⟨?_, fun c hc => ?_, fun k' j' hk' hj' hs => ?_⟩
 ·rw [List.map_append, List.map_cons, List.pairwise_append, List.pairwise_cons]
  refine ⟨List.Pairwise.sublist ((List.take_sublist p ds).map _) h.srt, ⟨fun a ha' => ?_, List.Pairwise.sublist ((List.drop_sublist p ds).map _) h.srt⟩, fun a ha' b hb' => ?_⟩
  ·obtain ⟨c, hc, rfl⟩ := List.mem_map.1 ha'
   obtain ⟨i, hi, rfl⟩ := List.getElem_of_mem hc
   rw [List.getElem_drop]
   exact hhi _ _ (by omega)
  ·obtain ⟨c, hc, rfl⟩ := List.mem_map.1 ha'
   obtain ⟨i, hi, rfl⟩ := List.getElem_of_mem hc
   have hi' : i < p ∧ i < ds.length := by have := hi; simp only [List.length_take] at this; omega
   rw [List.getElem_take]
   rcases List.mem_cons.1 hb' with h1 | h1
   ·rw [h1]; exact hlo i hi'.2 hi'.1
   ·obtain ⟨c2, hc2, rfl⟩ := List.mem_map.1 h1
    obtain ⟨i2, hi2, rfl⟩ := List.getElem_of_mem hc2
    rw [List.getElem_drop]
    exact h.lt hi'.2 _ (by omega)
 ·rcases (hmem c).1 hc with h1 | h1
  ·subst h1; exact hd
  ·obtain ⟨i, hi, rfl⟩ := List.getElem_of_mem h1
   obtain ⟨k', j', q1, q2, _, _, q5⟩ := hr i hi
   exact (h.rng _ h1).oth o b6 v5 (fun e => q5 ⟨by omega, by omega⟩)
 ·rw [o.bl] at hk'
  rw [o.vl] at hj'
  by_cases e' : k' = k ∧ j' = j
  ·obtain ⟨rfl, rfl⟩ := e'
   exact ⟨d, (hmem d).2 (.inl rfl), dw, dv⟩
  ·rw [(o.oth k' j' (by omega) (by omega) e').1] at hs
   obtain ⟨c, hc, q1, q2⟩ := h.all k' j' hk' hj' hs
   exact ⟨c, (hmem c).2 (.inr hc), q1, q2⟩
theorem NK (f : α -> Int) (a b : List α) (ha : (a.map f).Pairwise (· < ·)) (hb : (b.map f).Pairwise (· < ·)) (h1 : ∀ c ∈ a, c ∈ b) (h2 : ∀ c ∈ b, c ∈ a) : a = b := by
 induction a generalizing b with
 | nil =>
  cases b with
  | nil => rfl
  | cons c b => have := h2 c (by simp); cases this
 | cons c a ih =>
  cases b with
  | nil => have := h1 c (by simp); cases this
  | cons c' b =>
   simp only [List.map_cons, List.pairwise_cons] at ha hb
   have hc : c = c' := by
    rcases List.mem_cons.1 (h1 c (by simp)) with e | e
    ·exact e
    ·have l1 := hb.1 (f c) (List.mem_map.2 ⟨c, e, rfl⟩)
     rcases List.mem_cons.1 (h2 c' (by simp)) with e' | e'
     ·rw [e'] at l1; omega
     ·have l2 := ha.1 (f c') (List.mem_map.2 ⟨c', e', rfl⟩)
      omega
   subst hc
   congr 1
   refine ih b ha.2 hb.2 (fun q hq => ?_) (fun q hq => ?_)
   ·rcases List.mem_cons.1 (h1 q (by simp [hq])) with e | e
    ·subst e
     have := ha.1 (f q) (List.mem_map.2 ⟨q, hq, rfl⟩)
     omega
    ·exact e
   ·rcases List.mem_cons.1 (h2 q (by simp [hq])) with e | e
    ·subst e
     have := hb.1 (f q) (List.mem_map.2 ⟨q, hq, rfl⟩)
     omega
    ·exact e
def QY (d : DS) : Int := d.who * 5 + d.val
theorem O5 (s : Nat -> Nat -> Int) (who n : Nat) : ((CQ s who n).map QY).Pairwise (· < ·) ∧ ∀ d ∈ CQ s who n, QY d < who * 5 + n := by
 induction n with
 | zero => simp [CQ]
 | succ n ih =>
  unfold CQ
  split
  ·refine ⟨?_, fun d hd => ?_⟩
   ·rw [List.map_append, List.pairwise_append]
    refine ⟨ih.1, by simp, fun a ha b hb => ?_⟩
    obtain ⟨d, hd, rfl⟩ := List.mem_map.1 ha
    simp only [List.map_cons, List.map_nil, List.mem_singleton] at hb
    subst hb
    have := ih.2 d hd
    show _ < (who : Int) * 5 + (n : Int)
    omega
   ·rcases List.mem_append.1 hd with h | h
    ·have := ih.2 d h; omega
    ·simp only [List.mem_singleton] at h
     subst h
     show (who : Int) * 5 + (n : Int) < _
     omega
  ·exact ⟨ih.1, fun d hd => by have := ih.2 d hd; omega⟩
theorem O3 (s : Nat -> Nat -> Int) (nv n : Nat) (hv : nv <= 5) : ((Bz s nv n).map QY).Pairwise (· < ·) := by
 induction n with
 | zero => simp [Bz]
 | succ n ih =>
  unfold Bz
  rw [List.map_append, List.pairwise_append]
  refine ⟨ih, (O5 s n nv).1, fun a ha b hb => ?_⟩
  obtain ⟨d, hd, rfl⟩ := List.mem_map.1 ha
  obtain ⟨d', hd', rfl⟩ := List.mem_map.1 hb
  obtain ⟨k, j, h1, h2, rfl, _⟩ := KR s nv n d hd
  obtain ⟨j', h3, rfl, _⟩ := Lh s n nv d' hd'
  show (k : Int) * 5 + (j : Int) < (n : Int) * 5 + (j' : Int)
  omega
theorem Qa (s : Nat -> Nat -> Int) (who n j : Nat) (hj : j < n) (hs : 0 < s who j) : (⟨who, j, s who j⟩ : DS) ∈ CQ s who n := by
 induction n with
 | zero => omega
 | succ n ih =>
  unfold CQ
  by_cases e : j = n
  ·subst e; rw [if_pos hs]; simp
  ·have := ih (by omega)
   split
   ·exact List.mem_append.2 (.inl this)
   ·exact this
theorem Pk (s : Nat -> Nat -> Int) (nv n k j : Nat) (hk : k < n) (hj : j < nv) (hs : 0 < s k j) : (⟨k, j, s k j⟩ : DS) ∈ Bz s nv n := by
 induction n with
 | zero => omega
 | succ n ih =>
  unfold Bz
  by_cases e : k = n
  ·subst e; exact List.mem_append.2 (.inr (Qa s k nv j hj hs))
  ·exact List.mem_append.2 (.inl (ih (by omega)))
def DA.ds (d : DA) : DS := ⟨d.who, d.val, d.shares⟩
theorem A8.see {ds : List (DA × Value)} (h : A8 x ds) (v5 : x.vals.length <= 5) : Bz x.sh x.vals.length x.bal.length = ds.map (fun d => d.1.ds) := by
 refine NK QY _ _ (O3 _ _ _ v5) ?_ (fun c hc => ?_) (fun c hc => ?_)
 ·rw [List.map_map]; exact h.srt
 ·obtain ⟨k, j, h1, h2, rfl, hs⟩ := KR _ _ _ _ hc
  obtain ⟨i, hi, _, q1, q2, q3, _⟩ := h.at h1 h2 hs
  refine List.mem_map.2 ⟨ds[i], List.getElem_mem hi, ?_⟩
  unfold DA.ds; rw [q1, q2, q3]
 ·obtain ⟨d, hd, rfl⟩ := List.mem_map.1 hc
  obtain ⟨k, j, q1, q2, q3, q4, q5, q6, _⟩ := h.rng d hd
  have := Pk x.sh x.vals.length x.bal.length k j q3 q4 (by omega)
  unfold DA.ds; rw [q1, q2, q5]; exact this
def Ay (x : EC) : LC := { top := x.top, mature := x.mature, fee := x.fee, height := x.height, fees := x.fees, pool := x.pool, bal := x.bal }
theorem CR (l : List α) (j : Nat) (f g : α -> α) : (l.modify j f).modify j g = l.modify j (fun v => g (f v)) := by
 apply List.ext_getElem?
 intro i
 simp only [List.getElem?_modify]
 by_cases e : j = i
 ·subst e
  cases l[j]? <;> simp
 ·simp [e]
theorem Oc (l : List Int) (k : Nat) : l.set k (l.getD k 0) = l := by
 by_cases h : k < l.length
 ·have : l.getD k 0 = l[k] := by simp [h]
  rw [this, List.set_getElem_self]
 ·rw [List.set_eq_of_length_le (by omega)]
theorem A8.same {ds : List (DA × Value)} (h : A8 x ds) (hb : x'.bal.length = x.bal.length) (hv : x'.vals.length = x.vals.length) (hh : x'.height = x.height) (ht : x'.tab = x.tab) : A8 x' ds := by
 have e1 : x'.sh = x.sh := by funext k j; unfold EC.sh; rw [ht]
 have e2 : x'.per = x.per := by funext j; unfold EC.per; rw [ht]
 have e3 : x'.upto = x.upto := by funext k j; unfold EC.upto; rw [ht]
 refine ⟨h.srt, fun d hd => ?_, fun k j hk hj hs => h.all k j (by omega) (by omega) (by rw [<- e1]; exact hs)⟩
 obtain ⟨k, j, q1, q2, q3, q4, q5, q6, q7⟩ := h.rng d hd
 exact ⟨k, j, q1, q2, by omega, by omega, by rw [e1]; exact q5, q6, by rw [e2, e3, hh]; exact q7⟩
theorem B6 (a : Int) (n : Nat) : inN a 0 ((n : Int) - 1) = inB a n := by
 unfold inN inB
 have : decide (a <= (n : Int) - 1) = decide (a < (n : Int)) := by
  by_cases h : a < (n : Int)
  ·rw [decide_eq_true h, decide_eq_true (by omega)]
  ·rw [decide_eq_false h, decide_eq_false (by omega)]
 rw [this]
def KV (x : EC) (who : Int) : EC := if Az x who = 0 then Ab x who.toNat else x
theorem CZ (x : EC) (who : Int) : Ah (Ay x) who = (Az x who, Ay (KV x who)) := by
 unfold Ah KV Az
 rw [B6]
 have e2 : x.balAt who.toNat = x.bal.getD who.toNat 0 := rfl
 rw [e2]
 by_cases h : inB who x.bal.length = true
 ·rw [if_neg (show ¬ inB who x.bal.length = false by simp [h])]
  have h' : inB who (Ay x).bal.length = true := h
  rw [if_pos h']
  by_cases h2 : x.bal.getD who.toNat 0 < x.fee
  ·rw [if_pos (show (Ay x).bal.getD who.toNat 0 < (Ay x).fee from h2), if_pos h2, if_neg (by decide)]
  ·rw [if_neg (show ¬ (Ay x).bal.getD who.toNat 0 < (Ay x).fee from h2), if_neg h2, if_pos rfl]
   rfl
 ·have h' : ¬ inB who (Ay x).bal.length = true := h
  rw [if_neg h', if_pos (show inB who x.bal.length = false by simpa using h), if_neg (by decide)]
theorem Dr (x : EC) (who : Int) : (Az x who ≠ 0 ∧ KV x who = x) ∨ ∃ k : Nat, who = k ∧ k < x.bal.length ∧ Az x who = 0 ∧ x.fee <= x.balAt k ∧ KV x who = Ab x k := by
 by_cases hc : Az x who = 0
 ·obtain ⟨k, rfl, hk, hf⟩ := Cs hc
  exact .inr ⟨k, rfl, hk, hc, hf, by unfold KV; rw [if_pos hc, Int.toNat_natCast]⟩
 ·exact .inl ⟨hc, by unfold KV; rw [if_neg hc]⟩
theorem A8.charge {ds : List (DA × Value)} (h : A8 x ds) (k : Nat) : A8 (Ab x k) ds := h.same (by simp [Ab]) rfl rfl rfl
theorem Bl.chg (ok : Bl x) {k : Nat} (hc : Az x k = 0) : Bl (Ab x k) := (CW.charge ok (Nat.le_refl _) hc).fine
theorem Jd.of_upd (u : Upd x x' k j) : Jd x x' k j := ⟨u.bl, u.vl, u.hgt, fun a b h1 h2 h3 => ⟨u.sh a b h1 h2 h3, by rw [u.per b h2, u.upt a b h1 h2 h3]⟩⟩
def E5 (x : EC) (who v q : Int) : Prop := ∀ k j : Nat, who = k -> v = j -> k < x.bal.length -> j < x.vals.length -> q = x.due k j
section
variable {x : EC} (ok : Bl x) {ds : List (DA × Value)} (t : A8 x ds)
include ok t
theorem Pb (hk : k < x.bal.length) (hj : j < x.vals.length) (hi : i < ds.length) (hw : ds[i].1.who = k) (hv : ds[i].1.val = j) (hs : ds[i].1.shares = x.sh k j) (hs0 : 0 < x.sh k j) : A8 (AF x k j) (AW ds i) := by
 have okx : Ok x.height x := ok
 have b6 := okx.b6
 have v5 := okx.v5
 obtain ⟨e1, e2, e3, e4, e5⟩ := Ef okx hk hj
 have u := C4 okx hk hj
 refine t.upd (Jd.of_upd u) b6 v5 hi hw hv _ hw hv ⟨k, j, hw, hv, by rw [u.bl]; exact hk, by rw [u.vl]; exact hj, by rw [e3]; exact hs, by show 0 < ds[i].1.shares; omega, ?_⟩
 rw [e4, u.per j (by omega), Int.sub_self, u.hgt]
 exact PR.nil okx.hgt0
theorem Oz (who v q : Int) (hq : E5 x who v q) : ∃ ds', C0 (Ay x) x.vals ds who v q = ((CL x who v).1, Ay (CL x who v).2, (CL x who v).2.vals, ds') ∧ A8 (CL x who v).2 ds' ∧ (CL x who v).2.ents = x.ents := by
 have okx : Ok x.height x := ok
 unfold C0 CL
 rw [CZ]
 rcases Dr x who with ⟨hc, e⟩ | ⟨k, rfl, hk, hc, hf, e⟩
 ·rw [Bq hc, e]
  simp only
  rw [if_neg hc]
  exact ⟨ds, rfl, t, by first | rfl | trivial⟩
 ·rw [e]
  simp only
  rw [if_pos hc]
  have hcy := ok.chg hc
  have ty := t.charge k
  have hly : (Ab x k).bal.length = x.bal.length := by simp [Ab]
  have okx' : Ok (Ab x k).height (Ab x k) := hcy
  have ha : FW (Ay (Ab x k)) x.vals ds k v = BX (Ab x k) k v := by
   unfold FW BX
   rw [B6, B6]
   rw [if_pos (show inB (k : Int) (Ay (Ab x k)).bal.length = true by unfold inB; simp [Ay, hly, hk])]
   by_cases hb : inB v x.vals.length = true
   ·rw [if_pos hb, if_neg (show ¬ inB v (Ab x k).vals.length = false by rw [show (Ab x k).vals = x.vals from rfl]; simp [hb])]
    obtain ⟨j, rfl, hj⟩ := Bn hb
    rw [Int.toNat_natCast]
    by_cases hs : 0 < x.sh k j
    ·obtain ⟨i, hi, hat, _⟩ := t.at hk hj hs
     rw [hat, if_neg (by omega), if_neg (show ¬ (Ab x k).sh k j < 1 from fun h => by have : x.sh k j < 1 := h; omega)]
    ·rw [t.no (fun k' j' e1 e2 _ _ => by (have : k' = k := (by omega)); (have : j' = j := (by omega)); subst k' j'; exact hs), if_pos (by decide), if_pos (show (Ab x k).sh k j < 1 from (show x.sh k j < 1 by omega))]
   ·rw [if_neg hb, if_pos (show inB v (Ab x k).vals.length = false by rw [show (Ab x k).vals = x.vals from rfl]; simpa using hb)]
  rw [ha]
  by_cases he : BX (Ab x k) k v = 0
  ·rw [B8 hc he, if_pos he]
   obtain ⟨j, rfl, hj, hs⟩ := FQ he
   have hj' : j < x.vals.length := hj
   have hs' : 0 < x.sh k j := hs
   obtain ⟨i, hi, hat, hw, hv, hsh, _⟩ := t.at hk hj' hs'
   rw [hat]
   simp only [Int.toNat_natCast]
   have hd : q = (Ab x k).due k j := hq k j rfl rfl hk hj'
   refine ⟨AW ds i, ?_, Pb hcy ty (by omega) hj hi hw hv hsh hs', rfl⟩
   rw [hd]
   rfl
  ·rw [AP hc he, if_neg he]
   exact ⟨ds, rfl, ty, by first | rfl | trivial⟩
end
theorem Iw {ds : List (DA × Value)} (h : atF ds who v = i) : ds.findIdx? (fun d => d.1.who == who && d.1.val == v) = some i := by
 rcases Dt ds who v with ⟨hat, _⟩ | ⟨i', hi, hat, hf, _, _⟩
 ·omega
 ·have : i' = i := by omega
  subst this; exact hf
theorem I0 {ds : List (DA × Value)} (h : atF ds who v = -1) : ds.findIdx? (fun d => d.1.who == who && d.1.val == v) = none := by
 rcases Dt ds who v with ⟨_, hf⟩ | ⟨i', hi, hat, hf, _, _⟩
 ·exact hf
 ·omega
section
variable {H : Int} {z : EC} (ok : Ok H z) {ds : List (DA × Value)} (t : A8 z ds) {k j : Nat} (hk : k < z.bal.length) (hj : j < z.vals.length)
include ok t hk hj
theorem Js (hi : i < ds.length) (hw : ds[i].1.who = k) (hv : ds[i].1.val = j) (hs : ds[i].1.shares = z.sh k j) (hs0 : 0 < z.sh k j) : A8 (AF z k j) (AW ds i) := by
 have b6 := ok.b6
 have v5 := ok.v5
 obtain ⟨e1, e2, e3, e4, e5⟩ := Ef ok hk hj
 have u := C4 ok hk hj
 refine t.upd (Jd.of_upd u) b6 v5 hi hw hv _ hw hv ⟨k, j, hw, hv, by rw [u.bl]; exact hk, by rw [u.vl]; exact hj, by rw [e3]; exact hs, by show 0 < ds[i].1.shares; omega, ?_⟩
 rw [e4, u.per j (by omega), Int.sub_self, u.hgt]
 exact PR.nil ok.hgt0
theorem JK (a n q : Int) (hn : n = Aw (z.val j) a) (n1 : 1 <= n) (hq : q = z.due k j) :
  ∃ ds', Cd (Ay z) z.vals ds k j a n q = (Ay (AV z k j a), (AV z k j a).vals, ds') ∧ A8 (AV z k j a) ds' := by
 have b6 := ok.b6
 have v5 := ok.v5
 obtain ⟨e1, e2, e3, e4, e5⟩ := Gw ok hk hj a
 have u := Jv ok hk hj a
 have hsh0 := ok.sh0 k j (by omega) (by omega)
 by_cases hs : 0 < z.sh k j
 ·obtain ⟨i, hi, hat, hw, hv, hsh, _⟩ := t.at hk hj hs
  have hp := Js ok t hk hj hi hw hv hsh hs
  obtain ⟨p1, p2, p3, p4, p5⟩ := Ef ok hk hj
  have pu := C4 ok hk hj
  have hil : i < (AW ds i).length := by simpa [AW] using hi
  have hpi : (AW ds i)[i] = ({ ds[i].1 with parts := [] }, .slice none 0 0) := by simp [BA ds i hi]
  have hat2 : atF (AW ds i) k j = i := by
   obtain ⟨i', hi', h1, h2, h3, _⟩ := hp.at (k := k) (j := j) (by rw [pu.bl]; exact hk) (by rw [pu.vl]; exact hj) (by rw [p3]; exact hs)
   have := hp.uniq hi' hil (by rw [h2, hpi]; exact hw.symm) (by rw [h3, hpi]; exact hv.symm)
   rw [h1, this]
  refine ⟨DD (AW ds i) k j n, ?_, ?_⟩
  ·unfold Cd
   rw [Iw hat]
   simp only [Prod.mk.injEq, and_true]
   refine ⟨by rw [hq]; rfl, ?_⟩
   unfold Ck AS
   rw [CR]
   show _ = ((z.vals.modify j _).modify j _).modify j _
   rw [CR, CR, hq, hn]
  ·unfold DD
   rw [Iw hat2]
   simp only
   refine hp.upd (k := k) (j := j) ⟨by rw [u.bl, pu.bl], by rw [u.vl, pu.vl], by rw [u.hgt, pu.hgt], fun a b h1 h2 h3 => ⟨by rw [u.sh a b h1 h2 h3, pu.sh a b h1 h2 h3], by rw [u.per b h2, u.upt a b h1 h2 h3, pu.per b h2, pu.upt a b h1 h2 h3]⟩⟩ (by rw [pu.bl]; exact b6) (by rw [pu.vl]; exact v5) hil (by rw [hpi]; exact hw) (by rw [hpi]; exact hv) _ (by rw [hpi]; exact hw) (by rw [hpi]; exact hv) ⟨k, j, by rw [hpi]; exact hw, by rw [hpi]; exact hv, by rw [u.bl]; exact hk, by rw [u.vl]; exact hj, ?_, ?_, ?_⟩
   ·rw [hpi, e3]; show ds[i].1.shares + n = _; rw [hsh, hn]
   ·rw [hpi]; show 0 < ds[i].1.shares + n; omega
   ·rw [hpi, e4, u.per j (by omega), Int.sub_self, u.hgt]; exact PR.nil ok.hgt0
 ·have hz : z.sh k j = 0 := by omega
  have hd0 : z.due k j = 0 := by unfold EC.due; rw [hz]; simp
  have hat : atF ds k j = -1 := t.no (fun k' j' h1 h2 _ _ => by
   have : k' = k := by omega
   have : j' = j := by omega
   subst k' j'; exact hs)
  refine ⟨DD ds k j n, ?_, ?_⟩
  ·unfold Cd
   rw [I0 hat]
   simp only [Prod.mk.injEq, and_true]
   refine ⟨?_, ?_⟩
   ·show Ay z = { Ay z with bal := z.bal.set k (z.balAt k + z.due k j) }
    rw [hd0, Int.add_zero]
    have : z.bal.set k (z.balAt k) = z.bal := Oc z.bal k
    rw [this]; rfl
   ·unfold Ck
    show _ = ((z.vals.modify j _).modify j _).modify j _
    rw [CR, CR, hd0, hn]
    congr 1
    funext v
    simp
  ·unfold DD
   rw [I0 hat]
   simp only
   refine t.new (Jd.of_upd u) b6 v5 (by omega) hk hj _ rfl rfl ⟨k, j, rfl, rfl, by rw [u.bl]; exact hk, by rw [u.vl]; exact hj, ?_, by show 0 < n; omega, ?_⟩
   ·rw [e3, hz, hn]; simp
   ·rw [e4, u.per j (by omega), Int.sub_self, u.hgt]; exact PR.nil ok.hgt0
theorem GP (n q : Int) (n1 : 1 <= n) (n2 : n <= z.sh k j) (hq : q = z.due k j) :
  ∃ ds', lvF (Ay z) z.vals ds k j n q = (Af (z.val j) n, Ay (AA z k j n), (AA z k j n).vals, ds') ∧ A8 (AA z k j n) ds' := by
 have b6 := ok.b6
 have v5 := ok.v5
 have hs : 0 < z.sh k j := by omega
 obtain ⟨i, hi, hat, hw, hv, hsh, _⟩ := t.at hk hj hs
 have hshs := ok.shs j hj
 have hle : z.sh k j <= (z.val j).shares := by
  rw [<- hshs]
  exact EA (f := fun k => z.sh k j) (fun i hi => ok.sh0 i j hi (by omega)) (by omega)
 have hp := Js ok t hk hj hi hw hv hsh hs
 obtain ⟨p1, p2, p3, p4, p5⟩ := Ef ok hk hj
 have pu := C4 ok hk hj
 have hgv : z.vals.getD j ⟨0, 0, 0, 0, 0, 0, false, false⟩ = z.val j := rfl
 have hwt : AG (z.val j) n = Af (z.val j) n := by unfold AG Af; rw [if_neg (by omega)]
 have hgi : ((ds[i]?).map (fun d => d.1.shares)).getD 0 = z.sh k j := by simp [hi, hsh]
 have hil : i < (AW ds i).length := by simpa [AW] using hi
 have hpi : (AW ds i)[i] = ({ ds[i].1 with parts := [] }, .slice none 0 0) := by simp [BA ds i hi]
 obtain ⟨g1, g2, g3, g4, g5, g6⟩ := KH ok hk hj n (Af (z.val j) n)
 have gu := GA ok hk hj n (Af (z.val j) n)
 have hoth : Jd (AF z k j) (AZ (AF z k j) k j n (Af (z.val j) n)) k j := ⟨by rw [gu.bl, pu.bl], by rw [gu.vl, pu.vl], by rw [gu.hgt, pu.hgt], fun a b h1 h2 h3 => ⟨by rw [gu.sh a b h1 h2 h3, pu.sh a b h1 h2 h3], by rw [gu.per b h2, gu.upt a b h1 h2 h3, pu.per b h2, pu.upt a b h1 h2 h3]⟩⟩
 have hvals : Ck (AS z.vals j q) j (-(Af (z.val j) n)) (-n) = (AZ (AF z k j) k j n (Af (z.val j) n)).vals := by
  unfold Ck AS
  rw [CR]
  show _ = ((z.vals.modify j _).modify j _).modify j _
  rw [CR, CR, hq]
  congr 1
 have hlc : Bf (Ay z) k ((Ay z).bal.getD k 0 + q) = Ay (AZ (AF z k j) k j n (Af (z.val j) n)) := by rw [hq]; rfl
 unfold lvF
 rw [hat, Int.toNat_natCast, hgv, hgi, hwt]
 -- the delegations
 have hless : CY (AW ds i) i n = (AW ds i).modify i (fun d => ({ d.1 with shares := d.1.shares - n }, d.2)) := rfl
 by_cases h1 : z.sh k j - n = 0
 ·have hgz : ¬ 0 < (AZ (AF z k j) k j n (Af (z.val j) n)).sh k j := by rw [g3]; omega
  have hD : A8 (AZ (AF z k j) k j n (Af (z.val j) n)) ((CY (AW ds i) i n).eraseIdx i) := by
   have e : (CY (AW ds i) i n).eraseIdx i = (AW ds i).eraseIdx i := by
    rw [hless, List.eraseIdx_modify_of_eq]
   rw [e]
   exact hp.gone hoth (by rw [pu.bl]; exact b6) (by rw [pu.vl]; exact v5) hil (by rw [hpi]; exact hw) (by rw [hpi]; exact hv) hgz
  rw [if_neg (by simpa using h1)]
  by_cases h2 : (z.val j).shares - n = 0
  ·rw [if_neg (by simpa using h2)]
   refine ⟨(CY (AW ds i) i n).eraseIdx i, ?_, ?_⟩
   ·unfold AA
    rw [if_pos h2]
    simp only [Prod.mk.injEq, true_and, and_true]
    rw [hvals]
    refine ⟨?_, rfl⟩
    show ({ top := z.top, mature := z.mature, fee := z.fee, height := z.height, fees := z.fees, pool := z.pool + ((z.val j).outs - q) - (z.val j).comm, bal := z.bal.set k (z.balAt k + q) } : LC) = { top := z.top, mature := z.mature, fee := z.fee, height := z.height, fees := z.fees, pool := z.pool + (((AZ (AF z k j) k j n (Af (z.val j) n)).val j).outs - ((AZ (AF z k j) k j n (Af (z.val j) n)).val j).comm), bal := z.bal.set k (z.balAt k + z.due k j) }
    rw [g2, hq]
    simp only
    congr 1
    omega
   ·unfold AA
    rw [if_pos h2]
    exact hD.same rfl (by simp [BQ]) rfl rfl
  ·rw [if_pos h2]
   refine ⟨(CY (AW ds i) i n).eraseIdx i, ?_, ?_⟩
   ·unfold AA
    rw [if_neg h2, hvals, hlc]
   ·unfold AA
    rw [if_neg h2]
    exact hD
 ·rw [if_pos h1]
  have h2 : ¬ (z.val j).shares - n = 0 := by omega
  refine ⟨CY (AW ds i) i n, ?_, ?_⟩
  ·unfold AA
   rw [if_neg h2, hvals, hlc]
  ·unfold AA
   rw [if_neg h2, hless]
   refine hp.upd hoth (by rw [pu.bl]; exact b6) (by rw [pu.vl]; exact v5) hil (by rw [hpi]; exact hw) (by rw [hpi]; exact hv) _ (by rw [hpi]; exact hw) (by rw [hpi]; exact hv) ⟨k, j, by rw [hpi]; exact hw, by rw [hpi]; exact hv, by rw [gu.bl]; exact hk, by rw [gu.vl]; exact hj, ?_, ?_, ?_⟩
   ·rw [hpi, g3]; show ds[i].1.shares - n = _; rw [hsh]
   ·rw [hpi]; show 0 < ds[i].1.shares - n; omega
   ·rw [hpi, g4, gu.per j (by omega), Int.sub_self, gu.hgt]; exact PR.nil ok.hgt0
end
theorem Qy (x : EC) (k : Nat) (tw a : Int) : EP (Ay x) k tw a = if BM x.bal.length (x.balAt k) tw a = 0 then (0, Ay { x with bal := Ec x.bal k tw.toNat a }) else (BM x.bal.length (x.balAt k) tw a, Ay x) := by
 unfold EP BM
 rw [B6, Int.toNat_natCast]
 have e2 : x.balAt k = (Ay x).bal.getD k 0 := rfl
 rw [e2]
 by_cases h : inB tw x.bal.length = true
 ·rw [if_pos (show inB tw (Ay x).bal.length = true from h), if_neg (show ¬ inB tw x.bal.length = false by simp [h])]
  by_cases h1 : a < 1
  ·rw [if_pos h1, if_pos h1, if_neg (by decide)]
  ·rw [if_neg h1, if_neg h1]
   by_cases h2 : (Ay x).bal.getD k 0 < a
   ·rw [if_pos h2, if_pos h2, if_neg (by decide)]
   ·rw [if_neg h2, if_neg h2, if_pos rfl]; rfl
 ·rw [if_neg (show ¬ inB tw (Ay x).bal.length = true from h), if_pos (show inB tw x.bal.length = false by simpa using h), if_neg (by decide)]
theorem PZ (x : EC) (who tw a : Int) {ds : List (DA × Value)} (t : A8 x ds) : G4 (Ay x) who tw a = ((Co x who tw a).1, Ay (Co x who tw a).2) ∧ (Co x who tw a).2.vals = x.vals ∧ (Co x who tw a).2.ents = x.ents ∧ A8 (Co x who tw a).2 ds := by
 unfold G4 Co
 rw [CZ]
 rcases Dr x who with ⟨hc, e⟩ | ⟨k, rfl, hk, hc, hf, e⟩
 ·rw [Bq hc, e]
  simp only
  rw [if_neg hc]
  exact ⟨rfl, by first | rfl | trivial, by first | rfl | trivial, t⟩
 ·rw [e]
  simp only
  rw [if_pos hc, Qy]
  by_cases he : BM (Ab x k).bal.length ((Ab x k).balAt k) tw a = 0
  ·rw [B8 hc he, if_pos he]
   exact ⟨rfl, rfl, rfl, (t.charge k).same (by simp [Ec]) rfl rfl rfl⟩
  ·rw [AP hc he, if_neg he]
   exact ⟨rfl, rfl, rfl, t.charge k⟩
theorem M3 (x : EC) (tw a : Int) {ds : List (DA × Value)} (t : A8 x ds) : DP (Ay x) tw a = ((Bo x tw a).1, Ay (Bo x tw a).2) ∧ (Bo x tw a).2.vals = x.vals ∧ (Bo x tw a).2.ents = x.ents ∧ A8 (Bo x tw a).2 ds := by
 unfold Bo DP BM
 rw [B6]
 by_cases h : inB tw x.bal.length = true
 ·rw [if_pos (show inB tw (Ay x).bal.length = true from h), if_neg (show ¬ inB tw x.bal.length = false by simp [h])]
  by_cases h1 : a < 1
  ·rw [if_pos h1, if_pos h1, if_pos (by decide)]; exact ⟨rfl, rfl, rfl, t⟩
  ·rw [if_neg h1, if_neg h1]
   by_cases h2 : x.pool < a
   ·rw [if_pos (show (Ay x).pool < a from h2), if_pos h2, if_pos (by decide)]; exact ⟨rfl, rfl, rfl, t⟩
   ·rw [if_neg (show ¬ (Ay x).pool < a from h2), if_neg h2, if_neg (by decide)]
    exact ⟨rfl, rfl, rfl, t.same (by simp) rfl rfl rfl⟩
 ·rw [if_neg (show ¬ inB tw (Ay x).bal.length = true from h), if_pos (show inB tw x.bal.length = false by simpa using h), if_pos (by decide)]; exact ⟨rfl, rfl, rfl, t⟩
theorem MF (v : VS) (a : Int) (a1 : 1 <= a) (ok : OM v) : (Dc v a).2 = AX v a ∧ (AX v a = 0 -> (Dc v a).1 = Aw v a) := by
 have s0 := ok.s0
 have t0 := ok.t0
 unfold Dc AX
 by_cases hs : 0 < v.shares
 ·by_cases ht : v.tokens = 0
  ·rw [if_pos hs, if_pos ht, if_pos ⟨hs, ht⟩]; exact ⟨rfl, fun h => by simp at h⟩
  ·have d0 : 0 <= a * v.shares / v.tokens := Int.ediv_nonneg (Int.mul_nonneg (by omega) s0) t0
   have e : Aw v a = a * v.shares / v.tokens := by unfold Aw; rw [if_neg (by omega), if_neg ht]
   rw [e, if_pos hs, if_neg ht, if_neg (show ¬ (0 < v.shares ∧ v.tokens = 0) from fun h => ht h.2)]
   generalize a * v.shares / v.tokens = n at *
   by_cases h0 : n = 0
   ·rw [if_pos h0, if_pos (show n < 1 by omega)]; exact ⟨rfl, fun h => by simp at h⟩
   ·rw [if_neg h0, if_neg (show ¬ n < 1 by omega)]
    by_cases h9 : 1000000 < v.shares + n
    ·rw [if_pos h9, if_pos h9]; exact ⟨rfl, fun h => by simp at h⟩
    ·rw [if_neg h9, if_neg h9]; exact ⟨rfl, fun _ => rfl⟩
 ·have hz : v.shares = 0 := by omega
  have e : Aw v a = a := by unfold Aw; rw [if_pos hz]
  rw [e, if_neg hs, if_neg (show ¬ (0 < v.shares ∧ v.tokens = 0) from fun h => hs h.1), if_neg (show ¬ a = 0 by omega), if_neg (show ¬ a < 1 by omega)]
  by_cases h9 : 1000000 < v.shares + a
  ·rw [if_pos h9, if_pos h9]; exact ⟨rfl, fun h => by simp at h⟩
  ·rw [if_neg h9, if_neg h9]; exact ⟨rfl, fun _ => rfl⟩
theorem Ib {v : VS} {a : Int} (h : AX v a = 0) : 1 <= Aw v a ∧ v.shares + Aw v a <= 1000000 := by
 unfold AX at h
 split at h
 ·simp at h
 ·split at h
  ·simp at h
  ·split at h
   ·simp at h
   ·omega
theorem OF (who v : Int) (y : EC) (hy : y.vals = x.vals) : M4 x.vals who v = BN y who v := by
 unfold M4 BN
 rw [B6, hy]
 by_cases hb : inB v x.vals.length = true
 ·rw [if_pos hb, if_neg (show ¬ inB v x.vals.length = false by simp [hb])]
  have : (x.vals.getD v.toNat ⟨0, 0, 0, 0, 0, 0, false, false⟩) = y.val v.toNat := by unfold EC.val; rw [hy]
  rw [this]
 ·rw [if_neg hb, if_pos (show inB v x.vals.length = false by simpa using hb)]
section
variable {x : EC} (ok : Bl x) {ds : List (DA × Value)} (t : A8 x ds)
include ok t
theorem Pg (who v a q : Int) (hq : E5 x who v q) : ∃ ds', G8 (Ay x) x.vals ds who v a q = ((CG x who v a).1, Ay (CG x who v a).2, (CG x who v a).2.vals, ds') ∧ A8 (CG x who v a).2 ds' ∧ (CG x who v a).2.ents = x.ents := by
 unfold G8 CG
 rw [CZ]
 rcases Dr x who with ⟨hc, e⟩ | ⟨k, rfl, hk, hc, hf, e⟩
 ·rw [Bq hc, e]
  simp only
  rw [if_neg hc]
  exact ⟨ds, rfl, t, by first | rfl | trivial⟩
 ·rw [e]
  simp only
  rw [if_pos hc]
  have hcy := ok.chg hc
  have ty := t.charge k
  have hly : (Ab x k).bal.length = x.bal.length := by simp [Ab]
  have okx' : Ok (Ab x k).height (Ab x k) := hcy
  rw [B6]
  by_cases hb : inB v x.vals.length = true
  ·obtain ⟨j, rfl, hj⟩ := Bn hb
   rw [if_pos hb]
   have hbz : ¬ inB (j : Int) (Ab x k).vals.length = false := by rw [show (Ab x k).vals = x.vals from rfl]; simp [hb]
   have hbe : BV (Ab x k) k j a = if a < 1 then 5 else if (Ab x k).balAt k < a then 4 else AX ((Ab x k).val j) a := by
    unfold BV; rw [if_neg hbz, Int.toNat_natCast]
   simp only [Int.toNat_natCast]
   by_cases ha : a < 1
   ·have he : ¬ BV (Ab x k) k j a = 0 := by rw [hbe, if_pos ha]; decide
    rw [if_pos ha, AP hc he, hbe, if_pos ha]
    exact ⟨ds, rfl, ty, by first | rfl | trivial⟩
   rw [if_neg ha]
   by_cases hbl : (Ab x k).balAt k < a
   ·have he : ¬ BV (Ab x k) k j a = 0 := by rw [hbe, if_neg ha, if_pos hbl]; decide
    rw [if_pos (show (Ay (Ab x k)).bal.getD k 0 < a from hbl), AP hc he, hbe, if_neg ha, if_pos hbl]
    exact ⟨ds, rfl, ty, by first | rfl | trivial⟩
   rw [if_neg (show ¬ (Ay (Ab x k)).bal.getD k 0 < a from hbl)]
   have hvj : x.vals.getD j ⟨0, 0, 0, 0, 0, 0, false, false⟩ = (Ab x k).val j := rfl
   rw [hvj]
   obtain ⟨be1, be2⟩ := MF ((Ab x k).val j) a (by omega) (okx'.val j hj)
   rw [be1]
   by_cases he0 : AX ((Ab x k).val j) a = 0
   ·have he : BV (Ab x k) k j a = 0 := by rw [hbe, if_neg ha, if_neg hbl, he0]
    rw [if_pos he0, B8 hc he]
    obtain ⟨n1, n2⟩ := Ib he0
    have hbn : ∀ i, i < (Ab x k).bal.length -> 0 <= ((Ab x k).bal.set k ((Ab x k).balAt k - a)).getD i 0 := fun i hi => by
     rw [BS _ _ _ _ (by omega)]
     split
     ·omega
     ·exact okx'.bal i hi
    have hsum := Cy (Ab x k).bal k ((Ab x k).balAt k - a) (by omega)
    have htot := okx'.tot
    have hg : (Ab x k).bal.getD k 0 = (Ab x k).balAt k := rfl
    rw [hg] at hsum
    have okz : Ok (Ab x k).height { Ab x k with bal := (Ab x k).bal.set k ((Ab x k).balAt k - a), fees := (Ab x k).fees, pool := (Ab x k).pool } := okx'.acc _ _ _ (by simp) hbn okx'.fees okx'.pool (by rw [hsum]; omega)
    have tz : A8 { Ab x k with bal := (Ab x k).bal.set k ((Ab x k).balAt k - a), fees := (Ab x k).fees, pool := (Ab x k).pool } ds := ty.same (by simp) rfl rfl rfl
    have hd : q = EC.due { Ab x k with bal := (Ab x k).bal.set k ((Ab x k).balAt k - a), fees := (Ab x k).fees, pool := (Ab x k).pool } k j := hq k j rfl rfl hk hj
    obtain ⟨ds', e1, e2⟩ := JK okz tz (k := k) (j := j) (by simp; omega) hj a (Dc ((Ab x k).val j) a).1 q (be2 he0) (by rw [be2 he0]; exact n1) hd
    refine ⟨ds', ?_, e2, rfl⟩
    have e3 : Bf (Ay (Ab x k)) k ((Ay (Ab x k)).bal.getD k 0 - a) = Ay { Ab x k with bal := (Ab x k).bal.set k ((Ab x k).balAt k - a), fees := (Ab x k).fees, pool := (Ab x k).pool } := rfl
    rw [e3]
    have e4 : x.vals = EC.vals { Ab x k with bal := (Ab x k).bal.set k ((Ab x k).balAt k - a), fees := (Ab x k).fees, pool := (Ab x k).pool } := rfl
    rw [e4, e1]
   ·have he : ¬ BV (Ab x k) k j a = 0 := by rw [hbe, if_neg ha, if_neg hbl]; exact he0
    rw [if_neg he0, AP hc he, hbe, if_neg ha, if_neg hbl]
    exact ⟨ds, rfl, ty, by first | rfl | trivial⟩
  ·have hb' : inB v x.vals.length = false := by simpa using hb
   have he : BV (Ab x k) k v a = 3 := by unfold BV; rw [if_pos (show inB v (Ab x k).vals.length = false from hb')]
   rw [if_neg hb, AP hc (by rw [he]; decide), he]
   exact ⟨ds, rfl, ty, by first | rfl | trivial⟩
end
theorem Pu {ds : List (DA × Value)} (t : A8 x ds) (who v : Int) : D0 (Ay x) x.vals who v = ((CH x who v).1, Ay (CH x who v).2, (CH x who v).2.vals) ∧ A8 (CH x who v).2 ds ∧ (CH x who v).2.ents = x.ents := by
 unfold D0 CH CB
 rw [CZ]
 rcases Dr x who with ⟨hc, e⟩ | ⟨k, rfl, hk, hc, hf, e⟩
 ·rw [Bq hc, e]
  simp only
  rw [if_neg hc, if_neg hc]
  exact ⟨rfl, t, by first | rfl | trivial⟩
 ·rw [e]
  simp only
  rw [if_pos hc, OF (x := x) k v (Ab x k) rfl]
  by_cases he : BN (Ab x k) k v = 0
  ·rw [B8 hc he, if_pos he]
   refine ⟨?_, (t.charge k).same (by simp [Ce]) (by simp [Ce]) rfl rfl, rfl⟩
   simp only [Prod.mk.injEq, true_and]
   refine ⟨rfl, ?_⟩
   unfold Ia
   show _ = (x.vals.modify v.toNat _).modify v.toNat _
   rw [CR]
  ·rw [AP hc he, if_neg he]
   exact ⟨rfl, t.charge k, by first | rfl | trivial⟩
theorem PU {ds : List (DA × Value)} (t : A8 x ds) (who v : Int) : IP (Ay x) x.vals who v = ((CJ x who v).1, Ay (CJ x who v).2, (CJ x who v).2.vals) ∧ A8 (CJ x who v).2 ds ∧ (CJ x who v).2.ents = x.ents := by
 unfold IP CJ CB
 rw [CZ]
 rcases Dr x who with ⟨hc, e⟩ | ⟨k, rfl, hk, hc, hf, e⟩
 ·rw [Bq hc, e]
  simp only
  rw [if_neg hc, if_neg hc]
  exact ⟨rfl, t, by first | rfl | trivial⟩
 ·rw [e]
  simp only
  rw [if_pos hc, OF (x := x) k v (Ab x k) rfl]
  have hv : x.vals.getD v.toNat ⟨0, 0, 0, 0, 0, 0, false, false⟩ = (Ab x k).val v.toNat := rfl
  rw [hv]
  by_cases ho : BN (Ab x k) k v = 0
  ·rw [if_pos ho]
   by_cases hj : ((Ab x k).val v.toNat).jailed = true
   ·have he : Cc (Ab x k) k v = 0 := by unfold Cc; rw [if_neg (by simpa using ho), if_pos hj]
    rw [if_pos hj, B8 hc he]
    exact ⟨rfl, (t.charge k).same rfl (by simp [ET]) rfl rfl, rfl⟩
   ·have he : Cc (Ab x k) k v = 11 := by unfold Cc; rw [if_neg (by simpa using ho), if_neg hj]
    rw [if_neg hj, AP hc (by rw [he]; decide), he]
    exact ⟨rfl, t.charge k, by first | rfl | trivial⟩
  ·have he : Cc (Ab x k) k v = BN (Ab x k) k v := by unfold Cc; rw [if_pos ho]
   rw [if_neg ho, AP hc (by rw [he]; exact ho), he]
   exact ⟨rfl, t.charge k, by first | rfl | trivial⟩
theorem E0 (who v : Int) (l : List ES) : (Ep who v l : Int) = AD l who v := by
 have key : ∀ (l : List ES) (a : Int), l.foldl (fun n e => if e.who = who ∧ e.val = v then n + 1 else n) a = a + (Ep who v l : Int) := by
  intro l
  induction l with
  | nil => intro a; simp [Ep]
  | cons e l ih =>
   intro a
   rw [List.foldl_cons, ih]
   unfold Ep
   rw [List.countP_cons]
   by_cases h : e.who = who ∧ e.val = v
   ·rw [if_pos h, if_pos (by simp [h.1, h.2])]; push_cast; omega
   ·rw [if_neg h, if_neg (by simpa using h)]; simp
 unfold AD
 rw [key]; omega
theorem Io {ds : List (DA × Value)} (t : A8 x ds) {k j : Nat} (hk : k < x.bal.length) (hj : j < x.vals.length) (s0 : 0 <= x.sh k j) (n : Int) : DN ds k j n = true ↔ ¬ (n < 1 ∨ x.sh k j < n) := by
 by_cases hs : 0 < x.sh k j
 ·obtain ⟨i, hi, hat, hw, hv, hsh, _⟩ := t.at hk hj hs
  unfold DN
  rw [Iw hat]
  simp [hi, hsh]
 ·have hat : atF ds k j = -1 := t.no (fun k' j' h1 h2 _ _ => by
   have : k' = k := by omega
   have : j' = j := by omega
   subst k' j'; exact hs)
  unfold DN
  rw [I0 hat]
  simp
  omega
section
variable {x : EC} (ok : Bl x) {ds : List (DA × Value)} (t : A8 x ds) (hc4 : ∀ k j : Int, AD x.ents k j <= 4)
include ok t hc4
theorem Qu (who v n q : Int) (hq : E5 x who v q) : ∃ ds', DT (Ay x) x.vals ds x.ents who v n q = ((D8 x who v n).1, Ay (D8 x who v n).2, (D8 x who v n).2.vals, ds', (D8 x who v n).2.ents) ∧ A8 (D8 x who v n).2 ds' := by
 unfold DT D8
 rw [CZ]
 rcases Dr x who with ⟨hc, e⟩ | ⟨k, rfl, hk, hc, hf, e⟩
 ·rw [Bq hc, e]
  simp only
  rw [if_neg hc]
  exact ⟨ds, rfl, t⟩
 ·rw [e]
  simp only
  rw [if_pos hc]
  have hcy := ok.chg hc
  have ty := t.charge k
  have hly : (Ab x k).bal.length = x.bal.length := by simp [Ab]
  have okx' : Ok (Ab x k).height (Ab x k) := hcy
  rw [B6]
  by_cases hb : inB v x.vals.length = true
  ·obtain ⟨j, rfl, hj⟩ := Bn hb
   rw [if_pos hb]
   have b6 := okx'.b6
   have v5 := okx'.v5
   have hj5 : j < 5 := by have : (Ab x k).vals.length = x.vals.length := rfl; omega
   have s0 : 0 <= x.sh k j := okx'.sh0 k j (by omega) hj5
   have hbz : ¬ inB (j : Int) (Ab x k).vals.length = false := by rw [show (Ab x k).vals = x.vals from rfl]; simp [hb]
   have hue : Cj (Ab x k) k j n = if n < 1 ∨ x.sh k j < n then 6 else if 4 <= AD x.ents k j then 9 else 0 := by
    unfold Cj; rw [if_neg hbz, Int.toNat_natCast]; rfl
   simp only [Int.toNat_natCast]
   by_cases hh : DN ds k j n = true
   ·have hh' := (Io t hk hj s0 n).1 hh
    rw [if_pos hh]
    by_cases h4 : Ep k j x.ents = 4
    ·have he : Cj (Ab x k) k j n = 9 := by rw [hue, if_neg hh', if_pos (by rw [<- E0]; omega)]
     rw [if_pos h4, AP hc (by rw [he]; decide), he]
     exact ⟨ds, rfl, ty⟩
    ·have h4' := hc4 k j
     rw [<- E0] at h4'
     have he : Cj (Ab x k) k j n = 0 := by rw [hue, if_neg hh', if_neg (by rw [<- E0]; omega)]
     rw [if_neg h4, B8 hc he]
     have hd : q = (Ab x k).due k j := hq k j rfl rfl hk hj
     obtain ⟨ds', e1, e2⟩ := GP okx' ty (k := k) (j := j) (by omega) hj n q (by omega) (show n <= x.sh k j by omega) hd
     have e1' : lvF (Ay (Ab x k)) x.vals ds k j n q = _ := e1
     rw [e1']
     simp only
     have hlh : (Ay (AA (Ab x k) k j n)).height = (AA (Ab x k) k j n).height := rfl
     have hle : (AA (Ab x k) k j n).ents = x.ents := by unfold AA; split <;> rfl
     refine ⟨ds', ?_, ?_⟩
     ·unfold FB ER
      rw [hlh]
      by_cases ht : 0 < Af ((Ab x k).val j) n
      ·rw [if_pos ht, if_neg (by omega), hle]; rfl
      ·rw [if_neg ht, if_pos (by omega), hle]
     ·unfold FB ER
      split
      ·exact e2
      ·exact e2.same rfl rfl rfl rfl
   ·have hh' : n < 1 ∨ x.sh k j < n := Classical.byContradiction (fun h => hh ((Io t hk hj s0 n).2 h))
    have he : Cj (Ab x k) k j n = 6 := by rw [hue, if_pos hh']
    rw [if_neg hh, AP hc (by rw [he]; decide), he]
    exact ⟨ds, rfl, ty⟩
  ·have hb' : inB v x.vals.length = false := by simpa using hb
   have he : Cj (Ab x k) k v n = 3 := by unfold Cj; rw [if_pos (show inB v (Ab x k).vals.length = false from hb')]
   rw [if_neg hb, AP hc (by rw [he]; decide), he]
   exact ⟨ds, rfl, ty⟩
end
theorem LF.setEnt {ds : List (DA × Value)} {ge n cap : Nat} {ents' : List ES} (h : LF F0 W0 w g c bv vv dv (.slice (some ⟨ge, 0, none⟩) n cap) vals ds ents) (hn : n = ents.length) (i : Nat) (u : Value) (he : (Bi ents).set i u = Bi ents') (hl : ents'.length = ents.length) : LF F0 W0 (w.setCell ⟨ge, i, none⟩ u) g c bv vv dv (.slice (some ⟨ge, 0, none⟩) n cap) vals ds ents' := by
 subst hn
 have hne : g ≠ ge := fun e => Has.apart h.C.L h.e (by decide) (by rw [e]; rfl)
 have hrow : (w.setCell ⟨ge, i, none⟩ u).ownsRow 0 131 4 (.slice (some ⟨ge, 0, none⟩) ents.length cap) ents.length (Bi ents') := by
  have := (h.e.stored i u).1
  rwa [he] at this
 exact ⟨h.fr.setCell (p := ⟨ge, i, none⟩) (h.fe ge rfl) u, h.fg, h.fb, h.fv, h.fd, h.fe, h.fp, ⟨h.C.L.other _ _ hne, Aa h.C.b _ _ (Bd h.C.b h.e (by decide))⟩, Aa h.v _ _ (Bd h.v h.e (by decide)), Aa h.d _ _ (Bd h.d h.e (by decide)), fun j hj => Aa (h.p j hj) _ _ (Bd (h.p j hj) h.e (by decide)), by rw [hl]; exact hrow⟩
theorem LF.setPool {ev : Value} {ds : List (DA × Value)} (h : LF F0 W0 w g c bv vv dv ev vals ds ents) (x : Int) : LF F0 W0 (w.setCell ⟨g, 6, none⟩ (.int .i64 x)) g { c with pool := x } bv vv dv ev vals ds ents := h.setHead 6 _ (h.C.setPool x)
theorem NH (g : Nat) (x : EC) (bv vv dv ev : Value) (ds : List (DA × Value)) (w : World) (h : LF F0 W0 w g (Ay x) bv vv dv ev x.vals ds x.ents) (okx : Ok x.height x) (hel : x.ents.length <= 100000) (j : Nat) (hgt p : Int) (hj : j < x.vals.length) (hg0 : 0 <= hgt) (hg1 : hgt <= x.height) (p0 : 1 <= p) (p1 : p <= 100) :
  Calls Tryz.prog 71 #[.pointer (some ⟨g, 0, none⟩), .int .i64 j, .int .i64 hgt, .int .i64 p] w fun e w' => e = .returned (.int .i64 0) ∧ LF F0 W0 w' g (Ay (Bg x j hgt p)) bv vv dv ev (Bg x j hgt p).vals ds (Bg x j hgt p).ents := by
 have v5 := okx.v5
 obtain ⟨b1, b2, b3, b4, b5⟩ := okx.bds
 have t0 := (okx.val j hj).t0
 have t1 := (b4 j hj).1
 have q0 := okx.pool
 have q1 := b3
 have hsl := okx.slOk (hgt := hgt) hj p0 p1 hel
 have HV : Hid (Calls Tryz.prog 100 #[.pointer (some ⟨g, 0, none⟩), .int .i64 j] w fun e w' => e = .returned (.bool true) ∧ w = w') := by
  have := DG g vv x.vals j w (h.lvals (by omega))
  rwa [show inN (j : Int) 0 ((x.vals.length : Int) - 1) = true by rw [B6]; unfold inB; simp [hj]] at this
 obtain ⟨va, vc, rfl⟩ := Ac h.v
 obtain ⟨gv, rfl, _⟩ := Ag h.v (by omega)
 obtain ⟨ea, ec, rfl⟩ := Ac h.e
 have c3 : w.cell? ⟨g, 3, none⟩ = some (.int .i64 x.height) := h.C.L.cell 3
 have c6 : w.cell? ⟨g, 6, none⟩ = some (.int .i64 x.pool) := h.C.L.cell 6
 have f6 := h.C.L.frozen 6
 have c7 : w.cell? ⟨g, 7, none⟩ = some (.slice (some ⟨gv, 0, none⟩) x.vals.length vc) := h.C.L.cell 7
 have y2 : w.cell? ⟨gv, j * 8 + 2, none⟩ = some (.int .i64 (x.val j).tokens) := by
  have := (h.v.cellAt (j * 8 + 2) (by omega)).trans (An x.vals j hj 2 (by omega))
  rw [x.val_eq hj] at this
  simpa [VS.cells] using this
 have f2 := h.v.frozenAt (j * 8 + 2)
 have n3 : g ≠ gv := fun e => Has.apart h.C.L h.v (by decide) (by rw [e]; rfl)
 have n4 : gv ≠ g := fun e => n3 e.symm
 obtain ⟨l0, l1⟩ := Dy t0 (show 0 <= p by omega) p1
 have m0 : 0 <= (x.val j).tokens * p := Int.mul_nonneg t0 (by omega)
 have m1 : (x.val j).tokens * p <= (x.val j).tokens * 100 := Int.mul_le_mul_of_nonneg_left p1 t0
 have m2 : (x.val j).tokens * p <= 100000000 := by omega
 have HP : Hid (∀ u : World, u.heap = ((w.setCell ⟨gv, j * 8 + 2, none⟩ (.int .i64 ((x.val j).tokens - Bb (x.val j).tokens p))).setCell ⟨g, 6, none⟩ (.int .i64 (x.pool + Bb (x.val j).tokens p))).heap -> u.os = w.os -> u.tape = w.tape -> u.output = w.output -> LF F0 W0 u g (Ay (AJ x j p)) bv (.slice (some ⟨gv, 0, none⟩) x.vals.length vc) dv (.slice ea x.ents.length ec) (AJ x j p).vals ds x.ents) := by
  intro u e1 e2 e3 e4
  have hP1 := h.setVal rfl (j * 8 + 2) (.int .i64 ((x.val j).tokens - Bb (x.val j).tokens p)) (vals' := x.vals.modify j (fun v => { v with tokens := v.tokens - Bb (x.val j).tokens p })) (Bk x.vals j hj 2 _ _ (by rw [x.val_eq hj]; rfl) (by omega)) (by simp)
  exact (hP1.setPool (x.pool + Bb (x.val j).tokens p)).eta e1 e2 e3 e4
 -- the rest, behind the tokens
 have HQ : Hid (Bg x j hgt p = GW { AJ x j p with pool := (Aq (AJ x j p) j hgt p x.ents.length).1, ents := (Aq (AJ x j p) j hgt p x.ents.length).2 } j) := rfl
 have hye : (AJ x j p).ents = x.ents := rfl
 have hyv : (AJ x j p).vals.length = x.vals.length := by simp [AJ]
 have HK := Hd hsl
 have HX : Hid (Ay (AJ x j p) = Ay (AJ x j p)) := rfl
 clear hsl h okx b1 b2 b3 b4 b5
 generalize hY : AJ x j p = y at *
 clear hY
 go_enter Tryz.func71, Tryz.ntmps71
 go_wp2_with fail
 refine HV.out.mono ?_
 rintro e w' ⟨rfl, rfl⟩
 clear HV
 unfold Bb at *
 generalize (x.val j).tokens = tk at *
 generalize x.pool = po at *
 go_wp2_with fail
 go_region
 go_wp2
 have HP1 : Hid (LF F0 W0 ((w.setCell ⟨gv, j * 8 + 2, none⟩ (.int .i64 (tk - tk * p / 100))).setCell ⟨g, 6, none⟩ (.int .i64 (po + tk * p / 100))).drew g (Ay y) bv (.slice (some ⟨gv, 0, none⟩) x.vals.length vc) dv (.slice ea x.ents.length ec) y.vals ds x.ents) := HP.out _ rfl rfl rfl rfl
 clear HP
 generalize ((w.setCell ⟨gv, j * 8 + 2, none⟩ (.int .i64 (tk - tk * p / 100))).setCell ⟨g, 6, none⟩ (.int .i64 (po + tk * p / 100))).drew = w1 at *
 clear c3 c6 f6 c7 y2 f2 l0 l1 m0 m1 m2 t0 t1 q0 q1
 go_loopw [11] (fun i wr => ∃ k : Nat, k <= x.ents.length ∧ i = .int .i64 k ∧ LF F0 W0 wr g { Ay y with pool := (Aq y j hgt p k).1 } bv (.slice (some ⟨gv, 0, none⟩) x.vals.length vc) dv (.slice ea x.ents.length ec) y.vals ds (Aq y j hgt p k).2) (fun i _ => x.ents.length - (intOf i).toNat)
 case atStart => exact ⟨0, Nat.zero_le _, rfl, by show LF F0 W0 w1 g _ _ _ _ _ _ _ y.ents; rw [hye]; exact HP1.out⟩
 case round =>
  clear HP1
  obtain ⟨k, hk, rfl, hP⟩ := hrel
  by_cases hlt : k < x.ents.length
  ·have hlty : k < y.ents.length := by rw [hye]; exact hlt
   have hE' := HK.out.e k hlty
   obtain ⟨q0, q1⟩ := HK.out.q k (by omega)
   have hln := EF y j hgt p k
   rw [hye] at hln
   have egd : y.ents.getD k e0 = x.ents[k] := by rw [hye]; simp [hlt]
   have hkl : k < (Aq y j hgt p k).2.length := by omega
   have hat : (Aq y j hgt p k).2[k] = x.ents[k] := by
    have := Gy y j hgt p k k (Nat.le_refl _)
    rw [egd] at this
    rw [<- this]
    simp [hkl]
   have hEq : y.ents[k] = x.ents[k] := by simp [hye]
   rw [hEq] at hE'
   obtain ⟨am0, am1⟩ := hE'
   have hE : wr.ownsRow 0 131 4 (.slice ea x.ents.length ec) (Aq y j hgt p k).2.length (Bi (Aq y j hgt p k).2) := hP.e
   rw [hln] at hE
   obtain ⟨ge, rfl, _⟩ := Ag hE (by omega)
   have c6 : wr.cell? ⟨g, 6, none⟩ = some (.int .i64 (Aq y j hgt p k).1) := hP.C.L.cell 6
   have f6 := hP.C.L.frozen 6
   have c9 : wr.cell? ⟨g, 9, none⟩ = some (.slice (some ⟨ge, 0, none⟩) x.ents.length ec) := hP.C.L.cell 9
   have z1 : wr.cell? ⟨ge, k * 4 + 1, none⟩ = some (.int .i64 x.ents[k].val) := by rw [<- hat]; exact (hE.cellAt (k * 4 + 1) (by omega)).trans (AC _ k hkl 1 (by omega))
   have z2 : wr.cell? ⟨ge, k * 4 + 2, none⟩ = some (.int .i64 x.ents[k].made) := by rw [<- hat]; exact (hE.cellAt (k * 4 + 2) (by omega)).trans (AC _ k hkl 2 (by omega))
   have z3 : wr.cell? ⟨ge, k * 4 + 3, none⟩ = some (.int .i64 x.ents[k].amount) := by rw [<- hat]; exact (hE.cellAt (k * 4 + 3) (by omega)).trans (AC _ k hkl 3 (by omega))
   have f3 := hE.frozenAt (k * 4 + 3)
   have n1 : g ≠ ge := fun e => Has.apart hP.C.L hP.e (by decide) (by rw [e]; rfl)
   have n2 : ge ≠ g := fun e => n1 e.symm
   by_cases hm : x.ents[k].val = j ∧ hgt <= x.ents[k].made
   ·have HL : Hid (Aq y j hgt p (k + 1) = ((Aq y j hgt p k).1 + Bb x.ents[k].amount p, (Aq y j hgt p k).2.set k (KQ p x.ents[k]))) := by
     show (if (y.ents.getD k e0).val = j ∧ hgt <= (y.ents.getD k e0).made then _ else _) = _
     rw [egd, if_pos hm]
    obtain ⟨hm1, hm2⟩ := hm
    obtain ⟨l0, l1⟩ := Dy am0 (show 0 <= p by omega) p1
    have m0 : 0 <= x.ents[k].amount * p := Int.mul_nonneg am0 (by omega)
    have m1 : x.ents[k].amount * p <= x.ents[k].amount * 100 := Int.mul_le_mul_of_nonneg_left p1 am0
    have m2 : x.ents[k].amount * p <= 100000000 := by omega
    have hPs := (hP.setEnt hln.symm (k * 4 + 3) (.int .i64 (x.ents[k].amount - Bb x.ents[k].amount p)) (ents' := (Aq y j hgt p k).2.set k (KQ p x.ents[k])) (Lc _ k hkl 3 _ _ (by rw [hat]; rfl) (by omega)) (by simp)).setPool ((Aq y j hgt p k).1 + Bb x.ents[k].amount p)
    have HPs : Hid (LF F0 W0 ((wr.setCell ⟨ge, k * 4 + 3, none⟩ (.int .i64 (x.ents[k].amount - Bb x.ents[k].amount p))).setCell ⟨g, 6, none⟩ (.int .i64 ((Aq y j hgt p k).1 + Bb x.ents[k].amount p))) g { Ay y with pool := (Aq y j hgt p (k + 1)).1 } bv (.slice (some ⟨gv, 0, none⟩) x.vals.length vc) dv (.slice (some ⟨ge, 0, none⟩) x.ents.length ec) y.vals ds (Aq y j hgt p (k + 1)).2) := by
     rw [HL.out]; exact hPs
    rw [hm1] at z1
    clear hP hPs HQ HK hE egd hat HL hln hkl hm1 hEq
    generalize (Aq y j hgt p k).1 = po at *
    unfold Bb at *
    generalize x.ents[k].made = emd at *
    generalize x.ents[k].amount = eam at *
    go_wp2
    all_goals
     try go_region
     try go_wp2
     try go_region
     try go_wp2
    refine And.intro ?_ ?_
    ·first
      | exact ⟨k + 1, by omega, by go_num, HPs.out.eta rfl rfl rfl rfl⟩
      | ((repeat apply Exists.intro); exact ⟨⟨k + 1, by omega, by go_num, HPs.out.eta rfl rfl rfl rfl⟩, rfl⟩)
    ·simp [intOf]; omega
   ·have HL : Hid (Aq y j hgt p (k + 1) = Aq y j hgt p k) := by
     show (if (y.ents.getD k e0).val = j ∧ hgt <= (y.ents.getD k e0).made then _ else _) = _
     rw [egd, if_neg hm]
    have HPs : Hid (LF F0 W0 wr g { Ay y with pool := (Aq y j hgt p (k + 1)).1 } bv (.slice (some ⟨gv, 0, none⟩) x.vals.length vc) dv (.slice (some ⟨ge, 0, none⟩) x.ents.length ec) y.vals ds (Aq y j hgt p (k + 1)).2) := by
     rw [HL.out]; exact hP
    clear hP HQ HK hE egd hat HL hln hkl hEq
    generalize x.ents[k].made = emd at *
    generalize x.ents[k].val = evl at *
    by_cases hv : evl = j
    ·have hm2 : emd < hgt := by
      have : ¬ hgt <= emd := fun hh => hm ⟨hv, hh⟩
      omega
     rw [hv] at z1
     clear hm hv
     go_wp2
     refine And.intro ?_ ?_
     ·first
       | exact ⟨k + 1, by omega, by go_num, HPs.out.eta rfl rfl rfl rfl⟩
       | ((repeat apply Exists.intro); exact ⟨⟨k + 1, by omega, by go_num, HPs.out.eta rfl rfl rfl rfl⟩, rfl⟩)
     ·simp [intOf]; omega
    ·have hv' : (evl == (j : Int)) = false := by simp [hv]
     clear hm hv
     go_wp2
     refine And.intro ?_ ?_
     ·first
       | exact ⟨k + 1, by omega, by go_num, HPs.out.eta rfl rfl rfl rfl⟩
       | ((repeat apply Exists.intro); exact ⟨⟨k + 1, by omega, by go_num, HPs.out.eta rfl rfl rfl rfl⟩, rfl⟩)
     ·simp [intOf]; omega
  ·have hke : k = x.ents.length := by omega
   subst hke
   have hjy : j < y.vals.length := by omega
   have c7 : wr.cell? ⟨g, 7, none⟩ = some (.slice (some ⟨gv, 0, none⟩) x.vals.length vc) := hP.C.L.cell 7
   have c9 : wr.cell? ⟨g, 9, none⟩ = some (.slice ea x.ents.length ec) := hP.C.L.cell 9
   have hV : wr.ownsRow 0 114 8 (.slice (some ⟨gv, 0, none⟩) x.vals.length vc) y.vals.length (A5 y.vals) := hP.v
   rw [hyv] at hV
   obtain ⟨u6, z6⟩ : ∃ u, wr.cell? ⟨gv, j * 8 + 6, none⟩ = some u := ⟨_, (hV.cellAt (j * 8 + 6) (by omega)).trans ((An y.vals j hjy 6 (by omega)).trans rfl)⟩
   obtain ⟨u7, z7⟩ : ∃ u, wr.cell? ⟨gv, j * 8 + 7, none⟩ = some u := ⟨_, (hV.cellAt (j * 8 + 7) (by omega)).trans ((An y.vals j hjy 7 (by omega)).trans rfl)⟩
   have f6 := hV.frozenAt (j * 8 + 6)
   have f7 := hV.frozenAt (j * 8 + 7)
   have hP1 := hP.setVal hyv.symm (j * 8 + 6) (.bool true) (vals' := y.vals.modify j (fun v => { v with jailed := true })) (Bk y.vals j hjy 6 _ _ (by simp [VS.cells]) (by omega)) (by simp)
   have hP2 := hP1.setVal (by simpa using hyv.symm) (j * 8 + 7) (.bool false) (vals' := (y.vals.modify j (fun v => { v with jailed := true })).modify j (fun v => { v with inset := false })) (Bk _ j (by simpa using hjy) 7 _ _ (by simp [VS.cells]) (by omega)) (by simp)
   have HF : Hid (LF F0 W0 ((wr.setCell ⟨gv, j * 8 + 6, none⟩ (.bool true)).setCell ⟨gv, j * 8 + 7, none⟩ (.bool false)) g (Ay (Bg x j hgt p)) bv (.slice (some ⟨gv, 0, none⟩) x.vals.length vc) dv (.slice ea x.ents.length ec) (Bg x j hgt p).vals ds (Bg x j hgt p).ents) := by
    rw [HQ.out]; exact hP2
   clear hP hP1 hP2 hV HQ HK
   go_wp2
   try go_region
   try go_wp2
   try go_region
   try go_wp2
   go_ret
   exact ⟨rfl, HF.out.eta rfl rfl rfl rfl⟩
theorem RA (g : Nat) (x : EC) (bv vv dv ev : Value) (ds : List (DA × Value)) (w : World) (h : LF F0 W0 w g (Ay x) bv vv dv ev x.vals ds x.ents) (ok : Bl x) (hel : x.ents.length <= 100000) (val hgt p : Int) :
  Calls Tryz.prog 71 #[.pointer (some ⟨g, 0, none⟩), .int .i64 val, .int .i64 hgt, .int .i64 p] w fun e w' => e = .returned (.int .i64 (Bw x val hgt p).1) ∧ LF F0 W0 w' g (Ay (Bw x val hgt p).2) bv vv dv ev (Bw x val hgt p).2.vals ds (Bw x val hgt p).2.ents := by
 have okx : Ok x.height x := ok
 have v5 := okx.v5
 unfold Bw
 by_cases he : CM x val hgt p = 0
 ·rw [if_neg (by simpa using he)]
  obtain ⟨j, rfl, hj, g0, g1, p0, p1⟩ := Fl he
  rw [Int.toNat_natCast]
  exact NH g x bv vv dv ev ds w h okx hel j hgt p hj g0 g1 p0 p1
 ·rw [if_pos he]
  have HR := Hd h
  have HV : Hid (Calls Tryz.prog 100 #[.pointer (some ⟨g, 0, none⟩), .int .i64 val] w fun e w' => e = .returned (.bool (inB val x.vals.length)) ∧ w = w') := by
   have := DG g vv x.vals val w (h.lvals (by omega))
   rwa [B6] at this
  have c3 : w.cell? ⟨g, 3, none⟩ = some (.int .i64 x.height) := h.C.L.cell 3
  obtain ⟨R, hR⟩ : ∃ R, CM x val hgt p = R := ⟨_, rfl⟩
  rw [hR] at he ⊢
  unfold CM at hR
  simp only
  clear h
  generalize x.height = xh at *
  cases hb : inB val x.vals.length with
  | false =>
   rw [hb] at HV hR
   rw [if_pos rfl] at hR
   have HE := Hd hR
   clear hR he
   go_enter Tryz.func71, Tryz.ntmps71
   go_wp2_with fail
   refine HV.out.mono ?_
   rintro e w' ⟨rfl, rfl⟩
   clear HV
   go_wp2
   go_ret
   rw [<- HE.out]; exact ⟨rfl, HR.out⟩
  | true =>
   rw [hb] at HV hR
   rw [if_neg (by decide)] at hR
   clear hb
   by_cases h2 : hgt < 0 ∨ xh < hgt
   ·rw [if_pos h2] at hR
    have HE := Hd hR
    clear hR he
    by_cases h3 : hgt < 0
    ·clear h2
     go_enter Tryz.func71, Tryz.ntmps71
     go_wp2_with fail
     refine HV.out.mono ?_
     rintro e w' ⟨rfl, rfl⟩
     clear HV
     go_wp2
     go_ret
     rw [<- HE.out]; exact ⟨rfl, HR.out⟩
    ·have h4 : xh < hgt := by omega
     clear h2
     go_enter Tryz.func71, Tryz.ntmps71
     go_wp2_with fail
     refine HV.out.mono ?_
     rintro e w' ⟨rfl, rfl⟩
     clear HV
     go_wp2
     go_ret
     rw [<- HE.out]; exact ⟨rfl, HR.out⟩
   ·rw [if_neg h2] at hR
    have h3 : ¬ hgt < 0 := fun h => h2 (.inl h)
    have h4 : ¬ xh < hgt := fun h => h2 (.inr h)
    clear h2
    by_cases h5 : p < 1 ∨ 100 < p
    ·rw [if_pos h5] at hR
     have HE := Hd hR
     clear hR he
     by_cases h6 : p < 1
     ·clear h5
      go_enter Tryz.func71, Tryz.ntmps71
      go_wp2_with fail
      refine HV.out.mono ?_
      rintro e w' ⟨rfl, rfl⟩
      clear HV
      go_wp2
      go_ret
      rw [<- HE.out]; exact ⟨rfl, HR.out⟩
     ·have h7 : 100 < p := by omega
      clear h5
      go_enter Tryz.func71, Tryz.ntmps71
      go_wp2_with fail
      refine HV.out.mono ?_
      rintro e w' ⟨rfl, rfl⟩
      clear HV
      go_wp2
      go_ret
      rw [<- HE.out]; exact ⟨rfl, HR.out⟩
    ·rw [if_neg h5] at hR
     exact absurd hR.symm he
theorem Oi {ds : List (DA × Value)} (t : A8 x ds) (val hgt p : Int) : A8 (Bw x val hgt p).2 ds := by
 unfold Bw
 split
 ·exact t
 ·exact t.same rfl (by simp [Bg, GW, C9, AJ]) rfl rfl
theorem Ee (ok : Ok H x) {ds : List (DA × Value)} (t : A8 x ds) : Gx (Ay x) x.vals ds := by
 obtain ⟨b1, b2, b3, b4, b5⟩ := ok.bds
 have b6 := ok.b6
 have v5 := ok.v5
 have hbal : ∀ k (h : k < x.bal.length), x.bal[k] = x.balAt k := fun k h => by unfold EC.balAt; simp [h]
 refine ⟨⟨by show x.bal.length <= _; omega, ok.fee0, by have := ok.fee1; show x.fee <= _; omega, ok.fees, by show x.fees <= _; omega, ok.pool, by show x.pool <= _; omega, fun k h => ?_⟩, fun k h => ?_, by omega, by have := t.len b6 v5; omega, fun k h => ?_, fun d hd => ?_⟩
 ·have h' : k < x.bal.length := h
  have e := hbal k h'
  have h1 := ok.bal k h'
  have h2 := b1 k h'
  show 0 <= x.bal[k] ∧ x.bal[k] <= _
  omega
 ·have h' : k < x.bal.length := h
  have e := hbal k h'
  have h2 := b1 k h'
  show x.bal[k] <= _
  omega
 ·have e := x.val_eq h
  rw [e]
  have hv := ok.val k h
  have h4 := b4 k h
  have := hv.t0
  have := hv.s0
  have := hv.s1
  have := hv.k0
  have := hv.ko
  omega
 ·obtain ⟨k, j, _, _, q3, q4, q5, q6, _⟩ := t.rng d hd
  have hshs := ok.shs j q4
  have hle : x.sh k j <= (x.val j).shares := by
   rw [<- hshs]
   exact EA (f := fun k => x.sh k j) (fun i hi => ok.sh0 i j hi (by omega)) (by omega)
  have := (ok.val j q4).s1
  omega
theorem J0 (ok : Ok H x) {ds : List (DA × Value)} (t : A8 x ds) : RM (Ay x) x.vals ds := by
 obtain ⟨b1, b2, b3, b4, b5⟩ := ok.bds
 have b6 := ok.b6
 have v5 := ok.v5
 refine ⟨Ee ok t, fun k h => ?_, fun d hd k h hv => ?_⟩
 ·rw [x.val_eq h]
  have hv := ok.val k h
  have h4 := b4 k h
  have := hv.k0
  have := hv.ko
  omega
 ·obtain ⟨k', j, _, q2, q3, q4, q5, q6, _⟩ := t.rng d hd
  have e : j = k := by omega
  subst e
  rw [x.val_eq h, q5]
  rw [<- ok.shs j q4]
  exact EA (f := fun k => x.sh k j) (fun i hi => ok.sh0 i j hi (by omega)) (by omega)
theorem Nc {y : EC} (ok : Ok H y) {k j t : Nat} (hk : k < y.bal.length) (hj : j < y.vals.length) (ht : t < y.vals.length) (hne : t ≠ j) (n : Int) : (AA y k j n).due k t = y.due k t := by
 have b6 := ok.b6
 have v5 := ok.v5
 have u := GA ok hk hj n (Af (y.val j) n)
 have e : (AA y k j n).tab = (AZ (AF y k j) k j n (Af (y.val j) n)).tab := by unfold AA; split <;> rfl
 have e2 : (AA y k j n).due k t = (AZ (AF y k j) k j n (Af (y.val j) n)).due k t := by unfold EC.due EC.sh EC.per EC.upto; rw [e]
 rw [e2]
 unfold EC.due
 rw [u.sh k t (by omega) (by omega) (fun h => hne h.2), u.per t (by omega), u.upt k t (by omega) (by omega) (fun h => hne h.2)]
section
variable {x : EC} (ok : Bl x) {ds : List (DA × Value)} (t : A8 x ds)
include ok t
theorem Qo (who v n q : Int) (hq : E5 x who v q) : ∀ kw k : Nat, who = kw -> v = k -> kw < (Ay x).bal.length -> k < x.vals.length -> (Ah (Ay x) who).1 = 0 -> DN ds who v n = true -> Gx (lvF (Ah (Ay x) who).2 x.vals ds kw k n q).2.1 (lvF (Ah (Ay x) who).2 x.vals ds kw k n q).2.2.1 (lvF (Ah (Ay x) who).2 x.vals ds kw k n q).2.2.2 ∧ (lvF (Ah (Ay x) who).2 x.vals ds kw k n q).2.1.bal.length = (Ay x).bal.length ∧ (lvF (Ah (Ay x) who).2 x.vals ds kw k n q).2.2.1.length = x.vals.length := by
 rintro k j rfl rfl hk' hj hc hh
 have hk : k < x.bal.length := hk'
 rw [CZ] at hc ⊢
 simp only at hc ⊢
 have hcy := ok.chg hc
 have ty := t.charge k
 have okx' : Ok (Ab x k).height (Ab x k) := hcy
 have b6 := okx'.b6
 have v5 := okx'.v5
 have hly : (Ab x k).bal.length = x.bal.length := by simp [Ab]
 have hlv : (Ab x k).vals.length = x.vals.length := rfl
 have e : KV x k = Ab x k := by unfold KV; rw [if_pos hc, Int.toNat_natCast]
 rw [e]
 have s0 : 0 <= x.sh k j := okx'.sh0 k j (by omega) (by omega)
 have hh' := (Io t hk hj s0 n).1 hh
 have hd : q = (Ab x k).due k j := hq k j rfl rfl hk hj
 have n2 : n <= (Ab x k).sh k j := by show n <= x.sh k j; omega
 obtain ⟨ds', e1, e2⟩ := GP okx' ty (k := k) (j := j) (by omega) hj n q (by omega) n2 hd
 have e1' : lvF (Ay (Ab x k)) x.vals ds k j n q = _ := e1
 rw [e1']
 obtain ⟨l1, l2, l3, l4, l5, l6, l7⟩ := okx'.leave (k := k) (j := j) (by omega) hj n (by omega) n2
 exact ⟨Ee l1 e2, by show (AA (Ab x k) k j n).bal.length = x.bal.length; omega, by show (AA (Ab x k) k j n).vals.length = x.vals.length; omega⟩
theorem QP (who v tw n q z : Int) (hq : E5 x who v q) (hz : v ≠ tw -> E5 x who tw z) : ∃ ds', Hg (Ay x) x.vals ds who v tw n q z = ((D7 x who v tw n).1, Ay (D7 x who v tw n).2, (D7 x who v tw n).2.vals, ds') ∧ A8 (D7 x who v tw n).2 ds' ∧ (D7 x who v tw n).2.ents = x.ents := by
 unfold Hg D7
 rw [CZ]
 rcases Dr x who with ⟨hc, e⟩ | ⟨k, rfl, hk, hc, hf, e⟩
 ·rw [Bq hc, e]
  simp only
  rw [if_neg hc]
  exact ⟨ds, rfl, t, by first | rfl | trivial⟩
 ·rw [e]
  simp only
  rw [if_pos hc]
  have hcy := ok.chg hc
  have ty := t.charge k
  have okx' : Ok (Ab x k).height (Ab x k) := hcy
  have b6 := okx'.b6
  have v5 := okx'.v5
  have hly : (Ab x k).bal.length = x.bal.length := by simp [Ab]
  have hlv : (Ab x k).vals.length = x.vals.length := rfl
  rw [B6, B6]
  by_cases hb : inB v x.vals.length = true
  ·by_cases hb2 : inB tw x.vals.length = true ∧ v ≠ tw
   ·obtain ⟨j, rfl, hj⟩ := Bn hb
    obtain ⟨hb2, hne⟩ := hb2
    obtain ⟨j2, rfl, hj2⟩ := Bn hb2
    have hne' : j2 ≠ j := fun e => hne (by rw [e])
    rw [if_pos ⟨hb, hb2, hne⟩]
    have s0 : 0 <= x.sh k j := okx'.sh0 k j (by omega) (by omega)
    have hbz : ¬ inB (j : Int) (Ab x k).vals.length = false := by rw [hlv]; simp [hb]
    have hbz2 : ¬ (inB (j2 : Int) (Ab x k).vals.length = false ∨ (j2 : Int) = j) := by
     rw [hlv]; simp [hb2]; omega
    have hue : BP (Ab x k) k j j2 n = if n < 1 ∨ x.sh k j < n then 6 else if Af ((Ab x k).val j) n < 1 then 8 else AX ((Ab x k).val j2) (Af ((Ab x k).val j) n) := by
     unfold BP; rw [if_neg hbz, if_neg hbz2, Int.toNat_natCast, Int.toNat_natCast]; rfl
    simp only [Int.toNat_natCast]
    have hvj : x.vals.getD j ⟨0, 0, 0, 0, 0, 0, false, false⟩ = (Ab x k).val j := rfl
    have hvj2 : x.vals.getD j2 ⟨0, 0, 0, 0, 0, 0, false, false⟩ = (Ab x k).val j2 := rfl
    rw [hvj, hvj2]
    by_cases hh : DN ds k j n = true
    ·have hh' := (Io t hk hj s0 n).1 hh
     rw [if_pos hh]
     have hle : x.sh k j <= ((Ab x k).val j).shares := by
      rw [<- okx'.shs j hj]
      exact EA (f := fun k' => (Ab x k).sh k' j) (fun i hi => okx'.sh0 i j hi (by omega)) (by omega)
     have hwt : AG ((Ab x k).val j) n = Af ((Ab x k).val j) n := by unfold AG Af; rw [if_neg (by omega)]
     have hw0 := KE (x := (Ab x k).val j) (n := n) (by omega) (okx'.val j hj).t0 (by omega) (by omega)
     rw [hwt] at hw0 ⊢
     by_cases ht0 : Af ((Ab x k).val j) n = 0
     ·have he : BP (Ab x k) k j j2 n = 8 := by rw [hue, if_neg hh', if_pos (by omega)]
      rw [if_pos ht0, AP hc (by rw [he]; decide), he]
      exact ⟨ds, rfl, ty, by first | rfl | trivial⟩
     ·rw [if_neg ht0]
      have hue2 : BP (Ab x k) k j j2 n = AX ((Ab x k).val j2) (Af ((Ab x k).val j) n) := by rw [hue, if_neg hh', if_neg (by omega)]
      obtain ⟨be1, be2⟩ := MF ((Ab x k).val j2) (Af ((Ab x k).val j) n) (by omega) (okx'.val j2 hj2)
      rw [be1]
      by_cases he0 : AX ((Ab x k).val j2) (Af ((Ab x k).val j) n) = 0
      ·have he : BP (Ab x k) k j j2 n = 0 := by rw [hue2, he0]
       rw [if_pos he0, B8 hc he]
       obtain ⟨n1, n2⟩ := Ib he0
       have hd : q = (Ab x k).due k j := hq k j rfl rfl hk hj
       have nn : n <= (Ab x k).sh k j := by show n <= x.sh k j; omega
       obtain ⟨ds1, e1, e2⟩ := GP okx' ty (k := k) (j := j) (by omega) hj n q (by omega) nn hd
       have e1' : lvF (Ay (Ab x k)) x.vals ds k j n q = _ := e1
       obtain ⟨l1, l2, l3, l4, l5, l6, l7⟩ := okx'.leave (k := k) (j := j) (by omega) hj n (by omega) nn
       have hv2 : (AA (Ab x k) k j n).val j2 = (Ab x k).val j2 := l3 j2 hne'
       have hd2 : z = (AA (Ab x k) k j n).due k j2 := by
        rw [Nc okx' (by omega) hj hj2 hne']
        exact hz hne k j2 rfl rfl hk hj2
       obtain ⟨ds2, e3, e4⟩ := JK l1 e2 (k := k) (j := j2) (by omega) (by omega) (Af ((Ab x k).val j) n) (Dc ((Ab x k).val j2) (Af ((Ab x k).val j) n)).1 z (by rw [hv2]; exact be2 he0) (by rw [be2 he0]; exact n1) hd2
       rw [e1']
       simp only
       refine ⟨ds2, ?_, e4, ?_⟩
       ·rw [e3]; rfl
       ·show (AA (Ab x k) k j n).ents = x.ents
        exact l6
      ·have he : ¬ BP (Ab x k) k j j2 n = 0 := by rw [hue2]; exact he0
       rw [if_neg he0, AP hc he, hue2]
       exact ⟨ds, rfl, ty, by first | rfl | trivial⟩
    ·have hh' : n < 1 ∨ x.sh k j < n := Classical.byContradiction (fun h => hh ((Io t hk hj s0 n).2 h))
     have he : BP (Ab x k) k j j2 n = 6 := by rw [hue, if_pos hh']
     rw [if_neg hh, AP hc (by rw [he]; decide), he]
     exact ⟨ds, rfl, ty, by first | rfl | trivial⟩
   ·have he : BP (Ab x k) k v tw n = 3 := by
     unfold BP
     rw [if_neg (by rw [hlv]; simp [hb]), if_pos]
     rw [hlv]
     by_cases h3 : inB tw x.vals.length = true
     ·exact .inr (Classical.byContradiction (fun h => hb2 ⟨h3, fun e => h e.symm⟩))
     ·exact .inl (by simpa using h3)
    rw [if_neg (fun h => hb2 ⟨h.2.1, h.2.2⟩), AP hc (by rw [he]; decide), he]
    exact ⟨ds, rfl, ty, by first | rfl | trivial⟩
  ·have he : BP (Ab x k) k v tw n = 3 := by unfold BP; rw [if_pos (by rw [hlv]; simpa using hb)]
   rw [if_neg (fun h => hb h.1), AP hc (by rw [he]; decide), he]
   exact ⟨ds, rfl, ty, by first | rfl | trivial⟩
end
end Go.Proofs.YtohjjgefklhmaaaGreatDoor
