import Derived.Test.YtohjjgefklhmaaaGreatDoorGDoesM
import Derived.Test.YtohjjgefklhmaaaGreatDoorLUnbM
namespace Go.Proofs.YtohjjgefklhmaaaGreatDoor
open Go.ChangeShapes Go.WideShapes Go.ChangeAt Go.RowKit
set_option linter.unusedVariables false
set_option linter.unusedSimpArgs false

/-! ### what a delegation's parts say -/
/-- what the parts come to for one share, as a fraction -/
def ud1 (l : List PS) : Int × Int := ud 1 l
theorem ud_cons_aux (sh : Int) (l : List PS) (p : Int × Int) : l.foldl (fun p o => (p.1 * o.shares + o.of * sh * p.2, p.2 * o.shares)) p = (p.1 * (l.foldl (fun p o => (p.1 * o.shares + o.of * sh * p.2, p.2 * o.shares)) (0, 1)).2 + p.2 * (l.foldl (fun p o => (p.1 * o.shares + o.of * sh * p.2, p.2 * o.shares)) (0, 1)).1, p.2 * (l.foldl (fun p o => (p.1 * o.shares + o.of * sh * p.2, p.2 * o.shares)) (0, 1)).2) := by
  induction l generalizing p with
  | nil => simp
  | cons o l ih =>
    rw [List.foldl_cons, ih, List.foldl_cons, ih (0 * o.shares + o.of * sh * 1, 1 * o.shares)]
    simp only [Prod.mk.injEq]
    constructor
    · simp only [Int.add_mul, Int.mul_add, Int.zero_mul, Int.zero_add, Int.one_mul, Int.mul_one]
      have e1 : p.2 * (o.of * sh * (l.foldl (fun p o => (p.1 * o.shares + o.of * sh * p.2, p.2 * o.shares)) (0, 1)).2) = o.of * sh * p.2 * (l.foldl (fun p o => (p.1 * o.shares + o.of * sh * p.2, p.2 * o.shares)) (0, 1)).2 := by
        rw [← Int.mul_assoc, Int.mul_comm p.2]
      rw [e1, Int.mul_assoc p.1, Int.mul_assoc p.2, Int.add_assoc]
    · simp only [Int.one_mul]; rw [Int.mul_assoc]
theorem ud_cons (sh : Int) (o : PS) (l : List PS) : ud sh (o :: l) = (o.of * sh * (ud sh l).2 + o.shares * (ud sh l).1, o.shares * (ud sh l).2) := by
  unfold ud
  rw [List.foldl_cons, ud_cons_aux]
  simp
theorem ud_nil (sh : Int) : ud sh [] = (0, 1) := rfl
theorem ud_sh (sh : Int) (l : List PS) : ud sh l = (sh * (ud1 l).1, (ud1 l).2) := by
  unfold ud1
  induction l with
  | nil => simp [ud_nil]
  | cons o l ih =>
    rw [ud_cons, ud_cons, ih]
    simp only [Prod.mk.injEq, and_true, Int.mul_one]
    rw [Int.mul_add]
    congr 1
    · rw [Int.mul_comm o.of sh, Int.mul_assoc]
    · rw [← Int.mul_assoc, Int.mul_comm o.shares sh, Int.mul_assoc]
theorem ud1_cons (o : PS) (l : List PS) : ud1 (o :: l) = (o.of * (ud1 l).2 + o.shares * (ud1 l).1, o.shares * (ud1 l).2) := by
  unfold ud1; rw [ud_cons]; simp
theorem ud1_nil : ud1 [] = (0, 1) := rfl
def ShP (l : List PS) : Prop := ∀ q ∈ l, 1 ≤ q.shares
theorem ud1_pos (l : List PS) (h : ShP l) : 1 ≤ (ud1 l).2 := by
  induction l with
  | nil => simp [ud1_nil]
  | cons o l ih =>
    rw [ud1_cons]
    have h1 := h o (by simp)
    have h2 := ih (fun q hq => h q (by simp [hq]))
    exact Int.le_trans (by omega) (Int.mul_le_mul h1 h2 (by omega) (by omega))
theorem ud1_append (l : List PS) (p : PS) : ud1 (l ++ [p]) = ((ud1 l).1 * p.shares + p.of * (ud1 l).2, (ud1 l).2 * p.shares) := by
  unfold ud1 ud
  rw [List.foldl_append]
  simp
/-- no part of as many shares is among them -/
theorem joinP_none (p : PS) (l : List PS) (h : ∀ q ∈ l, q.shares ≠ p.shares) : l.map (joinP p) = l := by
  induction l with
  | nil => rfl
  | cons o l ih =>
    rw [List.map_cons, ih (fun q hq => h q (by simp [hq]))]
    unfold joinP; rw [if_neg (h o (by simp))]
/-- parts of different shares -/
def Dist (l : List PS) : Prop := (l.map (·.shares)).Nodup
theorem joinP_shares (p q : PS) : (joinP p q).shares = q.shares := by unfold joinP; split <;> rfl
theorem withF_shares (l : List PS) (p : PS) : (withF l p).map (·.shares) = l.map (·.shares) ++ (if thereP p l = true then [] else [p.shares]) := by
  unfold withF
  rw [List.map_append, List.map_map]
  have e : ((fun q : PS => q.shares) ∘ joinP p) = (fun q : PS => q.shares) := funext (fun q => joinP_shares p q)
  rw [e]
  split <;> simp
theorem there_iff (p : PS) (l : List PS) : thereP p l = true ↔ ∃ q ∈ l, q.shares = p.shares := by
  unfold thereP; simp
theorem Dist.with {l : List PS} (h : Dist l) (p : PS) : Dist (withF l p) := by
  unfold Dist
  rw [withF_shares]
  by_cases ht : thereP p l = true
  · rw [if_pos ht, List.append_nil]; exact h
  · rw [if_neg ht]
    refine List.nodup_append.2 ⟨h, by simp, fun a ha b hb e => ?_⟩
    simp only [List.mem_singleton] at hb
    subst hb
    subst e
    obtain ⟨q, hq, e⟩ := List.mem_map.1 ha
    exact ht ((there_iff p l).2 ⟨q, hq, e⟩)
/-- one part more: the fraction grows by its own -/
theorem with_ratio (l : List PS) (p : PS) (hd : Dist l) : (ud1 (withF l p)).1 * ((ud1 l).2 * p.shares) = ((ud1 l).1 * p.shares + p.of * (ud1 l).2) * (ud1 (withF l p)).2 := by
  by_cases ht : thereP p l = true
  · have e : withF l p = l.map (joinP p) := by unfold withF; rw [if_pos ht]; simp
    rw [e]
    obtain ⟨q, hq, hs⟩ := (there_iff p l).1 ht
    clear e ht
    -- the denominator stands, the numerator grows
    have key : (ud1 (l.map (joinP p))).2 = (ud1 l).2 ∧ (ud1 (l.map (joinP p))).1 * p.shares = (ud1 l).1 * p.shares + p.of * (ud1 l).2 := by
      induction l with
      | nil => simp at hq
      | cons o l ih =>
        rw [List.map_cons, ud1_cons, ud1_cons]
        have hd' : Dist l := by unfold Dist at hd ⊢; simp only [List.map_cons, List.nodup_cons] at hd; exact hd.2
        by_cases ho : o.shares = p.shares
        · have hno : ∀ r ∈ l, r.shares ≠ p.shares := fun r hr e => by
            unfold Dist at hd
            simp only [List.map_cons, List.nodup_cons] at hd
            exact hd.1 (List.mem_map.2 ⟨r, hr, by rw [e, ho]⟩)
          rw [joinP_none p l hno]
          have ej : joinP p o = ⟨o.of + p.of, o.shares⟩ := by unfold joinP; rw [if_pos ho]
          rw [ej]
          refine ⟨rfl, ?_⟩
          simp only
          rw [ho, Int.add_mul, Int.add_mul, Int.add_mul, Int.add_mul]
          have e1 : p.of * (ud1 l).2 * p.shares = p.of * (p.shares * (ud1 l).2) := by rw [Int.mul_assoc, Int.mul_comm (ud1 l).2]
          omega
        · have hql : q ∈ l := by
            rcases List.mem_cons.1 hq with h1 | h1
            · rw [h1] at hs; exact absurd hs ho
            · exact h1
          obtain ⟨i1, i2⟩ := ih hd' hql
          have ej : joinP p o = o := by unfold joinP; rw [if_neg ho]
          rw [ej, i1]
          refine ⟨rfl, ?_⟩
          simp only
          rw [Int.add_mul, Int.mul_assoc o.shares, i2, Int.mul_add, Int.add_mul]
          have e1 : o.shares * (p.of * (ud1 l).2) = p.of * (o.shares * (ud1 l).2) := by rw [← Int.mul_assoc, Int.mul_comm o.shares, Int.mul_assoc]
          have e2 : o.shares * ((ud1 l).1 * p.shares) = o.shares * (ud1 l).1 * p.shares := by rw [Int.mul_assoc]
          omega
    rw [key.1, Int.mul_comm (ud1 l).2 p.shares, ← Int.mul_assoc, key.2]
  · have hno : ∀ r ∈ l, r.shares ≠ p.shares := fun r hr e => ht ((there_iff p l).2 ⟨r, hr, e⟩)
    have e : withF l p = l ++ [p] := by unfold withF; rw [if_neg ht, joinP_none p l hno]
    rw [e, ud1_append]

/-- parts, what one share is due by the engine's book, the height -/
structure PR (ps : List PS) (p h : Int) : Prop where
  dst : Dist ps
  len : (ps.length : Int) ≤ h
  ofs : ∀ q ∈ ps, 0 ≤ q.of ∧ q.of ≤ 1000000 * h
  shs : ∀ q ∈ ps, 1 ≤ q.shares ∧ q.shares ≤ 1000000
  lo : p * (ud1 ps).2 ≤ 1073741824 * (ud1 ps).1
  hi : 1073741824 * (ud1 ps).1 ≤ (p + h) * (ud1 ps).2
theorem PR.pos {ps : List PS} {p h : Int} (r : PR ps p h) : 1 ≤ (ud1 ps).2 := ud1_pos ps (fun q hq => (r.shs q hq).1)
theorem PR.nil {h : Int} (h0 : 0 ≤ h) : PR [] 0 h := ⟨List.nodup_nil, by simpa using h0, fun q hq => (by cases hq), fun q hq => (by cases hq), by simp [ud1_nil], by simpa [ud1_nil] using h0⟩
theorem PR.up {ps : List PS} {p h h' : Int} (r : PR ps p h) (hh : h ≤ h') : PR ps p h' := by
  have hp := r.pos
  refine ⟨r.dst, Int.le_trans r.len hh, fun q hq => ⟨(r.ofs q hq).1, by have := (r.ofs q hq).2; omega⟩, r.shs, r.lo, Int.le_trans r.hi (Int.mul_le_mul_of_nonneg_right (by omega) (by omega))⟩
/-- a block's part -/
theorem PR.with {ps : List PS} {p h of s : Int} (r : PR ps p h) (o0 : 0 ≤ of) (o1 : of ≤ 1000000) (s0 : 1 ≤ s) (s1 : s ≤ 1000000) (h0 : 0 ≤ h) : PR (withF ps ⟨of, s⟩) (p + of * 1073741824 / s) (h + 1) := by
  have hD := r.pos
  have hrat := with_ratio ps ⟨of, s⟩ r.dst
  simp only at hrat
  have hmem : ∀ q ∈ withF ps ⟨of, s⟩, (0 ≤ q.of ∧ q.of ≤ 1000000 * (h + 1)) ∧ 1 ≤ q.shares ∧ q.shares ≤ 1000000 := by
    intro q hq
    unfold withF at hq
    rcases List.mem_append.1 hq with h1 | h1
    · obtain ⟨q', hq', rfl⟩ := List.mem_map.1 h1
      have a := r.ofs q' hq'
      have b := r.shs q' hq'
      unfold joinP
      split
      · exact ⟨⟨by simp only; omega, by simp only; omega⟩, b⟩
      · exact ⟨⟨a.1, by omega⟩, b⟩
    · split at h1
      · cases h1
      · simp only [List.mem_singleton] at h1
        subst h1
        exact ⟨⟨o0, by simp only; omega⟩, s0, s1⟩
  have hD' : 1 ≤ (ud1 (withF ps ⟨of, s⟩)).2 := ud1_pos _ (fun q hq => (hmem q hq).2.1)
  have hlen : (withF ps ⟨of, s⟩).length ≤ ps.length + 1 := by
    unfold withF
    rw [List.length_append, List.length_map]
    split <;> simp
  have hl := r.len
  have hlo := r.lo
  have hhi := r.hi
  refine ⟨r.dst.with _, by omega, fun q hq => (hmem q hq).1, fun q hq => (hmem q hq).2, ?_, ?_⟩
  all_goals
    generalize (ud1 (withF ps ⟨of, s⟩)).1 = U' at *
    generalize (ud1 (withF ps ⟨of, s⟩)).2 = D' at *
    generalize (ud1 ps).1 = U at *
    generalize (ud1 ps).2 = D at *
    have f1 : of * 1073741824 / s * s ≤ of * 1073741824 := Int.ediv_mul_le _ (by omega)
    have f2 : of * 1073741824 < (of * 1073741824 / s + 1) * s := Int.lt_ediv_add_one_mul_self _ (by omega)
    generalize of * 1073741824 / s = f at *
    have hDs : 0 < D * s := Int.mul_pos (by omega) (by omega)
  · -- (p + f) D' ≤ 2^30 U'
    have h1 : (p + f) * (D * s) ≤ 1073741824 * (U * s + of * D) := by
      have a1 : p * D * s ≤ 1073741824 * U * s := Int.mul_le_mul_of_nonneg_right hlo (by omega)
      have a2 : f * s * D ≤ of * 1073741824 * D := Int.mul_le_mul_of_nonneg_right f1 (by omega)
      have e1 : (p + f) * (D * s) = p * D * s + f * s * D := by rw [Int.add_mul, Int.mul_assoc p, Int.mul_assoc f, Int.mul_comm s D]
      have e2 : 1073741824 * (U * s + of * D) = 1073741824 * U * s + of * 1073741824 * D := by rw [Int.mul_add, ← Int.mul_assoc, ← Int.mul_assoc, Int.mul_comm of]
      omega
    have h2 : (p + f) * (D * s) * D' ≤ 1073741824 * (U * s + of * D) * D' := Int.mul_le_mul_of_nonneg_right h1 (by omega)
    have e3 : 1073741824 * (U * s + of * D) * D' = 1073741824 * U' * (D * s) := by rw [Int.mul_assoc, ← hrat, Int.mul_assoc]
    have e4 : (p + f) * (D * s) * D' = (p + f) * D' * (D * s) := by rw [Int.mul_assoc, Int.mul_comm (D * s), Int.mul_assoc]
    rw [e3, e4] at h2
    exact Int.le_of_mul_le_mul_right h2 hDs
  · have h1 : 1073741824 * (U * s + of * D) ≤ (p + f + (h + 1)) * (D * s) := by
      have a1 : 1073741824 * U * s ≤ (p + h) * D * s := Int.mul_le_mul_of_nonneg_right hhi (by omega)
      have a2 : of * 1073741824 * D ≤ (f + 1) * s * D := Int.mul_le_mul_of_nonneg_right (by omega) (by omega)
      have e1 : (p + f + (h + 1)) * (D * s) = (p + h) * D * s + (f + 1) * s * D := by
        rw [Int.mul_assoc, Int.mul_assoc (f + 1), Int.mul_comm s D, ← Int.add_mul]; congr 1; omega
      have e2 : 1073741824 * (U * s + of * D) = 1073741824 * U * s + of * 1073741824 * D := by rw [Int.mul_add, ← Int.mul_assoc, ← Int.mul_assoc, Int.mul_comm of]
      omega
    have h2 : 1073741824 * (U * s + of * D) * D' ≤ (p + f + (h + 1)) * (D * s) * D' := Int.mul_le_mul_of_nonneg_right h1 (by omega)
    have e3 : 1073741824 * (U * s + of * D) * D' = 1073741824 * U' * (D * s) := by rw [Int.mul_assoc, ← hrat, Int.mul_assoc]
    have e4 : (p + f + (h + 1)) * (D * s) * D' = (p + f + (h + 1)) * D' * (D * s) := by rw [Int.mul_assoc, Int.mul_comm (D * s), Int.mul_assoc]
    rw [e3, e4] at h2
    exact Int.le_of_mul_le_mul_right h2 hDs
/-- what the engine pays may be paid (P12) -/
theorem PR.may {ps : List PS} {p h sh : Int} (r : PR ps p h) (h1 : h ≤ 1000) (s0 : 0 ≤ sh) (s1 : sh ≤ 1000000) : mayF sh ps (sh * p / 1073741824) = true := by
  unfold mayF
  rw [ud_sh]
  simp only [Bool.and_eq_true, Bool.not_eq_true', decide_eq_false_iff_not, decide_eq_true_eq]
  have hD := r.pos
  have hlo := r.lo
  have hhi := r.hi
  generalize (ud1 ps).1 = U at *
  generalize (ud1 ps).2 = D at *
  have f1 : sh * p / 1073741824 * 1073741824 ≤ sh * p := Int.ediv_mul_le _ (by omega)
  have f2 : sh * p < (sh * p / 1073741824 + 1) * 1073741824 := Int.lt_ediv_add_one_mul_self _ (by omega)
  generalize sh * p / 1073741824 = q at *
  constructor
  · intro hc
    have a1 : q * 1073741824 * D ≤ sh * p * D := Int.mul_le_mul_of_nonneg_right f1 (by omega)
    have a2 : sh * (p * D) ≤ sh * (1073741824 * U) := Int.mul_le_mul_of_nonneg_left hlo s0
    have e1 : sh * (1073741824 * U) = 1073741824 * (sh * U) := by rw [← Int.mul_assoc, Int.mul_comm sh, Int.mul_assoc]
    have e2 : q * 1073741824 * D = 1073741824 * (q * D) := by rw [Int.mul_comm q, Int.mul_assoc]
    have e3 : sh * p * D = sh * (p * D) := Int.mul_assoc _ _ _
    omega
  · have a2 : sh * (1073741824 * U) ≤ sh * ((p + h) * D) := Int.mul_le_mul_of_nonneg_left hhi s0
    have e1 : sh * (1073741824 * U) = 1073741824 * (sh * U) := by rw [← Int.mul_assoc, Int.mul_comm sh, Int.mul_assoc]
    have e4 : sh * ((p + h) * D) = (sh * p + sh * h) * D := by rw [← Int.mul_assoc, Int.mul_add]
    have a3 : sh * h ≤ 1000000 * 1000 := by
      by_cases hh : 0 ≤ h
      · exact Int.mul_le_mul s1 h1 hh (by omega)
      · have : sh * h ≤ 0 := Int.mul_nonpos_of_nonneg_of_nonpos s0 (by omega)
        omega
    have a4 : (sh * p + sh * h) * D < ((q + 2) * 1073741824) * D := Int.mul_lt_mul_of_pos_right (by omega) (by omega)
    have e5 : (q + 2) * 1073741824 * D = 1073741824 * ((q + 2) * D) := by rw [Int.mul_comm (q + 2), Int.mul_assoc]
    omega
end Go.Proofs.YtohjjgefklhmaaaGreatDoor

namespace Go.Proofs.YtohjjgefklhmaaaGreatDoor
open Go.ChangeShapes Go.WideShapes Go.ChangeAt Go.RowKit
set_option linter.unusedVariables false
set_option linter.unusedSimpArgs false

/-! ### the ledger's delegations and the engine's table -/
def dkey (d : DA) : Int := d.who * 5 + d.val
/-- one delegation -/
def DEnt (x : EC) (d : DA) : Prop := ∃ k j : Nat, d.who = k ∧ d.val = j ∧ k < x.bal.length ∧ j < x.vals.length ∧ d.shares = x.sh k j ∧ 0 < d.shares ∧ PR d.parts (x.per j - x.upto k j) x.height
structure DTie (x : EC) (ds : List (DA × Value)) : Prop where
  srt : (ds.map (fun d => dkey d.1)).Pairwise (· < ·)
  rng : ∀ d ∈ ds, DEnt x d.1
  all : ∀ k j, k < x.bal.length → j < x.vals.length → 0 < x.sh k j → ∃ d ∈ ds, d.1.who = k ∧ d.1.val = j
theorem DTie.congr {x : EC} {ds ds' : List (DA × Value)} (h : DTie x ds) (e : ds'.map Prod.fst = ds.map Prod.fst) : DTie x ds' := by
  have hm : ∀ f : DA → Int, ds'.map (fun d => f d.1) = ds.map (fun d => f d.1) := fun f => by
    have := congrArg (List.map f) e
    simpa [List.map_map, Function.comp_def] using this
  have hmem : ∀ {a b : List (DA × Value)}, a.map Prod.fst = b.map Prod.fst → ∀ d ∈ a, ∃ d' ∈ b, d'.1 = d.1 := fun {a b} e d hd => by
    have : d.1 ∈ b.map Prod.fst := by rw [← e]; exact List.mem_map.2 ⟨d, hd, rfl⟩
    obtain ⟨d', h1, h2⟩ := List.mem_map.1 this
    exact ⟨d', h1, h2⟩
  refine ⟨by rw [hm dkey]; exact h.srt, fun d hd => ?_, fun k j hk hj hs => ?_⟩
  · obtain ⟨d', h1, h2⟩ := hmem e d hd
    rw [← h2]; exact h.rng d' h1
  · obtain ⟨d, h1, h2⟩ := h.all k j hk hj hs
    obtain ⟨d', h3, h4⟩ := hmem e.symm d h1
    exact ⟨d', h3, by rw [h4]; exact h2⟩
section
variable {x : EC} {ds : List (DA × Value)}
theorem DTie.lt (h : DTie x ds) {i j : Nat} (hi : i < ds.length) (hj : j < ds.length) (hij : i < j) : dkey ds[i].1 < dkey ds[j].1 := by
  have := List.pairwise_iff_getElem.1 h.srt i j (by simpa using hi) (by simpa using hj) hij
  simpa using this
theorem DTie.uniq (h : DTie x ds) {i j : Nat} (hi : i < ds.length) (hj : j < ds.length) (hw : ds[i].1.who = ds[j].1.who) (hv : ds[i].1.val = ds[j].1.val) : i = j := by
  have e : dkey ds[i].1 = dkey ds[j].1 := by unfold dkey; rw [hw, hv]
  rcases Nat.lt_trichotomy i j with h1 | h1 | h1
  · have := h.lt hi hj h1; omega
  · exact h1
  · have := h.lt hj hi h1; omega
theorem DTie.key0 (h : DTie x ds) (b6 : x.bal.length ≤ 6) (v5 : x.vals.length ≤ 5) {i : Nat} (hi : i < ds.length) : (i : Int) ≤ dkey ds[i].1 ∧ dkey ds[i].1 < 30 := by
  have hr : ∀ i (hi : i < ds.length), 0 ≤ dkey ds[i].1 ∧ dkey ds[i].1 < 30 := fun i hi => by
    obtain ⟨k, j, h1, h2, h3, h4, _⟩ := h.rng _ (List.getElem_mem hi)
    unfold dkey; omega
  refine ⟨?_, (hr i hi).2⟩
  induction i with
  | zero => exact (hr 0 hi).1
  | succ i ih =>
    have := ih (by omega)
    have := h.lt (show i < ds.length by omega) hi (by omega)
    omega
theorem DTie.len (h : DTie x ds) (b6 : x.bal.length ≤ 6) (v5 : x.vals.length ≤ 5) : ds.length ≤ 30 := by
  by_cases h0 : ds.length = 0
  · omega
  · have := h.key0 b6 v5 (show ds.length - 1 < ds.length by omega)
    omega
/-- where a delegation stands -/
theorem DTie.at (h : DTie x ds) {k j : Nat} (hk : k < x.bal.length) (hj : j < x.vals.length) (hs : 0 < x.sh k j) : ∃ i : Nat, ∃ hi : i < ds.length, atF ds k j = i ∧ ds[i].1.who = k ∧ ds[i].1.val = j ∧ ds[i].1.shares = x.sh k j ∧ PR ds[i].1.parts (x.per j - x.upto k j) x.height := by
  obtain ⟨d, hd, h1, h2⟩ := h.all k j hk hj hs
  obtain ⟨i, hi, rfl⟩ := List.getElem_of_mem hd
  refine ⟨i, hi, atF_hit hi (fun i' hi' hlt he => ?_) ⟨h1, h2⟩, h1, h2, ?_⟩
  · have := h.uniq hi' hi (by rw [he.1, h1]) (by rw [he.2, h2])
    omega
  · obtain ⟨k', j', q1, q2, _, _, q5, _, q7⟩ := h.rng _ hd
    have ek : k' = k := by omega
    have ej : j' = j := by omega
    subst ek ej
    exact ⟨q5, q7⟩
theorem DTie.no (h : DTie x ds) {who v : Int} (hn : ∀ k j : Nat, who = k → v = j → k < x.bal.length → j < x.vals.length → ¬ 0 < x.sh k j) : atF ds who v = -1 := by
  refine atF_no (fun i hi he => ?_)
  obtain ⟨k, j, q1, q2, q3, q4, q5, q6, _⟩ := h.rng _ (List.getElem_mem hi)
  exact hn k j (by rw [← he.1, q1]) (by rw [← he.2, q2]) q3 q4 (by omega)

theorem mem_modify' {α : Type} {l : List α} {i : Nat} {f : α → α} {d : α} (h : d ∈ l.modify i f) : (∃ i', ∃ hi : i' < l.length, i' ≠ i ∧ d = l[i']) ∨ ∃ hi : i < l.length, d = f l[i] := by
  obtain ⟨j, hj, rfl⟩ := List.getElem_of_mem h
  have hj' : j < l.length := by simpa using hj
  rw [List.getElem_modify]
  by_cases e : i = j
  · subst e; exact .inr ⟨hj', by simp⟩
  · simp only [if_neg e]; exact .inl ⟨j, hj', fun h => e h.symm, rfl⟩
/-- all but one delegation stand -/
structure DOth (x x' : EC) (k j : Nat) : Prop where
  bl : x'.bal.length = x.bal.length
  vl : x'.vals.length = x.vals.length
  hh : x'.height = x.height
  oth : ∀ k' j', k' < 6 → j' < 5 → ¬ (k' = k ∧ j' = j) → x'.sh k' j' = x.sh k' j' ∧ x'.per j' - x'.upto k' j' = x.per j' - x.upto k' j'
theorem DEnt.oth {x x' : EC} {k j : Nat} {d : DA} (h : DEnt x d) (o : DOth x x' k j) (b6 : x.bal.length ≤ 6) (v5 : x.vals.length ≤ 5) (hn : ¬ (d.who = k ∧ d.val = j)) : DEnt x' d := by
  obtain ⟨k', j', q1, q2, q3, q4, q5, q6, q7⟩ := h
  have := o.oth k' j' (by omega) (by omega) (fun e => hn ⟨by omega, by omega⟩)
  exact ⟨k', j', q1, q2, by rw [o.bl]; exact q3, by rw [o.vl]; exact q4, by rw [this.1]; exact q5, q6, by rw [this.2, o.hh]; exact q7⟩
/-- one delegation is turned -/
theorem DTie.upd {x' : EC} {k j i : Nat} (h : DTie x ds) (o : DOth x x' k j) (b6 : x.bal.length ≤ 6) (v5 : x.vals.length ≤ 5) (hi : i < ds.length) (hw : ds[i].1.who = k) (hv : ds[i].1.val = j) (f : DA × Value → DA × Value) (fw : (f ds[i]).1.who = k) (fv : (f ds[i]).1.val = j) (hf : DEnt x' (f ds[i]).1) : DTie x' (ds.modify i f) := by
  have hm : (ds.modify i f).map (fun d => dkey d.1) = ds.map (fun d => dkey d.1) := by
    apply List.ext_getElem?
    intro n
    simp only [List.getElem?_map, List.getElem?_modify]
    by_cases e : i = n
    · subst e
      rw [List.getElem?_eq_getElem hi]
      simp [dkey, fw, fv, hw, hv]
    · simp [e]
  refine ⟨by rw [hm]; exact h.srt, fun d hd => ?_, fun k' j' hk hj hs => ?_⟩
  · rcases mem_modify' hd with ⟨i', hi', hne, rfl⟩ | ⟨_, rfl⟩
    · refine (h.rng _ (List.getElem_mem hi')).oth o b6 v5 (fun e => hne (h.uniq hi' hi (by rw [e.1, hw]) (by rw [e.2, hv])))
    · exact hf
  · rw [o.bl] at hk
    rw [o.vl] at hj
    by_cases e : k' = k ∧ j' = j
    · obtain ⟨rfl, rfl⟩ := e
      refine ⟨f ds[i], ?_, fw, fv⟩
      have : (ds.modify i f)[i]'(by simpa using hi) = f ds[i] := by rw [List.getElem_modify]; simp
      rw [← this]; exact List.getElem_mem _
    · rw [(o.oth k' j' (by omega) (by omega) e).1] at hs
      obtain ⟨d, hd, q1, q2⟩ := h.all k' j' hk hj hs
      obtain ⟨i', hi', rfl⟩ := List.getElem_of_mem hd
      have hne : ¬ i = i' := fun e' => by subst e'; exact e ⟨by omega, by omega⟩
      refine ⟨ds[i'], ?_, q1, q2⟩
      have : (ds.modify i f)[i']'(by simpa using hi') = ds[i'] := by rw [List.getElem_modify]; simp [hne]
      rw [← this]; exact List.getElem_mem _
/-- one delegation goes -/
theorem DTie.gone {x' : EC} {k j i : Nat} (h : DTie x ds) (o : DOth x x' k j) (b6 : x.bal.length ≤ 6) (v5 : x.vals.length ≤ 5) (hi : i < ds.length) (hw : ds[i].1.who = k) (hv : ds[i].1.val = j) (hz : ¬ 0 < x'.sh k j) : DTie x' (ds.eraseIdx i) := by
  refine ⟨?_, fun d hd => ?_, fun k' j' hk hj hs => ?_⟩
  · exact List.Pairwise.sublist ((List.eraseIdx_sublist ds i).map _) h.srt
  · obtain ⟨i', hi', hne, rfl⟩ := List.mem_eraseIdx_iff_getElem.1 hd
    exact (h.rng _ (List.getElem_mem hi')).oth o b6 v5 (fun e => hne (h.uniq hi' hi (by rw [e.1, hw]) (by rw [e.2, hv])))
  · rw [o.bl] at hk
    rw [o.vl] at hj
    by_cases e : k' = k ∧ j' = j
    · obtain ⟨rfl, rfl⟩ := e; exact absurd hs hz
    · rw [(o.oth k' j' (by omega) (by omega) e).1] at hs
      obtain ⟨d, hd, q1, q2⟩ := h.all k' j' hk hj hs
      obtain ⟨i', hi', rfl⟩ := List.getElem_of_mem hd
      have hne : i' ≠ i := fun e' => by subst e'; exact e ⟨by omega, by omega⟩
      exact ⟨ds[i'], List.mem_eraseIdx_iff_getElem.2 ⟨i', hi', hne, rfl⟩, q1, q2⟩
end

/-- where a new delegation is put -/
theorem insTo_form (d : DA × Value) (l : List (DA × Value)) (k : Nat) (hk : k ≤ l.length) :
    (insTo d l k = (l.take k, false) ∧ ∀ i (hi : i < l.length), i < k → aftF d.1.who d.1.val l[i] = false) ∨
    ∃ p, ∃ hp : p < l.length, p < k ∧ aftF d.1.who d.1.val l[p] = true ∧ (∀ i (hi : i < l.length), i < p → aftF d.1.who d.1.val l[i] = false) ∧ insTo d l k = (l.take p ++ d :: (l.take k).drop p, true) := by
  induction k with
  | zero => exact .inl ⟨by simp [insTo], fun i hi h => by omega⟩
  | succ k ih =>
    have hkl : k < l.length := by omega
    rw [insTo_snoc d l k hkl]
    rcases ih (by omega) with ⟨e, ha⟩ | ⟨p, hp, hpk, hap, ha, e⟩
    · rw [e]
      unfold insOne
      by_cases hc : aftF d.1.who d.1.val l[k] = true
      · right
        refine ⟨k, hkl, by omega, hc, ha, ?_⟩
        rw [if_pos ⟨rfl, hc⟩]
        have : (l.take (k + 1)).drop k = [l[k]] := by
          rw [List.take_succ_eq_append_getElem hkl, List.drop_append_of_le_length (by simp; omega)]
          simp
        rw [this]
        simp
      · left
        rw [if_neg (fun h => hc h.2)]
        refine ⟨by rw [List.take_succ_eq_append_getElem hkl], fun i hi h => ?_⟩
        by_cases e' : i = k
        · subst e'; simpa using hc
        · exact ha i hi (by omega)
    · right
      refine ⟨p, hp, by omega, hap, ha, ?_⟩
      rw [e]
      unfold insOne
      rw [if_neg (fun h => by simp at h)]
      rw [List.take_succ_eq_append_getElem hkl, List.drop_append_of_le_length (by simp; omega)]
      simp
theorem insF_form (d : DA × Value) (l : List (DA × Value)) : ∃ p, p ≤ l.length ∧ (∀ i (hi : i < l.length), i < p → aftF d.1.who d.1.val l[i] = false) ∧ (∀ hp : p < l.length, aftF d.1.who d.1.val l[p] = true) ∧ insF d l = l.take p ++ d :: l.drop p := by
  unfold insF
  rcases insTo_form d l l.length (Nat.le_refl _) with ⟨e, ha⟩ | ⟨p, hp, _, hap, ha, e⟩
  · refine ⟨l.length, Nat.le_refl _, fun i hi h => ha i hi h, fun hp => by omega, ?_⟩
    rw [e, if_neg (by simp)]
    simp
  · refine ⟨p, by omega, ha, fun _ => hap, ?_⟩
    rw [e, if_pos rfl, List.take_length]
/-- a delegation is made -/
theorem DTie.new {x x' : EC} {ds : List (DA × Value)} {k j : Nat} (h : DTie x ds) (o : DOth x x' k j) (b6 : x.bal.length ≤ 6) (v5 : x.vals.length ≤ 5) (hz : ¬ 0 < x.sh k j) (hk : k < x.bal.length) (hj : j < x.vals.length) (d : DA × Value) (dw : d.1.who = k) (dv : d.1.val = j) (hd : DEnt x' d.1) : DTie x' (insF d ds) := by
  obtain ⟨p, hp, hb, ha, e⟩ := insF_form d ds
  rw [e]
  have hr : ∀ i (hi : i < ds.length), ∃ k' j' : Nat, ds[i].1.who = k' ∧ ds[i].1.val = j' ∧ k' < 6 ∧ j' < 5 ∧ ¬ (k' = k ∧ j' = j) := fun i hi => by
    obtain ⟨k', j', q1, q2, q3, q4, q5, q6, _⟩ := h.rng _ (List.getElem_mem hi)
    refine ⟨k', j', q1, q2, by omega, by omega, fun e => ?_⟩
    obtain ⟨rfl, rfl⟩ := e
    omega
  have hlo : ∀ i (hi : i < ds.length), i < p → dkey ds[i].1 < dkey d.1 := fun i hi hip => by
    have h1 := hb i hi hip
    obtain ⟨k', j', q1, q2, q3, q4, q5⟩ := hr i hi
    unfold aftF at h1
    rw [dw, dv, q1, q2] at h1
    simp only [Bool.or_eq_false_iff, Bool.and_eq_false_iff, decide_eq_false_iff_not] at h1
    unfold dkey
    rw [dw, dv, q1, q2]
    omega
  have hhi : ∀ i (hi : i < ds.length), p ≤ i → dkey d.1 < dkey ds[i].1 := fun i hi hip => by
    have hpl : p < ds.length := by omega
    have h1 := ha hpl
    obtain ⟨k', j', q1, q2, q3, q4, q5⟩ := hr p hpl
    unfold aftF at h1
    rw [dw, dv, q1, q2] at h1
    simp only [Bool.or_eq_true, Bool.and_eq_true, decide_eq_true_eq] at h1
    have h2 : dkey d.1 < dkey ds[p].1 := by
      unfold dkey
      rw [dw, dv, q1, q2]
      omega
    by_cases e' : p = i
    · subst e'; exact h2
    · have := h.lt hpl hi (by omega); omega
  have hmem : ∀ c, c ∈ ds.take p ++ d :: ds.drop p ↔ c = d ∨ c ∈ ds := fun c => by
    rw [List.mem_append, List.mem_cons]
    have : c ∈ ds ↔ c ∈ ds.take p ∨ c ∈ ds.drop p := by
      conv => lhs; rw [← List.take_append_drop p ds]
      exact List.mem_append
    rw [this]
    constructor
    · rintro (h | h | h) <;> simp [h]
    · rintro (h | h | h) <;> simp [h]
  refine ⟨?_, fun c hc => ?_, fun k' j' hk' hj' hs => ?_⟩
  · rw [List.map_append, List.map_cons, List.pairwise_append, List.pairwise_cons]
    refine ⟨List.Pairwise.sublist ((List.take_sublist p ds).map _) h.srt, ⟨fun a ha' => ?_, List.Pairwise.sublist ((List.drop_sublist p ds).map _) h.srt⟩, fun a ha' b hb' => ?_⟩
    · obtain ⟨c, hc, rfl⟩ := List.mem_map.1 ha'
      obtain ⟨i, hi, rfl⟩ := List.getElem_of_mem hc
      rw [List.getElem_drop]
      exact hhi _ _ (by omega)
    · obtain ⟨c, hc, rfl⟩ := List.mem_map.1 ha'
      obtain ⟨i, hi, rfl⟩ := List.getElem_of_mem hc
      have hi' : i < p ∧ i < ds.length := by have := hi; simp only [List.length_take] at this; omega
      rw [List.getElem_take]
      rcases List.mem_cons.1 hb' with h1 | h1
      · rw [h1]; exact hlo i hi'.2 hi'.1
      · obtain ⟨c2, hc2, rfl⟩ := List.mem_map.1 h1
        obtain ⟨i2, hi2, rfl⟩ := List.getElem_of_mem hc2
        rw [List.getElem_drop]
        exact h.lt hi'.2 _ (by omega)
  · rcases (hmem c).1 hc with h1 | h1
    · subst h1; exact hd
    · obtain ⟨i, hi, rfl⟩ := List.getElem_of_mem h1
      obtain ⟨k', j', q1, q2, _, _, q5⟩ := hr i hi
      exact (h.rng _ h1).oth o b6 v5 (fun e => q5 ⟨by omega, by omega⟩)
  · rw [o.bl] at hk'
    rw [o.vl] at hj'
    by_cases e' : k' = k ∧ j' = j
    · obtain ⟨rfl, rfl⟩ := e'
      exact ⟨d, (hmem d).2 (.inl rfl), dw, dv⟩
    · rw [(o.oth k' j' (by omega) (by omega) e').1] at hs
      obtain ⟨c, hc, q1, q2⟩ := h.all k' j' hk' hj' hs
      exact ⟨c, (hmem c).2 (.inr hc), q1, q2⟩

/-! ### what See tells of them -/
theorem sorted_eq {α : Type} (f : α → Int) (a b : List α) (ha : (a.map f).Pairwise (· < ·)) (hb : (b.map f).Pairwise (· < ·)) (h1 : ∀ c ∈ a, c ∈ b) (h2 : ∀ c ∈ b, c ∈ a) : a = b := by
  induction a generalizing b with
  | nil =>
    cases b with
    | nil => rfl
    | cons c b => have := h2 c (by simp); cases this
  | cons c a ih =>
    cases b with
    | nil => have := h1 c (by simp); cases this
    | cons c' b =>
      simp only [List.map_cons, List.pairwise_cons] at ha hb
      have hc : c = c' := by
        rcases List.mem_cons.1 (h1 c (by simp)) with e | e
        · exact e
        · have l1 := hb.1 (f c) (List.mem_map.2 ⟨c, e, rfl⟩)
          rcases List.mem_cons.1 (h2 c' (by simp)) with e' | e'
          · rw [e'] at l1; omega
          · have l2 := ha.1 (f c') (List.mem_map.2 ⟨c', e', rfl⟩)
            omega
      subst hc
      congr 1
      refine ih b ha.2 hb.2 (fun q hq => ?_) (fun q hq => ?_)
      · rcases List.mem_cons.1 (h1 q (by simp [hq])) with e | e
        · subst e
          have := ha.1 (f q) (List.mem_map.2 ⟨q, hq, rfl⟩)
          omega
        · exact e
      · rcases List.mem_cons.1 (h2 q (by simp [hq])) with e | e
        · subst e
          have := hb.1 (f q) (List.mem_map.2 ⟨q, hq, rfl⟩)
          omega
        · exact e
def skey (d : DS) : Int := d.who * 5 + d.val
theorem dRow_srt (s : Nat → Nat → Int) (who n : Nat) : ((dRow s who n).map skey).Pairwise (· < ·) ∧ ∀ d ∈ dRow s who n, skey d < who * 5 + n := by
  induction n with
  | zero => simp [dRow]
  | succ n ih =>
    unfold dRow
    split
    · refine ⟨?_, fun d hd => ?_⟩
      · rw [List.map_append, List.pairwise_append]
        refine ⟨ih.1, by simp, fun a ha b hb => ?_⟩
        obtain ⟨d, hd, rfl⟩ := List.mem_map.1 ha
        simp only [List.map_cons, List.map_nil, List.mem_singleton] at hb
        subst hb
        have := ih.2 d hd
        show _ < (who : Int) * 5 + (n : Int)
        omega
      · rcases List.mem_append.1 hd with h | h
        · have := ih.2 d h; omega
        · simp only [List.mem_singleton] at h
          subst h
          show (who : Int) * 5 + (n : Int) < _
          omega
    · exact ⟨ih.1, fun d hd => by have := ih.2 d hd; omega⟩
theorem dAll_srt (s : Nat → Nat → Int) (nv n : Nat) (hv : nv ≤ 5) : ((dAll s nv n).map skey).Pairwise (· < ·) := by
  induction n with
  | zero => simp [dAll]
  | succ n ih =>
    unfold dAll
    rw [List.map_append, List.pairwise_append]
    refine ⟨ih, (dRow_srt s n nv).1, fun a ha b hb => ?_⟩
    obtain ⟨d, hd, rfl⟩ := List.mem_map.1 ha
    obtain ⟨d', hd', rfl⟩ := List.mem_map.1 hb
    obtain ⟨k, j, h1, h2, rfl, _⟩ := dAll_mem s nv n d hd
    obtain ⟨j', h3, rfl, _⟩ := dRow_mem s n nv d' hd'
    show (k : Int) * 5 + (j : Int) < (n : Int) * 5 + (j' : Int)
    omega
theorem dRow_has (s : Nat → Nat → Int) (who n j : Nat) (hj : j < n) (hs : 0 < s who j) : (⟨who, j, s who j⟩ : DS) ∈ dRow s who n := by
  induction n with
  | zero => omega
  | succ n ih =>
    unfold dRow
    by_cases e : j = n
    · subst e; rw [if_pos hs]; simp
    · have := ih (by omega)
      split
      · exact List.mem_append.2 (.inl this)
      · exact this
theorem dAll_has (s : Nat → Nat → Int) (nv n k j : Nat) (hk : k < n) (hj : j < nv) (hs : 0 < s k j) : (⟨k, j, s k j⟩ : DS) ∈ dAll s nv n := by
  induction n with
  | zero => omega
  | succ n ih =>
    unfold dAll
    by_cases e : k = n
    · subst e; exact List.mem_append.2 (.inr (dRow_has s k nv j hj hs))
    · exact List.mem_append.2 (.inl (ih (by omega)))
def DA.ds (d : DA) : DS := ⟨d.who, d.val, d.shares⟩
theorem DTie.see {x : EC} {ds : List (DA × Value)} (h : DTie x ds) (v5 : x.vals.length ≤ 5) : dAll x.sh x.vals.length x.bal.length = ds.map (fun d => d.1.ds) := by
  refine sorted_eq skey _ _ (dAll_srt _ _ _ v5) ?_ (fun c hc => ?_) (fun c hc => ?_)
  · rw [List.map_map]; exact h.srt
  · obtain ⟨k, j, h1, h2, rfl, hs⟩ := dAll_mem _ _ _ _ hc
    obtain ⟨i, hi, _, q1, q2, q3, _⟩ := h.at h1 h2 hs
    refine List.mem_map.2 ⟨ds[i], List.getElem_mem hi, ?_⟩
    unfold DA.ds; rw [q1, q2, q3]
  · obtain ⟨d, hd, rfl⟩ := List.mem_map.1 hc
    obtain ⟨k, j, q1, q2, q3, q4, q5, q6, _⟩ := h.rng d hd
    have := dAll_has x.sh x.vals.length x.bal.length k j q3 q4 (by omega)
    unfold DA.ds; rw [q1, q2, q5]; exact this
end Go.Proofs.YtohjjgefklhmaaaGreatDoor
