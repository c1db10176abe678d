import Derived.Test.YtohjjgefklhmaaaGreatDoorXTxtM
namespace Go.Proofs.YtohjjgefklhmaaaGreatDoor
open Go.ChangeShapes Go.WideShapes Go.ChangeAt Go.RowKit
set_option linter.unusedVariables false

/-! ### an engine as numbers -/
def standI (v : VS) : Int := if v.jailed = true then 2 else if v.inset = true then 1 else 0
def valNs (v : VS) : List Int := [v.tokens, v.comm, v.outs, standI v]
def entNs (e : ES) : List Int := [e.who, e.val, e.made, e.amount]
def delN (x : EC) (k j : Nat) : List Int := if 0 < x.sh k j then [x.sh k j, x.per j - x.upto k j] else [x.sh k j]
def delR (x : EC) (k : Nat) : Nat → List Int
  | 0 => []
  | j + 1 => delR x k j ++ delN x k j
def delA (x : EC) : Nat → List Int
  | 0 => []
  | k + 1 => delA x k ++ delR x k x.vals.length
def genNs (x : EC) : List Int := [(x.bal.length : Int)] ++ x.bal ++ [(x.vals.length : Int)] ++ x.vals.map (fun v => v.owner) ++ [(x.vals.length : Int)] ++ x.vals.map (fun v => v.rate) ++ [x.top, x.mature, x.fee]
def nums (x : EC) : List Int := genNs x ++ [x.height, x.fees, x.pool] ++ x.vals.flatMap valNs ++ delA x x.bal.length ++ [(x.ents.length : Int)] ++ x.ents.flatMap entNs

/-! ### reading -/
/-! ### the validators -/
/-! ### the delegations -/
/-! ### the entries -/
end Go.Proofs.YtohjjgefklhmaaaGreatDoor

namespace Go.Proofs.YtohjjgefklhmaaaGreatDoor
open Go.ChangeShapes Go.WideShapes Go.ChangeAt Go.RowKit
set_option linter.unusedVariables false

/-! ### what the validators are when they are read -/
/-- a validator, all but its shares -/
structure VB0 (v : VS) : Prop where
  t0 : 0 ≤ v.tokens
  t1 : v.tokens ≤ 1000000
  k0 : 0 ≤ v.comm
  k1 : v.comm ≤ 1000000
  o0 : 0 ≤ v.outs
  o1 : v.outs ≤ 1000000
  jl : v.jailed = true → v.inset = false
theorem standI_bd (v : VS) : 0 ≤ standI v ∧ standI v ≤ 2 := by unfold standI; split <;> (try split) <;> omega
/-! ### the delegations -/
theorem rep0 (n i : Nat) : (List.replicate n (0 : Int)).getD i 0 = 0 := by
  simp only [List.getD, List.getElem?_replicate]; split <;> rfl
end Go.Proofs.YtohjjgefklhmaaaGreatDoor

namespace Go.Proofs.YtohjjgefklhmaaaGreatDoor
open Go.ChangeShapes Go.WideShapes Go.ChangeAt Go.RowKit
set_option linter.unusedVariables false

/-! ### delegations and entries, read from what an engine wrote -/
structure DB (y : EC) : Prop where
  s0 : ∀ k j, k < 6 → j < 5 → 0 ≤ y.sh k j ∧ y.sh k j ≤ 1000000
  p0 : ∀ k j, k < 6 → j < 5 → 0 < y.sh k j → 0 ≤ y.per j - y.upto k j ∧ y.per j - y.upto k j ≤ 1073741824000000
/-! ### entries -/
structure EBd (nb nv h : Int) (e : ES) : Prop where
  w0 : 0 ≤ e.who
  w1 : e.who ≤ nb - 1
  v0 : 0 ≤ e.val
  v1 : e.val ≤ nv - 1
  m0 : 0 ≤ e.made
  m1 : e.made ≤ h
  a0 : 0 ≤ e.amount
  a1 : e.amount ≤ 1000000
end Go.Proofs.YtohjjgefklhmaaaGreatDoor

namespace Go.Proofs.YtohjjgefklhmaaaGreatDoor
open Go.ChangeShapes Go.WideShapes Go.ChangeAt Go.RowKit
set_option linter.unusedVariables false

/-! ### how many entries there are -/
theorem sumN_ind (i : Nat) (c : Int) (n : Nat) : sumN (fun a => if (i : Int) = (a : Int) then c else 0) n = if i < n then c else 0 := by
  induction n with
  | zero => simp [sumN]
  | succ n ih =>
    simp only [sumN, ih]
    by_cases e : i = n
    · subst e; rw [if_neg (by omega), if_pos rfl, if_pos (by omega)]; omega
    · rw [if_neg (show ¬ (i : Int) = (n : Int) by omega)]
      by_cases h : i < n
      · rw [if_pos h, if_pos (by omega)]; omega
      · rw [if_neg h, if_neg (by omega)]; omega
theorem sumN_add (f g : Nat → Int) (n : Nat) : sumN (fun a => f a + g a) n = sumN f n + sumN g n := by
  induction n with
  | zero => rfl
  | succ n ih => simp only [sumN, ih]; omega
theorem countE_cons (e : ES) (l : List ES) (a b : Int) : countE (e :: l) a b = countE l a b + (if e.who = a ∧ e.val = b then 1 else 0) := by
  rw [countE_P, countE_P, List.countP_cons]
  by_cases h : e.who = a ∧ e.val = b
  · rw [if_pos h, decide_eq_true h, if_pos rfl]; omega
  · rw [if_neg h, decide_eq_false h, if_neg (by simp)]; omega
theorem ents_count (l : List ES) (h : ∀ e, e ∈ l → ∃ i j : Nat, e.who = i ∧ i < 6 ∧ e.val = j ∧ j < 5) : (l.length : Int) = sumN (fun a => sumN (fun b => countE l a b) 5) 6 := by
  induction l with
  | nil => simp [countE, sumN]
  | cons e l ih =>
    obtain ⟨i, j, h1, h2, h3, h4⟩ := h e (by simp)
    have ih := ih (fun e he => h e (by simp [he]))
    have e1 : ∀ a : Nat, sumN (fun b => countE (e :: l) a b) 5 = sumN (fun b => countE l a b) 5 + (if (i : Int) = (a : Int) then 1 else 0) := fun a => by
      rw [sumN_congr (f := fun b => countE l a b + (if (j : Int) = (b : Int) then (if (i : Int) = (a : Int) then 1 else 0) else 0)) 5 (fun b _ => by
        rw [countE_cons, h1, h3]
        by_cases hi : (i : Int) = (a : Int)
        · by_cases hj : (j : Int) = (b : Int)
          · rw [if_pos ⟨hi, hj⟩, if_pos hj, if_pos hi]
          · rw [if_neg (fun h => hj h.2), if_neg hj]
        · rw [if_neg (fun h => hi h.1)]; simp [hi]), sumN_add, sumN_ind, if_pos h4]
    rw [sumN_congr (f := fun a => sumN (fun b => countE l a b) 5 + (if (i : Int) = (a : Int) then 1 else 0)) 6 (fun a _ => e1 a), sumN_add, sumN_ind, if_pos h2, ← ih]
    simp
theorem sumN_le_const (f : Nat → Int) (c : Int) (n : Nat) (h : ∀ k, f k ≤ c) : sumN f n ≤ c * n := by
  induction n with
  | zero => simp [sumN]
  | succ n ih =>
    have := h n
    simp only [sumN, Int.natCast_add, Int.mul_add]; omega
theorem ents_le {x : EC} (ok : Fine x) (hi : InvE x) : x.ents.length ≤ 120 := by
  have okx : Ok x.height x := ok
  have h1 := ents_count x.ents (fun e he => by
    obtain ⟨i, hw, hi'⟩ := (okx.ent e he).w
    obtain ⟨j, hv, hj⟩ := hi.en.vl e he
    have := okx.b6; have := okx.v5
    exact ⟨i, j, hw, by omega, hv, by omega⟩)
  have h2 : ∀ a : Nat, sumN (fun b => countE x.ents a b) 5 ≤ 20 := fun a => by
    have := sumN_le_const (fun b => countE x.ents a b) 4 5 (fun b => hi.en.ct _ _); omega
  have h3 := sumN_le_const (fun a => sumN (fun b => countE x.ents a b) 5) 20 6 h2
  omega
/-! ### an engine that wrote is read again -/
structure YB (y : EC) : Prop where
  db : DB y
  vb : ∀ v, v ∈ y.vals → VB0 v
  bb : ∀ n, n ∈ y.bal → 0 ≤ n ∧ n ≤ 1000000
  ob : ∀ n, n ∈ y.vals.map (fun v => v.owner) → 0 ≤ n ∧ n ≤ 6
  rb : ∀ n, n ∈ y.vals.map (fun v => v.rate) → 0 ≤ n ∧ n ≤ 100
  eb : ∀ e, e ∈ y.ents → EBd y.bal.length y.vals.length y.height e
  fb : y.fees ≤ 1000000
  pb : y.pool ≤ 1000000
  el : y.ents.length ≤ 120
theorem yb_of {y : EC} (ok : Fine y) (hB : InvB y) (hE : InvE y) : YB y := by
  have okx : Ok y.height y := ok
  obtain ⟨h1, h2, h3, h4, h5⟩ := okx.bds
  have b6 := okx.b6
  have v5 := okx.v5
  have hval : ∀ v, v ∈ y.vals → ∃ j, j < y.vals.length ∧ v = y.val j := fun v hv => by
    obtain ⟨j, hj, e⟩ := List.getElem_of_mem hv
    exact ⟨j, hj, by rw [← e]; simp [EC.val, hj]⟩
  refine ⟨⟨fun k j hk hj => ?_, fun k j hk hj hs => ?_⟩, fun v hv => ?_, fun n hn => ?_, fun n hn => ?_, fun n hn => ?_, fun e he => ?_, h2, h3, ents_le ok hE⟩
  · by_cases hjv : j < y.vals.length
    · exact ⟨okx.sh0 k j hk hj, Int.le_trans (okx.sh_le hk hjv) (okx.val j hjv).s1⟩
    · rw [hE.sv k j (by omega) hk hj]; omega
  · have hjv : j < y.vals.length := by
      by_cases hjv : j < y.vals.length
      · exact hjv
      · have := hE.sv k j (by omega) hk hj; omega
    have hu := okx.upt k j hk hj
    have ho := okx.owed hk hjv
    have h6 := (h4 j hjv).2
    have h7 := (okx.val j hjv).k0
    refine ⟨by omega, ?_⟩
    have h8 : 1 * (y.per j - y.upto k j) ≤ y.sh k j * (y.per j - y.upto k j) := Int.mul_le_mul_of_nonneg_right (by omega) (by omega)
    generalize y.sh k j * (y.per j - y.upto k j) = z at *
    omega
  · obtain ⟨j, hj, rfl⟩ := hval v hv
    have hv := okx.val j hj
    have h6 := h4 j hj
    exact ⟨hv.t0, h6.1, hv.k0, Int.le_trans hv.ko h6.2, Int.le_trans hv.k0 hv.ko, h6.2, hv.jl⟩
  · obtain ⟨k, hk, rfl⟩ := List.getElem_of_mem hn
    have e : y.balAt k = y.bal[k] := by simp [EC.balAt, hk]
    rw [← e]; exact ⟨okx.bal k hk, h1 k hk⟩
  · obtain ⟨i, rfl, hi⟩ := hE.ow n hn; omega
  · obtain ⟨v, hv, rfl⟩ := List.mem_map.1 hn
    obtain ⟨j, hj, rfl⟩ := hval v hv
    exact ⟨(okx.val j hj).r0, (okx.val j hj).r1⟩
  · obtain ⟨i, hw, hi⟩ := (okx.ent e he).w
    obtain ⟨j, hv, hj⟩ := hE.en.vl e he
    have h6 := okx.ent e he
    obtain ⟨k, hk, rfl⟩ := List.getElem_of_mem he
    have h7 := h5 k hk
    exact ⟨by omega, by omega, by omega, by omega, h6.m0, h6.m1, h6.a0, h7⟩
theorem vs0_len' (os rs : List Int) (h : rs.length = os.length) : (vs0 os rs).length = os.length := by simp [vs0, h]
theorem vs0_at' (os rs : List Int) (j : Nat) (h : rs.length = os.length) (hj : j < os.length) : (vs0 os rs).getD j v0 = ⟨os.getD j 0, rs.getD j 0, 0, 0, 0, 0, false, false⟩ := by
  simp [vs0, hj, h]
end Go.Proofs.YtohjjgefklhmaaaGreatDoor

namespace Go.Proofs.YtohjjgefklhmaaaGreatDoor
open Go.ChangeShapes Go.WideShapes Go.ChangeAt Go.RowKit
set_option linter.unusedVariables false

/-! ### how long it is -/
theorem delN_len (y : EC) (k j : Nat) : (delN y k j).length ≤ 2 := by unfold delN; split <;> simp
theorem delR_len (y : EC) (k n : Nat) : (delR y k n).length ≤ 2 * n := by
  induction n with
  | zero => simp [delR]
  | succ n ih => have := delN_len y k n; simp only [delR, List.length_append]; omega
theorem delA_len (y : EC) (hv : y.vals.length ≤ 5) (n : Nat) : (delA y n).length ≤ 10 * n := by
  induction n with
  | zero => simp [delA]
  | succ n ih => have := delR_len y n y.vals.length; simp only [delA, List.length_append]; omega
theorem flat_len {α : Type} (f : α → List Int) (c : Nat) (l : List α) (h : ∀ a, (f a).length = c) : (l.flatMap f).length = c * l.length := by
  induction l with
  | nil => simp
  | cons a l ih => rw [List.flatMap_cons, List.length_append, h, ih, List.length_cons, Nat.mul_add]; omega
end Go.Proofs.YtohjjgefklhmaaaGreatDoor
