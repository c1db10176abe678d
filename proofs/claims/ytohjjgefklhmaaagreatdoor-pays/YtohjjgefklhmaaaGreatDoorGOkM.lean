import Derived.Test.YtohjjgefklhmaaaGreatDoorGMoveM
namespace Go.Proofs.YtohjjgefklhmaaaGreatDoor
open Go.ChangeShapes Go.WideShapes Go.ChangeAt Go.RowKit
set_option linter.unusedVariables false

/-! ### sums -/
def sumI : List Int → Int
  | [] => 0
  | a :: l => a + sumI l
theorem sumI_set (l : List Int) (k : Nat) (y : Int) (h : k < l.length) : sumI (l.set k y) = sumI l + y - l.getD k 0 := by
  induction l generalizing k with
  | nil => simp at h
  | cons a l ih =>
    cases k with
    | zero => simp [sumI]; omega
    | succ k =>
      have := ih k (by simpa using h)
      simp only [List.set_cons_succ, sumI, this, List.getD_cons_succ]; omega
theorem sumI_nn (l : List Int) (hn : ∀ k, k < l.length → 0 ≤ l.getD k 0) : 0 ≤ sumI l := by
  induction l with
  | nil => exact Int.le_refl _
  | cons a l ih =>
    have h0 := hn 0 (by simp)
    have := ih (fun k hk => by have := hn (k + 1) (by simpa using hk); simpa using this)
    simp only [List.getD_cons_zero] at h0
    simp only [sumI]; omega
theorem sumI_le (l : List Int) (hn : ∀ k, k < l.length → 0 ≤ l.getD k 0) (k : Nat) (hk : k < l.length) : l.getD k 0 ≤ sumI l := by
  induction l generalizing k with
  | nil => simp at hk
  | cons a l ih =>
    have h0 := hn 0 (by simp)
    simp only [List.getD_cons_zero] at h0
    have hn' : ∀ k, k < l.length → 0 ≤ l.getD k 0 := fun k hk => by have := hn (k + 1) (by simpa using hk); simpa using this
    cases k with
    | zero => have := sumI_nn l hn'; simp [sumI]; omega
    | succ k => have := ih hn' k (by simpa using hk); simp only [List.getD_cons_succ, sumI]; omega
theorem sumI_append (l m : List Int) : sumI (l ++ m) = sumI l + sumI m := by
  induction l with
  | nil => simp [sumI]
  | cons a l ih => simp only [List.cons_append, sumI, ih]; omega
def sumV (f : VS → Int) (l : List VS) : Int := sumI (l.map f)
theorem getD_map (f : VS → Int) (l : List VS) (k : Nat) (h : k < l.length) : (l.map f).getD k 0 = f (l.getD k v0) := by simp [h]
theorem sumV_mod (f : VS → Int) (l : List VS) (j : Nat) (g : VS → VS) (h : j < l.length) : sumV f (l.modify j g) = sumV f l + f (g (l.getD j v0)) - f (l.getD j v0) := by
  have e : (l.modify j g).map f = (l.map f).set j (f (g (l.getD j v0))) := by
    apply List.ext_getElem?
    intro i
    simp only [List.getElem?_map, List.getElem?_modify]
    by_cases e : j = i
    · subst e; simp [h]
    · rw [List.getElem?_set_ne e]; simp [e]
  unfold sumV
  rw [e, sumI_set _ _ _ (by simpa using h), getD_map f l j h]
theorem EC.val_getD (x : EC) (j : Nat) : x.vals.getD j v0 = x.val j := rfl
theorem sumV_le (f : VS → Int) (l : List VS) (hn : ∀ k, k < l.length → 0 ≤ f (l.getD k v0)) (k : Nat) (hk : k < l.length) : f (l.getD k v0) ≤ sumV f l := by
  have := sumI_le (l.map f) (fun i hi => by rw [getD_map f l i (by simpa using hi)]; exact hn i (by simpa using hi)) k (by simpa using hk)
  rwa [getD_map f l k hk] at this
theorem sumV_nn (f : VS → Int) (l : List VS) (hn : ∀ k, k < l.length → 0 ≤ f (l.getD k v0)) : 0 ≤ sumV f l :=
  sumI_nn (l.map f) (fun i hi => by rw [getD_map f l i (by simpa using hi)]; exact hn i (by simpa using hi))
def sum6 (f : Nat → Int) : Int := f 0 + f 1 + f 2 + f 3 + f 4 + f 5
theorem lt6 {k : Nat} (h : k < 6) : k = 0 ∨ k = 1 ∨ k = 2 ∨ k = 3 ∨ k = 4 ∨ k = 5 := by omega
theorem sum6_upd {f f' : Nat → Int} {k : Nat} (hk : k < 6) (h : ∀ i, i < 6 → i ≠ k → f' i = f i) : sum6 f' = sum6 f + f' k - f k := by
  unfold sum6
  rcases lt6 hk with rfl | rfl | rfl | rfl | rfl | rfl
  · rw [h 1 (by omega) (by omega), h 2 (by omega) (by omega), h 3 (by omega) (by omega), h 4 (by omega) (by omega), h 5 (by omega) (by omega)]; omega
  · rw [h 0 (by omega) (by omega), h 2 (by omega) (by omega), h 3 (by omega) (by omega), h 4 (by omega) (by omega), h 5 (by omega) (by omega)]; omega
  · rw [h 0 (by omega) (by omega), h 1 (by omega) (by omega), h 3 (by omega) (by omega), h 4 (by omega) (by omega), h 5 (by omega) (by omega)]; omega
  · rw [h 0 (by omega) (by omega), h 1 (by omega) (by omega), h 2 (by omega) (by omega), h 4 (by omega) (by omega), h 5 (by omega) (by omega)]; omega
  · rw [h 0 (by omega) (by omega), h 1 (by omega) (by omega), h 2 (by omega) (by omega), h 3 (by omega) (by omega), h 5 (by omega) (by omega)]; omega
  · rw [h 0 (by omega) (by omega), h 1 (by omega) (by omega), h 2 (by omega) (by omega), h 3 (by omega) (by omega), h 4 (by omega) (by omega)]; omega
theorem sum6_ge {f : Nat → Int} (h : ∀ i, i < 6 → 0 ≤ f i) {k : Nat} (hk : k < 6) : f k ≤ sum6 f := by
  have h0 := h 0 (by omega); have h1 := h 1 (by omega); have h2 := h 2 (by omega); have h3 := h 3 (by omega); have h4 := h 4 (by omega); have h5 := h 5 (by omega)
  unfold sum6
  rcases lt6 hk with rfl | rfl | rfl | rfl | rfl | rfl <;> omega
theorem sum6_congr {f f' : Nat → Int} (h : ∀ i, i < 6 → f' i = f i) : sum6 f' = sum6 f := by
  unfold sum6; rw [h 0 (by omega), h 1 (by omega), h 2 (by omega), h 3 (by omega), h 4 (by omega), h 5 (by omega)]
theorem sum6_zero {f : Nat → Int} (h : ∀ i, i < 6 → 0 ≤ f i) (hs : sum6 f = 0) : ∀ i, i < 6 → f i = 0 := fun i hi => by
  have := sum6_ge h hi; have := h i hi; omega

/-! ### what always holds -/
structure VOkE (v : VS) : Prop where
  t0 : 0 ≤ v.tokens
  s0 : 0 ≤ v.shares
  s1 : v.shares ≤ 1000000
  r0 : 0 ≤ v.rate
  r1 : v.rate ≤ 100
  k0 : 0 ≤ v.comm
  ko : v.comm ≤ v.outs
  tk : 0 < v.tokens → 0 < v.shares
  oz : v.shares = 0 → v.outs = v.comm
  jl : v.jailed = true → v.inset = false
structure EOkE (n : Nat) (h : Int) (e : ES) : Prop where
  w : ∃ i : Nat, e.who = i ∧ i < n
  m0 : 0 ≤ e.made
  m1 : e.made ≤ h
  a0 : 0 ≤ e.amount
def EC.tot (x : EC) : Int := sumI x.bal + x.fees + x.pool + sumV (·.tokens) x.vals + sumV (·.outs) x.vals + sumI (x.ents.map (·.amount))
structure Ok (H : Int) (x : EC) : Prop where
  b6 : x.bal.length ≤ 6
  v5 : x.vals.length ≤ 5
  tl : x.tab.length = 65
  fee0 : 0 ≤ x.fee
  fee1 : x.fee ≤ 100
  top0 : 1 ≤ x.top
  top1 : x.top ≤ 5
  mat0 : 1 ≤ x.mature
  mat1 : x.mature ≤ 20
  hgt0 : 0 ≤ x.height
  hgt1 : x.height ≤ 1000
  H0 : 0 ≤ H
  H1 : H ≤ 1001
  bal : ∀ k, k < x.bal.length → 0 ≤ x.balAt k
  fees : 0 ≤ x.fees
  pool : 0 ≤ x.pool
  val : ∀ j, j < x.vals.length → VOkE (x.val j)
  ent : ∀ e, e ∈ x.ents → EOkE x.bal.length x.height e
  tot : x.tot ≤ 1000000
  sh0 : ∀ k j, k < 6 → j < 5 → 0 ≤ x.sh k j
  shs : ∀ j, j < x.vals.length → sum6 (fun k => x.sh k j) = (x.val j).shares
  per : ∀ j, j < 5 → 0 ≤ x.per j ∧ x.per j ≤ H * 1073741824000000
  upt : ∀ k j, k < 6 → j < 5 → -1073741824000000 ≤ x.upto k j ∧ x.upto k j ≤ x.per j
  due : ∀ j, j < x.vals.length → sum6 (fun k => x.sh k j * (x.per j - x.upto k j)) ≤ 1073741824 * ((x.val j).outs - (x.val j).comm)

section
variable {H : Int} {x : EC}
theorem Ok.parts (ok : Ok H x) : 0 ≤ sumI x.bal ∧ 0 ≤ sumV (·.tokens) x.vals ∧ 0 ≤ sumV (·.outs) x.vals ∧ 0 ≤ sumI (x.ents.map (·.amount)) := by
  refine ⟨sumI_nn _ ok.bal, sumV_nn _ _ (fun k hk => (ok.val k hk).t0), sumV_nn _ _ (fun k hk => Int.le_trans (ok.val k hk).k0 (ok.val k hk).ko), sumI_nn _ (fun k hk => ?_)⟩
  have hk' : k < x.ents.length := by simpa using hk
  have : (x.ents.map (·.amount)).getD k 0 = x.ents[k].amount := by simp [hk']
  rw [this]
  exact (ok.ent _ (List.getElem_mem hk')).a0
/-- every number is at most all -/
theorem Ok.bds (ok : Ok H x) : (∀ k, k < x.bal.length → x.balAt k ≤ 1000000) ∧ x.fees ≤ 1000000 ∧ x.pool ≤ 1000000 ∧ (∀ j, j < x.vals.length → (x.val j).tokens ≤ 1000000 ∧ (x.val j).outs ≤ 1000000) ∧ (∀ k (hk : k < x.ents.length), x.ents[k].amount ≤ 1000000) := by
  obtain ⟨p1, p2, p3, p4⟩ := ok.parts
  have ht := ok.tot
  have hf := ok.fees
  have hp := ok.pool
  unfold EC.tot at ht
  refine ⟨fun k hk => ?_, by omega, by omega, fun j hj => ⟨?_, ?_⟩, fun k hk => ?_⟩
  · have h1 : x.balAt k ≤ sumI x.bal := sumI_le x.bal ok.bal k hk
    omega
  · have h1 : (x.val j).tokens ≤ sumV (·.tokens) x.vals := sumV_le (·.tokens) x.vals (fun k hk => (ok.val k hk).t0) j hj
    omega
  · have h1 : (x.val j).outs ≤ sumV (·.outs) x.vals := sumV_le (·.outs) x.vals (fun k hk => Int.le_trans (ok.val k hk).k0 (ok.val k hk).ko) j hj
    omega
  · have e : (x.ents.map (·.amount)).getD k 0 = x.ents[k].amount := by simp [hk]
    have h1 := sumI_le (x.ents.map (·.amount)) (fun i hi => by
      have hi' : i < x.ents.length := by simpa using hi
      have : (x.ents.map (·.amount)).getD i 0 = x.ents[i].amount := by simp [hi']
      rw [this]; exact (ok.ent _ (List.getElem_mem hi')).a0) k (by simpa using hk)
    rw [e] at h1
    omega
theorem Ok.term (ok : Ok H x) {k j : Nat} (hk : k < 6) (hj : j < 5) : 0 ≤ x.sh k j * (x.per j - x.upto k j) :=
  Int.mul_nonneg (ok.sh0 k j hk hj) (by have := ok.upt k j hk hj; omega)
theorem Ok.owed (ok : Ok H x) {k j : Nat} (hk : k < 6) (hj : j < x.vals.length) : x.sh k j * (x.per j - x.upto k j) ≤ 1073741824 * ((x.val j).outs - (x.val j).comm) :=
  Int.le_trans (sum6_ge (f := fun k => x.sh k j * (x.per j - x.upto k j)) (fun i hi => ok.term hi (by have := ok.v5; omega)) hk) (ok.due j hj)
theorem Ok.dueOk (ok : Ok H x) {k j : Nat} (hk : k < 6) (hj : j < x.vals.length) : DueOk x k j := by
  have v5 := ok.v5
  have h1 := ok.upt k j hk (by omega)
  have h2 := ok.per j (by omega)
  have h3 := ok.owed hk hj
  have h4 := (ok.bds.2.2.2.1 j hj).2
  have h5 := (ok.val j hj).k0
  have hH := ok.H1
  exact ⟨h1.1, h1.2, by omega, ok.term hk (by omega), by omega⟩
theorem Ok.due_le (ok : Ok H x) {k j : Nat} (hk : k < 6) (hj : j < x.vals.length) : 0 ≤ x.due k j ∧ x.due k j ≤ (x.val j).outs - (x.val j).comm ∧ 1073741824 * x.due k j ≤ x.sh k j * (x.per j - x.upto k j) := by
  have h3 := ok.owed hk hj
  have h4 := ok.term hk (show j < 5 by have := ok.v5; omega)
  unfold EC.due
  generalize x.sh k j * (x.per j - x.upto k j) = z at *
  omega
theorem Ok.accOk (ok : Ok H x) : AccOk x := by
  obtain ⟨h1, h2, h3, h4, h5⟩ := ok.bds
  exact ⟨ok.b6, ok.fee0, by have := ok.fee1; omega, ok.fees, by omega, ok.pool, by omega, fun k hk => ⟨ok.bal k hk, by have := h1 k hk; omega⟩⟩
theorem Ok.valOk (ok : Ok H x) {j : Nat} (hj : j < x.vals.length) : ValOk (x.val j) := ⟨(ok.val j hj).t0, (ok.bds.2.2.2.1 j hj).1, (ok.val j hj).s0, (ok.val j hj).s1⟩
theorem Ok.sh_le (ok : Ok H x) {k j : Nat} (hk : k < 6) (hj : j < x.vals.length) : x.sh k j ≤ (x.val j).shares := by
  rw [← ok.shs j hj]
  exact sum6_ge (f := fun k => x.sh k j) (fun i hi => ok.sh0 i j hi (by have := ok.v5; omega)) hk
theorem Ok.lvOk (ok : Ok H x) {k j : Nat} (hk : k < x.bal.length) (hj : j < x.vals.length) : LvOk x k j := by
  have b6 := ok.b6
  have v5 := ok.v5
  obtain ⟨h1, h2, h3, h4, h5⟩ := ok.bds
  have hv := ok.val j hj
  have hd := ok.due_le (k := k) (by omega) hj
  exact ⟨b6, hk, v5, hj, ok.valOk hj, ok.dueOk (by omega) hj, Int.le_trans hv.k0 hv.ko, (h4 j hj).2, hv.k0, by have := (h4 j hj).2; have := hv.ko; omega, ok.bal k hk, h1 k hk, ok.pool, h3, ok.sh0 k j (by omega) (by omega), ok.sh_le (by omega) hj, by have := (h4 j hj).2; have := hv.k0; omega⟩
theorem Ok.jnOk (ok : Ok H x) {k j : Nat} (hk : k < x.bal.length) (hj : j < x.vals.length) : JnOk x k j := by
  have h := ok.lvOk hk hj
  exact ⟨h.hl, h.hk, h.hv, h.hj, h.hV, h.hd, h.o0, by have := h.o1; omega, h.b0, by have := h.b1; omega, h.s0, by have := h.s1; have := h.hV.s1; omega⟩
theorem Ok.feeOk (ok : Ok H x) : FeeOk x := by
  obtain ⟨h1, h2, h3, h4, h5⟩ := ok.bds
  have v5 := ok.v5
  have hH := ok.H1
  refine ⟨fun j hj => ok.valOk hj, fun j hj => ⟨(ok.val j hj).r0, (ok.val j hj).r1⟩, fun j hj => ⟨(ok.val j hj).k0, ?_⟩, fun j hj => ⟨Int.le_trans (ok.val j hj).k0 (ok.val j hj).ko, ?_⟩, fun j hj => ?_, ok.fees, h2, ok.pool, by omega⟩
  · have := (ok.val j hj).ko; have := (h4 j hj).2; omega
  · have := (h4 j hj).2; omega
  · have := ok.per j (by omega); omega
end
end Go.Proofs.YtohjjgefklhmaaaGreatDoor

namespace Go.Proofs.YtohjjgefklhmaaaGreatDoor
open Go.ChangeShapes Go.WideShapes Go.ChangeAt Go.RowKit
set_option linter.unusedVariables false

theorem balAt_set (l : List Int) (k i : Nat) (y : Int) (hk : k < l.length) : (l.set k y).getD i 0 = if i = k then y else l.getD i 0 := by
  by_cases e : i = k
  · subst e; rw [if_pos rfl]; simp [hk]
  · rw [if_neg e]; simp only [List.getD]; rw [List.getElem?_set_ne (fun h => e h.symm)]
/-- only the account k, the validator j, and their delegation are turned -/
structure Upd (x x' : EC) (k j : Nat) : Prop where
  bl : x'.bal.length = x.bal.length
  vl : x'.vals.length = x.vals.length
  tl : x'.tab.length = x.tab.length
  fee : x'.fee = x.fee
  top : x'.top = x.top
  mat : x'.mature = x.mature
  hgt : x'.height = x.height
  ents : x'.ents = x.ents
  bal : ∀ i, i ≠ k → x'.balAt i = x.balAt i
  val : ∀ i, i ≠ j → x'.val i = x.val i
  sh : ∀ k' j', k' < 6 → j' < 5 → ¬ (k' = k ∧ j' = j) → x'.sh k' j' = x.sh k' j'
  per : ∀ j', j' < 5 → x'.per j' = x.per j'
  upt : ∀ k' j', k' < 6 → j' < 5 → ¬ (k' = k ∧ j' = j) → x'.upto k' j' = x.upto k' j'
theorem Upd.trans {x y z : EC} {k j : Nat} (h : Upd x y k j) (h' : Upd y z k j) : Upd x z k j :=
  ⟨h'.bl.trans h.bl, h'.vl.trans h.vl, h'.tl.trans h.tl, h'.fee.trans h.fee, h'.top.trans h.top, h'.mat.trans h.mat, h'.hgt.trans h.hgt, h'.ents.trans h.ents, fun i hi => (h'.bal i hi).trans (h.bal i hi), fun i hi => (h'.val i hi).trans (h.val i hi), fun a b h1 h2 h3 => (h'.sh a b h1 h2 h3).trans (h.sh a b h1 h2 h3), fun a h1 => (h'.per a h1).trans (h.per a h1), fun a b h1 h2 h3 => (h'.upt a b h1 h2 h3).trans (h.upt a b h1 h2 h3)⟩
theorem Ok.upd' {H : Int} {x x' : EC} (ok : Ok H x) {k j : Nat} (u : Upd x x' k j) (hk : k < x.bal.length) (hj : j < x.vals.length) (hb : 0 ≤ x'.balAt k) (hf : 0 ≤ x'.fees) (hp : 0 ≤ x'.pool) (hv : VOkE (x'.val j)) (ht : x'.tot ≤ 1000000)
    (hs : 0 ≤ x'.sh k j) (hss : x'.sh k j - x.sh k j = (x'.val j).shares - (x.val j).shares) (hu0 : -1073741824000000 ≤ x'.upto k j) (hu1 : x'.upto k j ≤ x.per j)
    (hd : sum6 (fun k => x'.sh k j * (x'.per j - x'.upto k j)) ≤ 1073741824 * ((x'.val j).outs - (x'.val j).comm)) : Ok H x' := by
  have b6 := ok.b6
  have v5 := ok.v5
  have k6 : k < 6 := by omega
  have j5 : j < 5 := by omega
  refine ⟨by rw [u.bl]; exact b6, by rw [u.vl]; exact v5, u.tl.trans ok.tl, by rw [u.fee]; exact ok.fee0, by rw [u.fee]; exact ok.fee1, by rw [u.top]; exact ok.top0, by rw [u.top]; exact ok.top1, by rw [u.mat]; exact ok.mat0, by rw [u.mat]; exact ok.mat1, by rw [u.hgt]; exact ok.hgt0, by rw [u.hgt]; exact ok.hgt1, ok.H0, ok.H1, fun i hi => ?_, hf, hp, fun i hi => ?_, fun e he => ?_, ht, fun a b h1 h2 => ?_, fun i hi => ?_, fun i hi => ?_, fun a b h1 h2 => ?_, fun i hi => ?_⟩
  · rw [u.bl] at hi
    by_cases e : i = k
    · subst e; exact hb
    · rw [u.bal i e]; exact ok.bal i hi
  · rw [u.vl] at hi
    by_cases e : i = j
    · subst e; exact hv
    · rw [u.val i e]; exact ok.val i hi
  · rw [u.ents] at he; rw [u.bl, u.hgt]; exact ok.ent e he
  · by_cases e : a = k ∧ b = j
    · obtain ⟨rfl, rfl⟩ := e; exact hs
    · rw [u.sh a b h1 h2 e]; exact ok.sh0 a b h1 h2
  · rw [u.vl] at hi
    by_cases e : i = j
    · subst e
      rw [sum6_upd (f := fun k => x.sh k i) (f' := fun k => x'.sh k i) k6 (fun a ha hne => u.sh a i ha j5 (fun h => hne h.1)), ok.shs i hi]
      omega
    · rw [u.val i e, sum6_congr (f := fun k => x.sh k i) (f' := fun k => x'.sh k i) (fun a ha => u.sh a i ha (by omega) (fun h => e h.2))]
      exact ok.shs i hi
  · rw [u.per i hi]; exact ok.per i hi
  · rw [u.per b h2]
    by_cases e : a = k ∧ b = j
    · obtain ⟨rfl, rfl⟩ := e; exact ⟨hu0, hu1⟩
    · rw [u.upt a b h1 h2 e]; exact ok.upt a b h1 h2
  · rw [u.vl] at hi
    have i5 : i < 5 := by omega
    by_cases e : i = j
    · subst e
      exact hd
    · rw [u.val i e, sum6_congr (f := fun k => x.sh k i * (x.per i - x.upto k i)) (f' := fun k => x'.sh k i * (x'.per i - x'.upto k i)) (fun a ha => by rw [u.sh a i ha i5 (fun h => e h.2), u.per i i5, u.upt a i ha i5 (fun h => e h.2)])]
      exact ok.due i hi

theorem Ok.upd {H : Int} {x x' : EC} (ok : Ok H x) {k j : Nat} (u : Upd x x' k j) (hk : k < x.bal.length) (hj : j < x.vals.length) (hb : 0 ≤ x'.balAt k) (hf : 0 ≤ x'.fees) (hp : 0 ≤ x'.pool) (hv : VOkE (x'.val j)) (ht : x'.tot ≤ 1000000)
    (hs : 0 ≤ x'.sh k j) (hss : x'.sh k j - x.sh k j = (x'.val j).shares - (x.val j).shares) (hu0 : -1073741824000000 ≤ x'.upto k j) (hu1 : x'.upto k j ≤ x.per j)
    (hd : x'.sh k j * (x.per j - x'.upto k j) - x.sh k j * (x.per j - x.upto k j) ≤ 1073741824 * (((x'.val j).outs - (x'.val j).comm) - ((x.val j).outs - (x.val j).comm))) : Ok H x' := by
  have b6 := ok.b6
  have v5 := ok.v5
  have k6 : k < 6 := by omega
  have j5 : j < 5 := by omega
  refine ok.upd' u hk hj hb hf hp hv ht hs hss hu0 hu1 ?_
  have h1 := ok.due j hj
  rw [sum6_upd (f := fun k => x.sh k j * (x.per j - x.upto k j)) (f' := fun k => x'.sh k j * (x'.per j - x'.upto k j)) k6 (fun a ha hne => by rw [u.sh a j ha j5 (fun h => hne h.1), u.per j j5, u.upt a j ha j5 (fun h => hne h.1)])]
  rw [u.per j j5]
  omega
/-- the accounts alone are turned -/
theorem Ok.acc {H : Int} {x : EC} (ok : Ok H x) (bal' : List Int) (fees' pool' : Int) (hl : bal'.length = x.bal.length) (hb : ∀ i, i < x.bal.length → 0 ≤ bal'.getD i 0) (hf : 0 ≤ fees') (hp : 0 ≤ pool') (ht : sumI bal' + fees' + pool' ≤ 1000000 - (x.tot - (sumI x.bal + x.fees + x.pool))) : Ok H { x with bal := bal', fees := fees', pool := pool' } :=
  ⟨by simp only [hl]; exact ok.b6, ok.v5, ok.tl, ok.fee0, ok.fee1, ok.top0, ok.top1, ok.mat0, ok.mat1, ok.hgt0, ok.hgt1, ok.H0, ok.H1, fun k hk => hb k (by simp only [hl] at hk; exact hk), hf, hp, ok.val, fun e he => by simp only [hl]; exact ok.ent e he, by unfold EC.tot at *; simp only; omega, ok.sh0, ok.shs, ok.per, ok.upt, ok.due⟩
theorem Ok.charge {H : Int} {x : EC} (ok : Ok H x) {k : Nat} (hk : k < x.bal.length) (hf : x.fee ≤ x.balAt k) : Ok H (chargeFE x k) ∧ (chargeFE x k).tot = x.tot := by
  have h0 := ok.fee0
  have hs : sumI (x.bal.set k (x.balAt k - x.fee)) = sumI x.bal - x.fee := by
    rw [sumI_set _ _ _ hk]; unfold EC.balAt; omega
  constructor
  · refine ok.acc _ _ _ (by simp) (fun i hi => ?_) (by have := ok.fees; omega) ok.pool (by rw [hs]; have := ok.tot; omega)
    rw [balAt_set _ _ _ _ hk]
    split
    · omega
    · exact ok.bal i hi
  · unfold EC.tot chargeFE; simp only; rw [hs]; omega
theorem sentB_sum (l : List Int) (k t : Nat) (a : Int) (hk : k < l.length) (ht : t < l.length) : sumI (sentB l k t a) = sumI l := by
  unfold sentB
  rw [sumI_set _ _ _ (by simpa using ht), sumI_set _ _ _ hk]
  omega
theorem Ok.sent {H : Int} {x : EC} (ok : Ok H x) {k t : Nat} (hk : k < x.bal.length) (ht : t < x.bal.length) {a : Int} (a0 : 0 ≤ a) (ha : a ≤ x.balAt k) : Ok H { x with bal := sentB x.bal k t a } ∧ ({ x with bal := sentB x.bal k t a } : EC).tot = x.tot := by
  have hs := sentB_sum x.bal k t a hk ht
  constructor
  · refine ok.acc _ x.fees x.pool (by simp [sentB]) (fun i hi => ?_) ok.fees ok.pool (by rw [hs]; have := ok.tot; omega)
    unfold sentB
    rw [balAt_set _ _ _ _ (by simpa using ht), balAt_set _ _ _ _ hk, balAt_set _ _ _ _ hk]
    have hbi := ok.bal i hi
    have hbt := ok.bal t ht
    unfold EC.balAt at ha hbi hbt
    split
    · split <;> omega
    · split <;> omega
  · unfold EC.tot; simp only; rw [hs]
theorem Ok.spend {H : Int} {x : EC} (ok : Ok H x) {t : Nat} (ht : t < x.bal.length) {a : Int} (a0 : 0 ≤ a) (ha : a ≤ x.pool) : Ok H { x with pool := x.pool - a, bal := x.bal.set t (x.balAt t + a) } ∧ ({ x with pool := x.pool - a, bal := x.bal.set t (x.balAt t + a) } : EC).tot = x.tot := by
  have hs : sumI (x.bal.set t (x.balAt t + a)) = sumI x.bal + a := by rw [sumI_set _ _ _ ht]; unfold EC.balAt; omega
  constructor
  · refine ok.acc _ x.fees (x.pool - a) (by simp) (fun i hi => ?_) ok.fees (by omega) (by rw [hs]; have := ok.tot; omega)
    rw [balAt_set _ _ _ _ ht]
    have hbt := ok.bal t ht
    split
    · omega
    · exact ok.bal i hi
  · unfold EC.tot; simp only; rw [hs]; omega
end Go.Proofs.YtohjjgefklhmaaaGreatDoor

namespace Go.Proofs.YtohjjgefklhmaaaGreatDoor
open Go.ChangeShapes Go.WideShapes Go.ChangeAt Go.RowKit
set_option linter.unusedVariables false

theorem val_mod (l : List VS) (j i : Nat) (f : VS → VS) (hj : j < l.length) : (l.modify j f).getD i v0 = if i = j then f (l.getD j v0) else l.getD i v0 := by
  by_cases e : i = j
  · subst e; rw [if_pos rfl]; simp [hj]
  · rw [if_neg e]; exact val_modify_ne l i j f e
theorem tab_sh (t : List Int) (i : Nat) (y : Int) (k j : Nat) (hi : i < t.length) : (t.set i y).getD (k * 5 + j) 0 = if k * 5 + j = i then y else t.getD (k * 5 + j) 0 := balAt_set t i _ y hi
theorem tab_any (t : List Int) (i n : Nat) (y : Int) (hi : i < t.length) : (t.set i y).getD n 0 = if n = i then y else t.getD n 0 := balAt_set t i _ y hi

section
variable {H : Int} {x : EC} (ok : Ok H x) {k j : Nat} (hk : k < x.bal.length) (hj : j < x.vals.length)
include ok hk hj
/-! ### pay -/
theorem payF_upd : Upd x (payF x k j) k j := by
  have b6 := ok.b6
  have v5 := ok.v5
  have tl := ok.tl
  refine ⟨by simp [payF], by simp [payF], by simp [payF], rfl, rfl, rfl, rfl, rfl, fun i hi => ?_, fun i hi => ?_, fun a b h1 h2 h3 => ?_, fun a h1 => ?_, fun a b h1 h2 h3 => ?_⟩
  · simp only [payF, EC.balAt]; rw [balAt_set _ _ _ _ hk, if_neg hi]
  · show ((x.vals.modify j _).getD i v0) = x.vals.getD i v0
    rw [val_mod _ _ _ _ hj, if_neg hi]
  · simp only [payF, EC.sh]; rw [tab_any _ _ _ _ (by omega), if_neg (by omega)]
  · simp only [payF, EC.per]; rw [tab_any _ _ _ _ (by omega), if_neg (by omega)]
  · simp only [payF, EC.upto]; rw [tab_any _ _ _ _ (by omega), if_neg (by omega)]
theorem payF_at : (payF x k j).balAt k = x.balAt k + x.due k j ∧ (payF x k j).val j = { x.val j with outs := (x.val j).outs - x.due k j } ∧ (payF x k j).sh k j = x.sh k j ∧ (payF x k j).upto k j = x.per j ∧ (payF x k j).tot = x.tot := by
  have b6 := ok.b6
  have v5 := ok.v5
  have tl := ok.tl
  refine ⟨?_, ?_, payF_sh x k j (by omega) (by omega), ?_, ?_⟩
  · simp only [payF, EC.balAt]; rw [balAt_set _ _ _ _ hk, if_pos rfl]
  · show ((x.vals.modify j _).getD j v0) = _
    rw [val_mod _ _ _ _ hj, if_pos rfl]; rfl
  · simp only [payF, EC.upto]; rw [tab_any _ _ _ _ (by omega), if_pos rfl]
  · unfold EC.tot payF
    simp only
    rw [sumI_set _ _ _ hk, sumV_mod _ _ _ _ hj, sumV_mod _ _ _ _ hj]
    simp only [EC.balAt]
    omega
theorem Ok.pay : Ok H (payF x k j) := by
  have b6 := ok.b6
  obtain ⟨e1, e2, e3, e4, e5⟩ := payF_at ok hk hj
  obtain ⟨d0, d1, d2⟩ := ok.due_le (k := k) (by omega) hj
  have hb := ok.bal k hk
  have v5 := ok.v5
  have hp := ok.upt k j (by omega) (by omega)
  have hv := ok.val j hj
  refine ok.upd (payF_upd ok hk hj) hk hj (by rw [e1]; omega) ok.fees ok.pool ?_ (by rw [e5]; exact ok.tot) (by rw [e3]; exact ok.sh0 k j (by omega) (by omega)) (by rw [e3, e2]; simp) (by rw [e4]; omega) (by rw [e4]; exact Int.le_refl _) ?_
  · rw [e2]
    refine ⟨hv.t0, hv.s0, hv.s1, hv.r0, hv.r1, hv.k0, by simp only; omega, hv.tk, fun hz => ?_, hv.jl⟩
    have := hv.oz hz
    simp only; omega
  · rw [e3, e4, e2, Int.sub_self, Int.mul_zero]; simp only; omega
/-! ### join -/
theorem joinF_upd (t : Int) : Upd x (joinFE x k j t) k j := by
  have b6 := ok.b6
  have v5 := ok.v5
  have tl := ok.tl
  have hp := payF_upd ok hk hj
  have hpl : (payF x k j).vals.length = x.vals.length := hp.vl
  have hpt : (payF x k j).tab.length = 65 := hp.tl.trans tl
  refine ⟨hp.bl, by simp only [joinFE, List.length_modify]; exact hpl, by simp only [joinFE, List.length_set]; exact hp.tl, rfl, rfl, rfl, rfl, rfl, fun i hi => hp.bal i hi, fun i hi => ?_, fun a b h1 h2 h3 => ?_, fun a h1 => ?_, fun a b h1 h2 h3 => ?_⟩
  · rw [← hp.val i hi]
    show ((((payF x k j).vals.modify j _).modify j _).getD i v0) = (payF x k j).vals.getD i v0
    rw [val_mod _ _ _ _ (by simp; omega), if_neg hi, val_mod _ _ _ _ (by omega), if_neg hi]
  · rw [← hp.sh a b h1 h2 h3]
    simp only [joinFE, EC.sh]; rw [tab_any _ _ _ _ (by omega), if_neg (by omega)]
  · rw [← hp.per a h1]
    simp only [joinFE, EC.per]; rw [tab_any _ _ _ _ (by omega), if_neg (by omega)]
  · rw [← hp.upt a b h1 h2 h3]
    simp only [joinFE, EC.upto]; rw [tab_any _ _ _ _ (by omega), if_neg (by omega)]
theorem joinF_at (t : Int) : (joinFE x k j t).balAt k = x.balAt k + x.due k j ∧ (joinFE x k j t).val j = { x.val j with outs := (x.val j).outs - x.due k j, tokens := (x.val j).tokens + t, shares := (x.val j).shares + sharesForF (x.val j) t } ∧ (joinFE x k j t).sh k j = x.sh k j + sharesForF (x.val j) t ∧ (joinFE x k j t).upto k j = x.per j ∧ (joinFE x k j t).tot = x.tot + t := by
  have b6 := ok.b6
  have v5 := ok.v5
  have tl := ok.tl
  obtain ⟨e1, e2, e3, e4, e5⟩ := payF_at ok hk hj
  have hp := payF_upd ok hk hj
  have hpl : (payF x k j).vals.length = x.vals.length := hp.vl
  have hpt : (payF x k j).tab.length = 65 := hp.tl.trans tl
  refine ⟨e1, ?_, ?_, ?_, ?_⟩
  · show ((((payF x k j).vals.modify j _).modify j _).getD j v0) = _
    rw [val_mod _ _ _ _ (by simp; omega), if_pos rfl, val_mod _ _ _ _ (by omega), if_pos rfl, EC.val_getD, e2]
  · simp only [joinFE, EC.sh]; rw [tab_any _ _ _ _ (by omega), if_pos rfl]
  · rw [← e4]; simp only [joinFE, EC.upto]; rw [tab_any _ _ _ _ (by omega), if_neg (by omega)]
  · rw [← e5]
    unfold EC.tot joinFE
    simp only
    rw [sumV_mod _ _ _ _ (by simp; omega), sumV_mod _ _ _ _ (by omega), sumV_mod _ _ _ _ (by simp; omega), sumV_mod _ _ _ _ (by omega), val_mod _ _ _ _ (by omega), if_pos rfl]
    simp only
    omega
theorem Ok.join (t : Int) (t1 : 1 ≤ t) (ht : x.tot + t ≤ 1000000) (hb1 : 1 ≤ sharesForF (x.val j) t) (hb2 : (x.val j).shares + sharesForF (x.val j) t ≤ 1000000) : Ok H (joinFE x k j t) := by
  have b6 := ok.b6
  obtain ⟨e1, e2, e3, e4, e5⟩ := joinF_at ok hk hj t
  obtain ⟨d0, d1, d2⟩ := ok.due_le (k := k) (by omega) hj
  have hb := ok.bal k hk
  have v5 := ok.v5
  have hp := ok.upt k j (by omega) (by omega)
  have hv := ok.val j hj
  have h0 := ok.sh0 k j (by omega) (by omega)
  have hs0 := hv.s0
  have ht0 := hv.t0
  refine ok.upd (joinF_upd ok hk hj t) hk hj (by rw [e1]; omega) ok.fees ok.pool ?_ (by rw [e5]; exact ht) (by rw [e3]; omega) (by rw [e3, e2]; simp only; omega) (by rw [e4]; omega) (by rw [e4]; exact Int.le_refl _) ?_
  · rw [e2]
    exact ⟨by simp only; omega, by simp only; omega, hb2, hv.r0, hv.r1, hv.k0, by simp only; omega, fun _ => by simp only; omega, fun hz => by simp only at hz; omega, hv.jl⟩
  · rw [e3, e4, e2, Int.sub_self, Int.mul_zero]; simp only; omega
end
end Go.Proofs.YtohjjgefklhmaaaGreatDoor

namespace Go.Proofs.YtohjjgefklhmaaaGreatDoor
open Go.ChangeShapes Go.WideShapes Go.ChangeAt Go.RowKit
set_option linter.unusedVariables false

theorem tokensForF_all {v : VS} (h : 0 < v.shares) : tokensForF v v.shares = v.tokens := by
  unfold tokensForF
  rw [if_neg (by omega)]
  exact Int.mul_ediv_cancel_left _ (by omega)

section
variable {H : Int} {x : EC} (ok : Ok H x) {k j : Nat} (hk : k < x.bal.length) (hj : j < x.vals.length)
include ok hk hj
/-! ### leave -/
theorem goneF_upd (n t : Int) : Upd x (goneF (payF x k j) k j n t) k j := by
  have b6 := ok.b6
  have v5 := ok.v5
  have tl := ok.tl
  have hp := payF_upd ok hk hj
  have hpl : (payF x k j).vals.length = x.vals.length := hp.vl
  have hpt : (payF x k j).tab.length = 65 := hp.tl.trans tl
  refine ⟨hp.bl, by simp only [goneF, List.length_modify]; exact hpl, by simp only [goneF, List.length_set]; exact hp.tl, rfl, rfl, rfl, rfl, rfl, fun i hi => hp.bal i hi, fun i hi => ?_, fun a b h1 h2 h3 => ?_, fun a h1 => ?_, fun a b h1 h2 h3 => ?_⟩
  · rw [← hp.val i hi]
    show ((((payF x k j).vals.modify j _).modify j _).getD i v0) = (payF x k j).vals.getD i v0
    rw [val_mod _ _ _ _ (by simp; omega), if_neg hi, val_mod _ _ _ _ (by omega), if_neg hi]
  · rw [← hp.sh a b h1 h2 h3]
    simp only [goneF, EC.sh]; rw [tab_any _ _ _ _ (by omega), if_neg (by omega)]
  · rw [← hp.per a h1]
    simp only [goneF, EC.per]; rw [tab_any _ _ _ _ (by omega), if_neg (by omega)]
  · rw [← hp.upt a b h1 h2 h3]
    simp only [goneF, EC.upto]; rw [tab_any _ _ _ _ (by omega), if_neg (by omega)]
theorem goneF_at (n t : Int) : (goneF (payF x k j) k j n t).balAt k = x.balAt k + x.due k j ∧ (goneF (payF x k j) k j n t).val j = { x.val j with outs := (x.val j).outs - x.due k j, tokens := (x.val j).tokens - t, shares := (x.val j).shares - n } ∧ (goneF (payF x k j) k j n t).sh k j = x.sh k j - n ∧ (goneF (payF x k j) k j n t).upto k j = x.per j ∧ (goneF (payF x k j) k j n t).tot = x.tot - t ∧ (goneF (payF x k j) k j n t).vals.length = x.vals.length := by
  have b6 := ok.b6
  have v5 := ok.v5
  have tl := ok.tl
  obtain ⟨e1, e2, e3, e4, e5⟩ := payF_at ok hk hj
  have hp := payF_upd ok hk hj
  have hpl : (payF x k j).vals.length = x.vals.length := hp.vl
  have hpt : (payF x k j).tab.length = 65 := hp.tl.trans tl
  refine ⟨e1, ?_, ?_, ?_, ?_, by simp only [goneF, List.length_modify]; exact hpl⟩
  · show ((((payF x k j).vals.modify j _).modify j _).getD j v0) = _
    rw [val_mod _ _ _ _ (by simp; omega), if_pos rfl, val_mod _ _ _ _ (by omega), if_pos rfl, EC.val_getD, e2]
  · rw [← e3]; simp only [goneF, EC.sh]; rw [tab_any _ _ _ _ (by omega), if_pos rfl]
  · rw [← e4]; simp only [goneF, EC.upto]; rw [tab_any _ _ _ _ (by omega), if_neg (by omega)]
  · rw [← e5]
    unfold EC.tot goneF
    simp only
    rw [sumV_mod _ _ _ _ (by simp; omega), sumV_mod _ _ _ _ (by omega), sumV_mod _ _ _ _ (by simp; omega), sumV_mod _ _ _ _ (by omega), val_mod _ _ _ _ (by omega), if_pos rfl]
    simp only
    omega
theorem Ok.leave (n : Int) (n1 : 1 ≤ n) (n2 : n ≤ x.sh k j) : Ok H (leaveF x k j n) ∧ (leaveF x k j n).tot = x.tot - tokensForF (x.val j) n ∧ (∀ i, i ≠ j → (leaveF x k j n).val i = x.val i) ∧ (leaveF x k j n).bal.length = x.bal.length ∧ (leaveF x k j n).vals.length = x.vals.length ∧ (leaveF x k j n).ents = x.ents ∧ (leaveF x k j n).height = x.height := by
  have b6 := ok.b6
  have v5 := ok.v5
  have hv := ok.val j hj
  have hsl := ok.sh_le (k := k) (by omega) hj
  obtain ⟨q0, q1⟩ := tokensForF_bd (ok.valOk hj) (show 0 ≤ n by omega) (show n ≤ (x.val j).shares by omega)
  obtain ⟨e1, e2, e3, e4, e5, e6⟩ := goneF_at ok hk hj n (tokensForF (x.val j) n)
  have hu := goneF_upd ok hk hj n (tokensForF (x.val j) n)
  obtain ⟨d0, d1, d2⟩ := ok.due_le (k := k) (by omega) hj
  have hb := ok.bal k hk
  have hp := ok.upt k j (by omega) (by omega)
  have hpool := ok.pool
  have htot := ok.tot
  by_cases hz : (x.val j).shares - n = 0
  · have e0 : leaveF x k j n = clearF (goneF (payF x k j) k j n (tokensForF (x.val j) n)) j := by unfold leaveF; rw [if_pos hz]
    have hn : n = (x.val j).shares := by omega
    have ht : tokensForF (x.val j) n = (x.val j).tokens := by rw [hn]; exact tokensForF_all (by omega)
    rw [e0]
    have hgp : (goneF (payF x k j) k j n (tokensForF (x.val j) n)).pool = x.pool := rfl
    have hgf : (goneF (payF x k j) k j n (tokensForF (x.val j) n)).fees = x.fees := rfl
    generalize goneF (payF x k j) k j n (tokensForF (x.val j) n) = y at *
    have hj' : j < y.vals.length := by omega
    have c2 : (clearF y j).val j = { y.val j with outs := (y.val j).comm } := by
      show ((y.vals.modify j _).getD j v0) = _
      rw [val_mod _ _ _ _ hj', if_pos rfl]; rfl
    have c3 : ∀ i, i ≠ j → (clearF y j).val i = y.val i := fun i hi => by
      show ((y.vals.modify j _).getD i v0) = y.vals.getD i v0
      rw [val_mod _ _ _ _ hj', if_neg hi]
    have c5 : (clearF y j).tot = y.tot := by
      unfold EC.tot clearF
      simp only
      rw [sumV_mod _ _ _ _ hj', sumV_mod _ _ _ _ hj']
      simp only [EC.val_getD]
      omega
    have cl : (clearF y j).vals.length = y.vals.length := by simp [clearF]
    have hu' : Upd x (clearF y j) k j := ⟨hu.bl, cl.trans hu.vl, hu.tl, hu.fee, hu.top, hu.mat, hu.hgt, hu.ents, hu.bal, fun i hi => (c3 i hi).trans (hu.val i hi), hu.sh, hu.per, hu.upt⟩
    have hpo : (clearF y j).pool = x.pool + ((x.val j).outs - x.due k j - (x.val j).comm) := by
      show y.pool + ((y.val j).outs - (y.val j).comm) = _
      rw [e2, hgp]
    refine ⟨ok.upd' hu' hk hj (by show 0 ≤ y.balAt k; rw [e1]; omega) (by show 0 ≤ y.fees; rw [hgf]; exact ok.fees) (by rw [hpo]; omega) ?_ (by rw [c5, e5]; omega) (by show 0 ≤ y.sh k j; rw [e3]; omega) (by show y.sh k j - _ = _; rw [e3, c2, e2]; simp only; omega) (by show -1073741824000000 ≤ y.upto k j; rw [e4]; omega) (by show y.upto k j ≤ _; rw [e4]; exact Int.le_refl _) ?_, by rw [c5, e5], fun i hi => (c3 i hi).trans (hu.val i hi), hu.bl, cl.trans hu.vl, hu.ents, hu.hgt⟩
    · rw [c2, e2]
      exact ⟨by simp only; omega, by simp only; omega, by simp only; omega, hv.r0, hv.r1, hv.k0, Int.le_refl _, fun h => by simp only at h; omega, fun _ => rfl, hv.jl⟩
    · have hsum : sum6 (fun k => y.sh k j) = 0 := by
        rw [sum6_upd (f := fun k => x.sh k j) (f' := fun k => y.sh k j) (k := k) (by omega) (fun a ha hne => hu.sh a j ha (by omega) (fun h => hne h.1)), ok.shs j hj]
        rw [e3]; omega
      have hall := sum6_zero (f := fun k => y.sh k j) (fun i hi => by
        by_cases e : i = k
        · subst e; show 0 ≤ y.sh i j; rw [e3]; omega
        · show 0 ≤ y.sh i j; rw [hu.sh i j hi (by omega) (fun h => e h.1)]; exact ok.sh0 i j hi (by omega)) hsum
      have : sum6 (fun k => (clearF y j).sh k j * ((clearF y j).per j - (clearF y j).upto k j)) = 0 := by
        have hz0 : ∀ i, i < 6 → (clearF y j).sh i j * ((clearF y j).per j - (clearF y j).upto i j) = 0 := fun i hi => by
          show y.sh i j * _ = 0
          have h0 : y.sh i j = 0 := hall i hi
          rw [h0, Int.zero_mul]
        rw [sum6_congr (f := fun _ => 0) hz0]
        rfl
      rw [this, c2]
      simp
  · have e0 : leaveF x k j n = goneF (payF x k j) k j n (tokensForF (x.val j) n) := by unfold leaveF; rw [if_neg hz]
    rw [e0]
    have hgf : (goneF (payF x k j) k j n (tokensForF (x.val j) n)).fees = x.fees := rfl
    have hgp : (goneF (payF x k j) k j n (tokensForF (x.val j) n)).pool = x.pool := rfl
    refine ⟨ok.upd hu hk hj (by rw [e1]; omega) (by rw [hgf]; exact ok.fees) (by rw [hgp]; exact ok.pool) ?_ (by rw [e5]; omega) (by rw [e3]; omega) (by rw [e3, e2]; simp only; omega) (by rw [e4]; omega) (by rw [e4]; exact Int.le_refl _) ?_, e5, hu.val, hu.bl, hu.vl, hu.ents, hu.hgt⟩
    · rw [e2]
      have := hv.s1
      exact ⟨by simp only; omega, by simp only; omega, by simp only; omega, hv.r0, hv.r1, hv.k0, by simp only; omega, fun _ => by simp only; omega, fun h => by simp only at h; omega, hv.jl⟩
    · rw [e3, e4, e2, Int.sub_self, Int.mul_zero]; simp only; omega
/-! ### collect -/
theorem Ok.coll : Ok H (collF x k j) ∧ (collF x k j).tot = x.tot := by
  have b6 := ok.b6
  have v5 := ok.v5
  have tl := ok.tl
  have hv := ok.val j hj
  have hb := ok.bal k hk
  have hk0 := hv.k0
  have hko := hv.ko
  have c2 : (collF x k j).val j = { x.val j with outs := (x.val j).outs - (x.val j).comm, comm := 0 } := by
    show (((x.vals.modify j _).modify j _).getD j v0) = _
    rw [val_mod _ _ _ _ (by simpa using hj), if_pos rfl, val_mod _ _ _ _ hj, if_pos rfl]; rfl
  have c5 : (collF x k j).tot = x.tot := by
    unfold EC.tot collF
    simp only
    rw [sumI_set _ _ _ hk, sumV_mod _ _ _ _ (by simpa using hj), sumV_mod _ _ _ _ hj, sumV_mod _ _ _ _ (by simpa using hj), sumV_mod _ _ _ _ hj, val_mod _ _ _ _ hj, if_pos rfl]
    simp only [EC.balAt, EC.val_getD]
    omega
  have hbk : (collF x k j).balAt k = x.balAt k + (x.val j).comm := by
    simp only [collF, EC.balAt]; rw [balAt_set _ _ _ _ hk, if_pos rfl]
  have hu : Upd x (collF x k j) k j := by
    refine ⟨by simp [collF], by simp [collF], rfl, rfl, rfl, rfl, rfl, rfl, fun i hi => ?_, fun i hi => ?_, fun _ _ _ _ _ => rfl, fun _ _ => rfl, fun _ _ _ _ _ => rfl⟩
    · simp only [collF, EC.balAt]; rw [balAt_set _ _ _ _ hk, if_neg hi]
    · show (((x.vals.modify j _).modify j _).getD i v0) = x.vals.getD i v0
      rw [val_mod _ _ _ _ (by simpa using hj), if_neg hi, val_mod _ _ _ _ hj, if_neg hi]
  have hup := ok.upt k j (by omega) (by omega)
  refine ⟨ok.upd hu hk hj (by rw [hbk]; omega) ok.fees ok.pool ?_ (by rw [c5]; exact ok.tot) (ok.sh0 k j (by omega) (by omega)) (by rw [c2]; exact (by simp [collF, EC.sh])) hup.1 hup.2 ?_, c5⟩
  · rw [c2]
    refine ⟨hv.t0, hv.s0, hv.s1, hv.r0, hv.r1, Int.le_refl _, by simp only; omega, hv.tk, fun h => ?_, hv.jl⟩
    have := hv.oz h
    simp only; omega
  · rw [c2]
    show x.sh k j * (x.per j - x.upto k j) - x.sh k j * (x.per j - x.upto k j) ≤ _
    simp only; omega
end
theorem Ok.ent' {H : Int} {x : EC} (ok : Ok H x) {k j : Nat} (hk : k < x.bal.length) {t : Int} (t0 : 0 ≤ t) (ht : x.tot + t ≤ 1000000) : Ok H (entF x k j t) ∧ (entF x k j t).tot = x.tot + t ∧ (entF x k j t).ents.length ≤ x.ents.length + 1 := by
  unfold entF
  split
  · exact ⟨ok, by omega, by omega⟩
  · have ht' : ({ x with ents := x.ents ++ [⟨k, j, x.height, t⟩] } : EC).tot = x.tot + t := by
      unfold EC.tot
      simp only [List.map_append, sumI_append, List.map_cons, List.map_nil, sumI]
      omega
    refine ⟨⟨ok.b6, ok.v5, ok.tl, ok.fee0, ok.fee1, ok.top0, ok.top1, ok.mat0, ok.mat1, ok.hgt0, ok.hgt1, ok.H0, ok.H1, ok.bal, ok.fees, ok.pool, ok.val, fun e he => ?_, by rw [ht']; exact ht, ok.sh0, ok.shs, ok.per, ok.upt, ok.due⟩, ht', by simp⟩
    rcases List.mem_append.1 he with h | h
    · exact ok.ent e h
    · simp only [List.mem_singleton] at h
      subst h
      exact ⟨⟨k, rfl, hk⟩, ok.hgt0, Int.le_refl _, t0⟩
theorem Ok.unb {H : Int} {x : EC} (ok : Ok H x) {k j : Nat} (hk : k < x.bal.length) (hj : j < x.vals.length) {n : Int} (n1 : 1 ≤ n) (n2 : n ≤ x.sh k j) : Ok H (unbF x k j n) ∧ (unbF x k j n).tot = x.tot ∧ (unbF x k j n).ents.length ≤ x.ents.length + 1 := by
  obtain ⟨h1, h2, h3, h4, h5, h6, h7⟩ := ok.leave hk hj n n1 n2
  have b6 := ok.b6
  have hsl := ok.sh_le (k := k) (by omega) hj
  obtain ⟨q0, q1⟩ := tokensForF_bd (ok.valOk hj) (show 0 ≤ n by omega) (show n ≤ (x.val j).shares by omega)
  have := ok.tot
  obtain ⟨e1, e2, e3⟩ := h1.ent' (k := k) (j := j) (by rw [h4]; exact hk) q0 (by rw [h2]; omega)
  exact ⟨e1, by unfold unbF; rw [e2, h2]; omega, by rw [h6] at e3; exact e3⟩
theorem joinErrF_ok {v : VS} {a : Int} (h : joinErrF v a = 0) : 1 ≤ sharesForF v a ∧ v.shares + sharesForF v a ≤ 1000000 := by
  unfold joinErrF at h
  split at h
  · cases h
  · split at h
    · cases h
    · split at h
      · cases h
      · omega
theorem Ok.mov {H : Int} {x : EC} (ok : Ok H x) {k j t : Nat} (hk : k < x.bal.length) (hj : j < x.vals.length) (ht : t < x.vals.length) (htj : t ≠ j) {n : Int} (n1 : 1 ≤ n) (n2 : n ≤ x.sh k j) (t1 : 1 ≤ tokensForF (x.val j) n) (hje : joinErrF (x.val t) (tokensForF (x.val j) n) = 0) : Ok H (movF x k j t n) ∧ (movF x k j t n).tot = x.tot ∧ (movF x k j t n).ents = x.ents := by
  obtain ⟨h1, h2, h3, h4, h5, h6, h7⟩ := ok.leave hk hj n n1 n2
  have := ok.tot
  have ht' : t < (leaveF x k j n).vals.length := by rw [h5]; exact ht
  have hk' : k < (leaveF x k j n).bal.length := by rw [h4]; exact hk
  obtain ⟨b1, b2⟩ := joinErrF_ok hje
  have hq := h1.join hk' ht' (tokensForF (x.val j) n) t1 (by rw [h2]; omega) (by rw [h3 t htj]; exact b1) (by rw [h3 t htj]; exact b2)
  obtain ⟨_, _, _, _, e5⟩ := joinF_at h1 hk' ht' (tokensForF (x.val j) n)
  exact ⟨hq, by unfold movF; rw [e5, h2]; omega, h6⟩
theorem Ok.bond {H : Int} {x : EC} (ok : Ok H x) {k j : Nat} (hk : k < x.bal.length) (hj : j < x.vals.length) {a : Int} (a1 : 1 ≤ a) (ha : a ≤ x.balAt k) (hje : joinErrF (x.val j) a = 0) : Ok H { x with bal := x.bal.set k (x.balAt k - a) } ∧ Ok H (joinFE { x with bal := x.bal.set k (x.balAt k - a) } k j a) ∧ (joinFE { x with bal := x.bal.set k (x.balAt k - a) } k j a).tot = x.tot := by
  have hs : sumI (x.bal.set k (x.balAt k - a)) = sumI x.bal - a := by rw [sumI_set _ _ _ hk]; unfold EC.balAt; omega
  have htot := ok.tot
  have h1 : Ok H { x with bal := x.bal.set k (x.balAt k - a) } := by
    refine ok.acc _ x.fees x.pool (by simp) (fun i hi => ?_) ok.fees ok.pool (by rw [hs]; omega)
    rw [balAt_set _ _ _ _ hk]
    split
    · omega
    · exact ok.bal i hi
  have h2 : ({ x with bal := x.bal.set k (x.balAt k - a) } : EC).tot = x.tot - a := by unfold EC.tot; simp only; rw [hs]; omega
  obtain ⟨b1, b2⟩ := joinErrF_ok hje
  obtain ⟨_, _, _, _, e5⟩ := joinF_at h1 (k := k) (j := j) (by simpa using hk) hj a
  exact ⟨h1, h1.join (by simpa using hk) hj a a1 (by rw [h2]; omega) b1 b2, by rw [e5, h2]; omega⟩
end Go.Proofs.YtohjjgefklhmaaaGreatDoor

namespace Go.Proofs.YtohjjgefklhmaaaGreatDoor
open Go.ChangeShapes Go.WideShapes Go.ChangeAt Go.RowKit
set_option linter.unusedVariables false

theorem Ok.mono {H H' : Int} {x : EC} (ok : Ok H x) (h : H ≤ H') (h1 : H' ≤ 1001) : Ok H' x :=
  ⟨ok.b6, ok.v5, ok.tl, ok.fee0, ok.fee1, ok.top0, ok.top1, ok.mat0, ok.mat1, ok.hgt0, ok.hgt1, Int.le_trans ok.H0 h, h1, ok.bal, ok.fees, ok.pool, ok.val, ok.ent, ok.tot, ok.sh0, ok.shs, fun j hj => ⟨(ok.per j hj).1, by have := (ok.per j hj).2; omega⟩, ok.upt, ok.due⟩
theorem sum6_lin (s u : Nat → Int) (p q : Int) : sum6 (fun k => s k * (p + q - u k)) = sum6 (fun k => s k * (p - u k)) + sum6 s * q := by
  have h : ∀ k, s k * (p + q - u k) = s k * (p - u k) + s k * q := fun k => by
    rw [show p + q - u k = (p - u k) + q by omega, Int.mul_add]
  unfold sum6
  simp only [h, Int.add_mul]
  omega
theorem shareOutF_fees (z : EC) (j : Nat) (b f : Int) : shareOutF { z with fees := f } j b = { shareOutF z j b with fees := f } := by
  have e : ({ z with fees := f } : EC).val j = z.val j := rfl
  have e2 : ({ z with fees := f } : EC).per j = z.per j := rfl
  unfold shareOutF
  rw [e, e2]
  by_cases h : (z.val j).shares < 1
  · rw [if_pos h, if_pos h]
  · rw [if_neg h, if_neg h]
theorem takeF_fees (x : EC) (j : Nat) (a f : Int) : takeF { x with fees := f } j a = { takeF x j a with fees := f } := by
  unfold takeF
  exact shareOutF_fees { x with vals := (x.vals.modify j (fun v => { v with comm := v.comm + a * (x.val j).rate / 100 })).modify j (fun v => { v with outs := v.outs + a }) } j _ f
theorem Ok.take {H : Int} {y : EC} (ok : Ok (H + 1) y) {j : Nat} (hj : j < y.vals.length) (hper : y.per j ≤ H * 1073741824000000) {a : Int} (a0 : 0 ≤ a) (a1 : a ≤ 1000000) (hz : (y.val j).shares = 0 → a = 0) (ht : y.tot + a ≤ 1000000) : Ok (H + 1) (takeF y j a) ∧ (takeF y j a).tot = y.tot + a := by
  have v5 := ok.v5
  have tl := ok.tl
  have hv := ok.val j hj
  have hk0 := hv.k0
  have hko := hv.ko
  have hs0 := hv.s0
  have c0 : 0 ≤ a * (y.val j).rate / 100 := Int.ediv_nonneg (Int.mul_nonneg a0 hv.r0) (by decide)
  have c1 : a * (y.val j).rate / 100 ≤ a := by
    have h1 : a * (y.val j).rate ≤ a * 100 := Int.mul_le_mul_of_nonneg_left hv.r1 a0
    omega
  have hvals := takeF_vals y j a
  have hval : (takeF y j a).val j = { y.val j with comm := (y.val j).comm + a * (y.val j).rate / 100, outs := (y.val j).outs + a } := by
    unfold EC.val
    rw [hvals]
    show (((y.vals.modify j _).modify j _).getD j v0) = _
    rw [val_mod _ _ _ _ (by simpa using hj), if_pos rfl, val_mod _ _ _ _ hj, if_pos rfl]; rfl
  obtain ⟨q1, q2, q3, q4, q5, q6, q7, q8⟩ := takeF_head y j a
  have htot : (takeF y j a).tot = y.tot + a := by
    unfold EC.tot
    rw [hvals, q1, q2, q7, q8, sumV_mod _ _ _ _ (by simpa using hj), sumV_mod _ _ _ _ hj, sumV_mod _ _ _ _ (by simpa using hj), sumV_mod _ _ _ _ hj, val_mod _ _ _ _ hj, if_pos rfl]
    simp only
    omega
  have hvok : VOkE ((takeF y j a).val j) := by
    rw [hval]
    refine ⟨hv.t0, hv.s0, hv.s1, hv.r0, hv.r1, by simp only; omega, by simp only; omega, hv.tk, fun h => ?_, hv.jl⟩
    have h1 := hv.oz h
    have h2 := hz h
    have h3 : a * (y.val j).rate / 100 = 0 := by rw [h2]; simp
    simp only
    rw [h3]
    omega
  refine ⟨?_, htot⟩
  have htab : ∃ q, 0 ≤ q ∧ q ≤ 1073741824000000 ∧ (y.val j).shares * q ≤ (a - a * (y.val j).rate / 100) * 1073741824 ∧ (takeF y j a).tab.length = 65 ∧ (∀ n, n ≠ 30 + j → (takeF y j a).tab.getD n 0 = y.tab.getD n 0) ∧ (takeF y j a).per j = y.per j + q := by
    have hvs : ({ y with vals := (y.vals.modify j (fun v => { v with comm := v.comm + a * (y.val j).rate / 100 })).modify j (fun v => { v with outs := v.outs + a }) } : EC).val j = { y.val j with comm := (y.val j).comm + a * (y.val j).rate / 100, outs := (y.val j).outs + a } := by
      show (((y.vals.modify j _).modify j _).getD j v0) = _
      rw [val_mod _ _ _ _ (by simpa using hj), if_pos rfl, val_mod _ _ _ _ hj, if_pos rfl]; rfl
    by_cases hs : (y.val j).shares < 1
    · have h0 := hz (by omega)
      have e : (takeF y j a).tab = y.tab := by
        unfold takeF shareOutF
        rw [if_pos (by rw [hvs]; exact hs)]
      refine ⟨0, Int.le_refl _, by decide, ?_, by rw [e]; exact tl, fun n _ => by rw [e], ?_⟩
      · rw [Int.mul_zero]; omega
      · unfold EC.per; rw [e]; omega
    · have e : (takeF y j a).tab = y.tab.set (30 + j) (y.per j + (a - a * (y.val j).rate / 100) * 1073741824 / (y.val j).shares) := by
        unfold takeF shareOutF
        rw [if_neg (by rw [hvs]; exact hs), hvs]
        rfl
      refine ⟨(a - a * (y.val j).rate / 100) * 1073741824 / (y.val j).shares, Int.ediv_nonneg (by omega) hs0, ?_, Int.mul_ediv_self_le (by omega), by rw [e, List.length_set]; exact tl, fun n hn => by rw [e, tab_any _ _ _ _ (by omega), if_neg hn], ?_⟩
      · have : (a - a * (y.val j).rate / 100) * 1073741824 / (y.val j).shares ≤ (a - a * (y.val j).rate / 100) * 1073741824 := Int.ediv_le_self _ (by omega)
        omega
      · unfold EC.per; rw [e, tab_any _ _ _ _ (by omega), if_pos rfl]; rfl
  obtain ⟨q, qq0, qq1, qs, t1, t2, t3⟩ := htab
  have hval_ne : ∀ i, i ≠ j → (takeF y j a).val i = y.val i := fun i hi => takeF_val_ne y j a i hi
  have hsh : ∀ k i, k < 6 → i < 5 → (takeF y j a).sh k i = y.sh k i := fun k i h1 h2 => by unfold EC.sh; exact t2 _ (by omega)
  have hup : ∀ k i, k < 6 → i < 5 → (takeF y j a).upto k i = y.upto k i := fun k i h1 h2 => by unfold EC.upto; exact t2 _ (by omega)
  have hpr : ∀ i, i < 5 → i ≠ j → (takeF y j a).per i = y.per i := fun i h1 h2 => by unfold EC.per; exact t2 _ (by omega)
  have hln := takeF_len y j a
  refine ⟨by rw [q7]; exact ok.b6, by rw [hln]; exact v5, t1, by rw [q6]; exact ok.fee0, by rw [q6]; exact ok.fee1, by rw [q4]; exact ok.top0, by rw [q4]; exact ok.top1, by rw [q5]; exact ok.mat0, by rw [q5]; exact ok.mat1, by rw [q3]; exact ok.hgt0, by rw [q3]; exact ok.hgt1, ok.H0, ok.H1, fun k hk => ?_, by rw [q2]; exact ok.fees, by rw [q1]; exact ok.pool, fun i hi => ?_, fun e he => ?_, by rw [htot]; exact ht, fun k i h1 h2 => by rw [hsh k i h1 h2]; exact ok.sh0 k i h1 h2, fun i hi => ?_, fun i hi => ?_, fun k i h1 h2 => ?_, fun i hi => ?_⟩
  · unfold EC.balAt; rw [q7]; rw [q7] at hk; exact ok.bal k hk
  · rw [hln] at hi
    by_cases e : i = j
    · subst e; exact hvok
    · rw [hval_ne i e]; exact ok.val i hi
  · rw [q8] at he; rw [q7, q3]; exact ok.ent e he
  · rw [hln] at hi
    rw [sum6_congr (f := fun k => y.sh k i) (f' := fun k => (takeF y j a).sh k i) (fun k hk => hsh k i hk (by omega)), ok.shs i hi]
    by_cases e : i = j
    · subst e; rw [hval]
    · rw [hval_ne i e]
  · have hp := ok.per i hi
    by_cases e : i = j
    · subst e; rw [t3]; omega
    · rw [hpr i hi e]; exact hp
  · have hu := ok.upt k i h1 h2
    rw [hup k i h1 h2]
    by_cases e : i = j
    · subst e; rw [t3]; omega
    · rw [hpr i h2 e]; exact hu
  · rw [hln] at hi
    have i5 : i < 5 := by omega
    have hd := ok.due i hi
    by_cases e : i = j
    · subst e
      rw [sum6_congr (f := fun k => y.sh k i * (y.per i + q - y.upto k i)) (f' := fun k => (takeF y i a).sh k i * ((takeF y i a).per i - (takeF y i a).upto k i)) (fun k hk => by rw [hsh k i hk i5, hup k i hk i5, t3]), sum6_lin, ok.shs i hi, hval]
      simp only
      omega
    · rw [sum6_congr (f := fun k => y.sh k i * (y.per i - y.upto k i)) (f' := fun k => (takeF y j a).sh k i * ((takeF y j a).per i - (takeF y j a).upto k i)) (fun k hk => by rw [hsh k i hk i5, hup k i hk i5, hpr i i5 e]), hval_ne i e]
      exact hd
end Go.Proofs.YtohjjgefklhmaaaGreatDoor
