import Derived.Test.YtohjjgefklhmaaaGreatDoorXTxtM
namespace Go.Proofs.YtohjjgefklhmaaaGreatDoor
open Go.ChangeShapes Go.WideShapes Go.ChangeAt Go.RowKit
set_option linter.unusedVariables false

/-! ### an engine as numbers -/
def standI (v : VS) : Int := if v.jailed = true then 2 else if v.inset = true then 1 else 0
def valNs (v : VS) : List Int := [v.tokens, v.comm, v.outs, standI v]
def entNs (e : ES) : List Int := [e.who, e.val, e.made, e.amount]
def delN (x : EC) (k j : Nat) : List Int := if 0 < x.sh k j then [x.sh k j, x.per j - x.upto k j] else [x.sh k j]
def delR (x : EC) (k : Nat) : Nat → List Int
  | 0 => []
  | j + 1 => delR x k j ++ delN x k j
def delA (x : EC) : Nat → List Int
  | 0 => []
  | k + 1 => delA x k ++ delR x k x.vals.length
def genNs (x : EC) : List Int := [(x.bal.length : Int)] ++ x.bal ++ [(x.vals.length : Int)] ++ x.vals.map (fun v => v.owner) ++ [(x.vals.length : Int)] ++ x.vals.map (fun v => v.rate) ++ [x.top, x.mature, x.fee]
def nums (x : EC) : List Int := genNs x ++ [x.height, x.fees, x.pool] ++ x.vals.flatMap valNs ++ delA x x.bal.length ++ [(x.ents.length : Int)] ++ x.ents.flatMap entNs

/-! ### reading -/
def rdL (s : List UInt8) (most : Int) : Nat → RSE → List Int × RSE
  | 0, st => ([], st)
  | k + 1, st => ((rdL s most k st).1 ++ [(nx s most (rdL s most k st).2).1], (nx s most (rdL s most k st).2).2)
def nxL (s : List UInt8) (longest most : Int) (st : RSE) : List Int × RSE := rdL s most (nx s longest st).1.toNat (nx s longest st).2
theorem rdL_len (s : List UInt8) (most : Int) (k : Nat) (st : RSE) : (rdL s most k st).1.length = k := by
  induction k with
  | zero => rfl
  | succ k ih => simp [rdL, ih]
theorem rdL_bd (s : List UInt8) (most : Int) (h : 0 ≤ most) (k : Nat) (st : RSE) : ∀ n, n ∈ (rdL s most k st).1 → 0 ≤ n ∧ n ≤ most := by
  induction k with
  | zero => intro n hn; simp [rdL] at hn
  | succ k ih =>
    intro n hn
    simp only [rdL, List.mem_append, List.mem_singleton] at hn
    rcases hn with hn | rfl
    · exact ih n hn
    · exact nx_bd s most _ h
theorem rdL_good {s : List UInt8} {most : Int} {l rest : List Int} {st : RSE} (h : AtN s st (l ++ rest)) (hl : ∀ n, n ∈ l → 0 ≤ n ∧ n ≤ most) : ∀ k, k ≤ l.length → (rdL s most k st).1 = l.take k ∧ AtN s (rdL s most k st).2 (l.drop k ++ rest) := by
  intro k
  induction k with
  | zero => intro _; exact ⟨by simp [rdL], by simpa [rdL] using h⟩
  | succ k ih =>
    intro hk
    obtain ⟨i1, i2⟩ := ih (by omega)
    have hlt : k < l.length := by omega
    have hb := hl l[k] (List.getElem_mem hlt)
    rw [List.drop_eq_getElem_cons hlt, List.cons_append] at i2
    obtain ⟨n1, n2⟩ := nx_good i2 hb.1 hb.2
    refine ⟨?_, ?_⟩
    · simp only [rdL]; rw [n1, i1, List.take_succ_eq_append_getElem hlt]
    · simp only [rdL]; exact n2
theorem nxL_good {s : List UInt8} {longest most : Int} {l rest : List Int} {st : RSE} {c : Int} (h : AtN s st (c :: (l ++ rest))) (hc : c = l.length) (h1 : (l.length : Int) ≤ longest) (hl : ∀ n, n ∈ l → 0 ≤ n ∧ n ≤ most) : (nxL s longest most st).1 = l ∧ AtN s (nxL s longest most st).2 rest := by
  subst hc
  obtain ⟨n1, n2⟩ := nx_good h (by omega) h1
  have := rdL_good n2 hl l.length (Nat.le_refl _)
  unfold nxL
  rw [n1, Int.toNat_natCast]
  exact ⟨by rw [this.1, List.take_length], by have h2 := this.2; simpa using h2⟩
/-- the beginning that is read -/
structure Gn where
  bs : List Int
  os : List Int
  rs : List Int
  top : Int
  mat : Int
  fee : Int
def rdG (s : List UInt8) (st : RSE) : Gn × RSE :=
  let a := nxL s 6 1000000 st
  let b := nxL s 5 6 a.2
  let c := nxL s 5 100 b.2
  let d := nx s 5 c.2
  let e := nx s 20 d.2
  let f := nx s 100 e.2
  (⟨a.1, b.1, c.1, d.1, e.1, f.1⟩, f.2)
theorem rdG_good {s : List UInt8} {st : RSE} {x : EC} {rest : List Int} (h : AtN s st (genNs x ++ rest)) (b6 : x.bal.length ≤ 6) (v5 : x.vals.length ≤ 5) (hb : ∀ n, n ∈ x.bal → 0 ≤ n ∧ n ≤ 1000000) (ho : ∀ n, n ∈ x.vals.map (fun v => v.owner) → 0 ≤ n ∧ n ≤ 6) (hr : ∀ n, n ∈ x.vals.map (fun v => v.rate) → 0 ≤ n ∧ n ≤ 100) (ht : 0 ≤ x.top ∧ x.top ≤ 5) (hm : 0 ≤ x.mature ∧ x.mature ≤ 20) (hf : 0 ≤ x.fee ∧ x.fee ≤ 100) :
    (rdG s st).1 = ⟨x.bal, x.vals.map (fun v => v.owner), x.vals.map (fun v => v.rate), x.top, x.mature, x.fee⟩ ∧ AtN s (rdG s st).2 rest := by
  unfold genNs at h
  simp only [List.append_assoc, List.cons_append, List.nil_append] at h
  obtain ⟨a1, a2⟩ := nxL_good (longest := 6) (most := 1000000) h rfl (by omega) hb
  obtain ⟨b1, b2⟩ := nxL_good (longest := 5) (most := 6) a2 (by simp) (by simp; omega) ho
  obtain ⟨c1, c2⟩ := nxL_good (longest := 5) (most := 100) b2 (by simp) (by simp; omega) hr
  obtain ⟨d1, d2⟩ := nx_good (most := 5) c2 ht.1 ht.2
  obtain ⟨e1, e2⟩ := nx_good (most := 20) d2 hm.1 hm.2
  obtain ⟨f1, f2⟩ := nx_good (most := 100) e2 hf.1 hf.2
  refine ⟨?_, f2⟩
  simp only [rdG, a1, b1, c1, d1, e1, f1]
theorem rdG_bd (s : List UInt8) (st : RSE) : (rdG s st).1.bs.length ≤ 6 ∧ (rdG s st).1.os.length ≤ 5 ∧ (rdG s st).1.rs.length ≤ 5 ∧ (∀ n, n ∈ (rdG s st).1.bs → 0 ≤ n ∧ n ≤ 1000000) ∧ (∀ n, n ∈ (rdG s st).1.os → 0 ≤ n ∧ n ≤ 6) ∧ (∀ n, n ∈ (rdG s st).1.rs → 0 ≤ n ∧ n ≤ 100) ∧ (0 ≤ (rdG s st).1.top ∧ (rdG s st).1.top ≤ 5) ∧ (0 ≤ (rdG s st).1.mat ∧ (rdG s st).1.mat ≤ 20) ∧ (0 ≤ (rdG s st).1.fee ∧ (rdG s st).1.fee ≤ 100) := by
  simp only [rdG, nxL]
  refine ⟨?_, ?_, ?_, rdL_bd _ _ (by decide) _ _, rdL_bd _ _ (by decide) _ _, rdL_bd _ _ (by decide) _ _, nx_bd _ _ _ (by decide), nx_bd _ _ _ (by decide), nx_bd _ _ _ (by decide)⟩
  · rw [rdL_len]; have := nx_bd s 6 st (by decide); omega
  · rw [rdL_len]
    have := nx_bd s 5 (rdL s 1000000 (nx s 6 st).1.toNat (nx s 6 st).2).2 (by decide); omega
  · rw [rdL_len]
    have := nx_bd s 5 (rdL s 6 (nx s 5 (rdL s 1000000 (nx s 6 st).1.toNat (nx s 6 st).2).2).1.toNat (nx s 5 (rdL s 1000000 (nx s 6 st).1.toNat (nx s 6 st).2).2).2).2 (by decide); omega

/-! ### the validators -/
def rdV1 (s : List UInt8) (j : Nat) (q : EC × RSE) : EC × RSE :=
  ({ q.1 with vals := ((((q.1.vals.modify j (fun v => { v with tokens := (nx s 1000000 q.2).1 })).modify j (fun v => { v with comm := (nx s 1000000 (nx s 1000000 q.2).2).1 })).modify j (fun v => { v with outs := (nx s 1000000 (nx s 1000000 (nx s 1000000 q.2).2).2).1 })).modify j (fun v => { v with jailed := decide ((nx s 2 (nx s 1000000 (nx s 1000000 (nx s 1000000 q.2).2).2).2).1 = 2) })).modify j (fun v => { v with inset := decide ((nx s 2 (nx s 1000000 (nx s 1000000 (nx s 1000000 q.2).2).2).2).1 = 1) }) }, (nx s 2 (nx s 1000000 (nx s 1000000 (nx s 1000000 q.2).2).2).2).2)
def rdV (s : List UInt8) (q : EC × RSE) : Nat → EC × RSE
  | 0 => q
  | j + 1 => rdV1 s j (rdV s q j)
/-! ### the delegations -/
def rdD0 (s : List UInt8) (k j : Nat) (q : EC × RSE) : EC :=
  { q.1 with tab := q.1.tab.set (k * 5 + j) (nx s 1000000 q.2).1, vals := q.1.vals.modify j (fun v => { v with shares := v.shares + (nx s 1000000 q.2).1 }) }
def rdD1 (s : List UInt8) (k j : Nat) (q : EC × RSE) : EC × RSE :=
  if 0 < (nx s 1000000 q.2).1 then ({ rdD0 s k j q with tab := (rdD0 s k j q).tab.set (35 + (k * 5 + j)) ((rdD0 s k j q).per j - (nx s 1073741824000000 (nx s 1000000 q.2).2).1) }, (nx s 1073741824000000 (nx s 1000000 q.2).2).2)
  else (rdD0 s k j q, (nx s 1000000 q.2).2)
def rdDr (s : List UInt8) (k : Nat) (q : EC × RSE) : Nat → EC × RSE
  | 0 => q
  | j + 1 => rdD1 s k j (rdDr s k q j)
def rdDa (s : List UInt8) (q : EC × RSE) (nv : Nat) : Nat → EC × RSE
  | 0 => q
  | k + 1 => rdDr s k (rdDa s q nv k) nv
/-! ### the entries -/
def rdE1 (s : List UInt8) (nb nv h : Int) (st : RSE) : ES × RSE :=
  (⟨(nx s (nb - 1) st).1, (nx s (nv - 1) (nx s (nb - 1) st).2).1, (nx s h (nx s (nv - 1) (nx s (nb - 1) st).2).2).1, (nx s 1000000 (nx s h (nx s (nv - 1) (nx s (nb - 1) st).2).2).2).1⟩, (nx s 1000000 (nx s h (nx s (nv - 1) (nx s (nb - 1) st).2).2).2).2)
def rdE (s : List UInt8) (nb nv h : Int) (st : RSE) : Nat → List ES × RSE
  | 0 => ([], st)
  | k + 1 => ((rdE s nb nv h st k).1 ++ [(rdE1 s nb nv h (rdE s nb nv h st k).2).1], (rdE1 s nb nv h (rdE s nb nv h st k).2).2)
/-- the whole, behind New -/
def rdX1 (s : List UInt8) (q : EC × RSE) : EC × RSE :=
  ({ q.1 with height := (nx s 1000 q.2).1, fees := (nx s 1000000 (nx s 1000 q.2).2).1, pool := (nx s 1000000 (nx s 1000000 (nx s 1000 q.2).2).2).1 }, (nx s 1000000 (nx s 1000000 (nx s 1000 q.2).2).2).2)
def rdX2 (s : List UInt8) (q : EC × RSE) : EC × RSE := rdV s (rdX1 s q) (rdX1 s q).1.vals.length
def rdX3 (s : List UInt8) (q : EC × RSE) : EC × RSE := rdDa s (rdX2 s q) (rdX2 s q).1.vals.length (rdX2 s q).1.bal.length
def rdX4 (s : List UInt8) (q : EC × RSE) : EC × RSE :=
  ({ q.1 with ents := (rdE s q.1.bal.length q.1.vals.length q.1.height (nx s 120 q.2).2 (nx s 120 q.2).1.toNat).1 }, (rdE s q.1.bal.length q.1.vals.length q.1.height (nx s 120 q.2).2 (nx s 120 q.2).1.toNat).2)
def xN' (g : Gn) : EC := { top := g.top, mature := g.mat, fee := g.fee, height := 0, fees := 0, pool := 0, bal := g.bs, tab := List.replicate 65 0, vals := vs0 g.os g.rs, ents := [] }
def rdX (s : List UInt8) : EC × RSE := rdX4 s (rdX3 s (xN' (rdG s ⟨0, false⟩).1, (rdG s ⟨0, false⟩).2))
end Go.Proofs.YtohjjgefklhmaaaGreatDoor

namespace Go.Proofs.YtohjjgefklhmaaaGreatDoor
open Go.ChangeShapes Go.WideShapes Go.ChangeAt Go.RowKit
set_option linter.unusedVariables false

/-! ### what the validators are when they are read -/
/-- a validator, all but its shares -/
structure VB0 (v : VS) : Prop where
  t0 : 0 ≤ v.tokens
  t1 : v.tokens ≤ 1000000
  k0 : 0 ≤ v.comm
  k1 : v.comm ≤ 1000000
  o0 : 0 ≤ v.outs
  o1 : v.outs ≤ 1000000
  jl : v.jailed = true → v.inset = false
/-- the validator that is read -/
def rdVal (s : List UInt8) (st : RSE) (v : VS) : VS := { v with tokens := (nx s 1000000 st).1, comm := (nx s 1000000 (nx s 1000000 st).2).1, outs := (nx s 1000000 (nx s 1000000 (nx s 1000000 st).2).2).1, jailed := decide ((nx s 2 (nx s 1000000 (nx s 1000000 (nx s 1000000 st).2).2).2).1 = 2), inset := decide ((nx s 2 (nx s 1000000 (nx s 1000000 (nx s 1000000 st).2).2).2).1 = 1) }
theorem modify_mod (l : List VS) (j : Nat) (f g : VS → VS) : (l.modify j f).modify j g = l.modify j (fun v => g (f v)) := by
  apply List.ext_getElem?
  intro i
  simp only [List.getElem?_modify]
  by_cases e : j = i
  · subst e; cases l[j]? <;> simp
  · simp [e]
theorem rdV1_eq (s : List UInt8) (j : Nat) (q : EC × RSE) : (rdV1 s j q).1 = { q.1 with vals := q.1.vals.modify j (rdVal s q.2) } := by
  simp only [rdV1, modify_mod]; rfl
theorem rdVal_bd (s : List UInt8) (st : RSE) (v : VS) : VB0 (rdVal s st v) := by
  have h1 := nx_bd s 1000000 st (by decide)
  have h2 := nx_bd s 1000000 (nx s 1000000 st).2 (by decide)
  have h3 := nx_bd s 1000000 (nx s 1000000 (nx s 1000000 st).2).2 (by decide)
  refine ⟨h1.1, h1.2, h2.1, h2.2, h3.1, h3.2, fun hj => ?_⟩
  simp only [rdVal, decide_eq_true_eq] at hj
  simp only [rdVal, decide_eq_false_iff_not]; omega
theorem vmod_at (l : List VS) (j i : Nat) (f : VS → VS) (hj : j < l.length) : (l.modify j f).getD i v0 = if i = j then f (l.getD j v0) else l.getD i v0 := by
  by_cases e : i = j
  · subst e; rw [if_pos rfl]; simp [hj]
  · rw [if_neg e]
    have hji : ¬ j = i := fun h => e h.symm
    simp [List.getD, hji]
/-- the first k validators are read -/
structure VM (G : Nat → VS → Prop) (x0 : EC) (k : Nat) (x : EC) : Prop where
  eq : x = { x0 with vals := x.vals }
  vl : x.vals.length = x0.vals.length
  lo : ∀ i, i < k → i < x0.vals.length → G i (x.val i) ∧ (x.val i).owner = (x0.val i).owner ∧ (x.val i).rate = (x0.val i).rate ∧ (x.val i).shares = (x0.val i).shares
  hi : ∀ i, k ≤ i → i < x0.vals.length → x.val i = x0.val i
theorem VM.zero (G : Nat → VS → Prop) (x0 : EC) : VM G x0 0 x0 := ⟨rfl, rfl, fun i hi => by omega, fun _ _ _ => rfl⟩
theorem VM.step {G : Nat → VS → Prop} {x0 : EC} {k : Nat} {s : List UInt8} {q : EC × RSE} (h : VM G x0 k q.1) (hk : k < x0.vals.length) (hG : G k (rdVal s q.2 (x0.val k))) : VM G x0 (k + 1) (rdV1 s k q).1 := by
  rw [rdV1_eq]
  have hv : ∀ i, EC.val { q.1 with vals := q.1.vals.modify k (rdVal s q.2) } i = if i = k then rdVal s q.2 (q.1.val k) else q.1.val i := fun i => vmod_at _ _ _ _ (by rw [h.vl]; exact hk)
  refine ⟨?_, by simp only [List.length_modify]; exact h.vl, fun i hi hl => ?_, fun i hi hl => ?_⟩
  · have := h.eq
    generalize q.1 = y at *
    rw [this]
  · rw [hv]
    by_cases e : i = k
    · subst e
      rw [if_pos rfl, h.hi i (Nat.le_refl _) hl]
      exact ⟨hG, rfl, rfl, rfl⟩
    · rw [if_neg e]; exact h.lo i (by omega) hl
  · rw [hv, if_neg (by omega)]; exact h.hi i (by omega) hl
theorem rdV_bd (s : List UInt8) (q : EC × RSE) (k : Nat) (hk : k ≤ q.1.vals.length) : VM (fun _ v => VB0 v) q.1 k (rdV s q k).1 := by
  induction k with
  | zero => exact VM.zero _ _
  | succ k ih => exact (ih (by omega)).step (by omega) (rdVal_bd _ _ _)
theorem standI_bd (v : VS) : 0 ≤ standI v ∧ standI v ≤ 2 := by unfold standI; split <;> (try split) <;> omega
theorem rdVal_good {s : List UInt8} {st : RSE} {v : VS} {rest : List Int} (h : AtN s st (valNs v ++ rest)) (hv : VB0 v) : (∀ u : VS, rdVal s st u = { v with owner := u.owner, rate := u.rate, shares := u.shares }) ∧ AtN s (nx s 2 (nx s 1000000 (nx s 1000000 (nx s 1000000 st).2).2).2).2 rest := by
  simp only [valNs, List.cons_append, List.nil_append] at h
  obtain ⟨a1, a2⟩ := nx_good (most := 1000000) h hv.t0 hv.t1
  obtain ⟨b1, b2⟩ := nx_good (most := 1000000) a2 hv.k0 hv.k1
  obtain ⟨c1, c2⟩ := nx_good (most := 1000000) b2 hv.o0 hv.o1
  obtain ⟨d1, d2⟩ := nx_good (most := 2) c2 (standI_bd v).1 (standI_bd v).2
  refine ⟨fun u => ?_, d2⟩
  simp only [rdVal, a1, b1, c1, d1]
  have e1 : decide (standI v = 2) = v.jailed := by
    unfold standI
    cases hj : v.jailed
    · simp only [Bool.false_eq_true, if_false]; split <;> simp
    · simp
  have e2 : decide (standI v = 1) = v.inset := by
    unfold standI
    cases hj : v.jailed
    · cases hi : v.inset <;> simp
    · rw [hv.jl hj]; simp
  rw [e1, e2]
theorem rdV_good {s : List UInt8} {q : EC × RSE} {y : List VS} {rest : List Int} (hl : q.1.vals.length = y.length) (h : AtN s q.2 (y.flatMap valNs ++ rest)) (hv : ∀ v, v ∈ y → VB0 v) : ∀ k, k ≤ y.length → VM (fun i v => v = { y.getD i v0 with owner := v.owner, rate := v.rate, shares := v.shares }) q.1 k (rdV s q k).1 ∧ AtN s (rdV s q k).2 ((y.drop k).flatMap valNs ++ rest) := by
  intro k
  induction k with
  | zero => intro _; exact ⟨VM.zero _ _, by simpa [rdV] using h⟩
  | succ k ih =>
    intro hk
    obtain ⟨i1, i2⟩ := ih (by omega)
    have hlt : k < y.length := by omega
    rw [List.drop_eq_getElem_cons hlt, List.flatMap_cons, List.append_assoc] at i2
    obtain ⟨r1, r2⟩ := rdVal_good i2 (hv _ (List.getElem_mem hlt))
    refine ⟨i1.step (by omega) ?_, ?_⟩
    · rw [r1]
      have : y.getD k v0 = y[k] := by simp [hlt]
      rw [this]
    · simp only [rdV, rdV1]; exact r2

/-! ### the delegations -/
def bef (k j r c : Nat) : Prop := r < k ∨ (r = k ∧ c < j)
/-- read up to the account k and the validator j -/
structure DM (G : Nat → Nat → Int → Int → Prop) (x0 : EC) (k j : Nat) (x : EC) : Prop where
  eq : x = { x0 with vals := x.vals, tab := x.tab }
  vl : x.vals.length = x0.vals.length
  tl : x.tab.length = 65
  val : ∀ i, i < x0.vals.length → x.val i = { x0.val i with shares := (x0.val i).shares + sumN (fun r => x.sh r i) (if i < j then k + 1 else k) }
  lo : ∀ r c, r < 6 → c < x0.vals.length → bef k j r c → G r c (x.sh r c) (x.upto r c)
  hi : ∀ r c, r < 6 → c < 5 → (¬ bef k j r c ∨ x0.vals.length ≤ c) → x.sh r c = 0 ∧ x.upto r c = 0
  per : ∀ c, c < 5 → x.per c = 0
theorem rep0 (n i : Nat) : (List.replicate n (0 : Int)).getD i 0 = 0 := by
  simp only [List.getD, List.getElem?_replicate]; split <;> rfl
theorem DM.zero (G : Nat → Nat → Int → Int → Prop) (x0 : EC) (ht : x0.tab = List.replicate 65 0) : DM G x0 0 0 x0 := by
  have h0 : ∀ i, x0.tab.getD i 0 = 0 := fun i => by rw [ht]; exact rep0 _ _
  refine ⟨rfl, rfl, by rw [ht]; simp, fun i hi => ?_, fun r c h1 h2 h3 => ?_, fun r c h1 h2 h3 => ⟨h0 _, h0 _⟩, fun c hc => h0 _⟩
  · rw [if_neg (by omega)]; simp [sumN]
  · unfold bef at h3; omega
theorem DM.row {G : Nat → Nat → Int → Int → Prop} {x0 : EC} {k : Nat} {x : EC} (h : DM G x0 k x0.vals.length x) : DM G x0 (k + 1) 0 x := by
  refine ⟨h.eq, h.vl, h.tl, fun i hi => ?_, fun r c h1 h2 h3 => h.lo r c h1 h2 ?_, fun r c h1 h2 h3 => h.hi r c h1 h2 ?_, h.per⟩
  · have := h.val i hi
    rw [if_pos hi] at this
    rw [if_neg (by omega)]; exact this
  · unfold bef at *; omega
  · unfold bef at *; omega
theorem DM.step {G : Nat → Nat → Int → Int → Prop} {x0 : EC} {k j : Nat} {s : List UInt8} {q : EC × RSE} (h : DM G x0 k j q.1) (hk : k < 6) (hj : j < x0.vals.length) (hv : x0.vals.length ≤ 5)
    (hG : G k j (nx s 1000000 q.2).1 (if 0 < (nx s 1000000 q.2).1 then - (nx s 1073741824000000 (nx s 1000000 q.2).2).1 else 0)) : DM G x0 k (j + 1) (rdD1 s k j q).1 := by
  obtain ⟨x, st⟩ := q
  simp only at h hG
  have tl := h.tl
  have vl := h.vl
  have h0 := h.hi k j hk (by omega) (.inl (by unfold bef; omega))
  have hp0 := h.per j (by omega)
  have hnn : 0 < (nx s 1000000 st).1 ∨ (nx s 1000000 st).1 = 0 := by have := nx_bd s 1000000 st (by decide); omega
  have e0 : (rdD0 s k j (x, st)).per j = 0 := by
    show (x.tab.set (k * 5 + j) _).getD (30 + j) 0 = 0
    rw [gd_ne (by omega)]; exact hp0
  -- the table and the validators, in one form
  obtain ⟨u, hu, ex⟩ : ∃ u, u = (if 0 < (nx s 1000000 st).1 then - (nx s 1073741824000000 (nx s 1000000 st).2).1 else 0) ∧ ∃ t, (rdD1 s k j (x, st)).1 = { x with vals := x.vals.modify j (fun v => { v with shares := v.shares + (nx s 1000000 st).1 }), tab := t } ∧ t.length = 65 ∧ (∀ n, n < 65 → t.getD n 0 = if n = k * 5 + j then (nx s 1000000 st).1 else if n = 35 + (k * 5 + j) then (if 0 < (nx s 1000000 st).1 then - (nx s 1073741824000000 (nx s 1000000 st).2).1 else 0) else x.tab.getD n 0) := by
    refine ⟨_, rfl, ?_⟩
    unfold rdD1
    by_cases hs : 0 < (nx s 1000000 st).1
    · refine ⟨_, by rw [if_pos hs]; rfl, by simp only [rdD0, List.length_set]; exact tl, fun n hn => ?_⟩
      simp only [if_pos hs, e0, Int.zero_sub]
      by_cases n2 : n = 35 + (k * 5 + j)
      · subst n2; rw [gd_self (by simp only [rdD0, List.length_set]; omega), if_neg (by omega), if_pos rfl]
      · rw [gd_ne (by omega), if_neg n2]
        simp only [rdD0]
        by_cases n1 : n = k * 5 + j
        · subst n1; rw [gd_self (by omega), if_pos rfl]
        · rw [gd_ne (by omega), if_neg n1]
    · refine ⟨_, by rw [if_neg hs]; rfl, by simp only [List.length_set]; exact tl, fun n hn => ?_⟩
      rw [if_neg hs]
      by_cases n1 : n = k * 5 + j
      · subst n1; rw [gd_self (by show k * 5 + j < x.tab.length; omega), if_pos rfl]
      · rw [gd_ne (by omega), if_neg n1]
        by_cases n2 : n = 35 + (k * 5 + j)
        · subst n2; rw [if_pos rfl]; exact h0.2
        · rw [if_neg n2]
  obtain ⟨t, e1, e2, e3⟩ := ex
  rw [← hu] at hG e3
  clear hu e0
  generalize (nx s 1000000 st).1 = a at *
  rw [e1]
  have hsh : ∀ r c, r < 6 → c < 5 → EC.sh { x with vals := x.vals.modify j (fun v => { v with shares := v.shares + a }), tab := t } r c = if r = k ∧ c = j then a else x.sh r c := fun r c h1 h2 => by
    show t.getD (r * 5 + c) 0 = _
    rw [e3 _ (by omega)]
    by_cases e : r = k ∧ c = j
    · obtain ⟨rfl, rfl⟩ := e; rw [if_pos rfl, if_pos ⟨rfl, rfl⟩]
    · rw [if_neg (by omega), if_neg (by omega), if_neg e]; rfl
  have hup : ∀ r c, r < 6 → c < 5 → EC.upto { x with vals := x.vals.modify j (fun v => { v with shares := v.shares + a }), tab := t } r c = if r = k ∧ c = j then u else x.upto r c := fun r c h1 h2 => by
    show t.getD (35 + (r * 5 + c)) 0 = _
    rw [e3 _ (by omega), if_neg (by omega)]
    by_cases e : r = k ∧ c = j
    · obtain ⟨rfl, rfl⟩ := e; rw [if_pos rfl, if_pos ⟨rfl, rfl⟩]
    · rw [if_neg (by omega), if_neg e]; rfl
  have hva : ∀ i, EC.val { x with vals := x.vals.modify j (fun v => { v with shares := v.shares + a }), tab := t } i = if i = j then { x.val j with shares := (x.val j).shares + a } else x.val i := fun i => vmod_at _ _ _ _ (by rw [vl]; exact hj)
  refine ⟨?_, by simp only [List.length_modify]; exact vl, e2, fun i hi => ?_, fun r c h1 h2 h3 => ?_, fun r c h1 h2 h3 => ?_, fun c hc => ?_⟩
  · have := h.eq
    generalize hy : x = y at *
    rw [this]
  · rw [hva]
    have hvi := h.val i hi
    have hcg : ∀ n, n ≤ k → sumN (fun r => EC.sh { x with vals := x.vals.modify j (fun v => { v with shares := v.shares + a }), tab := t } r i) n = sumN (fun r => x.sh r i) n := fun n hn => sumN_congr n (fun r hr => by rw [hsh r i (by omega) (by omega), if_neg (by omega)])
    by_cases e : i = j
    · subst e
      rw [if_neg (by omega)] at hvi
      rw [if_pos rfl, if_pos (by omega), hvi]
      simp only [sumN]
      rw [hcg k (Nat.le_refl _), hsh k i hk (by omega), if_pos ⟨rfl, rfl⟩, Int.add_assoc]
    · rw [if_neg e, hvi]
      by_cases hij : i < j
      · rw [if_pos hij, if_pos (by omega)]
        simp only [sumN]
        rw [hcg k (Nat.le_refl _), hsh k i hk (by omega), if_neg (by omega)]
      · rw [if_neg hij, if_neg (by omega), hcg k (Nat.le_refl _)]
  · rw [hsh r c h1 (by omega), hup r c h1 (by omega)]
    by_cases e : r = k ∧ c = j
    · obtain ⟨rfl, rfl⟩ := e; rw [if_pos ⟨rfl, rfl⟩, if_pos ⟨rfl, rfl⟩]; exact hG
    · rw [if_neg e, if_neg e]; exact h.lo r c h1 h2 (by unfold bef at *; omega)
  · have e : ¬ (r = k ∧ c = j) := by unfold bef at h3; omega
    rw [hsh r c h1 h2, hup r c h1 h2, if_neg e, if_neg e]
    exact h.hi r c h1 h2 (by unfold bef at *; omega)
  · show t.getD (30 + c) 0 = 0
    rw [e3 _ (by omega), if_neg (by omega), if_neg (by omega)]; exact h.per c hc
def GBd (r c : Nat) (s u : Int) : Prop := 0 ≤ s ∧ s ≤ 1000000 ∧ -1073741824000000 ≤ u ∧ u ≤ 0
theorem GBd_rd (s : List UInt8) (st : RSE) (r c : Nat) : GBd r c (nx s 1000000 st).1 (if 0 < (nx s 1000000 st).1 then - (nx s 1073741824000000 (nx s 1000000 st).2).1 else 0) := by
  have h1 := nx_bd s 1000000 st (by decide)
  have h2 := nx_bd s 1073741824000000 (nx s 1000000 st).2 (by decide)
  refine ⟨h1.1, h1.2, ?_, ?_⟩ <;> split <;> omega
theorem rdDr_bd {x0 : EC} {k : Nat} {s : List UInt8} {q : EC × RSE} (h : DM GBd x0 k 0 q.1) (hk : k < 6) (hv : x0.vals.length ≤ 5) : ∀ j, j ≤ x0.vals.length → DM GBd x0 k j (rdDr s k q j).1 := by
  intro j
  induction j with
  | zero => intro _; exact h
  | succ j ih => intro hj; exact (ih (by omega)).step hk (by omega) hv (GBd_rd _ _ _ _)
theorem rdDa_bd {s : List UInt8} {q : EC × RSE} (ht : q.1.tab = List.replicate 65 0) (hv : q.1.vals.length ≤ 5) : ∀ k, k ≤ 6 → DM GBd q.1 k 0 (rdDa s q q.1.vals.length k).1 := by
  intro k
  induction k with
  | zero => intro _; exact DM.zero _ _ ht
  | succ k ih => intro hk; exact (rdDr_bd (ih (by omega)) (by omega) hv _ (Nat.le_refl _)).row
end Go.Proofs.YtohjjgefklhmaaaGreatDoor

namespace Go.Proofs.YtohjjgefklhmaaaGreatDoor
open Go.ChangeShapes Go.WideShapes Go.ChangeAt Go.RowKit
set_option linter.unusedVariables false

/-! ### delegations and entries, read from what an engine wrote -/
/-- as in y -/
def GY (y : EC) (r c : Nat) (s u : Int) : Prop := s = y.sh r c ∧ (0 < y.sh r c → u = - (y.per c - y.upto r c))
structure DB (y : EC) : Prop where
  s0 : ∀ k j, k < 6 → j < 5 → 0 ≤ y.sh k j ∧ y.sh k j ≤ 1000000
  p0 : ∀ k j, k < 6 → j < 5 → 0 < y.sh k j → 0 ≤ y.per j - y.upto k j ∧ y.per j - y.upto k j ≤ 1073741824000000
theorem rdD1_good {y x0 : EC} {k j : Nat} {s : List UInt8} {q : EC × RSE} {rest : List Int} (h : DM (GY y) x0 k j q.1) (hk : k < 6) (hj : j < x0.vals.length) (hv : x0.vals.length ≤ 5) (hb : DB y) (hn : AtN s q.2 (delN y k j ++ rest)) :
    DM (GY y) x0 k (j + 1) (rdD1 s k j q).1 ∧ AtN s (rdD1 s k j q).2 rest := by
  have h0 := hb.s0 k j hk (by omega)
  by_cases hs : 0 < y.sh k j
  · have hp := hb.p0 k j hk (by omega) hs
    unfold delN at hn
    rw [if_pos hs] at hn
    obtain ⟨a1, a2⟩ := nx_good (most := 1000000) hn h0.1 h0.2
    obtain ⟨b1, b2⟩ := nx_good (most := 1073741824000000) a2 hp.1 hp.2
    refine ⟨h.step hk hj hv ?_, ?_⟩
    · rw [a1, if_pos hs, b1]; exact ⟨rfl, fun _ => rfl⟩
    · unfold rdD1; rw [a1, if_pos hs]; exact b2
  · unfold delN at hn
    rw [if_neg hs] at hn
    obtain ⟨a1, a2⟩ := nx_good (most := 1000000) hn h0.1 h0.2
    refine ⟨h.step hk hj hv ?_, ?_⟩
    · rw [a1, if_neg hs]; exact ⟨rfl, fun h => absurd h hs⟩
    · unfold rdD1; rw [a1, if_neg hs]; exact a2
/-- the rest of a row -/
def delT (y : EC) (k n : Nat) : Nat → List Int
  | 0 => []
  | d + 1 => delT y k n d ++ delN y k (n + d)
theorem delR_split (y : EC) (k j d : Nat) : delR y k (j + d) = delR y k j ++ delT y k j d := by
  induction d with
  | zero => simp [delT]
  | succ d ih => rw [← Nat.add_assoc]; simp only [delR, delT, ih, List.append_assoc]
theorem delT_head (y : EC) (k j d : Nat) : delT y k j (d + 1) = delN y k j ++ delT y k (j + 1) d := by
  have h1 := delR_split y k j (d + 1)
  have h2 := delR_split y k (j + 1) d
  rw [show j + (d + 1) = j + 1 + d by omega, h2] at h1
  simp only [delR, List.append_assoc] at h1
  exact (List.append_cancel_left h1).symm
theorem rdDr_good {y x0 : EC} {k : Nat} {s : List UInt8} {q : EC × RSE} {rest : List Int} (h : DM (GY y) x0 k 0 q.1) (hk : k < 6) (hv : x0.vals.length ≤ 5) (hl : x0.vals.length = y.vals.length) (hb : DB y) (hn : AtN s q.2 (delR y k y.vals.length ++ rest)) :
    ∀ j, j ≤ x0.vals.length → DM (GY y) x0 k j (rdDr s k q j).1 ∧ AtN s (rdDr s k q j).2 (delT y k j (y.vals.length - j) ++ rest) := by
  intro j
  induction j with
  | zero =>
    intro _
    refine ⟨h, ?_⟩
    have := delR_split y k 0 y.vals.length
    rw [Nat.zero_add] at this
    simp only [delR, List.nil_append] at this
    rw [Nat.sub_zero, ← this]; exact hn
  | succ j ih =>
    intro hj
    obtain ⟨i1, i2⟩ := ih (by omega)
    rw [show y.vals.length - j = (y.vals.length - (j + 1)) + 1 by omega, delT_head, List.append_assoc] at i2
    exact rdD1_good i1 hk (by omega) hv hb i2
def delB (y : EC) (n : Nat) : Nat → List Int
  | 0 => []
  | d + 1 => delB y n d ++ delR y (n + d) y.vals.length
theorem delA_split (y : EC) (j d : Nat) : delA y (j + d) = delA y j ++ delB y j d := by
  induction d with
  | zero => simp [delB]
  | succ d ih => rw [← Nat.add_assoc]; simp only [delA, delB, ih, List.append_assoc]
theorem delB_head (y : EC) (j d : Nat) : delB y j (d + 1) = delR y j y.vals.length ++ delB y (j + 1) d := by
  have h1 := delA_split y j (d + 1)
  have h2 := delA_split y (j + 1) d
  rw [show j + (d + 1) = j + 1 + d by omega, h2] at h1
  simp only [delA, List.append_assoc] at h1
  exact (List.append_cancel_left h1).symm
theorem rdDa_good {y : EC} {n : Nat} {s : List UInt8} {q : EC × RSE} {rest : List Int} (ht : q.1.tab = List.replicate 65 0) (hv : q.1.vals.length ≤ 5) (hl : q.1.vals.length = y.vals.length) (hb : DB y) (n6 : n ≤ 6) (hn : AtN s q.2 (delA y n ++ rest)) :
    ∀ k, k ≤ n → DM (GY y) q.1 k 0 (rdDa s q q.1.vals.length k).1 ∧ AtN s (rdDa s q q.1.vals.length k).2 (delB y k (n - k) ++ rest) := by
  intro k
  induction k with
  | zero =>
    intro _
    refine ⟨DM.zero _ _ ht, ?_⟩
    have := delA_split y 0 n
    rw [Nat.zero_add] at this
    simp only [delA, List.nil_append] at this
    rw [Nat.sub_zero, ← this]; exact hn
  | succ k ih =>
    intro hk
    obtain ⟨i1, i2⟩ := ih (by omega)
    rw [show n - k = (n - (k + 1)) + 1 by omega, delB_head, List.append_assoc] at i2
    obtain ⟨j1, j2⟩ := rdDr_good i1 (by omega) hv hl hb i2 q.1.vals.length (Nat.le_refl _)
    rw [hl, Nat.sub_self] at j2
    refine ⟨j1.row, ?_⟩
    show AtN s (rdDr s k (rdDa s q q.1.vals.length k) q.1.vals.length).2 _
    rw [hl]; exact j2
/-! ### entries -/
structure EBd (nb nv h : Int) (e : ES) : Prop where
  w0 : 0 ≤ e.who
  w1 : e.who ≤ nb - 1
  v0 : 0 ≤ e.val
  v1 : e.val ≤ nv - 1
  m0 : 0 ≤ e.made
  m1 : e.made ≤ h
  a0 : 0 ≤ e.amount
  a1 : e.amount ≤ 1000000
theorem rdE1_bd (s : List UInt8) (nb nv h : Int) (st : RSE) (hb : 1 ≤ nb) (hv : 1 ≤ nv) (hh : 0 ≤ h) : EBd nb nv h (rdE1 s nb nv h st).1 := by
  have h1 := nx_bd s (nb - 1) st (by omega)
  have h2 := nx_bd s (nv - 1) (nx s (nb - 1) st).2 (by omega)
  have h3 := nx_bd s h (nx s (nv - 1) (nx s (nb - 1) st).2).2 hh
  have h4 := nx_bd s 1000000 (nx s h (nx s (nv - 1) (nx s (nb - 1) st).2).2).2 (by decide)
  exact ⟨h1.1, h1.2, h2.1, h2.2, h3.1, h3.2, h4.1, h4.2⟩
theorem rdE_bd (s : List UInt8) (nb nv h : Int) (st : RSE) (hb : 1 ≤ nb) (hv : 1 ≤ nv) (hh : 0 ≤ h) (k : Nat) : (rdE s nb nv h st k).1.length = k ∧ ∀ e, e ∈ (rdE s nb nv h st k).1 → EBd nb nv h e := by
  induction k with
  | zero => exact ⟨rfl, fun e he => by simp [rdE] at he⟩
  | succ k ih =>
    refine ⟨by simp [rdE, ih.1], fun e he => ?_⟩
    simp only [rdE, List.mem_append, List.mem_singleton] at he
    rcases he with he | rfl
    · exact ih.2 e he
    · exact rdE1_bd _ _ _ _ _ hb hv hh
theorem rdE_good {s : List UInt8} {nb nv h : Int} {st : RSE} {l : List ES} {rest : List Int} (hn : AtN s st (l.flatMap entNs ++ rest)) (hl : ∀ e, e ∈ l → EBd nb nv h e) : ∀ k, k ≤ l.length → (rdE s nb nv h st k).1 = l.take k ∧ AtN s (rdE s nb nv h st k).2 ((l.drop k).flatMap entNs ++ rest) := by
  intro k
  induction k with
  | zero => intro _; exact ⟨by simp [rdE], by simpa [rdE] using hn⟩
  | succ k ih =>
    intro hk
    obtain ⟨i1, i2⟩ := ih (by omega)
    have hlt : k < l.length := by omega
    have hb := hl _ (List.getElem_mem hlt)
    rw [List.drop_eq_getElem_cons hlt, List.flatMap_cons, List.append_assoc] at i2
    simp only [entNs, List.cons_append, List.nil_append] at i2
    obtain ⟨a1, a2⟩ := nx_good (most := nb - 1) i2 hb.w0 hb.w1
    obtain ⟨b1, b2⟩ := nx_good (most := nv - 1) a2 hb.v0 hb.v1
    obtain ⟨c1, c2⟩ := nx_good (most := h) b2 hb.m0 hb.m1
    obtain ⟨d1, d2⟩ := nx_good (most := 1000000) c2 hb.a0 hb.a1
    refine ⟨?_, ?_⟩
    · simp only [rdE, rdE1, a1, b1, c1, d1]
      rw [i1, List.take_succ_eq_append_getElem hlt]
    · simp only [rdE, rdE1]; exact d2
end Go.Proofs.YtohjjgefklhmaaaGreatDoor

namespace Go.Proofs.YtohjjgefklhmaaaGreatDoor
open Go.ChangeShapes Go.WideShapes Go.ChangeAt Go.RowKit
set_option linter.unusedVariables false

/-! ### how many entries there are -/
theorem sumN_ind (i : Nat) (c : Int) (n : Nat) : sumN (fun a => if (i : Int) = (a : Int) then c else 0) n = if i < n then c else 0 := by
  induction n with
  | zero => simp [sumN]
  | succ n ih =>
    simp only [sumN, ih]
    by_cases e : i = n
    · subst e; rw [if_neg (by omega), if_pos rfl, if_pos (by omega)]; omega
    · rw [if_neg (show ¬ (i : Int) = (n : Int) by omega)]
      by_cases h : i < n
      · rw [if_pos h, if_pos (by omega)]; omega
      · rw [if_neg h, if_neg (by omega)]; omega
theorem sumN_add (f g : Nat → Int) (n : Nat) : sumN (fun a => f a + g a) n = sumN f n + sumN g n := by
  induction n with
  | zero => rfl
  | succ n ih => simp only [sumN, ih]; omega
theorem countE_cons (e : ES) (l : List ES) (a b : Int) : countE (e :: l) a b = countE l a b + (if e.who = a ∧ e.val = b then 1 else 0) := by
  rw [countE_P, countE_P, List.countP_cons]
  by_cases h : e.who = a ∧ e.val = b
  · rw [if_pos h, decide_eq_true h, if_pos rfl]; omega
  · rw [if_neg h, decide_eq_false h, if_neg (by simp)]; omega
theorem ents_count (l : List ES) (h : ∀ e, e ∈ l → ∃ i j : Nat, e.who = i ∧ i < 6 ∧ e.val = j ∧ j < 5) : (l.length : Int) = sumN (fun a => sumN (fun b => countE l a b) 5) 6 := by
  induction l with
  | nil => simp [countE, sumN]
  | cons e l ih =>
    obtain ⟨i, j, h1, h2, h3, h4⟩ := h e (by simp)
    have ih := ih (fun e he => h e (by simp [he]))
    have e1 : ∀ a : Nat, sumN (fun b => countE (e :: l) a b) 5 = sumN (fun b => countE l a b) 5 + (if (i : Int) = (a : Int) then 1 else 0) := fun a => by
      rw [sumN_congr (f := fun b => countE l a b + (if (j : Int) = (b : Int) then (if (i : Int) = (a : Int) then 1 else 0) else 0)) 5 (fun b _ => by
        rw [countE_cons, h1, h3]
        by_cases hi : (i : Int) = (a : Int)
        · by_cases hj : (j : Int) = (b : Int)
          · rw [if_pos ⟨hi, hj⟩, if_pos hj, if_pos hi]
          · rw [if_neg (fun h => hj h.2), if_neg hj]
        · rw [if_neg (fun h => hi h.1)]; simp [hi]), sumN_add, sumN_ind, if_pos h4]
    rw [sumN_congr (f := fun a => sumN (fun b => countE l a b) 5 + (if (i : Int) = (a : Int) then 1 else 0)) 6 (fun a _ => e1 a), sumN_add, sumN_ind, if_pos h2, ← ih]
    simp
theorem sumN_le_const (f : Nat → Int) (c : Int) (n : Nat) (h : ∀ k, f k ≤ c) : sumN f n ≤ c * n := by
  induction n with
  | zero => simp [sumN]
  | succ n ih =>
    have := h n
    simp only [sumN, Int.natCast_add, Int.mul_add]; omega
theorem ents_le {x : EC} (ok : Fine x) (hi : InvE x) : x.ents.length ≤ 120 := by
  have okx : Ok x.height x := ok
  have h1 := ents_count x.ents (fun e he => by
    obtain ⟨i, hw, hi'⟩ := (okx.ent e he).w
    obtain ⟨j, hv, hj⟩ := hi.en.vl e he
    have := okx.b6; have := okx.v5
    exact ⟨i, j, hw, by omega, hv, by omega⟩)
  have h2 : ∀ a : Nat, sumN (fun b => countE x.ents a b) 5 ≤ 20 := fun a => by
    have := sumN_le_const (fun b => countE x.ents a b) 4 5 (fun b => hi.en.ct _ _); omega
  have h3 := sumN_le_const (fun a => sumN (fun b => countE x.ents a b) 5) 20 6 h2
  omega
/-! ### an engine that wrote is read again -/
theorem vals_ext {a b : List VS} (hl : a.length = b.length) (h : ∀ i, i < b.length → a.getD i v0 = b.getD i v0) : a = b := by
  apply List.ext_getElem hl
  intro i h1 h2
  have := h i h2
  simpa [h1, h2] using this
structure YB (y : EC) : Prop where
  db : DB y
  vb : ∀ v, v ∈ y.vals → VB0 v
  bb : ∀ n, n ∈ y.bal → 0 ≤ n ∧ n ≤ 1000000
  ob : ∀ n, n ∈ y.vals.map (fun v => v.owner) → 0 ≤ n ∧ n ≤ 6
  rb : ∀ n, n ∈ y.vals.map (fun v => v.rate) → 0 ≤ n ∧ n ≤ 100
  eb : ∀ e, e ∈ y.ents → EBd y.bal.length y.vals.length y.height e
  fb : y.fees ≤ 1000000
  pb : y.pool ≤ 1000000
  el : y.ents.length ≤ 120
theorem yb_of {y : EC} (ok : Fine y) (hB : InvB y) (hE : InvE y) : YB y := by
  have okx : Ok y.height y := ok
  obtain ⟨h1, h2, h3, h4, h5⟩ := okx.bds
  have b6 := okx.b6
  have v5 := okx.v5
  have hval : ∀ v, v ∈ y.vals → ∃ j, j < y.vals.length ∧ v = y.val j := fun v hv => by
    obtain ⟨j, hj, e⟩ := List.getElem_of_mem hv
    exact ⟨j, hj, by rw [← e]; simp [EC.val, hj]⟩
  refine ⟨⟨fun k j hk hj => ?_, fun k j hk hj hs => ?_⟩, fun v hv => ?_, fun n hn => ?_, fun n hn => ?_, fun n hn => ?_, fun e he => ?_, h2, h3, ents_le ok hE⟩
  · by_cases hjv : j < y.vals.length
    · exact ⟨okx.sh0 k j hk hj, Int.le_trans (okx.sh_le hk hjv) (okx.val j hjv).s1⟩
    · rw [hE.sv k j (by omega) hk hj]; omega
  · have hjv : j < y.vals.length := by
      by_cases hjv : j < y.vals.length
      · exact hjv
      · have := hE.sv k j (by omega) hk hj; omega
    have hu := okx.upt k j hk hj
    have ho := okx.owed hk hjv
    have h6 := (h4 j hjv).2
    have h7 := (okx.val j hjv).k0
    refine ⟨by omega, ?_⟩
    have h8 : 1 * (y.per j - y.upto k j) ≤ y.sh k j * (y.per j - y.upto k j) := Int.mul_le_mul_of_nonneg_right (by omega) (by omega)
    generalize y.sh k j * (y.per j - y.upto k j) = z at *
    omega
  · obtain ⟨j, hj, rfl⟩ := hval v hv
    have hv := okx.val j hj
    have h6 := h4 j hj
    exact ⟨hv.t0, h6.1, hv.k0, Int.le_trans hv.ko h6.2, Int.le_trans hv.k0 hv.ko, h6.2, hv.jl⟩
  · obtain ⟨k, hk, rfl⟩ := List.getElem_of_mem hn
    have e : y.balAt k = y.bal[k] := by simp [EC.balAt, hk]
    rw [← e]; exact ⟨okx.bal k hk, h1 k hk⟩
  · obtain ⟨i, rfl, hi⟩ := hE.ow n hn; omega
  · obtain ⟨v, hv, rfl⟩ := List.mem_map.1 hn
    obtain ⟨j, hj, rfl⟩ := hval v hv
    exact ⟨(okx.val j hj).r0, (okx.val j hj).r1⟩
  · obtain ⟨i, hw, hi⟩ := (okx.ent e he).w
    obtain ⟨j, hv, hj⟩ := hE.en.vl e he
    have h6 := okx.ent e he
    obtain ⟨k, hk, rfl⟩ := List.getElem_of_mem he
    have h7 := h5 k hk
    exact ⟨by omega, by omega, by omega, by omega, h6.m0, h6.m1, h6.a0, h7⟩
theorem vs0_len' (os rs : List Int) (h : rs.length = os.length) : (vs0 os rs).length = os.length := by simp [vs0, h]
theorem vs0_at' (os rs : List Int) (j : Nat) (h : rs.length = os.length) (hj : j < os.length) : (vs0 os rs).getD j v0 = ⟨os.getD j 0, rs.getD j 0, 0, 0, 0, 0, false, false⟩ := by
  simp [vs0, hj, h]
theorem rdX_good {y : EC} (ok : Fine y) (hB : InvB y) (hE : InvE y) : Sim y (rdX (txt (nums y))).1 ∧ (rdX (txt (nums y))).2.bad = false := by
  have okx : Ok y.height y := ok
  have yb := yb_of ok hB hE
  have b6 := okx.b6
  have v5 := okx.v5
  obtain ⟨s, hs⟩ : ∃ s, s = txt (nums y) := ⟨_, rfl⟩
  rw [← hs]
  have h0 : AtN s ⟨0, false⟩ (nums y) := ⟨rfl, by rw [hs]; rfl⟩
  unfold nums at h0
  simp only [List.append_assoc] at h0
  obtain ⟨g1, g2⟩ := rdG_good h0 b6 v5 yb.bb yb.ob yb.rb ⟨by have := okx.top0; omega, okx.top1⟩ ⟨by have := okx.mat0; omega, okx.mat1⟩ ⟨okx.fee0, okx.fee1⟩
  unfold rdX
  rw [g1]
  generalize (rdG s ⟨0, false⟩).2 = st0 at *
  -- the chain's numbers
  obtain ⟨q0, hq0⟩ : ∃ q0 : EC × RSE, q0 = (xN' ⟨y.bal, y.vals.map (fun v => v.owner), y.vals.map (fun v => v.rate), y.top, y.mature, y.fee⟩, st0) := ⟨_, rfl⟩
  rw [← hq0]
  simp only [List.cons_append, List.nil_append] at g2
  obtain ⟨a1, a2⟩ := nx_good (most := 1000) g2 okx.hgt0 okx.hgt1
  obtain ⟨b1, b2⟩ := nx_good (most := 1000000) a2 okx.fees yb.fb
  obtain ⟨c1, c2⟩ := nx_good (most := 1000000) b2 okx.pool yb.pb
  have hx1 : rdX1 s q0 = ({ xN' ⟨y.bal, y.vals.map (fun v => v.owner), y.vals.map (fun v => v.rate), y.top, y.mature, y.fee⟩ with height := y.height, fees := y.fees, pool := y.pool }, (nx s 1000000 (nx s 1000000 (nx s 1000 st0).2).2).2) := by
    rw [hq0]; simp only [rdX1, a1, b1, c1]
  generalize (nx s 1000000 (nx s 1000000 (nx s 1000 st0).2).2).2 = st1 at *
  unfold rdX3 rdX2
  obtain ⟨q1, hq1⟩ : ∃ q1, q1 = rdX1 s q0 := ⟨_, rfl⟩
  rw [← hq1]
  rw [← hq1] at hx1
  have e11 : q1.1 = { xN' ⟨y.bal, y.vals.map (fun v => v.owner), y.vals.map (fun v => v.rate), y.top, y.mature, y.fee⟩ with height := y.height, fees := y.fees, pool := y.pool } := by rw [hx1]
  have e12 : q1.2 = st1 := by rw [hx1]
  have hl1 : q1.1.vals.length = y.vals.length := by rw [e11]; exact (vs0_len' _ _ (by simp)).trans (by simp)
  have hv1 : ∀ i, i < y.vals.length → q1.1.val i = ⟨(y.val i).owner, (y.val i).rate, 0, 0, 0, 0, false, false⟩ := fun i hi => by
    rw [e11]
    have := vs0_at' (y.vals.map (fun v => v.owner)) (y.vals.map (fun v => v.rate)) i (by simp) (by simpa using hi)
    refine Eq.trans this ?_
    simp [EC.val, hi]
  clear hx1 hq1
  rw [← e12] at c2
  obtain ⟨r1, r2⟩ := rdV_good hl1 c2 yb.vb y.vals.length (Nat.le_refl _)
  rw [hl1]
  obtain ⟨q2, hq2⟩ : ∃ q2, q2 = rdV s q1 y.vals.length := ⟨_, rfl⟩
  rw [← hq2] at r1 r2 ⊢
  clear hq2
  rw [List.drop_length] at r2
  simp only [List.flatMap_nil, List.nil_append] at r2
  have hl2 : q2.1.vals.length = y.vals.length := r1.vl.trans hl1
  have hv2 : ∀ i, i < y.vals.length → q2.1.val i = { y.val i with shares := 0 } := fun i hi => by
    obtain ⟨p1, p2, p3, p4⟩ := r1.lo i hi (by omega)
    rw [hv1 i hi] at p2 p3 p4
    simp only at p2 p3 p4
    rw [p1, p2, p3, p4]; rfl
  have hb2 : q2.1 = { y with tab := List.replicate 65 0, vals := q2.1.vals, ents := [] } := by
    have := r1.eq
    rw [e11] at this
    exact this
  have hbl2 : q2.1.bal.length = y.bal.length := by rw [hb2]
  have ht2 : q2.1.tab = List.replicate 65 0 := by rw [hb2]
  obtain ⟨d1, d2⟩ := rdDa_good ht2 (by omega) hl2 yb.db b6 r2 y.bal.length (Nat.le_refl _)
  rw [hbl2]
  obtain ⟨q3, hq3⟩ : ∃ q3, q3 = rdDa s q2 q2.1.vals.length y.bal.length := ⟨_, rfl⟩
  rw [← hq3] at d1 d2 ⊢
  clear hq3
  rw [Nat.sub_self] at d2
  simp only [delB, List.nil_append] at d2
  have hsh : ∀ k j, k < 6 → j < 5 → q3.1.sh k j = y.sh k j := fun k j hk hj => by
    by_cases h1 : j < y.vals.length
    · by_cases h2 : k < y.bal.length
      · exact (d1.lo k j hk (by omega) (.inl h2)).1
      · rw [(d1.hi k j hk hj (.inl (by unfold bef; omega))).1, hB.sh k j (by omega) hk hj]
    · rw [(d1.hi k j hk hj (.inr (by omega))).1, hE.sv k j (by omega) hk hj]
  have hv3 : q3.1.vals = y.vals := by
    refine vals_ext (d1.vl.trans hl2) (fun i hi => ?_)
    have h1 := d1.val i (by omega)
    rw [hv2 i hi, if_neg (by omega)] at h1
    have h2 : sumN (fun r => q3.1.sh r i) y.bal.length = (y.val i).shares := by
      rw [sumN_congr (f := fun r => y.sh r i) _ (fun r hr => hsh r i (by omega) (by omega)), ← okx.shs i hi, ← sumN6]
      have := sumN_tail (f := fun r => y.sh r i) y.bal.length (6 - y.bal.length) (fun k h1 h2 => hB.sh k i h1 (by omega) (by omega))
      rw [show y.bal.length + (6 - y.bal.length) = 6 by omega] at this
      exact this.symm
    rw [h2] at h1
    refine Eq.trans h1 ?_
    simp only [Int.zero_add]; rfl
  have hb3 : q3.1 = { y with tab := q3.1.tab, ents := [] } := by
    have := d1.eq
    rw [hv3, hb2] at this
    exact this
  have hst : ST y.tab q3.1.tab := by
    refine ⟨okx.tl, d1.tl, fun i hi => ?_, fun k j hk hj hne => ?_⟩
    · have := hsh (i / 5) (i % 5) (by omega) (by omega)
      unfold EC.sh at this
      rw [show i / 5 * 5 + i % 5 = i by omega] at this
      exact this
    · have hne' : y.sh k j ≠ 0 := hne
      have hpos : 0 < y.sh k j := by have := okx.sh0 k j hk hj; omega
      have h1 : j < y.vals.length := by
        by_cases h1 : j < y.vals.length
        · exact h1
        · exact absurd (hE.sv k j (by omega) hk hj) hne'
      have h2 : k < y.bal.length := by
        by_cases h2 : k < y.bal.length
        · exact h2
        · exact absurd (hB.sh k j (by omega) hk hj) hne'
      have hu := (d1.lo k j hk (by omega) (.inl h2)).2 hpos
      have hp := d1.per j hj
      unfold EC.upto EC.per at hu
      unfold EC.per at hp
      rw [hp, hu]; omega
  have e1 : (q3.1.bal.length : Int) = y.bal.length := by rw [hb3]
  have e2 : (q3.1.vals.length : Int) = y.vals.length := by rw [hv3]
  have e3 : q3.1.height = y.height := by rw [hb3]
  obtain ⟨n1, n2⟩ := nx_good (most := 120) d2 (by omega) (by have := yb.el; omega)
  have n2' : AtN s (nx s 120 q3.2).2 (y.ents.flatMap entNs ++ []) := by rw [List.append_nil]; exact n2
  obtain ⟨f1, f2⟩ := rdE_good n2' yb.eb y.ents.length (Nat.le_refl _)
  unfold rdX4
  simp only [n1, e1, e2, e3, Int.toNat_natCast]
  refine ⟨⟨q3.1.tab, ?_, hst⟩, f2.1⟩
  rw [f1, List.take_length]
  generalize q3.1 = x3 at *
  rw [hb3]
end Go.Proofs.YtohjjgefklhmaaaGreatDoor

namespace Go.Proofs.YtohjjgefklhmaaaGreatDoor
open Go.ChangeShapes Go.WideShapes Go.ChangeAt Go.RowKit
set_option linter.unusedVariables false

/-! ### how long it is -/
theorem delN_len (y : EC) (k j : Nat) : (delN y k j).length ≤ 2 := by unfold delN; split <;> simp
theorem delR_len (y : EC) (k n : Nat) : (delR y k n).length ≤ 2 * n := by
  induction n with
  | zero => simp [delR]
  | succ n ih => have := delN_len y k n; simp only [delR, List.length_append]; omega
theorem delA_len (y : EC) (hv : y.vals.length ≤ 5) (n : Nat) : (delA y n).length ≤ 10 * n := by
  induction n with
  | zero => simp [delA]
  | succ n ih => have := delR_len y n y.vals.length; simp only [delA, List.length_append]; omega
theorem flat_len {α : Type} (f : α → List Int) (c : Nat) (l : List α) (h : ∀ a, (f a).length = c) : (l.flatMap f).length = c * l.length := by
  induction l with
  | nil => simp
  | cons a l ih => rw [List.flatMap_cons, List.length_append, h, ih, List.length_cons, Nat.mul_add]; omega
theorem delA_mem (y : EC) (n m : Nat) (z : Int) (hz : z ∈ delA y n) : ∃ k j, k < n ∧ j < y.vals.length ∧ z ∈ delN y k j := by
  have hr : ∀ k m, z ∈ delR y k m → ∃ j, j < m ∧ z ∈ delN y k j := by
    intro k m
    induction m with
    | zero => intro h; simp [delR] at h
    | succ m ih =>
      intro h
      simp only [delR, List.mem_append] at h
      rcases h with h | h
      · obtain ⟨j, hj, h⟩ := ih h; exact ⟨j, by omega, h⟩
      · exact ⟨m, by omega, h⟩
  induction n with
  | zero => simp [delA] at hz
  | succ n ih =>
    simp only [delA, List.mem_append] at hz
    rcases hz with h | h
    · obtain ⟨k, j, hk, hj, h⟩ := ih h; exact ⟨k, j, by omega, hj, h⟩
    · obtain ⟨j, hj, h⟩ := hr _ _ h; exact ⟨n, j, by omega, hj, h⟩
/-- all numbers that are written, and how great they are -/
theorem nums_bd {y : EC} (ok : Fine y) (hB : InvB y) (hE : InvE y) : ∀ n, n ∈ nums y → 0 ≤ n ∧ n ≤ 1073741824000000 := by
  have okx : Ok y.height y := ok
  have yb := yb_of ok hB hE
  have b6 := okx.b6
  have v5 := okx.v5
  intro n hn
  simp only [nums, genNs, List.mem_append, List.mem_cons, List.not_mem_nil, or_false, List.mem_flatMap] at hn
  rcases hn with ((((((((((hn | hn) | hn) | hn) | hn) | hn) | hn) | hn) | hn) | hn) | hn) | hn
  · omega
  · have := yb.bb n hn; omega
  · omega
  · have := yb.ob n hn; omega
  · omega
  · have := yb.rb n hn; omega
  · have := okx.top0; have := okx.top1; have := okx.mat0; have := okx.mat1; have := okx.fee0; have := okx.fee1
    omega
  · have := okx.hgt0; have := okx.hgt1; have := okx.fees; have := okx.pool; have := yb.fb; have := yb.pb
    omega
  · obtain ⟨v, hv, hn⟩ := hn
    have h := yb.vb v hv
    have h2 := standI_bd v
    obtain ⟨t0, t1, k0, k1, o0, o1, _⟩ := h
    simp only [valNs, List.mem_cons, List.not_mem_nil, or_false] at hn
    omega
  · obtain ⟨k, j, hk, hj, hn⟩ := delA_mem y _ 0 n hn
    have h1 := yb.db.s0 k j (by omega) (by omega)
    have h2 := yb.db.p0 k j (by omega) (by omega)
    unfold delN at hn
    split at hn
    · rename_i hs
      have h2 := h2 hs
      simp only [List.mem_cons, List.not_mem_nil, or_false] at hn
      omega
    · simp only [List.mem_cons, List.not_mem_nil, or_false] at hn
      omega
  · have := yb.el; omega
  · obtain ⟨e, he, hn⟩ := hn
    obtain ⟨w0, w1, v0, v1, m0, m1, a0, a1⟩ := yb.eb e he
    have := okx.hgt1
    simp only [entNs, List.mem_cons, List.not_mem_nil, or_false] at hn
    omega
theorem txt_len {y : EC} (ok : Fine y) (hB : InvB y) (hE : InvE y) : (txt (nums y)).length ≤ 8192 := by
  have okx : Ok y.height y := ok
  have yb := yb_of ok hB hE
  have b6 := okx.b6
  have v5 := okx.v5
  have hall := nums_bd ok hB hE
  obtain ⟨A, hA⟩ : ∃ A, A = genNs y ++ [y.height, y.fees, y.pool] ++ y.vals.flatMap valNs ++ delA y y.bal.length ++ [(y.ents.length : Int)] := ⟨_, rfl⟩
  have hn : nums y = A ++ y.ents.flatMap entNs := by rw [hA]; rfl
  have hAl : A.length ≤ 106 := by
    rw [hA]
    have h1 := delA_len y v5 y.bal.length
    have h2 := flat_len valNs 4 y.vals (fun _ => rfl)
    simp only [genNs, List.length_append, List.length_cons, List.length_nil, List.length_map, h2]
    omega
  have h1 := txt_length_le A 17 (fun n hn' => numT_len n 16 (by decide) (hall n (by rw [hn]; simp [hn'])).1 (by have := hall n (by rw [hn]; simp [hn']); omega))
  have h2 := txt_length_le (y.ents.flatMap entNs) 8 (fun n hn' => by
    obtain ⟨e, he, hn'⟩ := List.mem_flatMap.1 hn'
    obtain ⟨w0, w1, v0, v1, m0, m1, a0, a1⟩ := yb.eb e he
    have := okx.hgt1
    simp only [entNs, List.mem_cons, List.not_mem_nil, or_false] at hn'
    exact numT_len n 7 (by decide) (by omega) (by omega))
  have h3 := flat_len entNs 4 y.ents (fun _ => rfl)
  have h4 := yb.el
  rw [hn, txt_append, List.length_append]
  omega
end Go.Proofs.YtohjjgefklhmaaaGreatDoor
