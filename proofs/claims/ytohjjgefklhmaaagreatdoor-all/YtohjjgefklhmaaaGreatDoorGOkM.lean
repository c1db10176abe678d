import Derived.Test.YtohjjgefklhmaaaGreatDoorGLeaveM
namespace Go.Proofs.YtohjjgefklhmaaaGreatDoor
open Go.ChangeShapes Go.WideShapes Go.ChangeAt Go.RowKit
set_option linter.unusedVariables false
set_option maxHeartbeats 40000000
set_option maxRecDepth 100000
variable {k : Nat} {f f' : Nat -> Int} {H : Int} {v : VS} {l : List VS}
def AE : List Int -> Int
 | [] => 0
 | a :: l => a + AE l
theorem Cy (l : List Int) (k : Nat) (y : Int) (h : k < l.length) : AE (l.set k y) = AE l + y - l.getD k 0 := by
 induction l generalizing k with
 | nil => simp at h
 | cons a l ih =>
  cases k with
  | zero => simp [AE]; omega
  | succ k =>
   have := ih k (by simpa using h)
   simp only [List.set_cons_succ, AE, this, List.getD_cons_succ]; omega
theorem EE (l : List Int) (hn : ∀ k, k < l.length -> 0 <= l.getD k 0) : 0 <= AE l := by
 induction l with
 | nil => exact Int.le_refl _
 | cons a l ih =>
  have h0 := hn 0 (by simp)
  have := ih (fun k hk => by have := hn (k + 1) (by simpa using hk); simpa using this)
  simp only [List.getD_cons_zero] at h0
  simp only [AE]; omega
theorem Hz (l : List Int) (hn : ∀ k, k < l.length -> 0 <= l.getD k 0) (k : Nat) (hk : k < l.length) : l.getD k 0 <= AE l := by
 induction l generalizing k with
 | nil => simp at hk
 | cons a l ih =>
  have h0 := hn 0 (by simp)
  simp only [List.getD_cons_zero] at h0
  have hn' : ∀ k, k < l.length -> 0 <= l.getD k 0 := fun k hk => by have := hn (k + 1) (by simpa using hk); simpa using this
  cases k with
  | zero => have := EE l hn'; simp [AE]; omega
  | succ k => have := ih hn' k (by simpa using hk); simp only [List.getD_cons_succ, AE]; omega
theorem C2 (l m : List Int) : AE (l ++ m) = AE l + AE m := by
 induction l with
 | nil => simp [AE]
 | cons a l ih => simp only [List.cons_append, AE, ih]; omega
def AT (f : VS -> Int) (l : List VS) : Int := AE (l.map f)
theorem Gj (f : VS -> Int) (l : List VS) (k : Nat) (h : k < l.length) : (l.map f).getD k 0 = f (l.getD k v0) := by simp [h]
theorem AY (f : VS -> Int) (l : List VS) (j : Nat) (g : VS -> VS) (h : j < l.length) : AT f (l.modify j g) = AT f l + f (g (l.getD j v0)) - f (l.getD j v0) := by
 have e : (l.modify j g).map f = (l.map f).set j (f (g (l.getD j v0))) := by
  apply List.ext_getElem?
  intro i
  simp only [List.getElem?_map, List.getElem?_modify]
  by_cases e : j = i
  ·subst e; simp [h]
  ·rw [List.getElem?_set_ne e]; simp [e]
 unfold AT
 rw [e, Cy _ _ _ (by simpa using h), Gj f l j h]
theorem EC.val_getD (x : EC) (j : Nat) : x.vals.getD j v0 = x.val j := rfl
theorem Mv (f : VS -> Int) (l : List VS) (hn : ∀ k, k < l.length -> 0 <= f (l.getD k v0)) (k : Nat) (hk : k < l.length) : f (l.getD k v0) <= AT f l := by
 have := Hz (l.map f) (fun i hi => by rw [Gj f l i (by simpa using hi)]; exact hn i (by simpa using hi)) k (by simpa using hk)
 rwa [Gj f l k hk] at this
theorem MB (f : VS -> Int) (l : List VS) (hn : ∀ k, k < l.length -> 0 <= f (l.getD k v0)) : 0 <= AT f l :=
 EE (l.map f) (fun i hi => by rw [Gj f l i (by simpa using hi)]; exact hn i (by simpa using hi))
def Eh (f : Nat -> Int) : Int := f 0 + f 1 + f 2 + f 3 + f 4 + f 5
theorem lt6 (h : k < 6) : k = 0 ∨ k = 1 ∨ k = 2 ∨ k = 3 ∨ k = 4 ∨ k = 5 := by omega
theorem I6 (hk : k < 6) (h : ∀ i, i < 6 -> i ≠ k -> f' i = f i) : Eh f' = Eh f + f' k - f k := by
 unfold Eh
 rcases lt6 hk with rfl | rfl | rfl | rfl | rfl | rfl
 ·rw [h 1 (by omega) (by omega), h 2 (by omega) (by omega), h 3 (by omega) (by omega), h 4 (by omega) (by omega), h 5 (by omega) (by omega)]; omega
 ·rw [h 0 (by omega) (by omega), h 2 (by omega) (by omega), h 3 (by omega) (by omega), h 4 (by omega) (by omega), h 5 (by omega) (by omega)]; omega
 ·rw [h 0 (by omega) (by omega), h 1 (by omega) (by omega), h 3 (by omega) (by omega), h 4 (by omega) (by omega), h 5 (by omega) (by omega)]; omega
 ·rw [h 0 (by omega) (by omega), h 1 (by omega) (by omega), h 2 (by omega) (by omega), h 4 (by omega) (by omega), h 5 (by omega) (by omega)]; omega
 ·rw [h 0 (by omega) (by omega), h 1 (by omega) (by omega), h 2 (by omega) (by omega), h 3 (by omega) (by omega), h 5 (by omega) (by omega)]; omega
 ·rw [h 0 (by omega) (by omega), h 1 (by omega) (by omega), h 2 (by omega) (by omega), h 3 (by omega) (by omega), h 4 (by omega) (by omega)]; omega
theorem EA (h : ∀ i, i < 6 -> 0 <= f i) {k : Nat} (hk : k < 6) : f k <= Eh f := by
 have h0 := h 0 (by omega); have h1 := h 1 (by omega); have h2 := h 2 (by omega); have h3 := h 3 (by omega); have h4 := h 4 (by omega); have h5 := h 5 (by omega)
 unfold Eh
 rcases lt6 hk with rfl | rfl | rfl | rfl | rfl | rfl <;> omega
theorem Dq (h : ∀ i, i < 6 -> f' i = f i) : Eh f' = Eh f := by
 unfold Eh; rw [h 0 (by omega), h 1 (by omega), h 2 (by omega), h 3 (by omega), h 4 (by omega), h 5 (by omega)]
theorem N6 (h : ∀ i, i < 6 -> 0 <= f i) (hs : Eh f = 0) : ∀ i, i < 6 -> f i = 0 := fun i hi => by
 have := EA h hi; have := h i hi; omega
structure OM (v : VS) : Prop where
 t0 : 0 <= v.tokens
 s0 : 0 <= v.shares
 s1 : v.shares <= 1000000
 r0 : 0 <= v.rate
 r1 : v.rate <= 100
 k0 : 0 <= v.comm
 ko : v.comm <= v.outs
 tk : 0 < v.tokens -> 0 < v.shares
 oz : v.shares = 0 -> v.outs = v.comm
 jl : v.jailed = true -> v.inset = false
structure Rc (n : Nat) (h : Int) (e : ES) : Prop where
 w : ∃ i : Nat, e.who = i ∧ i < n
 m0 : 0 <= e.made
 m1 : e.made <= h
 a0 : 0 <= e.amount
def EC.tot (x : EC) : Int := AE x.bal + x.fees + x.pool + AT (·.tokens) x.vals + AT (·.outs) x.vals + AE (x.ents.map (·.amount))
structure Ok (H : Int) (x : EC) : Prop where
 b6 : x.bal.length <= 6
 v5 : x.vals.length <= 5
 tl : x.tab.length = 65
 fee0 : 0 <= x.fee
 fee1 : x.fee <= 100
 top0 : 1 <= x.top
 top1 : x.top <= 5
 mat0 : 1 <= x.mature
 mat1 : x.mature <= 20
 hgt0 : 0 <= x.height
 hgt1 : x.height <= 1000
 H0 : 0 <= H
 H1 : H <= 1001
 bal : ∀ k, k < x.bal.length -> 0 <= x.balAt k
 fees : 0 <= x.fees
 pool : 0 <= x.pool
 val : ∀ j, j < x.vals.length -> OM (x.val j)
 ent : ∀ e, e ∈ x.ents -> Rc x.bal.length x.height e
 tot : x.tot <= 1000000
 sh0 : ∀ k j, k < 6 -> j < 5 -> 0 <= x.sh k j
 shs : ∀ j, j < x.vals.length -> Eh (fun k => x.sh k j) = (x.val j).shares
 per : ∀ j, j < 5 -> 0 <= x.per j ∧ x.per j <= H * 1073741824000000
 upt : ∀ k j, k < 6 -> j < 5 -> -1073741824000000 <= x.upto k j ∧ x.upto k j <= x.per j
 due : ∀ j, j < x.vals.length -> Eh (fun k => x.sh k j * (x.per j - x.upto k j)) <= 1073741824 * ((x.val j).outs - (x.val j).comm)
section
variable {H : Int} {x : EC}
theorem Ok.parts (ok : Ok H x) : 0 <= AE x.bal ∧ 0 <= AT (·.tokens) x.vals ∧ 0 <= AT (·.outs) x.vals ∧ 0 <= AE (x.ents.map (·.amount)) := by
 refine ⟨EE _ ok.bal, MB _ _ (fun k hk => (ok.val k hk).t0), MB _ _ (fun k hk => Int.le_trans (ok.val k hk).k0 (ok.val k hk).ko), EE _ (fun k hk => ?_)⟩
 have hk' : k < x.ents.length := by simpa using hk
 have : (x.ents.map (·.amount)).getD k 0 = x.ents[k].amount := by simp [hk']
 rw [this]
 exact (ok.ent _ (List.getElem_mem hk')).a0
theorem Ok.bds (ok : Ok H x) : (∀ k, k < x.bal.length -> x.balAt k <= 1000000) ∧ x.fees <= 1000000 ∧ x.pool <= 1000000 ∧ (∀ j, j < x.vals.length -> (x.val j).tokens <= 1000000 ∧ (x.val j).outs <= 1000000) ∧ (∀ k (hk : k < x.ents.length), x.ents[k].amount <= 1000000) := by
 obtain ⟨p1, p2, p3, p4⟩ := ok.parts
 have ht := ok.tot
 have hf := ok.fees
 have hp := ok.pool
 unfold EC.tot at ht
 refine ⟨fun k hk => ?_, by omega, by omega, fun j hj => ⟨?_, ?_⟩, fun k hk => ?_⟩
 ·have h1 : x.balAt k <= AE x.bal := Hz x.bal ok.bal k hk
  omega
 ·have h1 : (x.val j).tokens <= AT (·.tokens) x.vals := Mv (·.tokens) x.vals (fun k hk => (ok.val k hk).t0) j hj
  omega
 ·have h1 : (x.val j).outs <= AT (·.outs) x.vals := Mv (·.outs) x.vals (fun k hk => Int.le_trans (ok.val k hk).k0 (ok.val k hk).ko) j hj
  omega
 ·have e : (x.ents.map (·.amount)).getD k 0 = x.ents[k].amount := by simp [hk]
  have h1 := Hz (x.ents.map (·.amount)) (fun i hi => by
   have hi' : i < x.ents.length := by simpa using hi
   have : (x.ents.map (·.amount)).getD i 0 = x.ents[i].amount := by simp [hi']
   rw [this]; exact (ok.ent _ (List.getElem_mem hi')).a0) k (by simpa using hk)
  rw [e] at h1
  omega
theorem Ok.term (ok : Ok H x) {k j : Nat} (hk : k < 6) (hj : j < 5) : 0 <= x.sh k j * (x.per j - x.upto k j) :=
 Int.mul_nonneg (ok.sh0 k j hk hj) (by have := ok.upt k j hk hj; omega)
theorem Ok.owed (ok : Ok H x) {k j : Nat} (hk : k < 6) (hj : j < x.vals.length) : x.sh k j * (x.per j - x.upto k j) <= 1073741824 * ((x.val j).outs - (x.val j).comm) :=
 Int.le_trans (EA (f := fun k => x.sh k j * (x.per j - x.upto k j)) (fun i hi => ok.term hi (by have := ok.v5; omega)) hk) (ok.due j hj)
theorem Ok.dueOk (ok : Ok H x) {k j : Nat} (hk : k < 6) (hj : j < x.vals.length) : Eo x k j := by
 have v5 := ok.v5
 have h1 := ok.upt k j hk (by omega)
 have h2 := ok.per j (by omega)
 have h3 := ok.owed hk hj
 have h4 := (ok.bds.2.2.2.1 j hj).2
 have h5 := (ok.val j hj).k0
 have hH := ok.H1
 exact ⟨h1.1, h1.2, by omega, ok.term hk (by omega), by omega⟩
theorem Ok.due_le (ok : Ok H x) {k j : Nat} (hk : k < 6) (hj : j < x.vals.length) : 0 <= x.due k j ∧ x.due k j <= (x.val j).outs - (x.val j).comm ∧ 1073741824 * x.due k j <= x.sh k j * (x.per j - x.upto k j) := by
 have h3 := ok.owed hk hj
 have h4 := ok.term hk (show j < 5 by have := ok.v5; omega)
 unfold EC.due
 generalize x.sh k j * (x.per j - x.upto k j) = z at *
 omega
theorem Ok.accOk (ok : Ok H x) : CK x := by
 obtain ⟨h1, h2, h3, h4, h5⟩ := ok.bds
 exact ⟨ok.b6, ok.fee0, by have := ok.fee1; omega, ok.fees, by omega, ok.pool, by omega, fun k hk => ⟨ok.bal k hk, by have := h1 k hk; omega⟩⟩
theorem Ok.valOk (ok : Ok H x) {j : Nat} (hj : j < x.vals.length) : Dj (x.val j) := ⟨(ok.val j hj).t0, (ok.bds.2.2.2.1 j hj).1, (ok.val j hj).s0, (ok.val j hj).s1⟩
theorem Ok.sh_le (ok : Ok H x) {k j : Nat} (hk : k < 6) (hj : j < x.vals.length) : x.sh k j <= (x.val j).shares := by
 rw [<- ok.shs j hj]
 exact EA (f := fun k => x.sh k j) (fun i hi => ok.sh0 i j hi (by have := ok.v5; omega)) hk
theorem Ok.lvOk (ok : Ok H x) {k j : Nat} (hk : k < x.bal.length) (hj : j < x.vals.length) : Q0 x k j := by
 have b6 := ok.b6
 have v5 := ok.v5
 obtain ⟨h1, h2, h3, h4, h5⟩ := ok.bds
 have hv := ok.val j hj
 have hd := ok.due_le (k := k) (by omega) hj
 exact ⟨b6, hk, v5, hj, ok.valOk hj, ok.dueOk (by omega) hj, Int.le_trans hv.k0 hv.ko, (h4 j hj).2, hv.k0, by have := (h4 j hj).2; have := hv.ko; omega, ok.bal k hk, h1 k hk, ok.pool, h3, ok.sh0 k j (by omega) (by omega), ok.sh_le (by omega) hj, by have := (h4 j hj).2; have := hv.k0; omega⟩
theorem Ok.jnOk (ok : Ok H x) {k j : Nat} (hk : k < x.bal.length) (hj : j < x.vals.length) : Rw x k j := by
 have h := ok.lvOk hk hj
 exact ⟨h.hl, h.hk, h.hv, h.hj, h.hV, h.hd, h.o0, by have := h.o1; omega, h.b0, by have := h.b1; omega, h.s0, by have := h.s1; have := h.hV.s1; omega⟩
theorem Ok.feeOk (ok : Ok H x) : Hb x := by
 obtain ⟨h1, h2, h3, h4, h5⟩ := ok.bds
 have v5 := ok.v5
 have hH := ok.H1
 refine ⟨fun j hj => ok.valOk hj, fun j hj => ⟨(ok.val j hj).r0, (ok.val j hj).r1⟩, fun j hj => ⟨(ok.val j hj).k0, ?_⟩, fun j hj => ⟨Int.le_trans (ok.val j hj).k0 (ok.val j hj).ko, ?_⟩, fun j hj => ?_, ok.fees, h2, ok.pool, by omega⟩
 ·have := (ok.val j hj).ko; have := (h4 j hj).2; omega
 ·have := (h4 j hj).2; omega
 ·have := ok.per j (by omega); omega
end
theorem BS (l : List Int) (k i : Nat) (y : Int) (hk : k < l.length) : (l.set k y).getD i 0 = if i = k then y else l.getD i 0 := by
 by_cases e : i = k
 ·subst e; rw [if_pos rfl]; simp [hk]
 ·rw [if_neg e]; simp only [List.getD]; rw [List.getElem?_set_ne (fun h => e h.symm)]
structure Upd (x x' : EC) (k j : Nat) : Prop where
 bl : x'.bal.length = x.bal.length
 vl : x'.vals.length = x.vals.length
 tl : x'.tab.length = x.tab.length
 fee : x'.fee = x.fee
 top : x'.top = x.top
 mat : x'.mature = x.mature
 hgt : x'.height = x.height
 ents : x'.ents = x.ents
 bal : ∀ i, i ≠ k -> x'.balAt i = x.balAt i
 val : ∀ i, i ≠ j -> x'.val i = x.val i
 sh : ∀ k' j', k' < 6 -> j' < 5 -> ¬ (k' = k ∧ j' = j) -> x'.sh k' j' = x.sh k' j'
 per : ∀ j', j' < 5 -> x'.per j' = x.per j'
 upt : ∀ k' j', k' < 6 -> j' < 5 -> ¬ (k' = k ∧ j' = j) -> x'.upto k' j' = x.upto k' j'
theorem Ok.upd' {x x' : EC} (ok : Ok H x) {k j : Nat} (u : Upd x x' k j) (hk : k < x.bal.length) (hj : j < x.vals.length) (hb : 0 <= x'.balAt k) (hf : 0 <= x'.fees) (hp : 0 <= x'.pool) (hv : OM (x'.val j)) (ht : x'.tot <= 1000000)
  (hs : 0 <= x'.sh k j) (hss : x'.sh k j - x.sh k j = (x'.val j).shares - (x.val j).shares) (hu0 : -1073741824000000 <= x'.upto k j) (hu1 : x'.upto k j <= x.per j)
  (hd : Eh (fun k => x'.sh k j * (x'.per j - x'.upto k j)) <= 1073741824 * ((x'.val j).outs - (x'.val j).comm)) : Ok H x' := by
 have b6 := ok.b6
 have v5 := ok.v5
 have k6 : k < 6 := by omega
 have j5 : j < 5 := by omega
 refine ⟨by rw [u.bl]; exact b6, by rw [u.vl]; exact v5, u.tl.trans ok.tl, by rw [u.fee]; exact ok.fee0, by rw [u.fee]; exact ok.fee1, by rw [u.top]; exact ok.top0, by rw [u.top]; exact ok.top1, by rw [u.mat]; exact ok.mat0, by rw [u.mat]; exact ok.mat1, by rw [u.hgt]; exact ok.hgt0, by rw [u.hgt]; exact ok.hgt1, ok.H0, ok.H1, fun i hi => ?_, hf, hp, fun i hi => ?_, fun e he => ?_, ht, fun a b h1 h2 => ?_, fun i hi => ?_, fun i hi => ?_, fun a b h1 h2 => ?_, fun i hi => ?_⟩
 ·rw [u.bl] at hi
  by_cases e : i = k
  ·subst e; exact hb
  ·rw [u.bal i e]; exact ok.bal i hi
 ·rw [u.vl] at hi
  by_cases e : i = j
  ·subst e; exact hv
  ·rw [u.val i e]; exact ok.val i hi
 ·rw [u.ents] at he; rw [u.bl, u.hgt]; exact ok.ent e he
 ·by_cases e : a = k ∧ b = j
  ·obtain ⟨rfl, rfl⟩ := e; exact hs
  ·rw [u.sh a b h1 h2 e]; exact ok.sh0 a b h1 h2
 ·rw [u.vl] at hi
  by_cases e : i = j
  ·subst e
   rw [I6 (f := fun k => x.sh k i) (f' := fun k => x'.sh k i) k6 (fun a ha hne => u.sh a i ha j5 (fun h => hne h.1)), ok.shs i hi]
   omega
  ·rw [u.val i e, Dq (f := fun k => x.sh k i) (f' := fun k => x'.sh k i) (fun a ha => u.sh a i ha (by omega) (fun h => e h.2))]
   exact ok.shs i hi
 ·rw [u.per i hi]; exact ok.per i hi
 ·rw [u.per b h2]
  by_cases e : a = k ∧ b = j
  ·obtain ⟨rfl, rfl⟩ := e; exact ⟨hu0, hu1⟩
  ·rw [u.upt a b h1 h2 e]; exact ok.upt a b h1 h2
 ·rw [u.vl] at hi
  have i5 : i < 5 := by omega
  by_cases e : i = j
  ·subst e
   exact hd
  ·rw [u.val i e, Dq (f := fun k => x.sh k i * (x.per i - x.upto k i)) (f' := fun k => x'.sh k i * (x'.per i - x'.upto k i)) (fun a ha => by rw [u.sh a i ha i5 (fun h => e h.2), u.per i i5, u.upt a i ha i5 (fun h => e h.2)])]
   exact ok.due i hi
theorem Ok.upd {x x' : EC} (ok : Ok H x) {k j : Nat} (u : Upd x x' k j) (hk : k < x.bal.length) (hj : j < x.vals.length) (hb : 0 <= x'.balAt k) (hf : 0 <= x'.fees) (hp : 0 <= x'.pool) (hv : OM (x'.val j)) (ht : x'.tot <= 1000000)
  (hs : 0 <= x'.sh k j) (hss : x'.sh k j - x.sh k j = (x'.val j).shares - (x.val j).shares) (hu0 : -1073741824000000 <= x'.upto k j) (hu1 : x'.upto k j <= x.per j)
  (hd : x'.sh k j * (x.per j - x'.upto k j) - x.sh k j * (x.per j - x.upto k j) <= 1073741824 * (((x'.val j).outs - (x'.val j).comm) - ((x.val j).outs - (x.val j).comm))) : Ok H x' := by
 have b6 := ok.b6
 have v5 := ok.v5
 have k6 : k < 6 := by omega
 have j5 : j < 5 := by omega
 refine ok.upd' u hk hj hb hf hp hv ht hs hss hu0 hu1 ?_
 have h1 := ok.due j hj
 rw [I6 (f := fun k => x.sh k j * (x.per j - x.upto k j)) (f' := fun k => x'.sh k j * (x'.per j - x'.upto k j)) k6 (fun a ha hne => by rw [u.sh a j ha j5 (fun h => hne h.1), u.per j j5, u.upt a j ha j5 (fun h => hne h.1)])]
 rw [u.per j j5]
 omega
theorem Ok.acc {x : EC} (ok : Ok H x) (bal' : List Int) (fees' pool' : Int) (hl : bal'.length = x.bal.length) (hb : ∀ i, i < x.bal.length -> 0 <= bal'.getD i 0) (hf : 0 <= fees') (hp : 0 <= pool') (ht : AE bal' + fees' + pool' <= 1000000 - (x.tot - (AE x.bal + x.fees + x.pool))) : Ok H { x with bal := bal', fees := fees', pool := pool' } :=
 ⟨by simp only [hl]; exact ok.b6, ok.v5, ok.tl, ok.fee0, ok.fee1, ok.top0, ok.top1, ok.mat0, ok.mat1, ok.hgt0, ok.hgt1, ok.H0, ok.H1, fun k hk => hb k (by simp only [hl] at hk; exact hk), hf, hp, ok.val, fun e he => by simp only [hl]; exact ok.ent e he, by unfold EC.tot at *; simp only; omega, ok.sh0, ok.shs, ok.per, ok.upt, ok.due⟩
theorem Ok.charge {x : EC} (ok : Ok H x) {k : Nat} (hk : k < x.bal.length) (hf : x.fee <= x.balAt k) : Ok H (Ab x k) ∧ (Ab x k).tot = x.tot := by
 have h0 := ok.fee0
 have hs : AE (x.bal.set k (x.balAt k - x.fee)) = AE x.bal - x.fee := by
  rw [Cy _ _ _ hk]; unfold EC.balAt; omega
 constructor
 ·refine ok.acc _ _ _ (by simp) (fun i hi => ?_) (by have := ok.fees; omega) ok.pool (by rw [hs]; have := ok.tot; omega)
  rw [BS _ _ _ _ hk]
  split
  ·omega
  ·exact ok.bal i hi
 ·unfold EC.tot Ab; simp only; rw [hs]; omega
theorem NT (l : List Int) (k t : Nat) (a : Int) (hk : k < l.length) (ht : t < l.length) : AE (Ec l k t a) = AE l := by
 unfold Ec
 rw [Cy _ _ _ (by simpa using ht), Cy _ _ _ hk]
 omega
theorem Ok.sent {x : EC} (ok : Ok H x) {k t : Nat} (hk : k < x.bal.length) (ht : t < x.bal.length) {a : Int} (a0 : 0 <= a) (ha : a <= x.balAt k) : Ok H { x with bal := Ec x.bal k t a } ∧ ({ x with bal := Ec x.bal k t a } : EC).tot = x.tot := by
 have hs := NT x.bal k t a hk ht
 constructor
 ·refine ok.acc _ x.fees x.pool (by simp [Ec]) (fun i hi => ?_) ok.fees ok.pool (by rw [hs]; have := ok.tot; omega)
  unfold Ec
  rw [BS _ _ _ _ (by simpa using ht), BS _ _ _ _ hk, BS _ _ _ _ hk]
  have hbi := ok.bal i hi
  have hbt := ok.bal t ht
  unfold EC.balAt at ha hbi hbt
  split
  ·split <;> omega
  ·split <;> omega
 ·unfold EC.tot; simp only; rw [hs]
theorem Ok.spend {x : EC} (ok : Ok H x) {t : Nat} (ht : t < x.bal.length) {a : Int} (a0 : 0 <= a) (ha : a <= x.pool) : Ok H { x with pool := x.pool - a, bal := x.bal.set t (x.balAt t + a) } ∧ ({ x with pool := x.pool - a, bal := x.bal.set t (x.balAt t + a) } : EC).tot = x.tot := by
 have hs : AE (x.bal.set t (x.balAt t + a)) = AE x.bal + a := by rw [Cy _ _ _ ht]; unfold EC.balAt; omega
 constructor
 ·refine ok.acc _ x.fees (x.pool - a) (by simp) (fun i hi => ?_) ok.fees (by omega) (by rw [hs]; have := ok.tot; omega)
  rw [BS _ _ _ _ ht]
  have hbt := ok.bal t ht
  split
  ·omega
  ·exact ok.bal i hi
 ·unfold EC.tot; simp only; rw [hs]; omega
theorem AK (l : List VS) (j i : Nat) (f : VS -> VS) (hj : j < l.length) : (l.modify j f).getD i v0 = if i = j then f (l.getD j v0) else l.getD i v0 := by
 by_cases e : i = j
 ·subst e; rw [if_pos rfl]; simp [hj]
 ·rw [if_neg e]; exact Ej l i j f e
theorem B9 (t : List Int) (i n : Nat) (y : Int) (hi : i < t.length) : (t.set i y).getD n 0 = if n = i then y else t.getD n 0 := BS t i _ y hi
section
variable {H : Int} {x : EC} (ok : Ok H x) {k j : Nat} (hk : k < x.bal.length) (hj : j < x.vals.length)
include ok hk hj
theorem C4 : Upd x (AF x k j) k j := by
 have b6 := ok.b6
 have v5 := ok.v5
 have tl := ok.tl
 refine ⟨by simp [AF], by simp [AF], by simp [AF], rfl, rfl, rfl, rfl, rfl, fun i hi => ?_, fun i hi => ?_, fun a b h1 h2 h3 => ?_, fun a h1 => ?_, fun a b h1 h2 h3 => ?_⟩
 ·simp only [AF, EC.balAt]; rw [BS _ _ _ _ hk, if_neg hi]
 ·show ((x.vals.modify j _).getD i v0) = x.vals.getD i v0
  rw [AK _ _ _ _ hj, if_neg hi]
 ·simp only [AF, EC.sh]; rw [B9 _ _ _ _ (by omega), if_neg (by omega)]
 ·simp only [AF, EC.per]; rw [B9 _ _ _ _ (by omega), if_neg (by omega)]
 ·simp only [AF, EC.upto]; rw [B9 _ _ _ _ (by omega), if_neg (by omega)]
theorem Ef : (AF x k j).balAt k = x.balAt k + x.due k j ∧ (AF x k j).val j = { x.val j with outs := (x.val j).outs - x.due k j } ∧ (AF x k j).sh k j = x.sh k j ∧ (AF x k j).upto k j = x.per j ∧ (AF x k j).tot = x.tot := by
 have b6 := ok.b6
 have v5 := ok.v5
 have tl := ok.tl
 refine ⟨?_, ?_, JW x k j (by omega) (by omega), ?_, ?_⟩
 ·simp only [AF, EC.balAt]; rw [BS _ _ _ _ hk, if_pos rfl]
 ·show ((x.vals.modify j _).getD j v0) = _
  rw [AK _ _ _ _ hj, if_pos rfl]; rfl
 ·simp only [AF, EC.upto]; rw [B9 _ _ _ _ (by omega), if_pos rfl]
 ·unfold EC.tot AF
  simp only
  rw [Cy _ _ _ hk, AY _ _ _ _ hj, AY _ _ _ _ hj]
  simp only [EC.balAt]
  omega
theorem Ok.pay : Ok H (AF x k j) := by
 have b6 := ok.b6
 obtain ⟨e1, e2, e3, e4, e5⟩ := Ef ok hk hj
 obtain ⟨d0, d1, d2⟩ := ok.due_le (k := k) (by omega) hj
 have hb := ok.bal k hk
 have v5 := ok.v5
 have hp := ok.upt k j (by omega) (by omega)
 have hv := ok.val j hj
 refine ok.upd (C4 ok hk hj) hk hj (by rw [e1]; omega) ok.fees ok.pool ?_ (by rw [e5]; exact ok.tot) (by rw [e3]; exact ok.sh0 k j (by omega) (by omega)) (by rw [e3, e2]; simp) (by rw [e4]; omega) (by rw [e4]; exact Int.le_refl _) ?_
 ·rw [e2]
  refine ⟨hv.t0, hv.s0, hv.s1, hv.r0, hv.r1, hv.k0, by simp only; omega, hv.tk, fun hz => ?_, hv.jl⟩
  have := hv.oz hz
  simp only; omega
 ·rw [e3, e4, e2, Int.sub_self, Int.mul_zero]; simp only; omega
theorem Jv (t : Int) : Upd x (AV x k j t) k j := by
 have b6 := ok.b6
 have v5 := ok.v5
 have tl := ok.tl
 have hp := C4 ok hk hj
 have hpl : (AF x k j).vals.length = x.vals.length := hp.vl
 have hpt : (AF x k j).tab.length = 65 := hp.tl.trans tl
 refine ⟨hp.bl, by simp only [AV, List.length_modify]; exact hpl, by simp only [AV, List.length_set]; exact hp.tl, rfl, rfl, rfl, rfl, rfl, fun i hi => hp.bal i hi, fun i hi => ?_, fun a b h1 h2 h3 => ?_, fun a h1 => ?_, fun a b h1 h2 h3 => ?_⟩
 ·rw [<- hp.val i hi]
  show ((((AF x k j).vals.modify j _).modify j _).getD i v0) = (AF x k j).vals.getD i v0
  rw [AK _ _ _ _ (by simp; omega), if_neg hi, AK _ _ _ _ (by omega), if_neg hi]
 ·rw [<- hp.sh a b h1 h2 h3]
  simp only [AV, EC.sh]; rw [B9 _ _ _ _ (by omega), if_neg (by omega)]
 ·rw [<- hp.per a h1]
  simp only [AV, EC.per]; rw [B9 _ _ _ _ (by omega), if_neg (by omega)]
 ·rw [<- hp.upt a b h1 h2 h3]
  simp only [AV, EC.upto]; rw [B9 _ _ _ _ (by omega), if_neg (by omega)]
theorem Gw (t : Int) : (AV x k j t).balAt k = x.balAt k + x.due k j ∧ (AV x k j t).val j = { x.val j with outs := (x.val j).outs - x.due k j, tokens := (x.val j).tokens + t, shares := (x.val j).shares + Aw (x.val j) t } ∧ (AV x k j t).sh k j = x.sh k j + Aw (x.val j) t ∧ (AV x k j t).upto k j = x.per j ∧ (AV x k j t).tot = x.tot + t := by
 have b6 := ok.b6
 have v5 := ok.v5
 have tl := ok.tl
 obtain ⟨e1, e2, e3, e4, e5⟩ := Ef ok hk hj
 have hp := C4 ok hk hj
 have hpl : (AF x k j).vals.length = x.vals.length := hp.vl
 have hpt : (AF x k j).tab.length = 65 := hp.tl.trans tl
 refine ⟨e1, ?_, ?_, ?_, ?_⟩
 ·show ((((AF x k j).vals.modify j _).modify j _).getD j v0) = _
  rw [AK _ _ _ _ (by simp; omega), if_pos rfl, AK _ _ _ _ (by omega), if_pos rfl, EC.val_getD, e2]
 ·simp only [AV, EC.sh]; rw [B9 _ _ _ _ (by omega), if_pos rfl]
 ·rw [<- e4]; simp only [AV, EC.upto]; rw [B9 _ _ _ _ (by omega), if_neg (by omega)]
 ·rw [<- e5]
  unfold EC.tot AV
  simp only
  rw [AY _ _ _ _ (by simp; omega), AY _ _ _ _ (by omega), AY _ _ _ _ (by simp; omega), AY _ _ _ _ (by omega), AK _ _ _ _ (by omega), if_pos rfl]
  simp only
  omega
theorem Ok.join (t : Int) (t1 : 1 <= t) (ht : x.tot + t <= 1000000) (hb1 : 1 <= Aw (x.val j) t) (hb2 : (x.val j).shares + Aw (x.val j) t <= 1000000) : Ok H (AV x k j t) := by
 have b6 := ok.b6
 obtain ⟨e1, e2, e3, e4, e5⟩ := Gw ok hk hj t
 obtain ⟨d0, d1, d2⟩ := ok.due_le (k := k) (by omega) hj
 have hb := ok.bal k hk
 have v5 := ok.v5
 have hp := ok.upt k j (by omega) (by omega)
 have hv := ok.val j hj
 have h0 := ok.sh0 k j (by omega) (by omega)
 have hs0 := hv.s0
 have ht0 := hv.t0
 refine ok.upd (Jv ok hk hj t) hk hj (by rw [e1]; omega) ok.fees ok.pool ?_ (by rw [e5]; exact ht) (by rw [e3]; omega) (by rw [e3, e2]; simp only; omega) (by rw [e4]; omega) (by rw [e4]; exact Int.le_refl _) ?_
 ·rw [e2]
  exact ⟨by simp only; omega, by simp only; omega, hb2, hv.r0, hv.r1, hv.k0, by simp only; omega, fun _ => by simp only; omega, fun hz => by simp only at hz; omega, hv.jl⟩
 ·rw [e3, e4, e2, Int.sub_self, Int.mul_zero]; simp only; omega
end
theorem Ic (h : 0 < v.shares) : Af v v.shares = v.tokens := by
 unfold Af
 rw [if_neg (by omega)]
 exact Int.mul_ediv_cancel_left _ (by omega)
section
variable {H : Int} {x : EC} (ok : Ok H x) {k j : Nat} (hk : k < x.bal.length) (hj : j < x.vals.length)
include ok hk hj
theorem GA (n t : Int) : Upd x (AZ (AF x k j) k j n t) k j := by
 have b6 := ok.b6
 have v5 := ok.v5
 have tl := ok.tl
 have hp := C4 ok hk hj
 have hpl : (AF x k j).vals.length = x.vals.length := hp.vl
 have hpt : (AF x k j).tab.length = 65 := hp.tl.trans tl
 refine ⟨hp.bl, by simp only [AZ, List.length_modify]; exact hpl, by simp only [AZ, List.length_set]; exact hp.tl, rfl, rfl, rfl, rfl, rfl, fun i hi => hp.bal i hi, fun i hi => ?_, fun a b h1 h2 h3 => ?_, fun a h1 => ?_, fun a b h1 h2 h3 => ?_⟩
 ·rw [<- hp.val i hi]
  show ((((AF x k j).vals.modify j _).modify j _).getD i v0) = (AF x k j).vals.getD i v0
  rw [AK _ _ _ _ (by simp; omega), if_neg hi, AK _ _ _ _ (by omega), if_neg hi]
 ·rw [<- hp.sh a b h1 h2 h3]
  simp only [AZ, EC.sh]; rw [B9 _ _ _ _ (by omega), if_neg (by omega)]
 ·rw [<- hp.per a h1]
  simp only [AZ, EC.per]; rw [B9 _ _ _ _ (by omega), if_neg (by omega)]
 ·rw [<- hp.upt a b h1 h2 h3]
  simp only [AZ, EC.upto]; rw [B9 _ _ _ _ (by omega), if_neg (by omega)]
theorem KH (n t : Int) : (AZ (AF x k j) k j n t).balAt k = x.balAt k + x.due k j ∧ (AZ (AF x k j) k j n t).val j = { x.val j with outs := (x.val j).outs - x.due k j, tokens := (x.val j).tokens - t, shares := (x.val j).shares - n } ∧ (AZ (AF x k j) k j n t).sh k j = x.sh k j - n ∧ (AZ (AF x k j) k j n t).upto k j = x.per j ∧ (AZ (AF x k j) k j n t).tot = x.tot - t ∧ (AZ (AF x k j) k j n t).vals.length = x.vals.length := by
 have b6 := ok.b6
 have v5 := ok.v5
 have tl := ok.tl
 obtain ⟨e1, e2, e3, e4, e5⟩ := Ef ok hk hj
 have hp := C4 ok hk hj
 have hpl : (AF x k j).vals.length = x.vals.length := hp.vl
 have hpt : (AF x k j).tab.length = 65 := hp.tl.trans tl
 refine ⟨e1, ?_, ?_, ?_, ?_, by simp only [AZ, List.length_modify]; exact hpl⟩
 ·show ((((AF x k j).vals.modify j _).modify j _).getD j v0) = _
  rw [AK _ _ _ _ (by simp; omega), if_pos rfl, AK _ _ _ _ (by omega), if_pos rfl, EC.val_getD, e2]
 ·rw [<- e3]; simp only [AZ, EC.sh]; rw [B9 _ _ _ _ (by omega), if_pos rfl]
 ·rw [<- e4]; simp only [AZ, EC.upto]; rw [B9 _ _ _ _ (by omega), if_neg (by omega)]
 ·rw [<- e5]
  unfold EC.tot AZ
  simp only
  rw [AY _ _ _ _ (by simp; omega), AY _ _ _ _ (by omega), AY _ _ _ _ (by simp; omega), AY _ _ _ _ (by omega), AK _ _ _ _ (by omega), if_pos rfl]
  simp only
  omega
theorem Ok.leave (n : Int) (n1 : 1 <= n) (n2 : n <= x.sh k j) : Ok H (AA x k j n) ∧ (AA x k j n).tot = x.tot - Af (x.val j) n ∧ (∀ i, i ≠ j -> (AA x k j n).val i = x.val i) ∧ (AA x k j n).bal.length = x.bal.length ∧ (AA x k j n).vals.length = x.vals.length ∧ (AA x k j n).ents = x.ents ∧ (AA x k j n).height = x.height := by
 have b6 := ok.b6
 have v5 := ok.v5
 have hv := ok.val j hj
 have hsl := ok.sh_le (k := k) (by omega) hj
 obtain ⟨q0, q1⟩ := CO (ok.valOk hj) (show 0 <= n by omega) (show n <= (x.val j).shares by omega)
 obtain ⟨e1, e2, e3, e4, e5, e6⟩ := KH ok hk hj n (Af (x.val j) n)
 have hu := GA ok hk hj n (Af (x.val j) n)
 obtain ⟨d0, d1, d2⟩ := ok.due_le (k := k) (by omega) hj
 have hb := ok.bal k hk
 have hp := ok.upt k j (by omega) (by omega)
 have hpool := ok.pool
 have htot := ok.tot
 by_cases hz : (x.val j).shares - n = 0
 ·have e0 : AA x k j n = BQ (AZ (AF x k j) k j n (Af (x.val j) n)) j := by unfold AA; rw [if_pos hz]
  have hn : n = (x.val j).shares := by omega
  have ht : Af (x.val j) n = (x.val j).tokens := by rw [hn]; exact Ic (by omega)
  rw [e0]
  have hgp : (AZ (AF x k j) k j n (Af (x.val j) n)).pool = x.pool := rfl
  have hgf : (AZ (AF x k j) k j n (Af (x.val j) n)).fees = x.fees := rfl
  generalize AZ (AF x k j) k j n (Af (x.val j) n) = y at *
  have hj' : j < y.vals.length := by omega
  have c2 : (BQ y j).val j = { y.val j with outs := (y.val j).comm } := by
   show ((y.vals.modify j _).getD j v0) = _
   rw [AK _ _ _ _ hj', if_pos rfl]; rfl
  have c3 : ∀ i, i ≠ j -> (BQ y j).val i = y.val i := fun i hi => by
   show ((y.vals.modify j _).getD i v0) = y.vals.getD i v0
   rw [AK _ _ _ _ hj', if_neg hi]
  have c5 : (BQ y j).tot = y.tot := by
   unfold EC.tot BQ
   simp only
   rw [AY _ _ _ _ hj', AY _ _ _ _ hj']
   simp only [EC.val_getD]
   omega
  have cl : (BQ y j).vals.length = y.vals.length := by simp [BQ]
  have hu' : Upd x (BQ y j) k j := ⟨hu.bl, cl.trans hu.vl, hu.tl, hu.fee, hu.top, hu.mat, hu.hgt, hu.ents, hu.bal, fun i hi => (c3 i hi).trans (hu.val i hi), hu.sh, hu.per, hu.upt⟩
  have hpo : (BQ y j).pool = x.pool + ((x.val j).outs - x.due k j - (x.val j).comm) := by
   show y.pool + ((y.val j).outs - (y.val j).comm) = _
   rw [e2, hgp]
  refine ⟨ok.upd' hu' hk hj (by show 0 <= y.balAt k; rw [e1]; omega) (by show 0 <= y.fees; rw [hgf]; exact ok.fees) (by rw [hpo]; omega) ?_ (by rw [c5, e5]; omega) (by show 0 <= y.sh k j; rw [e3]; omega) (by show y.sh k j - _ = _; rw [e3, c2, e2]; simp only; omega) (by show -1073741824000000 <= y.upto k j; rw [e4]; omega) (by show y.upto k j <= _; rw [e4]; exact Int.le_refl _) ?_, by rw [c5, e5], fun i hi => (c3 i hi).trans (hu.val i hi), hu.bl, cl.trans hu.vl, hu.ents, hu.hgt⟩
  ·rw [c2, e2]
   exact ⟨by simp only; omega, by simp only; omega, by simp only; omega, hv.r0, hv.r1, hv.k0, Int.le_refl _, fun h => by simp only at h; omega, fun _ => rfl, hv.jl⟩
  ·have hsum : Eh (fun k => y.sh k j) = 0 := by
    rw [I6 (f := fun k => x.sh k j) (f' := fun k => y.sh k j) (k := k) (by omega) (fun a ha hne => hu.sh a j ha (by omega) (fun h => hne h.1)), ok.shs j hj]
    rw [e3]; omega
   have hall := N6 (f := fun k => y.sh k j) (fun i hi => by
    by_cases e : i = k
    ·subst e; show 0 <= y.sh i j; rw [e3]; omega
    ·show 0 <= y.sh i j; rw [hu.sh i j hi (by omega) (fun h => e h.1)]; exact ok.sh0 i j hi (by omega)) hsum
   have : Eh (fun k => (BQ y j).sh k j * ((BQ y j).per j - (BQ y j).upto k j)) = 0 := by
    have hz0 : ∀ i, i < 6 -> (BQ y j).sh i j * ((BQ y j).per j - (BQ y j).upto i j) = 0 := fun i hi => by
     show y.sh i j * _ = 0
     have h0 : y.sh i j = 0 := hall i hi
     rw [h0, Int.zero_mul]
    rw [Dq (f := fun _ => 0) hz0]
    rfl
   rw [this, c2]
   simp
 ·have e0 : AA x k j n = AZ (AF x k j) k j n (Af (x.val j) n) := by unfold AA; rw [if_neg hz]
  rw [e0]
  have hgf : (AZ (AF x k j) k j n (Af (x.val j) n)).fees = x.fees := rfl
  have hgp : (AZ (AF x k j) k j n (Af (x.val j) n)).pool = x.pool := rfl
  refine ⟨ok.upd hu hk hj (by rw [e1]; omega) (by rw [hgf]; exact ok.fees) (by rw [hgp]; exact ok.pool) ?_ (by rw [e5]; omega) (by rw [e3]; omega) (by rw [e3, e2]; simp only; omega) (by rw [e4]; omega) (by rw [e4]; exact Int.le_refl _) ?_, e5, hu.val, hu.bl, hu.vl, hu.ents, hu.hgt⟩
  ·rw [e2]
   have := hv.s1
   exact ⟨by simp only; omega, by simp only; omega, by simp only; omega, hv.r0, hv.r1, hv.k0, by simp only; omega, fun _ => by simp only; omega, fun h => by simp only at h; omega, hv.jl⟩
  ·rw [e3, e4, e2, Int.sub_self, Int.mul_zero]; simp only; omega
theorem Ok.coll : Ok H (Ce x k j) ∧ (Ce x k j).tot = x.tot := by
 have b6 := ok.b6
 have v5 := ok.v5
 have tl := ok.tl
 have hv := ok.val j hj
 have hb := ok.bal k hk
 have hk0 := hv.k0
 have hko := hv.ko
 have c2 : (Ce x k j).val j = { x.val j with outs := (x.val j).outs - (x.val j).comm, comm := 0 } := by
  show (((x.vals.modify j _).modify j _).getD j v0) = _
  rw [AK _ _ _ _ (by simpa using hj), if_pos rfl, AK _ _ _ _ hj, if_pos rfl]; rfl
 have c5 : (Ce x k j).tot = x.tot := by
  unfold EC.tot Ce
  simp only
  rw [Cy _ _ _ hk, AY _ _ _ _ (by simpa using hj), AY _ _ _ _ hj, AY _ _ _ _ (by simpa using hj), AY _ _ _ _ hj, AK _ _ _ _ hj, if_pos rfl]
  simp only [EC.balAt, EC.val_getD]
  omega
 have hbk : (Ce x k j).balAt k = x.balAt k + (x.val j).comm := by
  simp only [Ce, EC.balAt]; rw [BS _ _ _ _ hk, if_pos rfl]
 have hu : Upd x (Ce x k j) k j := by
  refine ⟨by simp [Ce], by simp [Ce], rfl, rfl, rfl, rfl, rfl, rfl, fun i hi => ?_, fun i hi => ?_, fun _ _ _ _ _ => rfl, fun _ _ => rfl, fun _ _ _ _ _ => rfl⟩
  ·simp only [Ce, EC.balAt]; rw [BS _ _ _ _ hk, if_neg hi]
  ·show (((x.vals.modify j _).modify j _).getD i v0) = x.vals.getD i v0
   rw [AK _ _ _ _ (by simpa using hj), if_neg hi, AK _ _ _ _ hj, if_neg hi]
 have hup := ok.upt k j (by omega) (by omega)
 refine ⟨ok.upd hu hk hj (by rw [hbk]; omega) ok.fees ok.pool ?_ (by rw [c5]; exact ok.tot) (ok.sh0 k j (by omega) (by omega)) (by rw [c2]; exact (by simp [Ce, EC.sh])) hup.1 hup.2 ?_, c5⟩
 ·rw [c2]
  refine ⟨hv.t0, hv.s0, hv.s1, hv.r0, hv.r1, Int.le_refl _, by simp only; omega, hv.tk, fun h => ?_, hv.jl⟩
  have := hv.oz h
  simp only; omega
 ·rw [c2]
  show x.sh k j * (x.per j - x.upto k j) - x.sh k j * (x.per j - x.upto k j) <= _
  simp only; omega
end
theorem Ok.ent' {x : EC} (ok : Ok H x) {k j : Nat} (hk : k < x.bal.length) {t : Int} (t0 : 0 <= t) (ht : x.tot + t <= 1000000) : Ok H (ER x k j t) ∧ (ER x k j t).tot = x.tot + t ∧ (ER x k j t).ents.length <= x.ents.length + 1 := by
 unfold ER
 split
 ·exact ⟨ok, by omega, by omega⟩
 ·have ht' : ({ x with ents := x.ents ++ [⟨k, j, x.height, t⟩] } : EC).tot = x.tot + t := by
   unfold EC.tot
   simp only [List.map_append, C2, List.map_cons, List.map_nil, AE]
   omega
  refine ⟨⟨ok.b6, ok.v5, ok.tl, ok.fee0, ok.fee1, ok.top0, ok.top1, ok.mat0, ok.mat1, ok.hgt0, ok.hgt1, ok.H0, ok.H1, ok.bal, ok.fees, ok.pool, ok.val, fun e he => ?_, by rw [ht']; exact ht, ok.sh0, ok.shs, ok.per, ok.upt, ok.due⟩, ht', by simp⟩
  rcases List.mem_append.1 he with h | h
  ·exact ok.ent e h
  ·simp only [List.mem_singleton] at h
   subst h
   exact ⟨⟨k, rfl, hk⟩, ok.hgt0, Int.le_refl _, t0⟩
theorem Ok.unb {x : EC} (ok : Ok H x) {k j : Nat} (hk : k < x.bal.length) (hj : j < x.vals.length) {n : Int} (n1 : 1 <= n) (n2 : n <= x.sh k j) : Ok H (FB x k j n) ∧ (FB x k j n).tot = x.tot ∧ (FB x k j n).ents.length <= x.ents.length + 1 := by
 obtain ⟨h1, h2, h3, h4, h5, h6, h7⟩ := ok.leave hk hj n n1 n2
 have b6 := ok.b6
 have hsl := ok.sh_le (k := k) (by omega) hj
 obtain ⟨q0, q1⟩ := CO (ok.valOk hj) (show 0 <= n by omega) (show n <= (x.val j).shares by omega)
 have := ok.tot
 obtain ⟨e1, e2, e3⟩ := h1.ent' (k := k) (j := j) (by rw [h4]; exact hk) q0 (by rw [h2]; omega)
 exact ⟨e1, by unfold FB; rw [e2, h2]; omega, by rw [h6] at e3; exact e3⟩
theorem Hc {a : Int} (h : AX v a = 0) : 1 <= Aw v a ∧ v.shares + Aw v a <= 1000000 := by
 unfold AX at h
 split at h
 ·cases h
 ·split at h
  ·cases h
  ·split at h
   ·cases h
   ·omega
theorem Ok.mov {x : EC} (ok : Ok H x) {k j t : Nat} (hk : k < x.bal.length) (hj : j < x.vals.length) (ht : t < x.vals.length) (htj : t ≠ j) {n : Int} (n1 : 1 <= n) (n2 : n <= x.sh k j) (t1 : 1 <= Af (x.val j) n) (hje : AX (x.val t) (Af (x.val j) n) = 0) : Ok H (Ig x k j t n) ∧ (Ig x k j t n).tot = x.tot ∧ (Ig x k j t n).ents = x.ents := by
 obtain ⟨h1, h2, h3, h4, h5, h6, h7⟩ := ok.leave hk hj n n1 n2
 have := ok.tot
 have ht' : t < (AA x k j n).vals.length := by rw [h5]; exact ht
 have hk' : k < (AA x k j n).bal.length := by rw [h4]; exact hk
 obtain ⟨b1, b2⟩ := Hc hje
 have hq := h1.join hk' ht' (Af (x.val j) n) t1 (by rw [h2]; omega) (by rw [h3 t htj]; exact b1) (by rw [h3 t htj]; exact b2)
 obtain ⟨_, _, _, _, e5⟩ := Gw h1 hk' ht' (Af (x.val j) n)
 exact ⟨hq, by unfold Ig; rw [e5, h2]; omega, h6⟩
theorem Ok.bond {x : EC} (ok : Ok H x) {k j : Nat} (hk : k < x.bal.length) (hj : j < x.vals.length) {a : Int} (a1 : 1 <= a) (ha : a <= x.balAt k) (hje : AX (x.val j) a = 0) : Ok H { x with bal := x.bal.set k (x.balAt k - a) } ∧ Ok H (AV { x with bal := x.bal.set k (x.balAt k - a) } k j a) ∧ (AV { x with bal := x.bal.set k (x.balAt k - a) } k j a).tot = x.tot := by
 have hs : AE (x.bal.set k (x.balAt k - a)) = AE x.bal - a := by rw [Cy _ _ _ hk]; unfold EC.balAt; omega
 have htot := ok.tot
 have h1 : Ok H { x with bal := x.bal.set k (x.balAt k - a) } := by
  refine ok.acc _ x.fees x.pool (by simp) (fun i hi => ?_) ok.fees ok.pool (by rw [hs]; omega)
  rw [BS _ _ _ _ hk]
  split
  ·omega
  ·exact ok.bal i hi
 have h2 : ({ x with bal := x.bal.set k (x.balAt k - a) } : EC).tot = x.tot - a := by unfold EC.tot; simp only; rw [hs]; omega
 obtain ⟨b1, b2⟩ := Hc hje
 obtain ⟨_, _, _, _, e5⟩ := Gw h1 (k := k) (j := j) (by simpa using hk) hj a
 exact ⟨h1, h1.join (by simpa using hk) hj a a1 (by rw [h2]; omega) b1 b2, by rw [e5, h2]; omega⟩
theorem Ok.mono {H' : Int} {x : EC} (ok : Ok H x) (h : H <= H') (h1 : H' <= 1001) : Ok H' x :=
 ⟨ok.b6, ok.v5, ok.tl, ok.fee0, ok.fee1, ok.top0, ok.top1, ok.mat0, ok.mat1, ok.hgt0, ok.hgt1, Int.le_trans ok.H0 h, h1, ok.bal, ok.fees, ok.pool, ok.val, ok.ent, ok.tot, ok.sh0, ok.shs, fun j hj => ⟨(ok.per j hj).1, by have := (ok.per j hj).2; omega⟩, ok.upt, ok.due⟩
theorem OL (s u : Nat -> Int) (p q : Int) : Eh (fun k => s k * (p + q - u k)) = Eh (fun k => s k * (p - u k)) + Eh s * q := by
 have h : ∀ k, s k * (p + q - u k) = s k * (p - u k) + s k * q := fun k => by
  rw [show p + q - u k = (p - u k) + q by omega, Int.mul_add]
 unfold Eh
 simp only [h, Int.add_mul]
 omega
theorem I2 (z : EC) (j : Nat) (b f : Int) : A7 { z with fees := f } j b = { A7 z j b with fees := f } := by
 have e : ({ z with fees := f } : EC).val j = z.val j := rfl
 have e2 : ({ z with fees := f } : EC).per j = z.per j := rfl
 unfold A7
 rw [e, e2]
 by_cases h : (z.val j).shares < 1
 ·rw [if_pos h, if_pos h]
 ·rw [if_neg h, if_neg h]
theorem LV (x : EC) (j : Nat) (a f : Int) : AH { x with fees := f } j a = { AH x j a with fees := f } := by
 unfold AH
 exact I2 { x with vals := (x.vals.modify j (fun v => { v with comm := v.comm + a * (x.val j).rate / 100 })).modify j (fun v => { v with outs := v.outs + a }) } j _ f
theorem Ok.take {y : EC} (ok : Ok (H + 1) y) {j : Nat} (hj : j < y.vals.length) (hper : y.per j <= H * 1073741824000000) {a : Int} (a0 : 0 <= a) (a1 : a <= 1000000) (hz : (y.val j).shares = 0 -> a = 0) (ht : y.tot + a <= 1000000) : Ok (H + 1) (AH y j a) ∧ (AH y j a).tot = y.tot + a := by
 have v5 := ok.v5
 have tl := ok.tl
 have hv := ok.val j hj
 have hk0 := hv.k0
 have hko := hv.ko
 have hs0 := hv.s0
 have c0 : 0 <= a * (y.val j).rate / 100 := Int.ediv_nonneg (Int.mul_nonneg a0 hv.r0) (by decide)
 have c1 : a * (y.val j).rate / 100 <= a := by
  have h1 : a * (y.val j).rate <= a * 100 := Int.mul_le_mul_of_nonneg_left hv.r1 a0
  omega
 have hvals := D1 y j a
 have hval : (AH y j a).val j = { y.val j with comm := (y.val j).comm + a * (y.val j).rate / 100, outs := (y.val j).outs + a } := by
  unfold EC.val
  rw [hvals]
  show (((y.vals.modify j _).modify j _).getD j v0) = _
  rw [AK _ _ _ _ (by simpa using hj), if_pos rfl, AK _ _ _ _ hj, if_pos rfl]; rfl
 obtain ⟨q1, q2, q3, q4, q5, q6, q7, q8⟩ := Dm y j a
 have htot : (AH y j a).tot = y.tot + a := by
  unfold EC.tot
  rw [hvals, q1, q2, q7, q8, AY _ _ _ _ (by simpa using hj), AY _ _ _ _ hj, AY _ _ _ _ (by simpa using hj), AY _ _ _ _ hj, AK _ _ _ _ hj, if_pos rfl]
  simp only
  omega
 have hvok : OM ((AH y j a).val j) := by
  rw [hval]
  refine ⟨hv.t0, hv.s0, hv.s1, hv.r0, hv.r1, by simp only; omega, by simp only; omega, hv.tk, fun h => ?_, hv.jl⟩
  have h1 := hv.oz h
  have h2 := hz h
  have h3 : a * (y.val j).rate / 100 = 0 := by rw [h2]; simp
  simp only
  rw [h3]
  omega
 refine ⟨?_, htot⟩
 have htab : ∃ q, 0 <= q ∧ q <= 1073741824000000 ∧ (y.val j).shares * q <= (a - a * (y.val j).rate / 100) * 1073741824 ∧ (AH y j a).tab.length = 65 ∧ (∀ n, n ≠ 30 + j -> (AH y j a).tab.getD n 0 = y.tab.getD n 0) ∧ (AH y j a).per j = y.per j + q := by
  have hvs : ({ y with vals := (y.vals.modify j (fun v => { v with comm := v.comm + a * (y.val j).rate / 100 })).modify j (fun v => { v with outs := v.outs + a }) } : EC).val j = { y.val j with comm := (y.val j).comm + a * (y.val j).rate / 100, outs := (y.val j).outs + a } := by
   show (((y.vals.modify j _).modify j _).getD j v0) = _
   rw [AK _ _ _ _ (by simpa using hj), if_pos rfl, AK _ _ _ _ hj, if_pos rfl]; rfl
  by_cases hs : (y.val j).shares < 1
  ·have h0 := hz (by omega)
   have e : (AH y j a).tab = y.tab := by
    unfold AH A7
    rw [if_pos (by rw [hvs]; exact hs)]
   refine ⟨0, Int.le_refl _, by decide, ?_, by rw [e]; exact tl, fun n _ => by rw [e], ?_⟩
   ·rw [Int.mul_zero]; omega
   ·unfold EC.per; rw [e]; omega
  ·have e : (AH y j a).tab = y.tab.set (30 + j) (y.per j + (a - a * (y.val j).rate / 100) * 1073741824 / (y.val j).shares) := by
    unfold AH A7
    rw [if_neg (by rw [hvs]; exact hs), hvs]
    rfl
   refine ⟨(a - a * (y.val j).rate / 100) * 1073741824 / (y.val j).shares, Int.ediv_nonneg (by omega) hs0, ?_, Int.mul_ediv_self_le (by omega), by rw [e, List.length_set]; exact tl, fun n hn => by rw [e, B9 _ _ _ _ (by omega), if_neg hn], ?_⟩
   ·have : (a - a * (y.val j).rate / 100) * 1073741824 / (y.val j).shares <= (a - a * (y.val j).rate / 100) * 1073741824 := Int.ediv_le_self _ (by omega)
    omega
   ·unfold EC.per; rw [e, B9 _ _ _ _ (by omega), if_pos rfl]; rfl
 obtain ⟨q, qq0, qq1, qs, t1, t2, t3⟩ := htab
 have hval_ne : ∀ i, i ≠ j -> (AH y j a).val i = y.val i := fun i hi => Gm y j a i hi
 have hsh : ∀ k i, k < 6 -> i < 5 -> (AH y j a).sh k i = y.sh k i := fun k i h1 h2 => by unfold EC.sh; exact t2 _ (by omega)
 have hup : ∀ k i, k < 6 -> i < 5 -> (AH y j a).upto k i = y.upto k i := fun k i h1 h2 => by unfold EC.upto; exact t2 _ (by omega)
 have hpr : ∀ i, i < 5 -> i ≠ j -> (AH y j a).per i = y.per i := fun i h1 h2 => by unfold EC.per; exact t2 _ (by omega)
 have hln := GF y j a
 refine ⟨by rw [q7]; exact ok.b6, by rw [hln]; exact v5, t1, by rw [q6]; exact ok.fee0, by rw [q6]; exact ok.fee1, by rw [q4]; exact ok.top0, by rw [q4]; exact ok.top1, by rw [q5]; exact ok.mat0, by rw [q5]; exact ok.mat1, by rw [q3]; exact ok.hgt0, by rw [q3]; exact ok.hgt1, ok.H0, ok.H1, fun k hk => ?_, by rw [q2]; exact ok.fees, by rw [q1]; exact ok.pool, fun i hi => ?_, fun e he => ?_, by rw [htot]; exact ht, fun k i h1 h2 => by rw [hsh k i h1 h2]; exact ok.sh0 k i h1 h2, fun i hi => ?_, fun i hi => ?_, fun k i h1 h2 => ?_, fun i hi => ?_⟩
 ·unfold EC.balAt; rw [q7]; rw [q7] at hk; exact ok.bal k hk
 ·rw [hln] at hi
  by_cases e : i = j
  ·subst e; exact hvok
  ·rw [hval_ne i e]; exact ok.val i hi
 ·rw [q8] at he; rw [q7, q3]; exact ok.ent e he
 ·rw [hln] at hi
  rw [Dq (f := fun k => y.sh k i) (f' := fun k => (AH y j a).sh k i) (fun k hk => hsh k i hk (by omega)), ok.shs i hi]
  by_cases e : i = j
  ·subst e; rw [hval]
  ·rw [hval_ne i e]
 ·have hp := ok.per i hi
  by_cases e : i = j
  ·subst e; rw [t3]; omega
  ·rw [hpr i hi e]; exact hp
 ·have hu := ok.upt k i h1 h2
  rw [hup k i h1 h2]
  by_cases e : i = j
  ·subst e; rw [t3]; omega
  ·rw [hpr i h2 e]; exact hu
 ·rw [hln] at hi
  have i5 : i < 5 := by omega
  have hd := ok.due i hi
  by_cases e : i = j
  ·subst e
   rw [Dq (f := fun k => y.sh k i * (y.per i + q - y.upto k i)) (f' := fun k => (AH y i a).sh k i * ((AH y i a).per i - (AH y i a).upto k i)) (fun k hk => by rw [hsh k i hk i5, hup k i hk i5, t3]), OL, ok.shs i hi, hval]
   simp only
   omega
  ·rw [Dq (f := fun k => y.sh k i * (y.per i - y.upto k i)) (f' := fun k => (AH y j a).sh k i * ((AH y j a).per i - (AH y j a).upto k i)) (fun k hk => by rw [hsh k i hk i5, hup k i hk i5, hpr i i5 e]), hval_ne i e]
   exact hd
theorem Kd (h : VB l) (m : Nat) (hm : m <= l.length) : Ad (l.take m) <= Ad l := by
 have key : ∀ d m, m + d = l.length -> Ad (l.take m) <= Ad l := by
  intro d
  induction d with
  | zero => intro m e; rw [List.take_of_length_le (by omega)]; exact Int.le_refl _
  | succ d ih =>
   intro m e
   have h1 := ih (m + 1) (by omega)
   rw [CC l m (by omega)] at h1
   have h2 := h m (by omega)
   split at h1 <;> omega
 exact key (l.length - m) m (by omega)
theorem Ok.tot0 {x : EC} (ok : Ok H x) : 0 <= x.tot := by
 obtain ⟨z1, z2, z3, z4⟩ := ok.parts
 have z5 := ok.pool
 have z6 := ok.fees
 unfold EC.tot; omega
theorem Ij (x : EC) (f b : Int) (k : Nat) : (Am x f b k).1.fee = x.fee := by
 induction k with
 | zero => rfl
 | succ k ih =>
  unfold Am
  split
  ·exact (Dm _ _ _).2.2.2.2.2.1.trans ih
  ·exact ih
structure ShOk (H : Int) (x : EC) (p : EC × Int) (k : Nat) : Prop where
 ok : Ok (H + 1) { p.1 with fees := 0 }
 tot : ({ p.1 with fees := 0 } : EC).tot + p.2 = x.tot
 l0 : 0 <= p.2
 lb : (x.fees - p.2) * Ad x.vals <= x.fees * Ad (x.vals.take k)
 bal : p.1.bal = x.bal
 ents : p.1.ents = x.ents
 hgt : p.1.height = x.height
 top : p.1.top = x.top
theorem Fq {x : EC} (ok : Ok H x) (hH : H <= 1000) (k : Nat) (hk : k <= x.vals.length) : ShOk H x (Am x x.fees (Ad x.vals) k) k := by
 have hf := ok.fees
 have htot := ok.tot
 induction k with
 | zero =>
  have h0 : ({ x with fees := 0 } : EC).tot = x.tot - x.fees := by unfold EC.tot; simp only; omega
  refine ⟨?_, by show ({ x with fees := 0 } : EC).tot + x.fees = x.tot; rw [h0]; omega, hf, ?_, rfl, rfl, rfl, rfl⟩
  ·exact (ok.acc x.bal 0 x.pool rfl ok.bal (Int.le_refl _) ok.pool (by unfold EC.tot at *; omega)).mono (by omega) (by omega)
  ·show (x.fees - x.fees) * _ <= _
   rw [Int.sub_self, Int.zero_mul]
   simp [Ad]
 | succ k ih =>
  have hi := ih (by omega)
  have hin := Ct x x.fees (Ad x.vals) k
  have hv := hin.val k (Nat.le_refl _)
  have hp := hin.per k (Nat.le_refl _)
  have hln := hin.len
  have hkl : k < x.vals.length := by omega
  have hvk := ok.val k hkl
  have hvb : VB x.vals := ok.feeOk.vb
  have hsn := CC x.vals k hkl
  have hmo := Kd hvb (k + 1) hk
  rw [x.val_eq hkl] at hsn
  by_cases hc : ((Am x x.fees (Ad x.vals) k).1.val k).inset = true ∧ 0 < Ad x.vals
  ·have e : Am x x.fees (Ad x.vals) (k + 1) = (AH (Am x x.fees (Ad x.vals) k).1 k (FH (Am x x.fees (Ad x.vals) k).1 x.fees (Ad x.vals) k), (Am x x.fees (Ad x.vals) k).2 - FH (Am x x.fees (Ad x.vals) k).1 x.fees (Ad x.vals) k) := by
    show (if _ then _ else _) = _
    rw [if_pos hc]
   rw [e]
   have hpart : FH (Am x x.fees (Ad x.vals) k).1 x.fees (Ad x.vals) k = x.fees * (x.val k).tokens / Ad x.vals := by unfold FH; rw [hv]
   rw [hpart]
   rw [hv] at hc
   rw [if_pos hc.1] at hsn
   have hpk := ok.per k (by have := ok.v5; omega)
   generalize hsh : Am x x.fees (Ad x.vals) k = p at *
   have a0 : 0 <= x.fees * (x.val k).tokens / Ad x.vals := Int.ediv_nonneg (Int.mul_nonneg hf hvk.t0) (by omega)
   have aB : x.fees * (x.val k).tokens / Ad x.vals * Ad x.vals <= x.fees * (x.val k).tokens := Int.ediv_mul_le _ (by omega)
   have hz : (x.val k).shares = 0 -> x.fees * (x.val k).tokens / Ad x.vals = 0 := fun h => by
    have h1 : (x.val k).tokens = 0 := by
     have := hvk.t0
     rcases Int.lt_or_eq_of_le this with h2 | h2
     ·have := hvk.tk h2; omega
     ·exact h2.symm
    rw [h1, Int.mul_zero]; simp
   generalize x.fees * (x.val k).tokens / Ad x.vals = a at *
   have hle : a <= p.2 := by
    have h1 : (x.fees - p.2 + a) * Ad x.vals <= x.fees * Ad x.vals := by
     rw [Int.add_mul]
     have h2 : x.fees * Ad (x.vals.take (k + 1)) <= x.fees * Ad x.vals := Int.mul_le_mul_of_nonneg_left hmo hf
     rw [hsn, Int.mul_add] at h2
     have := hi.lb
     omega
    have := Int.le_of_mul_le_mul_right h1 hc.2
    omega
   have hzt := hi.tot
   have hzk : ({ p.1 with fees := 0 } : EC).val k = x.val k := hv
   have hpt : ({ p.1 with fees := 0 } : EC).tot <= 1000000 := hi.ok.tot
   have hzn := hi.ok.tot0
   have hp2 : p.2 <= 1000000 := by omega
   obtain ⟨g1, g2⟩ := hi.ok.take (j := k) (by show k < p.1.vals.length; omega) (by show p.1.per k <= _; rw [hp]; exact hpk.2) a0 (by omega) (by rw [hzk]; exact hz) (by omega)
   rw [LV] at g1 g2
   obtain ⟨q1, q2, q3, q4, q5, q6, q7, q8⟩ := Dm p.1 k a
   refine ⟨g1, by show ({ AH p.1 k a with fees := 0 } : EC).tot + (p.2 - a) = _; rw [g2]; omega, by show 0 <= p.2 - a; omega, ?_, q7.trans hi.bal, q8.trans hi.ents, q3.trans hi.hgt, q4.trans hi.top⟩
   show (x.fees - (p.2 - a)) * _ <= _
   rw [show x.fees - (p.2 - a) = (x.fees - p.2) + a by omega, Int.add_mul, hsn, Int.mul_add]
   have := hi.lb
   omega
  ·have e : Am x x.fees (Ad x.vals) (k + 1) = Am x x.fees (Ad x.vals) k := by
    show (if _ then _ else _) = _
    rw [if_neg hc]
   rw [e]
   refine ⟨hi.ok, hi.tot, hi.l0, ?_, hi.bal, hi.ents, hi.hgt, hi.top⟩
   have h1 := hi.lb
   have h2 : x.fees * Ad (x.vals.take k) <= x.fees * Ad (x.vals.take (k + 1)) := by
    refine Int.mul_le_mul_of_nonneg_left ?_ hf
    rw [hsn]
    have := hvk.t0
    split <;> omega
   omega
theorem Ok.share {x : EC} (ok : Ok H x) (hH : H <= 1000) : Ok (H + 1) (BR x) ∧ (BR x).tot = x.tot ∧ (BR x).bal = x.bal ∧ (BR x).ents = x.ents ∧ (BR x).height = x.height ∧ (BR x).top = x.top ∧ (BR x).vals.length = x.vals.length ∧ (BR x).fees = 0 := by
 have h := Fq ok hH x.vals.length (Nat.le_refl _)
 have hin := Ct x x.fees (Ad x.vals) x.vals.length
 unfold BR
 generalize Am x x.fees (Ad x.vals) x.vals.length = p at *
 have hpool : p.1.pool = x.pool := hin.pool
 have h0 := ok.pool
 have hl := h.l0
 have ht := h.tot
 have htot := ok.tot
 refine ⟨?_, ?_, h.bal, h.ents, h.hgt, h.top, hin.len, rfl⟩
 ·have := h.ok.acc p.1.bal 0 (x.pool + p.2) rfl h.ok.bal (Int.le_refl _) (by omega) (by
   unfold EC.tot at *
   simp only at *
   rw [hpool] at *
   omega)
  exact this
 ·unfold EC.tot at *
  simp only at *
  rw [hpool] at ht
  omega
theorem Nq (l : List ES) (m : Nat) (h : m < l.length) : (l.map (·.amount)).getD m 0 = l[m].amount := by simp [h]
theorem Ji {x : EC} (hb : ∀ i, i < x.bal.length -> 0 <= x.bal.getD i 0) (he : ∀ e, e ∈ x.ents -> (∃ i : Nat, e.who = i ∧ i < x.bal.length) ∧ 0 <= e.amount) (k : Nat) (hk : k <= x.ents.length) :
  (∀ i, i < x.bal.length -> 0 <= (Au x k).1.getD i 0) ∧ AE (Au x k).1 + AE ((Au x k).2.map (·.amount)) = AE x.bal + AE ((x.ents.take k).map (·.amount)) ∧ ∀ e, e ∈ (Au x k).2 -> e ∈ x.ents := by
 induction k with
 | zero => exact ⟨hb, by simp [Au, AE], fun e h => by simp [Au] at h⟩
 | succ k ih =>
  obtain ⟨h1, h2, h3⟩ := ih (by omega)
  have hkl : k < x.ents.length := by omega
  have hg : x.ents.getD k e0 = x.ents[k] := by simp [hkl]
  obtain ⟨⟨i, hi, hil⟩, ha⟩ := he _ (List.getElem_mem hkl)
  have hl := Cz x k
  have htk : AE ((x.ents.take (k + 1)).map (·.amount)) = AE ((x.ents.take k).map (·.amount)) + x.ents[k].amount := by
   rw [List.take_succ_eq_append_getElem hkl, List.map_append, C2]
   simp [AE]
  unfold Au
  rw [hg]
  split
  ·rw [hi, Int.toNat_natCast]
   refine ⟨fun m hm => ?_, ?_, h3⟩
   ·simp only
    rw [BS _ _ _ _ (by omega)]
    have := h1 i hil
    split
    ·omega
    ·exact h1 m hm
   ·simp only
    rw [Cy _ _ _ (by omega), htk]
    omega
  ·refine ⟨h1, ?_, fun e h => ?_⟩
   ·simp only
    rw [htk, List.map_append, C2]
    simp only [List.map_cons, List.map_nil, AE]
    omega
   ·simp only at h
    rcases List.mem_append.1 h with h | h
    ·exact h3 e h
    ·simp only [List.mem_singleton] at h
     subst h
     exact List.getElem_mem hkl
theorem Ok.peOk {x : EC} (ok : Ok H x) (hl : x.ents.length <= 100000) : PF x := by
 have he : ∀ e, e ∈ x.ents -> (∃ i : Nat, e.who = i ∧ i < x.bal.length) ∧ 0 <= e.amount := fun e h => ⟨(ok.ent e h).w, (ok.ent e h).a0⟩
 obtain ⟨p1, p2, p3, p4⟩ := ok.parts
 have htot := ok.tot
 have hf := ok.fees
 have hp := ok.pool
 refine ⟨hl, ok.hgt0, by have := ok.hgt1; omega, by have := ok.mat0; omega, by have := ok.mat1; omega, fun k hk => ?_, fun k hk i hi => ?_⟩
 ·have h := ok.ent _ (List.getElem_mem hk)
  exact ⟨h.w, h.m0, by have := h.m1; have := ok.hgt1; omega, h.a0, ok.bds.2.2.2.2 k hk⟩
 ·obtain ⟨h1, h2, h3⟩ := Ji ok.bal he k hk
  refine ⟨h1 i hi, ?_⟩
  have hl := Cz x k
  have h4 := Hz (Au x k).1 (fun m hm => h1 m (by omega)) i (by omega)
  have h5 : 0 <= AE ((Au x k).2.map (·.amount)) := EE _ (fun m hm => by
   have hm' : m < (Au x k).2.length := by simpa using hm
   have : ((Au x k).2.map (·.amount)).getD m 0 = (Au x k).2[m].amount := by simp [hm']
   rw [this]
   exact (he _ (h3 _ (List.getElem_mem hm'))).2)
  have h6 : AE ((x.ents.take k).map (·.amount)) <= AE (x.ents.map (·.amount)) := by
   have e : x.ents.map (·.amount) = (x.ents.take k).map (·.amount) ++ (x.ents.drop k).map (·.amount) := by rw [<- List.map_append, List.take_append_drop]
   rw [e, C2]
   have : 0 <= AE ((x.ents.drop k).map (·.amount)) := EE _ (fun m hm => by
    have hm' : m < (x.ents.drop k).length := by simpa using hm
    rw [Nq _ m hm']
    exact (he _ (List.mem_of_mem_drop (List.getElem_mem hm'))).2)
   omega
  unfold EC.tot at htot
  omega
theorem Ok.payE {x : EC} (ok : Ok H x) : Ok H (Ba x) ∧ (Ba x).tot = x.tot ∧ (Ba x).ents.length <= x.ents.length := by
 have he : ∀ e, e ∈ x.ents -> (∃ i : Nat, e.who = i ∧ i < x.bal.length) ∧ 0 <= e.amount := fun e h => ⟨(ok.ent e h).w, (ok.ent e h).a0⟩
 obtain ⟨h1, h2, h3⟩ := Ji ok.bal he x.ents.length (Nat.le_refl _)
 have hl := Cz x x.ents.length
 rw [List.take_length] at h2
 have ht : (Ba x).tot = x.tot := by unfold EC.tot Ba; simp only; omega
 refine ⟨⟨by show (Au x x.ents.length).1.length <= 6; rw [hl]; exact ok.b6, ok.v5, ok.tl, ok.fee0, ok.fee1, ok.top0, ok.top1, ok.mat0, ok.mat1, ok.hgt0, ok.hgt1, ok.H0, ok.H1, fun k hk => h1 k (by have : k < (Au x x.ents.length).1.length := hk; omega), ok.fees, ok.pool, ok.val, fun e hm => by show Rc (Au x x.ents.length).1.length x.height e; rw [hl]; exact ok.ent e (h3 e hm), by rw [ht]; exact ok.tot, ok.sh0, ok.shs, ok.per, ok.upt, ok.due⟩, ht, Hi x _⟩
structure JA (l l' : List VS) : Prop where
 len : l'.length = l.length
 at' : ∀ j, j < l.length -> ∃ b, l'.getD j v0 = { l.getD j v0 with inset := b } ∧ ((l.getD j v0).jailed = true -> b = false)
theorem JA.sum {l' : List VS} (h : JA l l') (f : VS -> Int) (hf : ∀ v b, f { v with inset := b } = f v) : AT f l' = AT f l := by
 unfold AT
 congr 1
 apply List.ext_getElem?
 intro i
 simp only [List.getElem?_map]
 by_cases hi : i < l.length
 ·obtain ⟨b, e, _⟩ := h.at' i hi
  have hi' : i < l'.length := by rw [h.len]; exact hi
  have e1 : l'[i] = l'.getD i v0 := by simp [hi']
  have e2 : l[i] = l.getD i v0 := by simp [hi]
  rw [List.getElem?_eq_getElem hi, List.getElem?_eq_getElem hi', Option.map_some, Option.map_some, e1, e2, e, hf]
 ·have hl := h.len
  rw [List.getElem?_eq_none (by omega), List.getElem?_eq_none (by omega)]
theorem J5 (l : List VS) (k : Nat) (j : Nat) (hj : j < l.length) : (Dw l k).getD j v0 = if j < k then { l.getD j v0 with inset := false } else l.getD j v0 := by
 induction k with
 | zero => simp [Dw]
 | succ k ih =>
  unfold Dw
  by_cases hk : k < l.length
  ·rw [AK _ _ _ _ (by rw [DF]; exact hk)]
   by_cases e : j = k
   ·subst e
    rw [if_pos rfl, if_pos (by omega), ih, if_neg (by omega)]
   ·rw [if_neg e, ih]
    by_cases h1 : j < k
    ·rw [if_pos h1, if_pos (by omega)]
    ·rw [if_neg h1, if_neg (by omega)]
  ·have hmod : (Dw l k).modify k (fun v => { v with inset := false }) = Dw l k := by
    apply List.ext_getElem?
    intro i
    rw [List.getElem?_modify]
    by_cases e : k = i
    ·subst e
     rw [List.getElem?_eq_none (by rw [DF]; omega)]; rfl
    ·simp [e]
   rw [hmod, ih, if_pos (by omega), if_pos (by omega)]
theorem OC (l : List VS) : JA l (Dw l l.length) := ⟨DF l _, fun j hj => ⟨false, by rw [J5 l _ j hj, if_pos hj], fun _ => rfl⟩⟩
theorem I3 (l : List VS) (n : Nat) : (Bs l n).1 = -1 ∨ ∃ i : Nat, (Bs l n).1 = i ∧ i < n ∧ (l.getD i v0).inset = false ∧ (l.getD i v0).jailed = false ∧ (l.getD i v0).tokens = (Bs l n).2 ∧ 0 < (Bs l n).2 := by
 induction n with
 | zero => exact .inl rfl
 | succ n ih =>
  unfold Bs
  split
  ·rename_i h
   have := NR l n
   exact .inr ⟨n, rfl, by omega, h.1, h.2.1, rfl, by simp only; omega⟩
  ·rcases ih with h | ⟨i, h1, h2, h3⟩
   ·exact .inl h
   ·exact .inr ⟨i, h1, by omega, h3⟩
theorem K7 (l : List VS) (n : Nat) (m : List VS) (h : JA l m) : JA l (BY n m) := by
 induction n generalizing m with
 | zero => exact h
 | succ n ih =>
  unfold BY
  split
  ·exact h
  ·rename_i hb
   rcases I3 m m.length with hm | ⟨i, h1, h2, h3, h4, h5, h6⟩
   ·rw [hm] at hb; omega
   ·rw [h1, Int.toNat_natCast]
    refine ih _ ⟨by rw [List.length_modify]; exact h.len, fun j hj => ?_⟩
    rw [AK _ _ _ _ h2]
    obtain ⟨b, e, hjl⟩ := h.at' j hj
    by_cases hij : j = i
    ·subst hij
     rw [if_pos rfl]
     refine ⟨true, by rw [e], fun hj' => ?_⟩
     rw [e] at h4
     simp only at h4
     rw [h4] at hj'
     cases hj'
    ·rw [if_neg hij]
     exact ⟨b, e, hjl⟩
theorem Dx (l : List VS) (top : Int) : JA l (Bc l top) := K7 l _ _ (OC l)
theorem Ok.set {x : EC} (ok : Ok H x) : Ok H (DC x) ∧ (DC x).tot = x.tot := by
 have hs := Dx x.vals x.top
 have ht : (DC x).tot = x.tot := by
  unfold EC.tot DC
  simp only
  rw [hs.sum (·.tokens) (fun _ _ => rfl), hs.sum (·.outs) (fun _ _ => rfl)]
 have hv : ∀ j, j < x.vals.length -> ∃ b, (DC x).val j = { x.val j with inset := b } ∧ ((x.val j).jailed = true -> b = false) := hs.at'
 have hl : (DC x).vals.length = x.vals.length := hs.len
 refine ⟨⟨ok.b6, by rw [hl]; exact ok.v5, ok.tl, ok.fee0, ok.fee1, ok.top0, ok.top1, ok.mat0, ok.mat1, ok.hgt0, ok.hgt1, ok.H0, ok.H1, ok.bal, ok.fees, ok.pool, fun j hj => ?_, ok.ent, by rw [ht]; exact ok.tot, ok.sh0, fun j hj => ?_, ok.per, ok.upt, fun j hj => ?_⟩, ht⟩
 ·rw [hl] at hj
  obtain ⟨b, e, hjl⟩ := hv j hj
  have h := ok.val j hj
  rw [e]
  exact ⟨h.t0, h.s0, h.s1, h.r0, h.r1, h.k0, h.ko, h.tk, h.oz, hjl⟩
 ·rw [hl] at hj
  obtain ⟨b, e, hjl⟩ := hv j hj
  rw [e]; exact ok.shs j hj
 ·rw [hl] at hj
  obtain ⟨b, e, hjl⟩ := hv j hj
  rw [e]; exact ok.due j hj
theorem Ok.up {x : EC} (ok : Ok H x) (hH : x.height = H) (h1 : x.height < 1000) : Ok (H + 1) (upF x) ∧ (upF x).tot = x.tot ∧ (upF x).height = x.height + 1 ∧ (upF x).ents = x.ents ∧ (upF x).bal = x.bal ∧ (upF x).vals.length = x.vals.length ∧ (upF x).top = x.top := by
 obtain ⟨s1, s2, s3, s4, s5, s6, s7, s8⟩ := ok.share (by omega)
 refine ⟨⟨s1.b6, s1.v5, s1.tl, s1.fee0, s1.fee1, s1.top0, s1.top1, s1.mat0, s1.mat1, by show 0 <= x.height + 1; have := ok.hgt0; omega, by show x.height + 1 <= 1000; omega, s1.H0, s1.H1, s1.bal, s1.fees, s1.pool, s1.val, fun e he => ?_, s1.tot, s1.sh0, s1.shs, s1.per, s1.upt, s1.due⟩, s2, rfl, s4, s3, s7, s6⟩
 have h := s1.ent e he
 exact ⟨h.w, h.m0, by have := h.m1; rw [s5] at this; show e.made <= x.height + 1; omega, h.a0⟩
def Bl (x : EC) : Prop := Ok x.height x
theorem Bl.block {x : EC} (ok : Bl x) : Bl (BZ x).2 ∧ (BZ x).2.tot = x.tot ∧ (BZ x).2.ents.length <= x.ents.length ∧ (BZ x).2.bal.length = x.bal.length ∧ (BZ x).2.vals.length = x.vals.length ∧ (BZ x).2.height <= x.height + 1 := by
 unfold BZ
 split
 ·exact ⟨ok, rfl, Nat.le_refl _, rfl, rfl, by simp only; omega⟩
 ·obtain ⟨u1, u2, u3, u4, u5, u6, u7⟩ := Ok.up ok rfl (by omega)
  obtain ⟨p1, p2, p3⟩ := u1.payE
  obtain ⟨q1, q2⟩ := p1.set
  have hh : (DC (Ba (upF x))).height = x.height + 1 := u3
  refine ⟨by unfold Bl; rw [hh]; exact q1, by rw [q2, p2, u2], by rw [<- u4]; exact p3, ?_, ?_, by rw [hh]; omega⟩
  ·show (Ba (upF x)).bal.length = _
   rw [<- u5]; exact Cz _ _
  ·show (Bc (Ba (upF x)).vals _).length = _
   rw [(Dx _ _).len]; exact u6
end Go.Proofs.YtohjjgefklhmaaaGreatDoor
