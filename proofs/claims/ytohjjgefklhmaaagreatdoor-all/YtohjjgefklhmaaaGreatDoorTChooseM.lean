import Derived.Test.YtohjjgefklhmaaaGreatDoorTTieM
import Derived.Test.YtohjjgefklhmaaaGreatDoorXTxtM
import Derived.Test.YtohjjgefklhmaaaGreatDoorLCreditM
import Derived.StillTailTactics
namespace Go.Proofs.YtohjjgefklhmaaaGreatDoor
open Go.ChangeShapes Go.WideShapes Go.ChangeAt Go.RowKit
set_option linter.unusedVariables false
set_option linter.unusedSimpArgs false
set_option maxHeartbeats 40000000
set_option maxRecDepth 100000
variable {x : EC} {ds : List (DA × Value)} {F0 : Nat -> Prop} {W0 w w' : World} {g : Nat} {c : LC} {bv vv dv ev : Value} {vals : List VS} {ents : List ES}
theorem KS (l : List VS) (n : Nat) : ∀ k : Nat, k < n -> (k : Int) < (Bs l n).1 -> (l.getD k v0).inset = false -> (l.getD k v0).jailed = false -> (l.getD k v0).tokens < (Bs l n).2 := by
 induction n with
 | zero => intro k hk; omega
 | succ n ih =>
  intro k hk hb h1 h2
  unfold Bs at hb ⊢
  split
  ·rename_i hc
   rw [if_pos hc] at hb
   simp only at hb ⊢
   have := Fk l n k (by omega) h1 h2
   omega
  ·rename_i hc
   rw [if_neg hc] at hb
   have hr := Hf l n
   exact ih k (by omega) hb h1 h2
structure Mu (m : List VS) : Prop where
 le : ∀ i k, i < m.length -> k < m.length -> (m.getD i v0).inset = true -> (m.getD k v0).inset = false -> (m.getD k v0).jailed = false -> (m.getD k v0).tokens < (m.getD i v0).tokens ∨ ((m.getD k v0).tokens = (m.getD i v0).tokens ∧ i < k)
theorem I7 (n : Nat) (m : List VS) (h : Mu m) : Mu (BY n m) := by
 induction n generalizing m with
 | zero => exact h
 | succ n ih =>
  unfold BY
  by_cases hb : (Bs m m.length).1 < 0
  ·rw [if_pos hb]; exact h
  ·rw [if_neg hb]
   rcases I3 m m.length with hm | ⟨i, h1, h2, h3, h4, h5, h6⟩
   ·rw [hm] at hb; omega
   ·rw [h1, Int.toNat_natCast]
    refine ih _ ?_
    have hmax := Fk m m.length
    have hfst := KS m m.length
    have hat : ∀ j, (m.modify i (fun v => { v with inset := true })).getD j v0 = if j = i then { m.getD i v0 with inset := true } else m.getD j v0 := fun j => AK m i j _ h2
    have hlen : (m.modify i (fun v => { v with inset := true })).length = m.length := by simp
    refine ⟨fun a k ha hk hin hout hj => ?_⟩
    rw [hlen] at ha hk
    rw [hat k] at hout hj ⊢
    rw [hat a] at hin ⊢
    by_cases ek : k = i
    ·rw [if_pos ek] at hout; simp at hout
    ·rw [if_neg ek] at hout hj ⊢
     by_cases ea : a = i
     ·rw [if_pos ea]
      simp only
      have q1 := hmax k hk hout hj
      have q2 := hfst k hk
      rw [h1] at q2
      rw [h5]
      by_cases hlt : k < i
      ·have := q2 (by omega) hout hj
       exact .inl this
      ·by_cases e : (m.getD k v0).tokens = (Bs m m.length).2
       ·exact .inr ⟨e, by omega⟩
       ·exact .inl (by omega)
     ·rw [if_neg ea] at hin ⊢
      exact h.le a k ha hk hin hout hj
theorem LT (l : List VS) : Mu (Dw l l.length) := by
 refine ⟨fun i k hi hk hin => ?_⟩
 rw [DF] at hi
 rw [J5 l _ i hi, if_pos hi] at hin
 simp at hin
theorem I9 (l : List VS) (top : Int) : Mu (Bc l top) := I7 _ _ (LT l)
def cn (p : Nat -> Bool) : Nat -> Nat
 | 0 => 0
 | k + 1 => cn p k + (if p k = true then 1 else 0)
theorem Rj (p q : Nat -> Bool) (k : Nat) (h : ∀ j, j < k -> p j = true -> q j = true) : cn p k <= cn q k := by
 induction k with
 | zero => exact Nat.le_refl _
 | succ k ih =>
  have h1 := ih (fun j hj => h j (by omega))
  have h2 := h k (by omega)
  unfold cn
  by_cases hp : p k = true
  ·rw [if_pos hp, if_pos (h2 hp)]; omega
  ·rw [if_neg hp]; split <;> omega
theorem Rm (p q : Nat -> Bool) (k i : Nat) (hi : i < k) (hq : q i = true) (hp : p i = false) (h : ∀ j, j < k -> p j = true -> q j = true) : cn p k < cn q k := by
 induction k with
 | zero => omega
 | succ k ih =>
  have h2 := h k (by omega)
  unfold cn
  by_cases e : i = k
  ·subst e
   have h1 := Rj p q i (fun j hj => h j (by omega))
   rw [if_pos hq, if_neg (by rw [hp]; decide)]; omega
  ·have h1 := ih (by omega) (fun j hj => h j (by omega))
   by_cases hpk : p k = true
   ·rw [if_pos hpk, if_pos (h2 hpk)]; omega
   ·rw [if_neg hpk]; split <;> omega
theorem RF (f : VS -> Int) (p : Nat -> Bool) (l : List VS) (hf : ∀ j, j < l.length -> f (l.getD j v0) = if p j = true then 1 else 0) (k : Nat) (hk : k <= l.length) : AT f (l.take k) = (cn p k : Int) := by
 induction k with
 | zero => simp [AT, AE, cn]
 | succ k ih =>
  have hkl : k < l.length := by omega
  rw [NU f l k hkl, ih (by omega)]
  have h1 := hf k hkl
  have e : l.getD k v0 = l[k] := by simp [hkl]
  rw [e] at h1
  rw [h1]
  have e2 : cn p (k + 1) = cn p k + (if p k = true then 1 else 0) := rfl
  rw [e2]
  by_cases hp : p k = true
  ·rw [if_pos hp, if_pos hp]; omega
  ·rw [if_neg hp, if_neg hp]; omega
theorem Mr (f : VS -> Int) (p : Nat -> Bool) (l : List VS) (hf : ∀ j, j < l.length -> f (l.getD j v0) = if p j = true then 1 else 0) : AT f l = (cn p l.length : Int) := by
 have := RF f p l hf l.length (Nat.le_refl _)
 rwa [List.take_length] at this
def ahB (l : List VS) (k i : Nat) : Bool := decide ((l.getD i v0).tokens < (l.getD k v0).tokens) || (decide ((l.getD k v0).tokens = (l.getD i v0).tokens) && decide (k < i))
theorem J2 (l : List VS) (i : Nat) (hi : i < l.length) (k : Nat) (hk : k <= l.length) : EZ l i k = cn (fun j => ahB l j i && !(l.getD j v0).jailed) k := by
 induction k with
 | zero => rfl
 | succ k ih =>
  have hkl : k < l.length := by omega
  unfold EZ cn
  rw [ih (by omega), JM l k i hkl hi, List.getElem?_eq_getElem hkl]
  unfold ahB
  have e1 : l.getD i v0 = l[i] := by simp [hi]
  have e2 : l.getD k v0 = l[k] := by simp [hkl]
  rw [e1, e2]
theorem Rx (l : List VS) (top : Int) (ht : 0 <= top) (i : Nat) (hi : i < l.length) : ((Bc l top).getD i v0).inset = Gh l top i (l.getD i v0) := by
 have hS := Dx l top
 obtain ⟨hB, hlen, hle, hor⟩ := Gf l top ht
 have hB2 := I9 l top
 generalize hm : Bc l top = m at *
 have htok : ∀ j, j < l.length -> (m.getD j v0).tokens = (l.getD j v0).tokens ∧ (m.getD j v0).jailed = (l.getD j v0).jailed := fun j hj => by
  obtain ⟨b, e, _⟩ := hS.at' j hj
  rw [e]; exact ⟨rfl, rfl⟩
 have hin : AT inI m = (cn (fun j => (m.getD j v0).inset) m.length : Int) := Mr _ _ _ (fun j hj => rfl)
 have hmay : AT Iz m = (cn (fun j => !(m.getD j v0).jailed && decide (0 < (m.getD j v0).tokens)) m.length : Int) := Mr _ _ _ (fun j hj => by
  unfold Iz
  by_cases hc : (m.getD j v0).jailed = false ∧ 0 < (m.getD j v0).tokens
  ·rw [if_pos hc, if_pos (by rw [hc.1, decide_eq_true hc.2]; rfl)]
  ·rw [if_neg hc, if_neg (by intro h; apply hc; simp only [Bool.and_eq_true, Bool.not_eq_true', decide_eq_true_eq] at h; exact h)])
 rw [hin] at hle hor
 rw [hmay] at hor
 rw [hlen] at hle hor
 unfold Gh
 rw [J2 l i hi l.length (Nat.le_refl _)]
 obtain ⟨t1, t2⟩ := htok i hi
 rw [<- t1, <- t2]
 have him : i < m.length := by rw [hlen]; exact hi
 cases hins : (m.getD i v0).inset with
 | true =>
  obtain ⟨o1, o2⟩ := hB.ok i him hins
  have hlt : cn (fun j => ahB l j i && !(l.getD j v0).jailed) l.length < cn (fun j => (m.getD j v0).inset) l.length := by
   refine Rm _ _ _ i hi hins (by simp [ahB]) (fun j hj hp => ?_)
   simp only [Bool.and_eq_true, Bool.not_eq_true'] at hp
   cases hq : (m.getD j v0).inset with
   | true => rfl
   | false =>
    obtain ⟨t3, t4⟩ := htok j hj
    have h1 := hB2.le i j him (by rw [hlen]; exact hj) hins hq (by rw [t4]; exact hp.2)
    have h2 := hp.1
    unfold ahB at h2
    simp only [Bool.or_eq_true, Bool.and_eq_true, decide_eq_true_eq] at h2
    rw [<- t1, <- t3] at h2
    omega
  rw [o1]
  simp only [Bool.not_false, Bool.true_and]
  rw [decide_eq_true o2, decide_eq_true (by omega)]
  rfl
 | false =>
  cases hj : (m.getD i v0).jailed with
  | true => simp
  | false =>
   by_cases hp : 0 < (m.getD i v0).tokens
   ·have hne : cn (fun j => (m.getD j v0).inset) l.length < cn (fun j => !(m.getD j v0).jailed && decide (0 < (m.getD j v0).tokens)) l.length := by
     refine Rm _ _ _ i hi (by rw [hj, decide_eq_true hp]; rfl) hins (fun j hj' hq => ?_)
     obtain ⟨o1, o2⟩ := hB.ok j (by rw [hlen]; exact hj') hq
     rw [o1, decide_eq_true o2]; rfl
    have htop : (cn (fun j => (m.getD j v0).inset) l.length : Int) = top := by omega
    have hge : cn (fun j => (m.getD j v0).inset) l.length <= cn (fun j => ahB l j i && !(l.getD j v0).jailed) l.length := by
     refine Rj _ _ _ (fun j hj' hq => ?_)
     have hjm : j < m.length := by rw [hlen]; exact hj'
     obtain ⟨o1, o2⟩ := hB.ok j hjm hq
     obtain ⟨t3, t4⟩ := htok j hj'
     have h1 := hB2.le j i hjm him hq hins hj
     simp only [Bool.and_eq_true, Bool.not_eq_true']
     refine ⟨?_, by rw [<- t4]; exact o1⟩
     unfold ahB
     simp only [Bool.or_eq_true, Bool.and_eq_true, decide_eq_true_eq]
     rw [<- t1, <- t3]
     omega
    have : decide ((cn (fun j => ahB l j i && !(l.getD j v0).jailed) l.length : Int) < top) = false := decide_eq_false (by omega)
    rw [this]; simp
   ·have : decide (0 < (m.getD i v0).tokens) = false := decide_eq_false hp
    rw [this]; simp
theorem NP (l l' : List VS) (hl : l'.length = l.length) (h : ∀ j, j < l.length -> (l'.getD j v0).tokens = (l.getD j v0).tokens ∧ (l'.getD j v0).jailed = (l.getD j v0).jailed) (i : Nat) (hi : i < l.length) : EZ l' i l'.length = EZ l i l.length := by
 rw [J2 l' i (by omega) _ (Nat.le_refl _), J2 l i hi _ (Nat.le_refl _), hl]
 have key : ∀ k, k <= l.length -> cn (fun j => ahB l' j i && !(l'.getD j v0).jailed) k = cn (fun j => ahB l j i && !(l.getD j v0).jailed) k := by
  intro k hk
  induction k with
  | zero => rfl
  | succ k ih =>
   unfold cn
   rw [ih (by omega)]
   have e : ahB l' k i = ahB l k i := by unfold ahB; rw [(h k (by omega)).1, (h i hi).1]
   simp only [e, (h k (by omega)).2]
 exact key _ (Nat.le_refl _)
theorem K0 (l : List VS) (top : Int) (i : Nat) (hi : i <= l.length) (j : Nat) (hj : j < l.length) : (Be l top i).getD j v0 = if j < i then { l.getD j v0 with inset := Gh l top j (l.getD j v0) } else l.getD j v0 := by
 induction i generalizing j with
 | zero => simp [Be]
 | succ i ih =>
  have hil : i < l.length := by omega
  have hlen := DQ l top i
  unfold Be
  rw [AK _ i j _ (by omega)]
  have hsame : ∀ j, j < l.length -> ((Be l top i).getD j v0).tokens = (l.getD j v0).tokens ∧ ((Be l top i).getD j v0).jailed = (l.getD j v0).jailed := fun j hj => by
   rw [ih (by omega) j hj]; split <;> exact ⟨rfl, rfl⟩
  by_cases e : j = i
  ·subst e
   rw [if_pos rfl, ih (by omega) j hj, if_neg (by omega), if_pos (by omega)]
   unfold Gh
   rw [NP l _ hlen hsame j hj]
  ·rw [if_neg e, ih (by omega) j hj]
   by_cases hlt : j < i
   ·rw [if_pos hlt, if_pos (by omega)]
   ·rw [if_neg hlt, if_neg (by omega)]
theorem Mj (l : List VS) (top : Int) (ht : 0 <= top) : Be l top l.length = Bc l top := by
 have hS := Dx l top
 apply List.ext_getElem?
 intro j
 have hl := DQ l top l.length
 by_cases hj : j < l.length
 ·have h1 := K0 l top l.length (Nat.le_refl _) j hj
  rw [if_pos hj] at h1
  have h2 := Rx l top ht j hj
  obtain ⟨b, e, _⟩ := hS.at' j hj
  rw [e] at h2
  simp only at h2
  have ha : j < (Be l top l.length).length := by omega
  have hb : j < (Bc l top).length := by rw [hS.len]; exact hj
  have ea : (Be l top l.length)[j] = (Be l top l.length).getD j v0 := by simp [ha]
  have eb : (Bc l top)[j] = (Bc l top).getD j v0 := by simp [hb]
  rw [List.getElem?_eq_getElem ha, List.getElem?_eq_getElem hb, ea, eb, h1, e, h2]
 ·rw [List.getElem?_eq_none (by omega), List.getElem?_eq_none (by rw [hS.len]; omega)]
def Bx (x : EC) (k : Nat) : Int := x.fees * (x.val k).tokens / Ad x.vals
def ofF (x : EC) (k : Nat) : Int := Bx x k - Bx x k * (x.val k).rate / 100
def Cl (x : EC) (l : List DA) : Nat -> List DA
 | 0 => l
 | k + 1 => if (x.val k).inset = true ∧ 0 < Ad x.vals then (Cl x l k).map (Bp k ⟨ofF x k, (x.val k).shares⟩) else Cl x l k
theorem LQ (x : EC) (l : List DA) (k : Nat) : (Cl x l k).length = l.length := by
 induction k with
 | zero => rfl
 | succ k ih => unfold Cl; split <;> simp [ih]
theorem OB (x : EC) (j : Nat) (a : Int) (k i : Nat) (hk : k < 6) (hi : i < 5) : (AH x j a).sh k i = x.sh k i := by
 unfold AH A7
 split
 ·rfl
 ·simp only [EC.sh, List.getD, List.getElem?_set]
  rw [if_neg (by omega)]
theorem Ly (x : EC) (j : Nat) (a : Int) (hj : j < 5) (k i : Nat) : (AH x j a).upto k i = x.upto k i := by
 unfold AH A7
 split
 ·rfl
 ·simp only [EC.upto, List.getD, List.getElem?_set]
  rw [if_neg (by omega)]
theorem MV (x : EC) (j : Nat) (a : Int) (hj : j < x.vals.length) (hs : 1 <= (x.val j).shares) (ht : 30 + j < x.tab.length) : (AH x j a).per j = x.per j + (a - a * (x.val j).rate / 100) * 1073741824 / (x.val j).shares := by
 have e : ({ x with vals := (x.vals.modify j (fun v => { v with comm := v.comm + a * (x.val j).rate / 100 })).modify j (fun v => { v with outs := v.outs + a }) } : EC).val j = { x.val j with comm := (x.val j).comm + a * (x.val j).rate / 100, outs := (x.val j).outs + a } := by
  rw [My _ _ j (by simpa using hj) _ rfl]
  simp [x.val_eq hj]
 unfold AH A7
 rw [e]
 rw [if_neg (by simp only; omega)]
 show (x.tab.set (30 + j) (x.per j + _)).getD (30 + j) 0 = _
 simp [ht]
theorem NJ (x : EC) (j : Nat) (a : Int) : (AH x j a).tab.length = x.tab.length := by
 unfold AH A7; split <;> simp
theorem Kf (x : EC) (j : Nat) (a : Int) (hj : j < x.vals.length) : ((AH x j a).val j).shares = (x.val j).shares := by
 show ((AH x j a).vals.getD j v0).shares = _
 rw [D1, CR, AK _ _ _ _ hj, if_pos rfl]
 rfl
structure LpI (x y : EC) : Prop where
 sh : ∀ k j, k < 6 -> j < 5 -> y.sh k j = x.sh k j
 up : ∀ k j, y.upto k j = x.upto k j
 tl : y.tab.length = x.tab.length
 mat : y.mature = x.mature
theorem GR (x : EC) (f b : Int) (k : Nat) (hk : k <= 5) : LpI x (Am x f b k).1 := by
 induction k with
 | zero => exact ⟨fun _ _ _ _ => rfl, fun _ _ => rfl, rfl, rfl⟩
 | succ k ih =>
  have h := ih (by omega)
  unfold Am
  split
  ·exact ⟨fun a j ha hj => (OB _ _ _ a j ha hj).trans (h.sh a j ha hj), fun a j => (Ly _ _ _ (by omega) a j).trans (h.up a j), (NJ _ _ _).trans h.tl, (Dm _ _ _).2.2.2.2.1.trans h.mat⟩
  ·exact h
theorem G2 (x : EC) (k : Nat) : Am x x.fees (Ad x.vals) (k + 1) = if (x.val k).inset = true ∧ 0 < Ad x.vals then (AH (Am x x.fees (Ad x.vals) k).1 k (Bx x k), (Am x x.fees (Ad x.vals) k).2 - Bx x k) else Am x x.fees (Ad x.vals) k := by
 have hv := (Ct x x.fees (Ad x.vals) k).val k (Nat.le_refl _)
 show (if _ then _ else _) = _
 rw [hv]
 have e : FH (Am x x.fees (Ad x.vals) k).1 x.fees (Ad x.vals) k = Bx x k := by unfold FH Bx; rw [hv]
 rw [e]
theorem MA (ok : Hb x) {k : Nat} (hk : k < x.vals.length) (hi : (x.val k).inset = true) (hb : 0 < Ad x.vals) : 0 <= Bx x k ∧ Bx x k <= 1000000 ∧ 0 <= Bx x k * (x.val k).rate / 100 ∧ Bx x k * (x.val k).rate / 100 <= Bx x k := by
 have h1 := F5 ok.vb k hk (by rw [x.val_eq hk]; exact hi)
 rw [x.val_eq hk] at h1
 have h2 := Ko ok.f0 (ok.v k hk).t0 h1 hb
 have f1 := ok.f1
 obtain ⟨r0, r1⟩ := ok.r k hk
 have e : Bx x k = x.fees * (x.val k).tokens / Ad x.vals := rfl
 rw [<- e] at h2
 have m0 : 0 <= Bx x k * (x.val k).rate := Int.mul_nonneg h2.1 r0
 have m1 : Bx x k * (x.val k).rate <= Bx x k * 100 := Int.mul_le_mul_of_nonneg_left r1 h2.1
 omega
structure CrT (x y : EC) (k : Nat) (l : List DA) : Prop where
 srt : (l.map dkey).Pairwise (· < ·)
 rng : ∀ d ∈ l, ∃ a j : Nat, d.who = a ∧ d.val = j ∧ a < x.bal.length ∧ j < x.vals.length ∧ d.shares = x.sh a j ∧ 0 < d.shares ∧ PR d.parts (y.per j - x.upto a j) (x.height + if j < k then 1 else 0)
 all : ∀ a j, a < x.bal.length -> j < x.vals.length -> 0 < x.sh a j -> ∃ d ∈ l, d.who = a ∧ d.val = j
theorem Ei (v : Int) (p : PS) (d : DA) : (Bp v p d).who = d.who ∧ (Bp v p d).val = d.val ∧ (Bp v p d).shares = d.shares := by
 unfold Bp; split <;> exact ⟨rfl, rfl, rfl⟩
theorem R4 (ok : Bl x) {a j : Nat} (ha : a < x.bal.length) (hj : j < x.vals.length) (hs : 0 < x.sh a j) : 1 <= (x.val j).shares ∧ (x.val j).shares <= 1000000 := by
 have okx : Ok x.height x := ok
 have b6 := okx.b6
 have v5 := okx.v5
 have := okx.sh_le (show a < 6 by omega) hj
 exact ⟨by omega, (okx.val j hj).s1⟩
theorem CrT.step (ok : Bl x) {l : List DA} {k : Nat} (hk : k < x.vals.length) (h : CrT x (Am x x.fees (Ad x.vals) k).1 k (Cl x l k)) : CrT x (Am x x.fees (Ad x.vals) (k + 1)).1 (k + 1) (Cl x l (k + 1)) := by
 have okx : Ok x.height x := ok
 have v5 := okx.v5
 have hg0 := okx.hgt0
 rw [G2]
 unfold Cl
 by_cases hc : (x.val k).inset = true ∧ 0 < Ad x.vals
 ·rw [if_pos hc, if_pos hc]
  obtain ⟨g0, g1, o0, o1⟩ := MA okx.feeOk hk hc.1 hc.2
  have hin := Ct x x.fees (Ad x.vals) k
  have hlp := GR x x.fees (Ad x.vals) k (by omega)
  have hvk := hin.val k (Nat.le_refl _)
  generalize (Am x x.fees (Ad x.vals) k).1 = y at *
  generalize Cl x l k = m at *
  refine ⟨?_, fun d hd => ?_, fun a j ha hj hs => ?_⟩
  ·have e : (m.map (Bp k ⟨ofF x k, (x.val k).shares⟩)).map dkey = m.map dkey := by
    rw [List.map_map]
    refine List.map_congr_left (fun d _ => ?_)
    obtain ⟨e1, e2, _⟩ := Ei k ⟨ofF x k, (x.val k).shares⟩ d
    show dkey (Bp _ _ d) = _
    unfold dkey; rw [e1, e2]
   rw [e]; exact h.srt
  ·obtain ⟨d0, hd0, rfl⟩ := List.mem_map.1 hd
   obtain ⟨a, j, q1, q2, q3, q4, q5, q6, q7⟩ := h.rng d0 hd0
   obtain ⟨e1, e2, e3⟩ := Ei k ⟨ofF x k, (x.val k).shares⟩ d0
   refine ⟨a, j, by rw [e1, q1], by rw [e2, q2], q3, q4, by rw [e3, q5], by rw [e3]; exact q6, ?_⟩
   by_cases ej : j = k
   ·subst ej
    obtain ⟨s1, s2⟩ := R4 ok q3 q4 (by omega)
    have ep : (Bp j ⟨ofF x j, (x.val j).shares⟩ d0).parts = Cb d0.parts ⟨ofF x j, (x.val j).shares⟩ := by unfold Bp; rw [if_pos q2]
    rw [ep]
    rw [if_neg (by omega)] at q7
    rw [if_pos (by omega)]
    have := PR.with q7 (of := ofF x j) (s := (x.val j).shares) (by unfold ofF; omega) (by unfold ofF; omega) s1 s2 (by omega)
    rw [MV y j (Bx x j) (by rw [hin.len]; exact hk) (by rw [hvk]; exact s1) (by rw [hlp.tl, okx.tl]; omega), hvk]
    rw [Int.add_zero] at this
    have e4 : y.per j + (Bx x j - Bx x j * (x.val j).rate / 100) * 1073741824 / (x.val j).shares - x.upto a j = y.per j - x.upto a j + ofF x j * 1073741824 / (x.val j).shares := by unfold ofF; omega
    rw [e4]; exact this
   ·have ep : (Bp k ⟨ofF x k, (x.val k).shares⟩ d0).parts = d0.parts := by unfold Bp; rw [if_neg (by omega)]
    rw [ep, Gl _ _ _ _ ej]
    have : (if j < k + 1 then (1 : Int) else 0) = if j < k then 1 else 0 := by
     by_cases hlt : j < k
     ·rw [if_pos hlt, if_pos (by omega)]
     ·rw [if_neg hlt, if_neg (by omega)]
    rw [this]; exact q7
  ·obtain ⟨d, hd, w1, w2⟩ := h.all a j ha hj hs
   obtain ⟨e1, e2, _⟩ := Ei k ⟨ofF x k, (x.val k).shares⟩ d
   exact ⟨_, List.mem_map.2 ⟨d, hd, rfl⟩, by rw [e1, w1], by rw [e2, w2]⟩
 ·rw [if_neg hc, if_neg hc]
  refine ⟨h.srt, fun d hd => ?_, h.all⟩
  obtain ⟨a, j, q1, q2, q3, q4, q5, q6, q7⟩ := h.rng d hd
  refine ⟨a, j, q1, q2, q3, q4, q5, q6, q7.up ?_⟩
  by_cases hlt : j < k
  ·rw [if_pos hlt, if_pos (by omega)]; exact Int.le_refl _
  ·rw [if_neg hlt]; split <;> omega
theorem CrT.zero (t : A8 x ds) : CrT x (Am x x.fees (Ad x.vals) 0).1 0 (Cl x (ds.map Prod.fst) 0) := by
 refine ⟨?_, fun d hd => ?_, fun a j ha hj hs => ?_⟩
 ·show ((ds.map Prod.fst).map dkey).Pairwise (· < ·)
  rw [List.map_map]; exact t.srt
 ·obtain ⟨d0, hd0, rfl⟩ := List.mem_map.1 hd
  obtain ⟨a, j, q1, q2, q3, q4, q5, q6, q7⟩ := t.rng d0 hd0
  exact ⟨a, j, q1, q2, q3, q4, q5, q6, by rw [if_neg (by omega), Int.add_zero]; exact q7⟩
 ·obtain ⟨d, hd, w1, w2⟩ := t.all a j ha hj hs
  exact ⟨d.1, List.mem_map.2 ⟨d, hd, rfl⟩, w1, w2⟩
theorem CrT.loop (ok : Bl x) {ds : List (DA × Value)} (t : A8 x ds) (k : Nat) (hk : k <= x.vals.length) : CrT x (Am x x.fees (Ad x.vals) k).1 k (Cl x (ds.map Prod.fst) k) := by
 induction k with
 | zero => exact CrT.zero t
 | succ k ih => exact CrT.step ok (by omega) (ih (by omega))
theorem CrT.pok {y : EC} {k : Nat} {l : List DA} (h : CrT x y k l) (ok : Bl x) {o s : Int} (o0 : 0 <= o) (o1 : o <= 1000000) : ∀ d ∈ l, POk d.parts ⟨o, s⟩ := fun d hd => by
 have okx : Ok x.height x := ok
 have hg1 := okx.hgt1
 obtain ⟨a, j, _, _, _, _, _, _, q7⟩ := h.rng d hd
 have hh : x.height + (if j < k then 1 else 0) <= 1001 := by split <;> omega
 have hl := q7.len
 refine ⟨by omega, ⟨by simpa using o0, by show o <= _; omega⟩, fun i hi => ?_⟩
 have := q7.ofs _ (List.getElem_mem hi)
 omega
theorem Qw (ok : Bl x) {ds ds' : List (DA × Value)} (t : A8 x ds) (hh : x.height < 1000) (e : ds'.map Prod.fst = Cl x (ds.map Prod.fst) x.vals.length) : A8 (BZ x).2 ds' := by
 have okx : Ok x.height x := ok
 have v5 := okx.v5
 have b6 := okx.b6
 have h := CrT.loop ok t x.vals.length (Nat.le_refl _)
 have hin := Ct x x.fees (Ad x.vals) x.vals.length
 have hlp := GR x x.fees (Ad x.vals) x.vals.length v5
 have hso := Fq okx (by omega) x.vals.length (Nat.le_refl _)
 have hR : (BZ x).2 = DC (Ba (upF x)) := by unfold BZ; rw [if_neg (by omega)]
 rw [hR]
 have hbl : (DC (Ba (upF x))).bal.length = x.bal.length := by
  show (Au (upF x) _).1.length = _
  rw [Cz]
  show (Am x x.fees (Ad x.vals) x.vals.length).1.bal.length = _
  rw [hso.bal]
 have hvl : (DC (Ba (upF x))).vals.length = x.vals.length := by
  show (Bc (Am x x.fees (Ad x.vals) x.vals.length).1.vals _).length = _
  rw [(Dx _ _).len, hin.len]
 have hsh : ∀ a j, a < 6 -> j < 5 -> (DC (Ba (upF x))).sh a j = x.sh a j := fun a j ha hj => hlp.sh a j ha hj
 have hup : ∀ a j, (DC (Ba (upF x))).upto a j = x.upto a j := fun a j => hlp.up a j
 have hpe : ∀ j, (DC (Ba (upF x))).per j = (Am x x.fees (Ad x.vals) x.vals.length).1.per j := fun j => rfl
 have hhe : (DC (Ba (upF x))).height = x.height + 1 := rfl
 rw [<- e] at h
 refine ⟨?_, fun d hd => ?_, fun a j ha hj hs => ?_⟩
 ·have := h.srt
  rw [List.map_map] at this
  exact this
 ·obtain ⟨a, j, q1, q2, q3, q4, q5, q6, q7⟩ := h.rng d.1 (List.mem_map.2 ⟨d, hd, rfl⟩)
  rw [if_pos q4] at q7
  refine ⟨a, j, q1, q2, by rw [hbl]; exact q3, by rw [hvl]; exact q4, by rw [hsh a j (by omega) (by omega)]; exact q5, q6, ?_⟩
  rw [hpe, hup, hhe]; exact q7
 ·rw [hbl] at ha
  rw [hvl] at hj
  rw [hsh a j (by omega) (by omega)] at hs
  obtain ⟨d, hd, w1, w2⟩ := h.all a j ha hj hs
  obtain ⟨d', hd', rfl⟩ := List.mem_map.1 hd
  exact ⟨d', hd', w1, w2⟩
theorem Pe (y : EC) (h : ∀ e, e ∈ y.ents -> y.height <= e.made + y.mature) (k : Nat) (hk : k <= y.ents.length) : CI (Ay y) y.ents k = ({ Ay y with bal := (Au y k).1 }, (Au y k).2) := by
 induction k with
 | zero => rfl
 | succ k ih =>
  have hkl : k < y.ents.length := by omega
  rw [EJ _ _ k hkl, ih (by omega)]
  have eg : y.ents.getD k e0 = y.ents[k] := by simp [hkl]
  have hle := h _ (List.getElem_mem hkl)
  have eP : Au y (k + 1) = if (y.ents.getD k e0).made + y.mature = y.height then ((Au y k).1.set (y.ents.getD k e0).who.toNat ((Au y k).1.getD (y.ents.getD k e0).who.toNat 0 + (y.ents.getD k e0).amount), (Au y k).2) else ((Au y k).1, (Au y k).2 ++ [y.ents.getD k e0]) := rfl
  rw [eP, eg]
  unfold E8
  by_cases hc : y.ents[k].made + y.mature = y.height
  ·rw [if_pos hc, if_pos (show y.ents[k].made + (Ay y).mature <= (Ay y).height by show y.ents[k].made + y.mature <= y.height; omega)]
   rfl
  ·rw [if_neg hc, if_neg (show ¬ y.ents[k].made + (Ay y).mature <= (Ay y).height by show ¬ y.ents[k].made + y.mature <= y.height; omega)]
theorem NN (y : EC) (h : ∀ e, e ∈ y.ents -> y.height <= e.made + y.mature) : CI (Ay y) y.ents y.ents.length = (Ay (Ba y), (Ba y).ents) := Pe y h _ (Nat.le_refl _)
theorem LF.credited {ds' : List (DA × Value)} {cs : List Value} (h : LF F0 W0 w g c bv vv dv ev vals ds ents) (hD : LDl w' g vv dv vals ds' cs) (hcs : cs = [.int .i64 c.top, .int .i64 c.mature, .int .i64 c.fee, .int .i64 c.height, bv, .int .i64 c.fees, .int .i64 c.pool, vv, dv, ev]) (hK : Kp (fun k => dv.ownBlock = some k) w w') (hO : ∀ d ∈ ds', ∀ b, d.2.ownBlock = some b -> LB F0 W0 b) : LF F0 W0 w' g c bv vv dv ev vals ds' ents := by
 subst hcs
 exact ⟨h.fr.trans (hK.mono (fun k _ e => h.fd k e)), h.fg, h.fb, h.fv, h.fd, h.fe, fun i hi k e => hO _ (List.getElem_mem hi) k e, ⟨hD.L, Al h.C.b hK (fun b hb e => CD h.C.b h.d (by decide) e hb)⟩, hD.v, hD.d, hD.p, Al h.e hK (fun b hb e => CD h.e h.d (by decide) e hb)⟩
theorem LF.paidUp {c' : LC} {ev' : Value} {ents' : List ES} (h : LF F0 W0 w g c bv vv dv ev vals ds ents) (hC : Bu w' g c' bv vv dv ev') (he : w'.ownsRow 0 131 4 ev' ents'.length (Bi ents')) (hk : Kp (LS g bv) w w') (hn : ∀ k, ev'.ownBlock = some k -> w.heap.size <= k) : LF F0 W0 w' g c' bv vv dv ev' vals ds ents' := by
 have hS : ∀ {e : TypeId} {size n : Nat} {x : Value} {xs : List Value}, w.ownsRow 0 e size x n xs -> 81 ≠ e -> 3 ≠ e -> w'.ownsRow 0 e size x n xs := fun hr n1 n2 => Al hr hk (fun b hb hs => by
  rcases hs with hs | hs
  ·exact Has.apart h.C.L hr n1 (by rw [<- hs, hb])
  ·exact CD h.C.b hr n2 hb hs)
 exact ⟨h.fr.trans (hk.mono (fun k _ hs => by
  rcases hs with rfl | hs
  ·exact h.fg
  ·exact h.fb k hs)), h.fg, h.fb, h.fv, h.fd, fun k hk' => .inr (Nat.le_trans h.fr.size (hn k hk')), h.fp, hC, hS h.v (by decide) (by decide), hS h.d (by decide) (by decide), fun i hi => hS (h.p i hi) (by decide) (by decide), he⟩
theorem LF.chosen {vals' : List VS} (h : LF F0 W0 w g c bv vv dv ev vals ds ents) {cs : List Value} {top : Int} (hL : LVw w' g top vv vals' cs) (hcs : cs = [.int .i64 c.top, .int .i64 c.mature, .int .i64 c.fee, .int .i64 c.height, bv, .int .i64 c.fees, .int .i64 c.pool, vv, dv, ev]) (hk : Kp (fun k => vv.ownBlock = some k) w w') : LF F0 W0 w' g c bv vv dv ev vals' ds ents := by
 subst hcs
 have hS : ∀ {e : TypeId} {size n : Nat} {x : Value} {xs : List Value}, w.ownsRow 0 e size x n xs -> e ≠ 114 -> w'.ownsRow 0 e size x n xs := fun hr n1 => Al hr hk (fun b hb hs => CD hr h.v n1 hs hb)
 exact ⟨h.fr.trans (hk.mono (fun k _ hs => h.fv k hs)), h.fg, h.fb, h.fv, h.fd, h.fe, h.fp, ⟨hL.L, hS h.C.b (by decide)⟩, hL.v, hS h.d (by decide), fun i hi => hS (h.p i hi) (by decide), hS h.e (by decide)⟩
theorem ID (ds : List (DA × Value)) : BC ds = Ez (ds.map (fun d => d.1.ds)) (ds.map Prod.snd) := by
 induction ds with
 | nil => rfl
 | cons d l ih => simp [BC, Ez, ih, DA.cells, DA.ds, DS.cells]
theorem LF.rd (h : LF F0 W0 w g c bv vv dv ev vals ds ents) (S : ViewS) (e1 : S.height = c.height) (e2 : S.bal = c.bal) (e3 : S.fees = c.fees) (e4 : S.pool = c.pool) (e5 : S.vals = vals) (e6 : S.dels = ds.map (fun d => d.1.ds)) (e7 : S.ents = ents) : EO w g S := by
 obtain ⟨height, bal, fees, pool, bonded, loose, vals, dels, ents⟩ := S
 simp only at e1 e2 e3 e4 e5 e6 e7
 subst e1 e2 e3 e4 e5 e6 e7
 refine ⟨_, _, _, bv, vv, dv, ev, ds.map Prod.snd, h.C.L, Rd.of_owns h.C.b, Rd.of_owns h.v, ?_, Rd.of_owns h.e, fun k p hp => ?_⟩
 ·simp only [List.length_map]; rw [<- ID]; exact Rd.of_owns h.d
 ·simp only at hp
  rw [<- ID] at hp
  have hlt : k * 4 + 3 < (BC ds).length := by
   by_cases hc : k * 4 + 3 < (BC ds).length
   ·exact hc
   ·rw [List.getElem?_eq_none (by omega)] at hp; cases hp
  rw [KD] at hlt
  have hk : k < ds.length := by omega
  rw [BF ds k hk 3 (by omega)] at hp
  simp only [DA.cells, List.getElem?_cons_succ, List.getElem?_cons_zero, Option.some.injEq] at hp
  subst hp
  obtain ⟨a, cp, e⟩ := Ac (h.p k hk)
  exact ⟨a, _, cp, e⟩
theorem Ft (x : EC) (f b : Int) (hb : ¬ 0 < b) (k : Nat) : Am x f b k = (x, f) := by
 induction k with
 | zero => rfl
 | succ k ih => unfold Am; rw [if_neg (fun h => hb h.2), ih]
theorem Jk (x : EC) (l : List DA) (hb : ¬ 0 < Ad x.vals) (k : Nat) : Cl x l k = l := by
 induction k with
 | zero => rfl
 | succ k ih => unfold Cl; rw [if_neg (fun h => hb h.2), ih]
def BlI (F0 : Nat -> Prop) (W0 w : World) (g : Nat) (x : EC) (bv vv dv ev : Value) (l : List DA) (k : Nat) : Prop :=
 ∃ ds', LF F0 W0 w g (Ay x) bv vv dv ev (Am x x.fees (Ad x.vals) k).1.vals ds' x.ents ∧ ds'.map Prod.fst = Cl x l k
theorem LF.blk {u : World} {gv vc n : Nat} (h : LF F0 W0 u g c bv (.slice (some ⟨gv, 0, none⟩) n vc) dv ev vals ds ents) (hn : vals.length = n) {k : Nat} (hk : k < vals.length) :
  u.cell? ⟨g, 5, none⟩ = some (.int .i64 c.fees) ∧ u.cell? ⟨g, 7, none⟩ = some (.slice (some ⟨gv, 0, none⟩) n vc) ∧ u.cell? ⟨gv, k * 8 + 1, none⟩ = some (.int .i64 vals[k].rate) ∧ u.cell? ⟨gv, k * 8 + 2, none⟩ = some (.int .i64 vals[k].tokens) ∧ u.cell? ⟨gv, k * 8 + 4, none⟩ = some (.int .i64 vals[k].comm) ∧ u.cell? ⟨gv, k * 8 + 5, none⟩ = some (.int .i64 vals[k].outs) ∧ u.cell? ⟨gv, k * 8 + 7, none⟩ = some (.bool vals[k].inset) ∧ u.frozen? ⟨gv, k * 8 + 4, none⟩ = false ∧ u.frozen? ⟨gv, k * 8 + 5, none⟩ = false := by
 subst hn
 have z : ∀ i, i < 8 -> u.cell? ⟨gv, k * 8 + i, none⟩ = vals[k].cells[i]? := fun i hi => by rw [h.v.cellAt (k * 8 + i) (by omega), An vals k hk i hi]
 exact ⟨h.C.L.cell 5, h.C.L.cell 7, z 1 (by omega), z 2 (by omega), z 4 (by omega), z 5 (by omega), z 7 (by omega), h.v.frozenAt _, h.v.frozenAt _⟩
theorem R8 (g : Nat) (x : EC) (bv vv dv ev : Value) (ds : List (DA × Value)) (w : World) (h : LF F0 W0 w g (Ay x) bv vv dv ev x.vals ds x.ents) (ok : Bl x) (ie : CP x) (t : A8 x ds) :
  Calls Tryz.prog 65 #[.pointer (some ⟨g, 0, none⟩)] w fun e w' => e = .returned (.int .i64 (BZ x).1) ∧ ∃ ev' ds', LF F0 W0 w' g (Ay (BZ x).2) bv vv dv ev' (BZ x).2.vals ds' (BZ x).2.ents ∧ A8 (BZ x).2 ds' := by
 have okx : Ok x.height x := ok
 have hg0 := okx.hgt0
 have hg1 := okx.hgt1
 have v5 := okx.v5
 have b6 := okx.b6
 have c3 : w.cell? ⟨g, 3, none⟩ = some (.int .i64 x.height) := h.C.L.cell 3
 by_cases he : 1000 <= x.height
 ·have e0 : BZ x = (14, x) := by unfold BZ; rw [if_pos he]
  rw [e0]
  have HF := Hd h
  have HT := Hd t
  clear h t e0 okx ok ie
  have hq : (x.height == 1000) = true := by rw [beq_iff_eq]; omega
  go_enter Tryz.func65, Tryz.ntmps65
  go_wp2
  go_ret
  exact ⟨rfl, ev, ds, HF.out, HT.out⟩
 have hlt0 : x.height < 1000 := by omega
 have e0 : BZ x = (0, DC (Ba (upF x))) := by unfold BZ; rw [if_neg he]
 have HTie : Hid (∀ ds', ds'.map Prod.fst = Cl x (ds.map Prod.fst) x.vals.length -> A8 (DC (Ba (upF x))) ds') := fun ds' e => by
  have := Qw ok t hlt0 e
  rw [e0] at this; exact this
 rw [e0]
 simp only
 have hfee := okx.feeOk
 have HF := Hd hfee
 have HOk := Hd ok
 have HT := Hd t
 have Hie := Hd ie
 have hq : (x.height == 1000) = false := by rw [beq_eq_false_iff_ne]; omega
 obtain ⟨va, vc, rfl⟩ := Ac h.v
 have c5 : w.cell? ⟨g, 5, none⟩ = some (.int .i64 x.fees) := h.C.L.cell 5
 have HL := Hd h
 have HB : Hid (Calls Tryz.prog 45 #[.pointer (some ⟨g, 0, none⟩)] w fun e w' => e = .returned (.int .i64 (Ad x.vals)) ∧ w = w') :=
  IR g { height := x.height, bal := x.bal, fees := x.fees, pool := x.pool, bonded := 0, loose := 0, vals := x.vals, dels := ds.map (fun d => d.1.ds), ents := x.ents } w (h.rd _ rfl rfl rfl rfl rfl rfl rfl) hfee.vb (by show x.vals.length <= _; omega)
 have HQ : Hid (∀ k, k <= x.vals.length -> -(1000000 * k) <= (Am x x.fees (Ad x.vals) k).2 ∧ (Am x x.fees (Ad x.vals) k).2 <= 1000000) := fun k hk => EX hfee k hk
 have hp0 := okx.pool
 have hp1 := okx.bds.2.2.1
 have hf0 := okx.fees
 have hf1 := okx.bds.2.1
 have hBn : 0 <= Ad x.vals ∧ Ad x.vals <= 1000000000 := by
  have := D4 hfee.vb x.vals.length (Nat.le_refl _)
  rw [List.take_length] at this
  omega
 have HUp : Hid (Ay (upF x) = { Ay x with pool := x.pool + (Am x x.fees (Ad x.vals) x.vals.length).2, fees := 0, height := x.height + 1 } ∧ (upF x).ents = x.ents ∧ 0 <= (Am x x.fees (Ad x.vals) x.vals.length).2 ∧ (Am x x.fees (Ad x.vals) x.vals.length).2 <= 1000000) := by
  have hso := Fq okx (by omega) x.vals.length (Nat.le_refl _)
  have hlp := GR x x.fees (Ad x.vals) x.vals.length v5
  have hfe := Ij x x.fees (Ad x.vals) x.vals.length
  have e1 := hso.top
  have e2 := hso.bal
  have e3 := hlp.mat
  refine ⟨?_, hso.ents, hso.l0, (EX hfee _ (Nat.le_refl _)).2⟩
  simp only [Ay, upF, BR]
  rw [e1, e2, e3, hfe]
 have HOu : Hid (Ok (x.height + 1) (upF x)) := (Ok.up okx rfl hlt0).1
 clear h t ok ie okx hfee e0 he
 go_enter Tryz.func65, Tryz.ntmps65
 go_wp2_with fail
 refine HB.out.mono ?_
 rintro e w' ⟨rfl, rfl⟩
 clear HB
 go_wp2_with fail
 go_loopw [4, 5] (fun lf i wr => ∃ k : Nat, k <= x.vals.length ∧ i = .int .i64 k ∧ lf = .int .i64 (Am x x.fees (Ad x.vals) k).2 ∧ BlI F0 W0 wr g x bv (.slice va x.vals.length vc) dv ev (ds.map Prod.fst) k) (fun _ i _ => x.vals.length - (intOf i).toNat)
 case atStart => exact ⟨0, Nat.zero_le _, rfl, rfl, ds, HL.out, rfl⟩
 case round =>
  clear HL c3 c5
  obtain ⟨k, hk, rfl, rfl, ds', hD, hm⟩ := hrel
  obtain ⟨lq0, lq1⟩ := HQ.out k hk
  have hin := Ct x x.fees (Ad x.vals) k
  have hln := hin.len
  have c7 : wr.cell? ⟨g, 7, none⟩ = some (.slice va x.vals.length vc) := hD.C.L.cell 7
  by_cases hc : k < x.vals.length ∧ 0 < Ad x.vals
  ·obtain ⟨hkx, hB0⟩ := hc
   have hvk := hin.val k (Nat.le_refl _)
   have HSn : Hid (Am x x.fees (Ad x.vals) (k + 1) = if (x.val k).inset = true ∧ 0 < Ad x.vals then (AH (Am x x.fees (Ad x.vals) k).1 k (Bx x k), (Am x x.fees (Ad x.vals) k).2 - Bx x k) else Am x x.fees (Ad x.vals) k) := G2 x k
   have HCr : Hid (Cl x (ds.map Prod.fst) (k + 1) = if (x.val k).inset = true ∧ 0 < Ad x.vals then (Cl x (ds.map Prod.fst) k).map (Bp k ⟨ofF x k, (x.val k).shares⟩) else Cl x (ds.map Prod.fst) k) := rfl
   have HCT : Hid (CrT x (Am x x.fees (Ad x.vals) k).1 k (Cl x (ds.map Prod.fst) k)) := CrT.loop HOk.out HT.out k hk
   have hso := Fq (x := x) HOk.out (by omega) k hk
   generalize hsl : Am x x.fees (Ad x.vals) k = p at *
   clear hsl
   obtain ⟨y, lf⟩ := p
   simp only at hD hln hvk lq0 lq1 HCT hin
   have hky : k < y.vals.length := by omega
   have hrow := hD.v
   rw [hln] at hrow
   obtain ⟨gv, rfl, _⟩ := Ag hrow (by omega)
   clear hrow
   have hyk : y.vals[k] = x.val k := (y.val_eq hky).trans hvk
   obtain ⟨c5', _, z1, z2, z4, z5, z7, f4, f5⟩ := hD.blk hln hky
   have c5 : wr.cell? ⟨g, 5, none⟩ = some (.int .i64 x.fees) := c5'
   clear c5'
   rw [hyk] at z1 z2 z4 z5 z7
   have hgne : g ≠ gv := fun e => Has.apart hD.C.L hD.v (by decide) (by rw [e]; rfl)
   have hgne' : gv ≠ g := fun e => hgne e.symm
   cases hi : (x.val k).inset with
   | false =>
    rw [hi] at z7
    have HN : Hid (BlI F0 W0 wr g x bv (.slice (some ⟨gv, 0, none⟩) x.vals.length vc) dv ev (ds.map Prod.fst) (k + 1) ∧ (Am x x.fees (Ad x.vals) (k + 1)).2 = lf) := by
     have e1 := HSn.out
     rw [if_neg (by rw [hi]; simp)] at e1
     have e2 := HCr.out
     rw [if_neg (by rw [hi]; simp)] at e2
     refine ⟨⟨ds', ?_, by rw [e2]; exact hm⟩, by rw [e1]⟩
     rw [e1]; exact hD
    clear hD hm HSn HCr hyk hso hin HCT hvk
    go_wp2
    exact ⟨⟨k + 1, by omega, by go_num, by rw [HN.out.2], HN.out.1⟩, by simp [intOf]; omega⟩
   | true =>
    rw [hi] at z7
    obtain ⟨q0, q1, q2, q3⟩ := MA HF.out hkx hi hB0
    have hgot : x.fees * (x.val k).tokens / Ad x.vals = Bx x k := rfl
    have HG : Hid (x.fees * (x.val k).tokens / Ad x.vals = Bx x k) := rfl
    obtain ⟨r0, r1⟩ := HF.out.r k hkx
    obtain ⟨k0, k1⟩ := HF.out.k k hkx
    obtain ⟨o0, o1⟩ := HF.out.o k hkx
    obtain ⟨t0, t1⟩ := (show 0 <= (x.val k).tokens ∧ (x.val k).tokens <= 1000000 from ⟨(HF.out.v k hkx).t0, (HF.out.v k hkx).t1⟩)
    have m0 := Int.mul_nonneg hf0 t0
    have m1 := Int.mul_le_mul hf1 t1 t0 (by omega)
    have m2 : 0 <= Bx x k * (x.val k).rate := Int.mul_nonneg q0 r0
    have m3 : Bx x k * (x.val k).rate <= Bx x k * 100 := Int.mul_le_mul_of_nonneg_left r1 q0
    have hP1 : ∀ u, LF F0 W0 u g (Ay x) bv (.slice (some ⟨gv, 0, none⟩) x.vals.length vc) dv ev y.vals ds' x.ents -> LF F0 W0 (u.setCell ⟨gv, k * 8 + 5, none⟩ (.int .i64 ((x.val k).outs + Bx x k))) g (Ay x) bv (.slice (some ⟨gv, 0, none⟩) x.vals.length vc) dv ev (y.vals.modify k (fun v => { v with outs := v.outs + Bx x k })) ds' x.ents := fun u hu => hu.setVal hln.symm (k * 8 + 5) (.int .i64 ((x.val k).outs + Bx x k)) (Bk y.vals k hky 5 _ _ (by rw [hyk]; rfl) (by omega)) (by simp)
    have hky2 : k < (y.vals.modify k (fun v => { v with outs := v.outs + Bx x k })).length := by simpa using hky
    have hln2 : (y.vals.modify k (fun v => { v with outs := v.outs + Bx x k })).length = x.vals.length := by simpa using hln
    have hyk2 : (y.vals.modify k (fun v => { v with outs := v.outs + Bx x k }))[k] = { x.val k with outs := (x.val k).outs + Bx x k } := by rw [List.getElem_modify, if_pos rfl, hyk]
    have hP2 : ∀ u, LF F0 W0 u g (Ay x) bv (.slice (some ⟨gv, 0, none⟩) x.vals.length vc) dv ev (y.vals.modify k (fun v => { v with outs := v.outs + Bx x k })) ds' x.ents -> LF F0 W0 (u.setCell ⟨gv, k * 8 + 4, none⟩ (.int .i64 ((x.val k).comm + Bx x k * (x.val k).rate / 100))) g (Ay x) bv (.slice (some ⟨gv, 0, none⟩) x.vals.length vc) dv ev ((y.vals.modify k (fun v => { v with outs := v.outs + Bx x k })).modify k (fun v => { v with comm := v.comm + Bx x k * (x.val k).rate / 100 })) ds' x.ents := fun u hu => hu.setVal hln2.symm (k * 8 + 4) (.int .i64 ((x.val k).comm + Bx x k * (x.val k).rate / 100)) (Bk _ k hky2 4 _ _ (by rw [hyk2]; rfl) (by omega)) (by simp)
    have ev1 : (y.vals.modify k (fun v => { v with outs := v.outs + Bx x k })).modify k (fun v => { v with comm := v.comm + Bx x k * (x.val k).rate / 100 }) = (AH y k (Bx x k)).vals := by
     rw [D1, CR, CR, hvk]
    rw [ev1] at hP2
    have hvl : (AH y k (Bx x k)).vals.length = x.vals.length := by rw [GF]; exact hln
    have hkt : k < (AH y k (Bx x k)).vals.length := by omega
    have hsh : (AH y k (Bx x k)).vals[k].shares = (x.val k).shares := by
     rw [EC.val_eq _ hkt, Kf y k _ hky, hvk]
    have HD := Hd hD
    have HP1 := Hd hP1
    have HC1 : Hid (∀ u, LF F0 W0 u g (Ay x) bv (.slice (some ⟨gv, 0, none⟩) x.vals.length vc) dv ev y.vals ds' x.ents -> u.cell? ⟨g, 7, none⟩ = some (.slice (some ⟨gv, 0, none⟩) x.vals.length vc) ∧ u.cell? ⟨gv, k * 8 + 5, none⟩ = some (.int .i64 (x.val k).outs) ∧ u.frozen? ⟨gv, k * 8 + 5, none⟩ = false) := fun u hu => by
     obtain ⟨_, d7, _, _, _, d5, _, _, df⟩ := hu.blk hln hky
     rw [hyk] at d5
     exact ⟨d7, d5, df⟩
    have HC2 : Hid (∀ u, LF F0 W0 u g (Ay x) bv (.slice (some ⟨gv, 0, none⟩) x.vals.length vc) dv ev (y.vals.modify k (fun v => { v with outs := v.outs + Bx x k })) ds' x.ents -> u.cell? ⟨g, 7, none⟩ = some (.slice (some ⟨gv, 0, none⟩) x.vals.length vc) ∧ u.cell? ⟨gv, k * 8 + 4, none⟩ = some (.int .i64 (x.val k).comm) ∧ u.frozen? ⟨gv, k * 8 + 4, none⟩ = false) := fun u hu => by
     obtain ⟨_, d7, _, _, d4, _, _, df, _⟩ := hu.blk hln2 hky2
     rw [hyk2] at d4
     exact ⟨d7, d4, df⟩
    have HP2 := Hd hP2
    have hmem : ∀ d ∈ ds', POk d.1.parts ⟨ofF x k, (x.val k).shares⟩ := fun d hd => by
     refine HCT.out.pok HOk.out (by unfold ofF; omega) (by unfold ofF; omega) d.1 ?_
     rw [<- hm]; exact List.mem_map.2 ⟨d, hd, rfl⟩
    have hdl : ds'.length <= 1000 := by
     have e1 := congrArg List.length hm
     rw [List.length_map, LQ, List.length_map] at e1
     have := HT.out.len b6 v5
     omega
    have HCd : Hid (∀ wx, LF F0 W0 wx g (Ay x) bv (.slice (some ⟨gv, 0, none⟩) x.vals.length vc) dv ev (AH y k (Bx x k)).vals ds' x.ents -> Calls Tryz.prog 125 #[.pointer (some ⟨g, 0, none⟩), .int .i64 k, .int .i64 (Bx x k - Bx x k * (x.val k).rate / 100)] wx fun e w' => e = .returned (.tuple #[]) ∧ BlI F0 W0 w' g x bv (.slice (some ⟨gv, 0, none⟩) x.vals.length vc) dv ev (ds.map Prod.fst) (k + 1) ∧ (Am x x.fees (Ad x.vals) (k + 1)).2 = lf - Bx x k) := fun wx hx => by
     refine (L5 g _ dv (AH y k (Bx x k)).vals ds' [.int .i64 x.top, .int .i64 x.mature, .int .i64 x.fee, .int .i64 x.height, bv, .int .i64 x.fees, .int .i64 x.pool, .slice (some ⟨gv, 0, none⟩) x.vals.length vc, dv, ev] k (ofF x k) wx ⟨hx.C.L, rfl, rfl, hx.v, hx.d, hx.p⟩ hkt (by omega) hdl (fun i hi => by rw [hsh]; exact hmem _ (List.getElem_mem hi)) (LB F0 W0) (fun b hb => .inr (Nat.le_trans hx.fr.size hb)) (fun d hd b hb => by
      obtain ⟨i, hi, rfl⟩ := List.getElem_of_mem hd
      exact hx.fp i hi b hb)).mono ?_
     rintro e w' ⟨rfl, ds2, hD2, hm2, hK2, hO2⟩
     have e1 := HSn.out
     rw [if_pos ⟨hi, hB0⟩] at e1
     have e2 := HCr.out
     rw [if_pos ⟨hi, hB0⟩] at e2
     refine ⟨rfl, ⟨ds2, ?_, ?_⟩, by rw [e1]⟩
     ·rw [e1]; exact hx.credited hD2 rfl hK2 hO2
     ·rw [e2, hm2, hm, hsh]
    have HOf : Hid (Bx x k - Bx x k * (x.val k).rate / 100 = ofF x k) := rfl
    clear hD hm HSn HCr hyk hso hin HCT hvk hP1 hP2 ev1 hvl hkt hsh hmem hdl hky2 hln2 hyk2
    have hB1 : ¬ Ad x.vals = 0 := by omega
    have hw6 : IntKind.i64.wrap ((IntKind.i64.wrap (x.fees * (x.val k).tokens)).tdiv (Ad x.vals)) = Bx x k := by
     rw [Go.IntWalk.i64_in (x.fees * (x.val k).tokens) (by omega), Int.tdiv_eq_ediv_of_nonneg m0, Go.IntWalk.i64_in _ (by rw [hgot]; omega)]; exact hgot
    have hw7 : wrap64 ((wrap64 (Bx x k * (x.val k).rate)).tdiv 100) = Bx x k * (x.val k).rate / 100 := by
     rw [Go.IntWalk.wrap64_in (Bx x k * (x.val k).rate) (by omega), Int.tdiv_eq_ediv_of_nonneg m2, Go.IntWalk.wrap64_in _ (by omega)]
    have HW6 := Hd hw6
    have HW7 := Hd hw7
    clear hw6 hw7 hgot
    generalize hown : Bx x k * (x.val k).rate / 100 = own at *
    generalize (x.val k).rate = vr at *
    generalize (x.val k).tokens = vt at *
    generalize (x.val k).comm = vcm at *
    generalize (x.val k).outs = vou at *
    go_wp2_with fail
    refine wp_region_still_tail 15 (by kernel_rfl) (by kernel_rfl) ?_
    simp only [List.take_succ_cons, List.take_zero, List.drop_succ_cons, List.drop_zero]
    repeat still_step
    refine wpStill_nil ?_
    go_wp2_with fail
    simp only [HW6.out, HG.out, HW7.out]
    refine (show ∀ w9, LF F0 W0 w9 g (Ay x) bv (.slice (some ⟨gv, 0, none⟩) x.vals.length vc) dv ev y.vals ds' x.ents -> Code.wp _ _ _ _ w9 from ?_) _ HD.out.drew
    intro w9 h9
    clear HD z1 z2 z4 z5 z7 f4 f5 c5 c7
    obtain ⟨d7, d5, df⟩ := HC1.out w9 h9
    have H9 : Hid _ := HP1.out _ h9
    clear h9
    refine wp_region_still_tail 17 (by kernel_rfl) (by kernel_rfl) ?_
    simp only [List.take_succ_cons, List.take_zero, List.drop_succ_cons, List.drop_zero]
    repeat still_step
    refine wpStill_nil ?_
    go_wp2_with fail
    refine (show ∀ wx, LF F0 W0 wx g (Ay x) bv (.slice (some ⟨gv, 0, none⟩) x.vals.length vc) dv ev (y.vals.modify k (fun v => { v with outs := v.outs + Bx x k })) ds' x.ents -> Code.wp _ _ _ _ wx from ?_) _ H9.out.drew
    intro wx hx9
    clear H9 d7 d5 df
    obtain ⟨d7, d4, df⟩ := HC2.out wx hx9
    have H9 : Hid _ := HP2.out _ hx9
    clear hx9
    refine wp_region_still_tail 17 (by kernel_rfl) (by kernel_rfl) ?_
    simp only [List.take_succ_cons, List.take_zero, List.drop_succ_cons, List.drop_zero]
    repeat still_step
    refine wpStill_nil ?_
    go_wp2_with fail
    refine (HCd.out _ H9.out.drew).mono ?_
    rintro e w3 ⟨rfl, hB3⟩
    have HN := Hd hB3
    clear hB3 HCd H9 d7 d4 df
    go_wp2
    refine And.intro ?_ ?_
    ·first | exact ⟨k + 1, by omega, by go_num, by rw [HN.out.2], HN.out.1⟩ | ((repeat apply Exists.intro); exact ⟨⟨k + 1, by omega, by go_num, by rw [HN.out.2], HN.out.1⟩, rfl⟩)
    ·simp [intOf]; omega
  ·have HEnd : Hid (BlI F0 W0 wr g x bv (.slice va x.vals.length vc) dv ev (ds.map Prod.fst) x.vals.length ∧ (Am x x.fees (Ad x.vals) k).2 = (Am x x.fees (Ad x.vals) x.vals.length).2) := by
    by_cases hlt : k < x.vals.length
    ·have hB : ¬ 0 < Ad x.vals := fun h => hc ⟨hlt, h⟩
     refine ⟨⟨ds', ?_, ?_⟩, ?_⟩
     ·rw [Ft x _ _ hB]; rw [Ft x _ _ hB] at hD; exact hD
     ·rw [Jk x _ hB]; rw [Jk x _ hB] at hm; exact hm
     ·rw [Ft x _ _ hB, Ft x _ _ hB]
    ·have hke : k = x.vals.length := by omega
     subst hke
     exact ⟨⟨ds', hD, hm⟩, rfl⟩
   have c3 : wr.cell? ⟨g, 3, none⟩ = some (.int .i64 x.height) := hD.C.L.cell 3
   have c5 : wr.cell? ⟨g, 5, none⟩ = some (.int .i64 x.fees) := hD.C.L.cell 5
   have c6 : wr.cell? ⟨g, 6, none⟩ = some (.int .i64 x.pool) := hD.C.L.cell 6
   have f3 := hD.C.L.frozen 3
   have f5 := hD.C.L.frozen 5
   have f6 := hD.C.L.frozen 6
   have hgl := hD.C.L.lt
   clear hD hm hin hln
   rw [HEnd.out.2] at lq0 lq1 ⊢
   obtain ⟨⟨ds2, hD2, hm2⟩, _⟩ := HEnd.out
   obtain ⟨u1, u2, u3, u4⟩ := HUp.out
   have HT2 : Hid (A8 (DC (Ba (upF x))) ds2) := HTie.out ds2 hm2
   obtain ⟨lf, hlf⟩ : ∃ lf, lf = (Am x x.fees (Ad x.vals) x.vals.length).2 := ⟨_, rfl⟩
   rw [<- hlf] at lq0 lq1 u1 u3 u4 ⊢
   have HL3 : Hid (LF F0 W0 (((wr.setCell ⟨g, 6, none⟩ (.int .i64 (x.pool + lf))).setCell ⟨g, 5, none⟩ (.int .i64 0)).setCell ⟨g, 3, none⟩ (.int .i64 (x.height + 1))) g (Ay (upF x)) bv (.slice va x.vals.length vc) dv ev (upF x).vals ds2 (upF x).ents) := by
    rw [u1, u2]
    have h1 := hD2.setPool (x.pool + lf)
    have h2 := h1.setHead 5 _ (h1.C.setFees 0)
    exact h2.setHead 3 (.int .i64 (x.height + 1)) (c' := { Ay x with pool := x.pool + lf, fees := 0, height := x.height + 1 }) ⟨h2.C.L.set 3 _, Aa h2.C.b _ _ (fun e => Has.apart h2.C.L h2.C.b (by decide) e.symm)⟩
   have HPay : Hid (∀ u, LF F0 W0 u g (Ay (upF x)) bv (.slice va x.vals.length vc) dv ev (upF x).vals ds2 (upF x).ents -> Calls Tryz.prog 126 #[.pointer (some ⟨g, 0, none⟩)] u fun e w' => e = .returned (.tuple #[]) ∧ ∃ ev', LF F0 W0 w' g (Ay (Ba (upF x))) bv (.slice va x.vals.length vc) dv ev' (upF x).vals ds2 (Ba (upF x)).ents) := fun u hu => by
    have oku := HOu.out
    have hel : (upF x).ents.length <= 120 := by rw [u2]; exact Kh HOk.out Hie.out
    have b6u := oku.b6
    obtain ⟨q1, q2, q3, q4, q5⟩ := oku.bds
    have hhu : (upF x).height = x.height + 1 := rfl
    have m0 := oku.mat0
    have m1 := oku.mat1
    have hle : ∀ e, e ∈ (upF x).ents -> (upF x).height <= e.made + (upF x).mature := fun e he => by
     rw [u2] at he
     have h1 := Hie.out.en.lv e he
     have h2 : (upF x).mature = x.mature := congrArg LC.mature u1
     rw [hhu, h2]; omega
    have hbal : ∀ k (h : k < (Ay (upF x)).bal.length), 0 <= (Ay (upF x)).bal[k] ∧ (Ay (upF x)).bal[k] <= 1000000000 := fun k hk => by
     have hk' : k < (upF x).bal.length := hk
     have h1 := oku.bal k hk'
     have h2 := q1 k hk'
     have e : (upF x).balAt k = (Ay (upF x)).bal[k] := by show (upF x).bal.getD k 0 = (upF x).bal[k]; simp [hk']
     rw [e] at h1 h2
     omega
    have hE : EOk (Ay (upF x)) (upF x).ents := by
     refine ⟨by omega, fun k hk => ?_⟩
     have h1 := oku.ent _ (List.getElem_mem hk)
     obtain ⟨j, e1, e2⟩ := h1.w
     have h2 := q5 k hk
     have h3 := h1.m0
     have h4 := h1.m1
     have h5 := h1.a0
     have e3 : (Ay (upF x)).bal.length = (upF x).bal.length := rfl
     omega
    have := Qr g (Ay (upF x)) bv (.slice va x.vals.length vc) dv ev (upF x).ents u hu.C hE hbal hu.e ⟨by show 0 <= (upF x).mature; omega, by show (upF x).mature <= 1000; omega⟩ ⟨by show 0 <= (upF x).height; omega, by show (upF x).height <= 100000; omega⟩ (by show (upF x).bal.length <= 1000; omega)
    rw [NN (upF x) hle] at this
    refine this.mono ?_
    rintro e w' ⟨rfl, ev', h1, h2, h3, h4⟩
    exact ⟨rfl, ev', hu.paidUp h1 h2 h3 h4⟩
   have HCh : Hid (∀ u ev', LF F0 W0 u g (Ay (Ba (upF x))) bv (.slice va x.vals.length vc) dv ev' (upF x).vals ds2 (Ba (upF x)).ents -> Calls Tryz.prog 127 #[.pointer (some ⟨g, 0, none⟩)] u fun e w' => e = .returned (.tuple #[]) ∧ LF F0 W0 w' g (Ay (DC (Ba (upF x)))) bv (.slice va x.vals.length vc) dv ev' (DC (Ba (upF x))).vals ds2 (DC (Ba (upF x))).ents) := fun u ev' hu => by
    have oku := HOu.out
    have t0 := oku.top0
    have v5u := oku.v5
    have := Lx g (upF x).top (.slice va x.vals.length vc) (upF x).vals _ u ⟨hu.C.L, rfl, rfl, hu.v, by omega⟩
    rw [Mj _ _ (by omega)] at this
    refine this.mono ?_
    rintro e w' ⟨rfl, h1, h2⟩
    exact ⟨rfl, hu.chosen h1 rfl h2⟩
   clear hD2 hm2 u1 u2 hlf HEnd HUp HTie HQ HF HOk HT Hie HOu
   rcases (show ¬ k < x.vals.length ∨ (k < x.vals.length ∧ ¬ 0 < Ad x.vals) by omega) with hx1 | ⟨hx1, hx2⟩
   all_goals
    clear hc
    go_wp2_with fail
    refine (HPay.out _ HL3.out).mono ?_
    rintro e w4 ⟨rfl, ev4, h4⟩
    have H4 : Hid _ := h4
    clear h4 HL3 HPay c3 c5 c6 c7 f3 f5 f6
    go_wp2_with fail
    refine (HCh.out _ _ H4.out).mono ?_
    rintro e w5 ⟨rfl, h5⟩
    have H5 : Hid _ := h5
    clear h5 H4 HCh
    go_wp2
    go_ret
    exact ⟨rfl, ev4, ds2, H5.out, HT2.out⟩
end Go.Proofs.YtohjjgefklhmaaaGreatDoor
