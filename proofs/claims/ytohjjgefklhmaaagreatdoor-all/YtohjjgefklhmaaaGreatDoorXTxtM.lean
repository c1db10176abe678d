import Derived.Test.YtohjjgefklhmaaaGreatDoorESee4M
import Derived.Lib.ItoaMem
import Derived.Lib.ItoaLen
namespace Go.Proofs.YtohjjgefklhmaaaGreatDoor
open Go.ChangeShapes Go.WideShapes Go.ChangeAt Go.RowKit
set_option linter.unusedVariables false
set_option maxHeartbeats 40000000
set_option maxRecDepth 100000
variable {s : List UInt8} {most m h : Int} {l rest : List Int} {i n nv k j : Nat} {y x x' x0 : EC} {l' : List ES} {G : Nat -> Nat -> Int -> Int -> Prop}
def J9 (n : Int) : List UInt8 := Lib.itoa n ++ [32]
def txt : List Int -> List UInt8
 | [] => []
 | n :: l => J9 n ++ txt l
theorem IW (l m : List Int) : txt (l ++ m) = txt l ++ txt m := by
 induction l with
 | nil => rfl
 | cons a l ih => simp only [List.cons_append, txt, ih, List.append_assoc]
theorem O8 (l : List Int) (n : Int) : txt (l ++ [n]) = txt l ++ (Lib.itoa n ++ [32]) := by
 rw [IW]; simp [txt, J9]
theorem Ek (l : List Int) (c : Nat) (h : ∀ n, n ∈ l -> (J9 n).length <= c) : (txt l).length <= c * l.length := by
 induction l with
 | nil => simp [txt]
 | cons a l ih =>
  have h1 := h a (by simp)
  have h2 := ih (fun n hn => h n (by simp [hn]))
  simp only [txt, List.length_append, List.length_cons, Nat.mul_add, Nat.mul_one]; omega
theorem LI (n : Int) (h0 : -9223372036854775808 <= n) (h1 : n <= 9223372036854775807) : (J9 n).length <= 22 := by
 have := Lib.itoa_length_le n h0 h1
 simp only [J9, List.length_append, List.length_singleton]; omega
theorem Me (k : Nat) : ∀ (u : Nat), 1 <= k -> u < 10 ^ k -> Lib.nDigits u <= k := by
 induction k with
 | zero => intro u h; omega
 | succ k ih =>
  intro u _ h
  by_cases hu : u < 10
  ·rw [Lib.nDigits_small hu]; omega
  ·rw [Lib.nDigits_big hu]
   have hk : 1 <= k := by
    rcases Nat.eq_zero_or_pos k with rfl | hk
    ·simp at h; omega
    ·exact hk
   have := ih (u / 10) hk (by rw [Nat.pow_succ] at h; omega)
   omega
theorem KX (n : Int) (k : Nat) (hk : 1 <= k) (h0 : 0 <= n) (h1 : n.toNat < 10 ^ k) : (J9 n).length <= k + 1 := by
 obtain ⟨u, rfl⟩ := Int.eq_ofNat_of_zero_le h0
 have h2 : Lib.itoa ((u : Nat) : Int) = Lib.decDigits u := Lib.itoa_nonneg u
 simp only [J9, h2, List.length_append, List.length_singleton, Lib.decDigits_length]
 have := Me k u hk (by simpa using h1)
 omega
def DR (c : UInt8) : Bool := decide (48 <= c.toNat) && decide (c.toNat <= 57)
def rdN (most : Int) : List UInt8 -> Int -> Int × Nat
 | [], n => (n, 0)
 | c :: l, n => if DR c = true ∧ n <= most then ((rdN most l (n * 10 + ((c.toNat : Int) - 48))).1, (rdN most l (n * 10 + ((c.toNat : Int) - 48))).2 + 1) else (n, 0)
theorem Dn (c : UInt8) : DR c = true ↔ 48 <= c.toNat ∧ c.toNat <= 57 := by simp [DR]
theorem RU (most : Int) (l : List UInt8) : ∀ n : Int, 0 <= n -> 0 <= (rdN most l n).1 := by
 induction l with
 | nil => intro n h; exact h
 | cons c l ih =>
  intro n h
  simp only [rdN]
  split
  ·rename_i hc
   have := (Dn c).1 hc.1
   exact ih _ (by omega)
  ·exact h
theorem Re (most : Int) (l : List UInt8) : ∀ n : Int, (rdN most l n).2 <= l.length := by
 induction l with
 | nil => intro n; simp [rdN]
 | cons c l ih =>
  intro n
  simp only [rdN]
  split
  ·have := ih (n * 10 + ((c.toNat : Int) - 48)); simp only [List.length_cons]; omega
  ·simp
theorem Ik (most : Int) (A B : List UInt8) : ∀ (n m : Int), rdN most A n = (m, A.length) -> rdN most (A ++ B) n = ((rdN most B m).1, (rdN most B m).2 + A.length) := by
 induction A with
 | nil => intro n m h; simp only [rdN, List.length_nil, Prod.mk.injEq] at h; obtain ⟨rfl, _⟩ := h; simp
 | cons c A ih =>
  intro n m h
  simp only [rdN] at h
  simp only [List.cons_append, rdN]
  split at h
  ·rename_i hc
   rw [if_pos hc]
   simp only [Prod.mk.injEq, List.length_cons, Nat.add_right_cancel_iff] at h
   have := ih (n * 10 + ((c.toNat : Int) - 48)) m (by rw [<- h.1, <- h.2])
   rw [this]
   simp only [Prod.mk.injEq, List.length_cons, true_and]; omega
  ·simp only [Prod.mk.injEq, List.length_cons] at h; omega
theorem Le (i : Nat) (h : i < 10) : (UInt8.ofNat (48 + i)).toNat = 48 + i := by
 simp only [UInt8.toNat_ofNat']; omega
theorem Q6 (most : Int) (u : Nat) : (u : Int) <= most -> rdN most (Lib.decDigits u) 0 = ((u : Int), (Lib.decDigits u).length) := by
 induction u using Nat.strongRecOn with
 | _ u ih =>
  intro hu
  have one : ∀ (d : Nat) (n : Int), d < 10 -> n <= most -> rdN most [UInt8.ofNat (48 + d)] n = (n * 10 + d, 1) := by
   intro d n hd hn
   have e := Le d hd
   simp only [rdN]
   rw [if_pos ⟨(Dn _).2 (by rw [e]; omega), hn⟩, e]
   simp only [Prod.mk.injEq, and_true]; omega
  by_cases h : u < 10
  ·rw [Lib.decDigits, dif_pos h, one u 0 h (by omega)]
   simp
  ·rw [Lib.decDigits, dif_neg h]
   have h1 := ih (u / 10) (by omega) (by omega)
   rw [Ik most _ _ 0 _ h1, one (u % 10) _ (by omega) (by omega)]
   simp only [List.length_append, List.length_singleton, Prod.mk.injEq]
   omega
structure RSE where
 p : Nat
 bad : Bool
def DE (s : List UInt8) (p : Nat) : Bool := s[p]? == some 32
def nx (s : List UInt8) (most : Int) (st : RSE) : Int × RSE :=
 let q := rdN most (s.drop st.p) 0
 let e := DE s (st.p + q.2)
 let b := st.bad || (decide (q.2 < 1) || (decide (most < q.1) || !e))
 (if b = true then 0 else q.1, ⟨if e = true then st.p + q.2 + 1 else st.p + q.2, b⟩)
theorem Cg (s : List UInt8) (most : Int) (st : RSE) (h : 0 <= most) : 0 <= (nx s most st).1 ∧ (nx s most st).1 <= most := by
 simp only [nx]
 split
 ·exact ⟨Int.le_refl _, h⟩
 ·rename_i hb
  simp only [Bool.or_eq_true, decide_eq_true_eq, not_or] at hb
  exact ⟨RU _ _ _ (Int.le_refl _), by omega⟩
theorem nx_bad (s : List UInt8) (most : Int) (st : RSE) (h : (nx s most st).2.bad = false) : st.bad = false := by
 simp only [nx, Bool.or_eq_false_iff] at h; exact h.1
def AtN (s : List UInt8) (st : RSE) (ns : List Int) : Prop := st.bad = false ∧ s.drop st.p = txt ns
theorem BL {st : RSE} {ns : List Int} (h : AtN s st (m :: ns)) (h0 : 0 <= m) (h1 : m <= most) : (nx s most st).1 = m ∧ AtN s (nx s most st).2 ns := by
 obtain ⟨u, rfl⟩ := Int.eq_ofNat_of_zero_le h0
 obtain ⟨hb, hd⟩ := h
 have e1 : Lib.itoa ((u : Nat) : Int) = Lib.decDigits u := Lib.itoa_nonneg u
 simp only [txt, J9, e1, List.append_assoc, List.singleton_append] at hd
 have hq : rdN most (s.drop st.p) 0 = ((u : Int), (Lib.decDigits u).length) := by
  rw [hd, Ik most _ _ 0 _ (Q6 most u h1)]
  have : rdN most (32 :: txt ns) (u : Int) = ((u : Int), 0) := by
   simp only [rdN]; rw [if_neg (by rintro ⟨hc, _⟩; exact absurd hc (by decide))]
  rw [this]; simp
 have hlen : 1 <= (Lib.decDigits u).length := by rw [Lib.decDigits_length]; exact Lib.nDigits_pos u
 have hat : ∀ i, s[st.p + i]? = (s.drop st.p)[i]? := fun i => by rw [List.getElem?_drop]
 have he : DE s (st.p + (Lib.decDigits u).length) = true := by
  unfold DE
  rw [hat, hd, List.getElem?_append_right (Nat.le_refl _)]
  simp
 have hrest : s.drop (st.p + (Lib.decDigits u).length + 1) = txt ns := by
  rw [Nat.add_assoc, <- List.drop_drop, hd, <- List.drop_drop, List.drop_left]
  rfl
 have hbf : (st.bad || (decide ((Lib.decDigits u).length < 1) || (decide (most < (u : Int)) || !true))) = false := by
  rw [hb]; simp only [Bool.false_or, Bool.not_true, Bool.or_false, Bool.or_eq_false_iff, decide_eq_false_iff_not]; omega
 simp only [nx, AtN, hq, he, hbf, if_true]
 exact ⟨by simp, trivial, hrest⟩
theorem Kn {y : Int} (h : i < l.length) : (l.set i y).getD i 0 = y := by simp [List.getD, h]
theorem La {y : Int} (h : i ≠ n) : (l.set i y).getD n 0 = l.getD n 0 := by
 simp only [List.getD]; rw [List.getElem?_set_ne h]
structure ST (a b : List Int) : Prop where
 la : a.length = 65
 lb : b.length = 65
 sh : ∀ i, i < 30 -> b.getD i 0 = a.getD i 0
 pd : ∀ k j, k < 6 -> j < 5 -> a.getD (k * 5 + j) 0 ≠ 0 -> b.getD (30 + j) 0 - b.getD (35 + (k * 5 + j)) 0 = a.getD (30 + j) 0 - a.getD (35 + (k * 5 + j)) 0
def Sim (x y : EC) : Prop := ∃ t, y = { x with tab := t } ∧ ST x.tab t
theorem Sim.refl' (h : Sim x y) : y.bal = x.bal ∧ y.vals = x.vals ∧ y.ents = x.ents ∧ y.height = x.height ∧ y.fees = x.fees ∧ y.pool = x.pool ∧ y.top = x.top ∧ y.mature = x.mature ∧ y.fee = x.fee := by
 obtain ⟨t, rfl, _⟩ := h; exact ⟨rfl, rfl, rfl, rfl, rfl, rfl, rfl, rfl, rfl⟩
theorem Sim.sh (h : Sim x y) {k j : Nat} (hk : k < 6) (hj : j < 5) : y.sh k j = x.sh k j := by
 obtain ⟨t, rfl, st⟩ := h; exact st.sh _ (by omega)
theorem Sim.val (h : Sim x y) (j : Nat) : y.val j = x.val j := by obtain ⟨t, rfl, st⟩ := h; rfl
def keyE (e : ES) : Int × Int × Int := (e.who, e.val, e.made)
theorem Eu (l : List ES) (a b : Int) : AD l a b = ((l.countP (fun e => decide (e.who = a ∧ e.val = b)) : Nat) : Int) := by
 have key : ∀ (l : List ES) (n : Int), l.foldl (fun n e => if e.who = a ∧ e.val = b then n + 1 else n) n = n + ((l.countP (fun e => decide (e.who = a ∧ e.val = b)) : Nat) : Int) := by
  intro l
  induction l with
  | nil => intro n; simp
  | cons e l ih =>
   intro n
   simp only [List.foldl_cons, List.countP_cons, ih]
   by_cases he : e.who = a ∧ e.val = b
   ·rw [if_pos he]; simp only [he, and_self, decide_true, if_true]; omega
   ·rw [if_neg he]; simp only [he, decide_false]; simp
 unfold AD; rw [key]; omega
structure FS (nv : Nat) (h m : Int) (l : List ES) : Prop where
 vl : ∀ e, e ∈ l -> ∃ j : Nat, e.val = j ∧ j < nv
 so : l.Pairwise (fun a b => a.made <= b.made)
 lv : ∀ e, e ∈ l -> h < e.made + m
 le : ∀ e, e ∈ l -> e.made <= h
 ct : ∀ a b, AD l a b <= 4
theorem FS.sub {l : List ES} (i : FS nv h m l) (s : List.Sublist l' l) : FS nv h m l' :=
 ⟨fun e he => i.vl e (s.subset he), i.so.sublist s, fun e he => i.lv e (s.subset he), fun e he => i.le e (s.subset he), fun a b => by
  have := i.ct a b
  rw [Eu] at this ⊢
  have := s.countP_le (p := fun e => decide (e.who = a ∧ e.val = b))
  omega⟩
theorem FS.key {l : List ES} (i : FS nv h m l) (k : l'.map keyE = l.map keyE) : FS nv h m l' := by
 have hm : ∀ e, e ∈ l' -> ∃ d, d ∈ l ∧ d.who = e.who ∧ d.val = e.val ∧ d.made = e.made := by
  intro e he
  have : keyE e ∈ l.map keyE := by rw [<- k]; exact List.mem_map_of_mem he
  obtain ⟨d, hd, hk⟩ := List.mem_map.1 this
  simp only [keyE, Prod.mk.injEq] at hk
  exact ⟨d, hd, hk.1, hk.2.1, hk.2.2⟩
 refine ⟨fun e he => ?_, ?_, fun e he => ?_, fun e he => ?_, fun a b => ?_⟩
 ·obtain ⟨d, hd, _, h2, _⟩ := hm e he; rw [<- h2]; exact i.vl d hd
 ·have h1 : (l.map keyE).Pairwise (fun a b => a.2.2 <= b.2.2) := List.pairwise_map.2 i.so
  rw [<- k] at h1
  exact (List.pairwise_map (f := keyE) (R := fun a b => a.2.2 <= b.2.2)).1 h1
 ·obtain ⟨d, hd, _, _, h3⟩ := hm e he; rw [<- h3]; exact i.lv d hd
 ·obtain ⟨d, hd, _, _, h3⟩ := hm e he; rw [<- h3]; exact i.le d hd
 ·have e1 : ∀ l : List ES, l.countP (fun e => decide (e.who = a ∧ e.val = b)) = (l.map keyE).countP (fun q => decide (q.1 = a ∧ q.2.1 = b)) := fun l => by rw [List.countP_map]; rfl
  have := i.ct a b
  rw [Eu, e1] at this ⊢
  rw [k]; exact this
theorem FS.add {l : List ES} (i : FS nv h m l) (k j : Nat) (t : Int) (hj : j < nv) (hm : 1 <= m) (hc : AD l k j < 4) : FS nv h m (l ++ [⟨k, j, h, t⟩]) := by
 have hm' : ∀ e, e ∈ l ++ [(⟨k, j, h, t⟩ : ES)] -> e ∈ l ∨ e = ⟨k, j, h, t⟩ := fun e he => by simpa using he
 refine ⟨fun e he => ?_, ?_, fun e he => ?_, fun e he => ?_, fun a b => ?_⟩
 ·rcases hm' e he with he | rfl
  ·exact i.vl e he
  ·exact ⟨j, rfl, hj⟩
 ·rw [List.pairwise_append]
  refine ⟨i.so, by simp, fun a ha b hb => ?_⟩
  simp only [List.mem_singleton] at hb
  subst hb
  exact i.le a ha
 ·rcases hm' e he with he | rfl
  ·exact i.lv e he
  ·simp only; omega
 ·rcases hm' e he with he | rfl
  ·exact i.le e he
  ·exact Int.le_refl _
 ·have h1 := i.ct a b
  rw [Eu] at h1 hc ⊢
  rw [List.countP_append, List.countP_singleton]
  by_cases e : (k : Int) = a ∧ (j : Int) = b
  ·obtain ⟨rfl, rfl⟩ := e
   simp only [and_self, decide_true, if_true]; omega
  ·have e' : decide ((⟨k, j, h, t⟩ : ES).who = a ∧ (⟨k, j, h, t⟩ : ES).val = b) = false := decide_eq_false e
   rw [e', if_neg (by simp)]; omega
theorem Lp (x : EC) (k : Nat) (hk : k <= x.ents.length) : List.Sublist (Au x k).2 (x.ents.take k) ∧ ∀ e, e ∈ (Au x k).2 -> e.made + x.mature ≠ x.height := by
 induction k with
 | zero => exact ⟨by simp [Au], by simp [Au]⟩
 | succ k ih =>
  obtain ⟨i1, i2⟩ := ih (by omega)
  have hlt : k < x.ents.length := by omega
  have ed : x.ents.getD k e0 = x.ents[k] := by simp [hlt]
  have et : x.ents.take (k + 1) = x.ents.take k ++ [x.ents[k]] := by rw [List.take_succ_eq_append_getElem hlt]
  simp only [Au]
  rw [ed]
  split
  ·rw [et]
   exact ⟨i1.trans (List.sublist_append_left _ _), i2⟩
  ·rename_i hne
   rw [et]
   refine ⟨List.Sublist.append i1 (List.Sublist.refl _), fun e he => ?_⟩
   simp only [List.mem_append, List.mem_singleton] at he
   rcases he with he | rfl
   ·exact i2 e he
   ·exact hne
theorem FS.paid (i : FS nv h x.mature x.ents) (hh : x.height = h + 1) : FS nv (h + 1) x.mature (Ba x).ents := by
 obtain ⟨s1, s2⟩ := Lp x x.ents.length (Nat.le_refl _)
 rw [List.take_length] at s1
 have j := i.sub s1
 refine ⟨j.vl, j.so, fun e he => ?_, fun e he => ?_, j.ct⟩
 ·have := j.lv e he
  have := s2 e he
  omega
 ·have := j.le e he
  omega
theorem LY (x : EC) (j : Nat) (hgt p : Int) (k : Nat) : (Aq x j hgt p k).2.map keyE = x.ents.map keyE ∧ (Aq x j hgt p k).2.length = x.ents.length := by
 induction k with
 | zero => exact ⟨rfl, rfl⟩
 | succ k ih =>
  simp only [Aq]
  split
  ·refine ⟨?_, by simpa using ih.2⟩
   simp only
   rw [List.map_set, ih.1]
   apply List.ext_getElem?
   intro i
   by_cases e : k = i
   ·subst e
    by_cases hk : k < x.ents.length
    ·simp [hk, keyE, KQ]
    ·rw [List.getElem?_eq_none (by simp; omega), List.getElem?_eq_none (by simp; omega)]
   ·rw [List.getElem?_set_ne e]
  ·exact ih
structure CP (x : EC) : Prop where
 b1 : 1 <= x.bal.length
 v1 : 1 <= x.vals.length
 ow : ∀ o : Int, o ∈ x.vals.map (fun v => v.owner) -> ∃ i : Nat, o = (i : Int) ∧ i < x.bal.length
 sv : ∀ k j, x.vals.length <= j -> k < 6 -> j < 5 -> x.sh k j = 0
 en : FS x.vals.length x.height x.mature x.ents
structure AR (x x' : EC) : Prop where
 bl : x'.bal.length = x.bal.length
 ow : x'.vals.map (fun v => v.owner) = x.vals.map (fun v => v.owner)
 sv : ∀ k j, x.vals.length <= j -> k < 6 -> j < 5 -> x'.sh k j = x.sh k j
 hg : x'.height = x.height
 ma : x'.mature = x.mature
 en : x'.ents.map keyE = x.ents.map keyE
theorem AR.vl (h : AR x x') : x'.vals.length = x.vals.length := by
 have := congrArg List.length h.ow; simpa using this
theorem AR.refl (x : EC) : AR x x := ⟨rfl, rfl, fun _ _ _ _ _ => rfl, rfl, rfl, rfl⟩
theorem AR.trans {z : EC} (h : AR x y) (h' : AR y z) : AR x z :=
 ⟨h'.bl.trans h.bl, h'.ow.trans h.ow, fun k j a b c => (h'.sv k j (by rw [h.vl]; exact a) b c).trans (h.sv k j a b c), h'.hg.trans h.hg, h'.ma.trans h.ma, h'.en.trans h.en⟩
theorem CP.keep (h : CP x) (k : AR x x') : CP x' :=
 ⟨by rw [k.bl]; exact h.b1, by rw [k.vl]; exact h.v1, by rw [k.ow, k.bl]; exact h.ow, fun a b c d e => by rw [k.vl] at c; rw [k.sv a b c d e]; exact h.sv a b c d e, by rw [k.vl, k.hg, k.ma]; exact h.en.key k.en⟩
theorem Ca (l : List VS) (j : Nat) (g : VS -> VS) (h : ∀ v, (g v).owner = v.owner) : (l.modify j g).map (fun v => v.owner) = l.map (fun v => v.owner) := by
 apply List.ext_getElem?
 intro i
 simp only [List.getElem?_map, List.getElem?_modify]
 by_cases e : j = i
 ·subst e; cases l[j]? with
  | none => rfl
  | some v => simp [h]
 ·simp [e]
theorem Q8 (l : List VS) (k : Nat) : (Dw l k).map (fun v => v.owner) = l.map (fun v => v.owner) := by
 induction k with
 | zero => rfl
 | succ k ih => simp only [Dw]; refine (Ca _ _ _ ?_).trans ih; intro v; rfl
theorem KF (n : Nat) : ∀ l : List VS, (BY n l).map (fun v => v.owner) = l.map (fun v => v.owner) := by
 induction n with
 | zero => intro l; rfl
 | succ n ih =>
  intro l
  simp only [BY]
  split
  ·rfl
  ·rw [ih]; exact Ca _ _ _ (fun _ => rfl)
theorem LP (l : List VS) (t : Int) : (Bc l t).map (fun v => v.owner) = l.map (fun v => v.owner) := by
 unfold Bc; rw [KF, Q8]
theorem AR.charge (x : EC) (k : Nat) : AR x (Ab x k) := ⟨by simp [Ab], rfl, fun _ _ _ _ _ => rfl, rfl, rfl, rfl⟩
theorem AR.pay (x : EC) (k j : Nat) : AR x (AF x k j) :=
 ⟨by simp [AF], Ca _ _ _ (fun _ => rfl), fun k' j' _ h6 h5 => by simp only [AF, EC.sh]; exact B5 (by omega), rfl, rfl, rfl⟩
theorem AR.join (x : EC) (k j : Nat) (t : Int) (hj : j < x.vals.length) (hv : x.vals.length <= 5) : AR x (AV x k j t) :=
 (AR.pay x k j).trans ⟨rfl, by simp only [AV]; refine (Ca _ _ _ ?_).trans (Ca _ _ _ ?_) <;> intro v <;> rfl, fun k' j' hj' h6 h5 => by
  have : x.vals.length <= j' := by rw [(AR.pay x k j).vl] at hj'; exact hj'
  simp only [AV, EC.sh]; exact B5 (by omega), rfl, rfl, rfl⟩
theorem AR.gone (x : EC) (k j : Nat) (n t : Int) (hj : j < x.vals.length) (hv : x.vals.length <= 5) : AR x (AZ x k j n t) :=
 ⟨rfl, by simp only [AZ]; refine (Ca _ _ _ ?_).trans (Ca _ _ _ ?_) <;> intro v <;> rfl, fun k' j' hj' h6 h5 => by simp only [AZ, EC.sh]; exact B5 (by omega), rfl, rfl, rfl⟩
theorem AR.clear (x : EC) (j : Nat) : AR x (BQ x j) := ⟨rfl, Ca _ _ _ (fun _ => rfl), fun _ _ _ _ _ => rfl, rfl, rfl, rfl⟩
theorem AR.leave (x : EC) (k j : Nat) (n : Int) (hj : j < x.vals.length) (hv : x.vals.length <= 5) : AR x (AA x k j n) := by
 have hp := AR.pay x k j
 have h1 := hp.trans (AR.gone (AF x k j) k j n (Af (x.val j) n) (by rw [hp.vl]; exact hj) (by rw [hp.vl]; exact hv))
 unfold AA
 split
 ·exact h1.trans (AR.clear _ _)
 ·exact h1
theorem AR.coll (x : EC) (k j : Nat) : AR x (Ce x k j) :=
 ⟨by simp [Ce], by simp only [Ce]; refine (Ca _ _ _ ?_).trans (Ca _ _ _ ?_) <;> intro v <;> rfl, fun _ _ _ _ _ => rfl, rfl, rfl, rfl⟩
theorem AR.slash (x : EC) (j : Nat) (hgt p : Int) : AR x (Bg x j hgt p) :=
 ⟨rfl, by simp only [Bg, GW, C9, AJ]; refine (Ca _ _ _ ?_).trans ((Ca _ _ _ ?_).trans (Ca _ _ _ ?_)) <;> intro v <;> rfl, fun _ _ _ _ _ => rfl, rfl, rfl, (LY (AJ x j p) j hgt p _).1⟩
theorem AR.out (x : EC) (j : Nat) : AR x (ET x j) := ⟨rfl, Ca _ _ _ (fun _ => rfl), fun _ _ _ _ _ => rfl, rfl, rfl, rfl⟩
theorem AR.take (x : EC) (j : Nat) (a : Int) : AR x (AH x j a) := by
 have h1 : AR x { x with vals := (x.vals.modify j (fun v => { v with comm := v.comm + a * (x.val j).rate / 100 })).modify j (fun v => { v with outs := v.outs + a }) } :=
  ⟨rfl, by simp only; refine (Ca _ _ _ ?_).trans (Ca _ _ _ ?_) <;> intro v <;> rfl, fun _ _ _ _ _ => rfl, rfl, rfl, rfl⟩
 refine h1.trans ?_
 unfold AH A7
 split
 ·exact AR.refl _
 ·exact ⟨rfl, rfl, fun k' j' _ h6 h5 => by simp only [EC.sh]; exact B5 (by omega), rfl, rfl, rfl⟩
theorem AR.loop (x : EC) (f b : Int) (k : Nat) : AR x (Am x f b k).1 := by
 induction k with
 | zero => exact AR.refl x
 | succ k ih =>
  simp only [Am]
  split
  ·exact ih.trans (AR.take _ _ _)
  ·exact ih
theorem CP.block (h : CP x) : CP (BZ x).2 := by
 have k1 := AR.loop x x.fees (Ad x.vals) x.vals.length
 unfold BZ
 split
 ·exact h
 ·have hs : AR x (BR x) := k1.trans ⟨rfl, rfl, fun _ _ _ _ _ => rfl, rfl, rfl, rfl⟩
  have h1 := h.keep hs
  have hu : (upF x).height = x.height + 1 := rfl
  have hp := (show FS (BR x).vals.length x.height (upF x).mature (upF x).ents by have := h1.en; rw [hs.hg] at this; exact this).paid (x := upF x) hu
  have hl : (Ba (upF x)).bal.length = (BR x).bal.length := Cz _ _
  have ho : (DC (Ba (upF x))).vals.map (fun v => v.owner) = (BR x).vals.map (fun v => v.owner) := LP _ _
  have hvl : (DC (Ba (upF x))).vals.length = (BR x).vals.length := by have := congrArg List.length ho; simpa using this
  refine ⟨by show 1 <= (Ba (upF x)).bal.length; rw [hl]; exact h1.b1, by rw [hvl]; exact h1.v1, ?_, ?_, ?_⟩
  ·show ∀ o : Int, o ∈ (DC (Ba (upF x))).vals.map (fun v => v.owner) -> ∃ i : Nat, o = (i : Int) ∧ i < (Ba (upF x)).bal.length
   rw [ho, hl]; exact h1.ow
  ·intro k j hj
   rw [hvl] at hj
   exact h1.sv k j hj
  ·rw [hvl]; exact hp
theorem CP.ent (h : CP x) (k j : Nat) (t : Int) (hj : j < x.vals.length) (hm : 1 <= x.mature) (hc : AD x.ents k j < 4) : CP (ER x k j t) := by
 unfold ER
 split
 ·exact h
 ·exact ⟨h.b1, h.v1, h.ow, h.sv, h.en.add k j t hj hm hc⟩
theorem CP.does (h : CP x) (ok : Bl x) (k a b c d : Int) : CP (KA x k a b c d).2 := by
 have okx : Ok x.height x := ok
 have v5 := okx.v5
 have hch : ∀ k : Nat, k < x.bal.length -> CP (Ab x k) := fun k _ => h.keep (AR.charge x k)
 have hvl : ∀ k : Nat, (Ab x k).vals.length = x.vals.length := fun k => rfl
 unfold KA
 split
 ·refine BK h hch (fun k hk he => (hch k hk).keep ⟨by simp [Ec], rfl, fun _ _ _ _ _ => rfl, rfl, rfl, rfl⟩)
 split
 ·unfold Bo
  split
  ·exact h
  ·exact h.keep ⟨by simp, rfl, fun _ _ _ _ _ => rfl, rfl, rfl, rfl⟩
 split
 ·refine BK h hch (fun k hk he => ?_)
  obtain ⟨j, rfl, hj, _⟩ := EY he
  have hkb : AR (Ab x k) { Ab x k with bal := (Ab x k).bal.set k ((Ab x k).balAt k - c) } := ⟨by simp, rfl, fun _ _ _ _ _ => rfl, rfl, rfl, rfl⟩
  refine (hch k hk).keep (hkb.trans (AR.join _ k _ c ?_ ?_))
  ·rw [Int.toNat_natCast]; exact hj
  ·exact v5
 split
 ·refine BK h hch (fun k hk he => ?_)
  obtain ⟨j, rfl, hj, _, _, hc4⟩ := FY he
  have kl := AR.leave (Ab x k) k (Int.toNat (j : Int)) c (by rw [Int.toNat_natCast]; exact hj) v5
  have h2 := (hch k hk).keep kl
  show CP (ER (AA (Ab x k) k (Int.toNat (j : Int)) c) k (Int.toNat (j : Int)) _)
  refine h2.ent k _ _ (by rw [kl.vl, Int.toNat_natCast]; exact hj) (by rw [kl.ma]; exact okx.mat0) ?_
  have e1 : ∀ l : List ES, ∀ a b, l.countP (fun e => decide (e.who = a ∧ e.val = b)) = (l.map keyE).countP (fun q => decide (q.1 = a ∧ q.2.1 = b)) := fun l a b => by rw [List.countP_map]; rfl
  rw [Eu, e1] at hc4 ⊢
  rw [kl.en, Int.toNat_natCast]; exact hc4
 split
 ·refine BK h hch (fun k hk he => ?_)
  obtain ⟨j, t, rfl, rfl, hj, ht, _⟩ := F6 he
  have k1 := AR.leave (Ab x k) k (Int.toNat (j : Int)) d (by rw [Int.toNat_natCast]; exact hj) v5
  refine (hch k hk).keep (k1.trans (AR.join _ k _ _ ?_ ?_))
  ·rw [k1.vl, Int.toNat_natCast]; exact ht
  ·rw [k1.vl]; exact v5
 split
 ·exact BK h hch (fun k hk he => (hch k hk).keep (AR.pay _ _ _))
 split
 ·exact BK h hch (fun k hk he => (hch k hk).keep (AR.coll _ _ _))
 split
 ·unfold Bw
  split
  ·exact h
  ·exact h.keep (AR.slash _ _ _ _)
 split
 ·exact BK h hch (fun k hk he => (hch k hk).keep (AR.out _ _))
 ·exact h.block
def C8 (v : VS) : Int := if v.jailed = true then 2 else if v.inset = true then 1 else 0
def C1 (v : VS) : List Int := [v.tokens, v.comm, v.outs, C8 v]
def entNs (e : ES) : List Int := [e.who, e.val, e.made, e.amount]
def FA (x : EC) (k j : Nat) : List Int := if 0 < x.sh k j then [x.sh k j, x.per j - x.upto k j] else [x.sh k j]
def De (x : EC) (k : Nat) : Nat -> List Int
 | 0 => []
 | j + 1 => De x k j ++ FA x k j
def Di (x : EC) : Nat -> List Int
 | 0 => []
 | k + 1 => Di x k ++ De x k x.vals.length
def Es (x : EC) : List Int := [(x.bal.length : Int)] ++ x.bal ++ [(x.vals.length : Int)] ++ x.vals.map (fun v => v.owner) ++ [(x.vals.length : Int)] ++ x.vals.map (fun v => v.rate) ++ [x.top, x.mature, x.fee]
def BO (x : EC) : List Int := Es x ++ [x.height, x.fees, x.pool] ++ x.vals.flatMap C1 ++ Di x x.bal.length ++ [(x.ents.length : Int)] ++ x.ents.flatMap entNs
def rdL (s : List UInt8) (most : Int) : Nat -> RSE -> List Int × RSE
 | 0, st => ([], st)
 | k + 1, st => ((rdL s most k st).1 ++ [(nx s most (rdL s most k st).2).1], (nx s most (rdL s most k st).2).2)
def nxL (s : List UInt8) (longest most : Int) (st : RSE) : List Int × RSE := rdL s most (nx s longest st).1.toNat (nx s longest st).2
theorem Hv (s : List UInt8) (most : Int) (k : Nat) (st : RSE) : (rdL s most k st).1.length = k := by
 induction k with
 | zero => rfl
 | succ k ih => simp [rdL, ih]
theorem LM (s : List UInt8) (most : Int) (h : 0 <= most) (k : Nat) (st : RSE) : ∀ n, n ∈ (rdL s most k st).1 -> 0 <= n ∧ n <= most := by
 induction k with
 | zero => intro n hn; simp [rdL] at hn
 | succ k ih =>
  intro n hn
  simp only [rdL, List.mem_append, List.mem_singleton] at hn
  rcases hn with hn | rfl
  ·exact ih n hn
  ·exact Cg s most _ h
theorem Ph {st : RSE} (h : AtN s st (l ++ rest)) (hl : ∀ n, n ∈ l -> 0 <= n ∧ n <= most) : ∀ k, k <= l.length -> (rdL s most k st).1 = l.take k ∧ AtN s (rdL s most k st).2 (l.drop k ++ rest) := by
 intro k
 induction k with
 | zero => intro _; exact ⟨by simp [rdL], by simpa [rdL] using h⟩
 | succ k ih =>
  intro hk
  obtain ⟨i1, i2⟩ := ih (by omega)
  have hlt : k < l.length := by omega
  have hb := hl l[k] (List.getElem_mem hlt)
  rw [List.drop_eq_getElem_cons hlt, List.cons_append] at i2
  obtain ⟨n1, n2⟩ := BL i2 hb.1 hb.2
  refine ⟨?_, ?_⟩
  ·simp only [rdL]; rw [n1, i1, List.take_succ_eq_append_getElem hlt]
  ·simp only [rdL]; exact n2
theorem IM {longest : Int} {st : RSE} {c : Int} (h : AtN s st (c :: (l ++ rest))) (hc : c = l.length) (h1 : (l.length : Int) <= longest) (hl : ∀ n, n ∈ l -> 0 <= n ∧ n <= most) : (nxL s longest most st).1 = l ∧ AtN s (nxL s longest most st).2 rest := by
 subst hc
 obtain ⟨n1, n2⟩ := BL h (by omega) h1
 have := Ph n2 hl l.length (Nat.le_refl _)
 unfold nxL
 rw [n1, Int.toNat_natCast]
 exact ⟨by rw [this.1, List.take_length], by have h2 := this.2; simpa using h2⟩
structure Gn where
 bs : List Int
 os : List Int
 rs : List Int
 top : Int
 mat : Int
 fee : Int
def rdG (s : List UInt8) (st : RSE) : Gn × RSE :=
 let a := nxL s 6 1000000 st
 let b := nxL s 5 6 a.2
 let c := nxL s 5 100 b.2
 let d := nx s 5 c.2
 let e := nx s 20 d.2
 let f := nx s 100 e.2
 (⟨a.1, b.1, c.1, d.1, e.1, f.1⟩, f.2)
theorem Kt {st : RSE} (h : AtN s st (Es x ++ rest)) (b6 : x.bal.length <= 6) (v5 : x.vals.length <= 5) (hb : ∀ n, n ∈ x.bal -> 0 <= n ∧ n <= 1000000) (ho : ∀ n, n ∈ x.vals.map (fun v => v.owner) -> 0 <= n ∧ n <= 6) (hr : ∀ n, n ∈ x.vals.map (fun v => v.rate) -> 0 <= n ∧ n <= 100) (ht : 0 <= x.top ∧ x.top <= 5) (hm : 0 <= x.mature ∧ x.mature <= 20) (hf : 0 <= x.fee ∧ x.fee <= 100) :
  (rdG s st).1 = ⟨x.bal, x.vals.map (fun v => v.owner), x.vals.map (fun v => v.rate), x.top, x.mature, x.fee⟩ ∧ AtN s (rdG s st).2 rest := by
 unfold Es at h
 simp only [List.append_assoc, List.cons_append, List.nil_append] at h
 obtain ⟨a1, a2⟩ := IM (longest := 6) (most := 1000000) h rfl (by omega) hb
 obtain ⟨b1, b2⟩ := IM (longest := 5) (most := 6) a2 (by simp) (by simp; omega) ho
 obtain ⟨c1, c2⟩ := IM (longest := 5) (most := 100) b2 (by simp) (by simp; omega) hr
 obtain ⟨d1, d2⟩ := BL (most := 5) c2 ht.1 ht.2
 obtain ⟨e1, e2⟩ := BL (most := 20) d2 hm.1 hm.2
 obtain ⟨f1, f2⟩ := BL (most := 100) e2 hf.1 hf.2
 refine ⟨?_, f2⟩
 simp only [rdG, a1, b1, c1, d1, e1, f1]
theorem Qj (s : List UInt8) (st : RSE) : (rdG s st).1.bs.length <= 6 ∧ (rdG s st).1.os.length <= 5 ∧ (rdG s st).1.rs.length <= 5 ∧ (∀ n, n ∈ (rdG s st).1.bs -> 0 <= n ∧ n <= 1000000) ∧ (∀ n, n ∈ (rdG s st).1.os -> 0 <= n ∧ n <= 6) ∧ (∀ n, n ∈ (rdG s st).1.rs -> 0 <= n ∧ n <= 100) ∧ (0 <= (rdG s st).1.top ∧ (rdG s st).1.top <= 5) ∧ (0 <= (rdG s st).1.mat ∧ (rdG s st).1.mat <= 20) ∧ (0 <= (rdG s st).1.fee ∧ (rdG s st).1.fee <= 100) := by
 simp only [rdG, nxL]
 refine ⟨?_, ?_, ?_, LM _ _ (by decide) _ _, LM _ _ (by decide) _ _, LM _ _ (by decide) _ _, Cg _ _ _ (by decide), Cg _ _ _ (by decide), Cg _ _ _ (by decide)⟩
 ·rw [Hv]; have := Cg s 6 st (by decide); omega
 ·rw [Hv]
  have := Cg s 5 (rdL s 1000000 (nx s 6 st).1.toNat (nx s 6 st).2).2 (by decide); omega
 ·rw [Hv]
  have := Cg s 5 (rdL s 6 (nx s 5 (rdL s 1000000 (nx s 6 st).1.toNat (nx s 6 st).2).2).1.toNat (nx s 5 (rdL s 1000000 (nx s 6 st).1.toNat (nx s 6 st).2).2).2).2 (by decide); omega
def L9 (s : List UInt8) (j : Nat) (q : EC × RSE) : EC × RSE :=
 ({ q.1 with vals := ((((q.1.vals.modify j (fun v => { v with tokens := (nx s 1000000 q.2).1 })).modify j (fun v => { v with comm := (nx s 1000000 (nx s 1000000 q.2).2).1 })).modify j (fun v => { v with outs := (nx s 1000000 (nx s 1000000 (nx s 1000000 q.2).2).2).1 })).modify j (fun v => { v with jailed := decide ((nx s 2 (nx s 1000000 (nx s 1000000 (nx s 1000000 q.2).2).2).2).1 = 2) })).modify j (fun v => { v with inset := decide ((nx s 2 (nx s 1000000 (nx s 1000000 (nx s 1000000 q.2).2).2).2).1 = 1) }) }, (nx s 2 (nx s 1000000 (nx s 1000000 (nx s 1000000 q.2).2).2).2).2)
def rdV (s : List UInt8) (q : EC × RSE) : Nat -> EC × RSE
 | 0 => q
 | j + 1 => L9 s j (rdV s q j)
def ED (s : List UInt8) (k j : Nat) (q : EC × RSE) : EC :=
 { q.1 with tab := q.1.tab.set (k * 5 + j) (nx s 1000000 q.2).1, vals := q.1.vals.modify j (fun v => { v with shares := v.shares + (nx s 1000000 q.2).1 }) }
def FX (s : List UInt8) (k j : Nat) (q : EC × RSE) : EC × RSE :=
 if 0 < (nx s 1000000 q.2).1 then ({ ED s k j q with tab := (ED s k j q).tab.set (35 + (k * 5 + j)) ((ED s k j q).per j - (nx s 1073741824000000 (nx s 1000000 q.2).2).1) }, (nx s 1073741824000000 (nx s 1000000 q.2).2).2)
 else (ED s k j q, (nx s 1000000 q.2).2)
def Fd (s : List UInt8) (k : Nat) (q : EC × RSE) : Nat -> EC × RSE
 | 0 => q
 | j + 1 => FX s k j (Fd s k q j)
def C6 (s : List UInt8) (q : EC × RSE) (nv : Nat) : Nat -> EC × RSE
 | 0 => q
 | k + 1 => Fd s k (C6 s q nv k) nv
def LD (s : List UInt8) (nb nv h : Int) (st : RSE) : ES × RSE :=
 (⟨(nx s (nb - 1) st).1, (nx s (nv - 1) (nx s (nb - 1) st).2).1, (nx s h (nx s (nv - 1) (nx s (nb - 1) st).2).2).1, (nx s 1000000 (nx s h (nx s (nv - 1) (nx s (nb - 1) st).2).2).2).1⟩, (nx s 1000000 (nx s h (nx s (nv - 1) (nx s (nb - 1) st).2).2).2).2)
def rdE (s : List UInt8) (nb nv h : Int) (st : RSE) : Nat -> List ES × RSE
 | 0 => ([], st)
 | k + 1 => ((rdE s nb nv h st k).1 ++ [(LD s nb nv h (rdE s nb nv h st k).2).1], (LD s nb nv h (rdE s nb nv h st k).2).2)
def EW (s : List UInt8) (q : EC × RSE) : EC × RSE :=
 ({ q.1 with height := (nx s 1000 q.2).1, fees := (nx s 1000000 (nx s 1000 q.2).2).1, pool := (nx s 1000000 (nx s 1000000 (nx s 1000 q.2).2).2).1 }, (nx s 1000000 (nx s 1000000 (nx s 1000 q.2).2).2).2)
def QW (s : List UInt8) (q : EC × RSE) : EC × RSE := rdV s (EW s q) (EW s q).1.vals.length
def PL (s : List UInt8) (q : EC × RSE) : EC × RSE := C6 s (QW s q) (QW s q).1.vals.length (QW s q).1.bal.length
def Kj (s : List UInt8) (q : EC × RSE) : EC × RSE :=
 ({ q.1 with ents := (rdE s q.1.bal.length q.1.vals.length q.1.height (nx s 120 q.2).2 (nx s 120 q.2).1.toNat).1 }, (rdE s q.1.bal.length q.1.vals.length q.1.height (nx s 120 q.2).2 (nx s 120 q.2).1.toNat).2)
def xN' (g : Gn) : EC := { top := g.top, mature := g.mat, fee := g.fee, height := 0, fees := 0, pool := 0, bal := g.bs, tab := List.replicate 65 0, vals := vs0 g.os g.rs, ents := [] }
def rdX (s : List UInt8) : EC × RSE := Kj s (PL s (xN' (rdG s ⟨0, false⟩).1, (rdG s ⟨0, false⟩).2))
structure VB0 (v : VS) : Prop where
 t0 : 0 <= v.tokens
 t1 : v.tokens <= 1000000
 k0 : 0 <= v.comm
 k1 : v.comm <= 1000000
 o0 : 0 <= v.outs
 o1 : v.outs <= 1000000
 jl : v.jailed = true -> v.inset = false
def Gb (s : List UInt8) (st : RSE) (v : VS) : VS := { v with tokens := (nx s 1000000 st).1, comm := (nx s 1000000 (nx s 1000000 st).2).1, outs := (nx s 1000000 (nx s 1000000 (nx s 1000000 st).2).2).1, jailed := decide ((nx s 2 (nx s 1000000 (nx s 1000000 (nx s 1000000 st).2).2).2).1 = 2), inset := decide ((nx s 2 (nx s 1000000 (nx s 1000000 (nx s 1000000 st).2).2).2).1 = 1) }
theorem Lw (l : List VS) (j : Nat) (f g : VS -> VS) : (l.modify j f).modify j g = l.modify j (fun v => g (f v)) := by
 apply List.ext_getElem?
 intro i
 simp only [List.getElem?_modify]
 by_cases e : j = i
 ·subst e; cases l[j]? <;> simp
 ·simp [e]
theorem Qv (s : List UInt8) (j : Nat) (q : EC × RSE) : (L9 s j q).1 = { q.1 with vals := q.1.vals.modify j (Gb s q.2) } := by
 simp only [L9, Lw]; rfl
theorem Qi (s : List UInt8) (st : RSE) (v : VS) : VB0 (Gb s st v) := by
 have h1 := Cg s 1000000 st (by decide)
 have h2 := Cg s 1000000 (nx s 1000000 st).2 (by decide)
 have h3 := Cg s 1000000 (nx s 1000000 (nx s 1000000 st).2).2 (by decide)
 refine ⟨h1.1, h1.2, h2.1, h2.2, h3.1, h3.2, fun hj => ?_⟩
 simp only [Gb, decide_eq_true_eq] at hj
 simp only [Gb, decide_eq_false_iff_not]; omega
theorem MK (l : List VS) (j i : Nat) (f : VS -> VS) (hj : j < l.length) : (l.modify j f).getD i v0 = if i = j then f (l.getD j v0) else l.getD i v0 := by
 by_cases e : i = j
 ·subst e; rw [if_pos rfl]; simp [hj]
 ·rw [if_neg e]
  have hji : ¬ j = i := fun h => e h.symm
  simp [List.getD, hji]
structure VM (G : Nat -> VS -> Prop) (x0 : EC) (k : Nat) (x : EC) : Prop where
 eq : x = { x0 with vals := x.vals }
 vl : x.vals.length = x0.vals.length
 lo : ∀ i, i < k -> i < x0.vals.length -> G i (x.val i) ∧ (x.val i).owner = (x0.val i).owner ∧ (x.val i).rate = (x0.val i).rate ∧ (x.val i).shares = (x0.val i).shares
 hi : ∀ i, k <= i -> i < x0.vals.length -> x.val i = x0.val i
theorem VM.zero (G : Nat -> VS -> Prop) (x0 : EC) : VM G x0 0 x0 := ⟨rfl, rfl, fun i hi => by omega, fun _ _ _ => rfl⟩
theorem VM.step {G : Nat -> VS -> Prop} {q : EC × RSE} (h : VM G x0 k q.1) (hk : k < x0.vals.length) (hG : G k (Gb s q.2 (x0.val k))) : VM G x0 (k + 1) (L9 s k q).1 := by
 rw [Qv]
 have hv : ∀ i, EC.val { q.1 with vals := q.1.vals.modify k (Gb s q.2) } i = if i = k then Gb s q.2 (q.1.val k) else q.1.val i := fun i => MK _ _ _ _ (by rw [h.vl]; exact hk)
 refine ⟨?_, by simp only [List.length_modify]; exact h.vl, fun i hi hl => ?_, fun i hi hl => ?_⟩
 ·have := h.eq
  generalize q.1 = y at *
  rw [this]
 ·rw [hv]
  by_cases e : i = k
  ·subst e
   rw [if_pos rfl, h.hi i (Nat.le_refl _) hl]
   exact ⟨hG, rfl, rfl, rfl⟩
  ·rw [if_neg e]; exact h.lo i (by omega) hl
 ·rw [hv, if_neg (by omega)]; exact h.hi i (by omega) hl
theorem O7 (s : List UInt8) (q : EC × RSE) (k : Nat) (hk : k <= q.1.vals.length) : VM (fun _ v => VB0 v) q.1 k (rdV s q k).1 := by
 induction k with
 | zero => exact VM.zero _ _
 | succ k ih => exact (ih (by omega)).step (by omega) (Qi _ _ _)
theorem Fx (v : VS) : 0 <= C8 v ∧ C8 v <= 2 := by unfold C8; split <;> (try split) <;> omega
theorem LN {st : RSE} {v : VS} (h : AtN s st (C1 v ++ rest)) (hv : VB0 v) : (∀ u : VS, Gb s st u = { v with owner := u.owner, rate := u.rate, shares := u.shares }) ∧ AtN s (nx s 2 (nx s 1000000 (nx s 1000000 (nx s 1000000 st).2).2).2).2 rest := by
 simp only [C1, List.cons_append, List.nil_append] at h
 obtain ⟨a1, a2⟩ := BL (most := 1000000) h hv.t0 hv.t1
 obtain ⟨b1, b2⟩ := BL (most := 1000000) a2 hv.k0 hv.k1
 obtain ⟨c1, c2⟩ := BL (most := 1000000) b2 hv.o0 hv.o1
 obtain ⟨d1, d2⟩ := BL (most := 2) c2 (Fx v).1 (Fx v).2
 refine ⟨fun u => ?_, d2⟩
 simp only [Gb, a1, b1, c1, d1]
 have e1 : decide (C8 v = 2) = v.jailed := by
  unfold C8
  cases hj : v.jailed
  ·simp only [Bool.false_eq_true, if_false]; split <;> simp
  ·simp
 have e2 : decide (C8 v = 1) = v.inset := by
  unfold C8
  cases hj : v.jailed
  ·cases hi : v.inset <;> simp
  ·rw [hv.jl hj]; simp
 rw [e1, e2]
theorem Pd {q : EC × RSE} {y : List VS} (hl : q.1.vals.length = y.length) (h : AtN s q.2 (y.flatMap C1 ++ rest)) (hv : ∀ v, v ∈ y -> VB0 v) : ∀ k, k <= y.length -> VM (fun i v => v = { y.getD i v0 with owner := v.owner, rate := v.rate, shares := v.shares }) q.1 k (rdV s q k).1 ∧ AtN s (rdV s q k).2 ((y.drop k).flatMap C1 ++ rest) := by
 intro k
 induction k with
 | zero => intro _; exact ⟨VM.zero _ _, by simpa [rdV] using h⟩
 | succ k ih =>
  intro hk
  obtain ⟨i1, i2⟩ := ih (by omega)
  have hlt : k < y.length := by omega
  rw [List.drop_eq_getElem_cons hlt, List.flatMap_cons, List.append_assoc] at i2
  obtain ⟨r1, r2⟩ := LN i2 (hv _ (List.getElem_mem hlt))
  refine ⟨i1.step (by omega) ?_, ?_⟩
  ·rw [r1]
   have : y.getD k v0 = y[k] := by simp [hlt]
   rw [this]
  ·simp only [rdV, L9]; exact r2
def bef (k j r c : Nat) : Prop := r < k ∨ (r = k ∧ c < j)
structure DM (G : Nat -> Nat -> Int -> Int -> Prop) (x0 : EC) (k j : Nat) (x : EC) : Prop where
 eq : x = { x0 with vals := x.vals, tab := x.tab }
 vl : x.vals.length = x0.vals.length
 tl : x.tab.length = 65
 val : ∀ i, i < x0.vals.length -> x.val i = { x0.val i with shares := (x0.val i).shares + BJ (fun r => x.sh r i) (if i < j then k + 1 else k) }
 lo : ∀ r c, r < 6 -> c < x0.vals.length -> bef k j r c -> G r c (x.sh r c) (x.upto r c)
 hi : ∀ r c, r < 6 -> c < 5 -> (¬ bef k j r c ∨ x0.vals.length <= c) -> x.sh r c = 0 ∧ x.upto r c = 0
 per : ∀ c, c < 5 -> x.per c = 0
theorem Rr (n i : Nat) : (List.replicate n (0 : Int)).getD i 0 = 0 := by
 simp only [List.getD, List.getElem?_replicate]; split <;> rfl
theorem DM.zero (G : Nat -> Nat -> Int -> Int -> Prop) (x0 : EC) (ht : x0.tab = List.replicate 65 0) : DM G x0 0 0 x0 := by
 have h0 : ∀ i, x0.tab.getD i 0 = 0 := fun i => by rw [ht]; exact Rr _ _
 refine ⟨rfl, rfl, by rw [ht]; simp, fun i hi => ?_, fun r c h1 h2 h3 => ?_, fun r c h1 h2 h3 => ⟨h0 _, h0 _⟩, fun c hc => h0 _⟩
 ·rw [if_neg (by omega)]; simp [BJ]
 ·unfold bef at h3; omega
theorem DM.row (h : DM G x0 k x0.vals.length x) : DM G x0 (k + 1) 0 x := by
 refine ⟨h.eq, h.vl, h.tl, fun i hi => ?_, fun r c h1 h2 h3 => h.lo r c h1 h2 ?_, fun r c h1 h2 h3 => h.hi r c h1 h2 ?_, h.per⟩
 ·have := h.val i hi
  rw [if_pos hi] at this
  rw [if_neg (by omega)]; exact this
 ·unfold bef at *; omega
 ·unfold bef at *; omega
theorem DM.step {q : EC × RSE} (h : DM G x0 k j q.1) (hk : k < 6) (hj : j < x0.vals.length) (hv : x0.vals.length <= 5)
  (hG : G k j (nx s 1000000 q.2).1 (if 0 < (nx s 1000000 q.2).1 then - (nx s 1073741824000000 (nx s 1000000 q.2).2).1 else 0)) : DM G x0 k (j + 1) (FX s k j q).1 := by
 obtain ⟨x, st⟩ := q
 simp only at h hG
 have tl := h.tl
 have vl := h.vl
 have h0 := h.hi k j hk (by omega) (.inl (by unfold bef; omega))
 have hp0 := h.per j (by omega)
 have hnn : 0 < (nx s 1000000 st).1 ∨ (nx s 1000000 st).1 = 0 := by have := Cg s 1000000 st (by decide); omega
 have e0 : (ED s k j (x, st)).per j = 0 := by
  show (x.tab.set (k * 5 + j) _).getD (30 + j) 0 = 0
  rw [La (by omega)]; exact hp0
 -- the table and the validators, in one form
 obtain ⟨u, hu, ex⟩ : ∃ u, u = (if 0 < (nx s 1000000 st).1 then - (nx s 1073741824000000 (nx s 1000000 st).2).1 else 0) ∧ ∃ t, (FX s k j (x, st)).1 = { x with vals := x.vals.modify j (fun v => { v with shares := v.shares + (nx s 1000000 st).1 }), tab := t } ∧ t.length = 65 ∧ (∀ n, n < 65 -> t.getD n 0 = if n = k * 5 + j then (nx s 1000000 st).1 else if n = 35 + (k * 5 + j) then (if 0 < (nx s 1000000 st).1 then - (nx s 1073741824000000 (nx s 1000000 st).2).1 else 0) else x.tab.getD n 0) := by
  refine ⟨_, rfl, ?_⟩
  unfold FX
  by_cases hs : 0 < (nx s 1000000 st).1
  ·refine ⟨_, by rw [if_pos hs]; rfl, by simp only [ED, List.length_set]; exact tl, fun n hn => ?_⟩
   simp only [if_pos hs, e0, Int.zero_sub]
   by_cases n2 : n = 35 + (k * 5 + j)
   ·subst n2; rw [Kn (by simp only [ED, List.length_set]; omega), if_neg (by omega), if_pos rfl]
   ·rw [La (by omega), if_neg n2]
    simp only [ED]
    by_cases n1 : n = k * 5 + j
    ·subst n1; rw [Kn (by omega), if_pos rfl]
    ·rw [La (by omega), if_neg n1]
  ·refine ⟨_, by rw [if_neg hs]; rfl, by simp only [List.length_set]; exact tl, fun n hn => ?_⟩
   rw [if_neg hs]
   by_cases n1 : n = k * 5 + j
   ·subst n1; rw [Kn (by show k * 5 + j < x.tab.length; omega), if_pos rfl]
   ·rw [La (by omega), if_neg n1]
    by_cases n2 : n = 35 + (k * 5 + j)
    ·subst n2; rw [if_pos rfl]; exact h0.2
    ·rw [if_neg n2]
 obtain ⟨t, e1, e2, e3⟩ := ex
 rw [<- hu] at hG e3
 clear hu e0
 generalize (nx s 1000000 st).1 = a at *
 rw [e1]
 have hsh : ∀ r c, r < 6 -> c < 5 -> EC.sh { x with vals := x.vals.modify j (fun v => { v with shares := v.shares + a }), tab := t } r c = if r = k ∧ c = j then a else x.sh r c := fun r c h1 h2 => by
  show t.getD (r * 5 + c) 0 = _
  rw [e3 _ (by omega)]
  by_cases e : r = k ∧ c = j
  ·obtain ⟨rfl, rfl⟩ := e; rw [if_pos rfl, if_pos ⟨rfl, rfl⟩]
  ·rw [if_neg (by omega), if_neg (by omega), if_neg e]; rfl
 have hup : ∀ r c, r < 6 -> c < 5 -> EC.upto { x with vals := x.vals.modify j (fun v => { v with shares := v.shares + a }), tab := t } r c = if r = k ∧ c = j then u else x.upto r c := fun r c h1 h2 => by
  show t.getD (35 + (r * 5 + c)) 0 = _
  rw [e3 _ (by omega), if_neg (by omega)]
  by_cases e : r = k ∧ c = j
  ·obtain ⟨rfl, rfl⟩ := e; rw [if_pos rfl, if_pos ⟨rfl, rfl⟩]
  ·rw [if_neg (by omega), if_neg e]; rfl
 have hva : ∀ i, EC.val { x with vals := x.vals.modify j (fun v => { v with shares := v.shares + a }), tab := t } i = if i = j then { x.val j with shares := (x.val j).shares + a } else x.val i := fun i => MK _ _ _ _ (by rw [vl]; exact hj)
 refine ⟨?_, by simp only [List.length_modify]; exact vl, e2, fun i hi => ?_, fun r c h1 h2 h3 => ?_, fun r c h1 h2 h3 => ?_, fun c hc => ?_⟩
 ·have := h.eq
  generalize hy : x = y at *
  rw [this]
 ·rw [hva]
  have hvi := h.val i hi
  have hcg : ∀ n, n <= k -> BJ (fun r => EC.sh { x with vals := x.vals.modify j (fun v => { v with shares := v.shares + a }), tab := t } r i) n = BJ (fun r => x.sh r i) n := fun n hn => D6 n (fun r hr => by rw [hsh r i (by omega) (by omega), if_neg (by omega)])
  by_cases e : i = j
  ·subst e
   rw [if_neg (by omega)] at hvi
   rw [if_pos rfl, if_pos (by omega), hvi]
   simp only [BJ]
   rw [hcg k (Nat.le_refl _), hsh k i hk (by omega), if_pos ⟨rfl, rfl⟩, Int.add_assoc]
  ·rw [if_neg e, hvi]
   by_cases hij : i < j
   ·rw [if_pos hij, if_pos (by omega)]
    simp only [BJ]
    rw [hcg k (Nat.le_refl _), hsh k i hk (by omega), if_neg (by omega)]
   ·rw [if_neg hij, if_neg (by omega), hcg k (Nat.le_refl _)]
 ·rw [hsh r c h1 (by omega), hup r c h1 (by omega)]
  by_cases e : r = k ∧ c = j
  ·obtain ⟨rfl, rfl⟩ := e; rw [if_pos ⟨rfl, rfl⟩, if_pos ⟨rfl, rfl⟩]; exact hG
  ·rw [if_neg e, if_neg e]; exact h.lo r c h1 h2 (by unfold bef at *; omega)
 ·have e : ¬ (r = k ∧ c = j) := by unfold bef at h3; omega
  rw [hsh r c h1 h2, hup r c h1 h2, if_neg e, if_neg e]
  exact h.hi r c h1 h2 (by unfold bef at *; omega)
 ·show t.getD (30 + c) 0 = 0
  rw [e3 _ (by omega), if_neg (by omega), if_neg (by omega)]; exact h.per c hc
def GBd (r c : Nat) (s u : Int) : Prop := 0 <= s ∧ s <= 1000000 ∧ -1073741824000000 <= u ∧ u <= 0
theorem RP (s : List UInt8) (st : RSE) (r c : Nat) : GBd r c (nx s 1000000 st).1 (if 0 < (nx s 1000000 st).1 then - (nx s 1073741824000000 (nx s 1000000 st).2).1 else 0) := by
 have h1 := Cg s 1000000 st (by decide)
 have h2 := Cg s 1073741824000000 (nx s 1000000 st).2 (by decide)
 refine ⟨h1.1, h1.2, ?_, ?_⟩ <;> split <;> omega
theorem Mt {q : EC × RSE} (h : DM GBd x0 k 0 q.1) (hk : k < 6) (hv : x0.vals.length <= 5) : ∀ j, j <= x0.vals.length -> DM GBd x0 k j (Fd s k q j).1 := by
 intro j
 induction j with
 | zero => intro _; exact h
 | succ j ih => intro hj; exact (ih (by omega)).step hk (by omega) hv (RP _ _ _ _)
theorem Ht {q : EC × RSE} (ht : q.1.tab = List.replicate 65 0) (hv : q.1.vals.length <= 5) : ∀ k, k <= 6 -> DM GBd q.1 k 0 (C6 s q q.1.vals.length k).1 := by
 intro k
 induction k with
 | zero => intro _; exact DM.zero _ _ ht
 | succ k ih => intro hk; exact (Mt (ih (by omega)) (by omega) hv _ (Nat.le_refl _)).row
def GY (y : EC) (r c : Nat) (s u : Int) : Prop := s = y.sh r c ∧ (0 < y.sh r c -> u = - (y.per c - y.upto r c))
structure DB (y : EC) : Prop where
 s0 : ∀ k j, k < 6 -> j < 5 -> 0 <= y.sh k j ∧ y.sh k j <= 1000000
 p0 : ∀ k j, k < 6 -> j < 5 -> 0 < y.sh k j -> 0 <= y.per j - y.upto k j ∧ y.per j - y.upto k j <= 1073741824000000
theorem ND {q : EC × RSE} (h : DM (GY y) x0 k j q.1) (hk : k < 6) (hj : j < x0.vals.length) (hv : x0.vals.length <= 5) (hb : DB y) (hn : AtN s q.2 (FA y k j ++ rest)) :
  DM (GY y) x0 k (j + 1) (FX s k j q).1 ∧ AtN s (FX s k j q).2 rest := by
 have h0 := hb.s0 k j hk (by omega)
 by_cases hs : 0 < y.sh k j
 ·have hp := hb.p0 k j hk (by omega) hs
  unfold FA at hn
  rw [if_pos hs] at hn
  obtain ⟨a1, a2⟩ := BL (most := 1000000) hn h0.1 h0.2
  obtain ⟨b1, b2⟩ := BL (most := 1073741824000000) a2 hp.1 hp.2
  refine ⟨h.step hk hj hv ?_, ?_⟩
  ·rw [a1, if_pos hs, b1]; exact ⟨rfl, fun _ => rfl⟩
  ·unfold FX; rw [a1, if_pos hs]; exact b2
 ·unfold FA at hn
  rw [if_neg hs] at hn
  obtain ⟨a1, a2⟩ := BL (most := 1000000) hn h0.1 h0.2
  refine ⟨h.step hk hj hv ?_, ?_⟩
  ·rw [a1, if_neg hs]; exact ⟨rfl, fun h => absurd h hs⟩
  ·unfold FX; rw [a1, if_neg hs]; exact a2
def Lv (y : EC) (k n : Nat) : Nat -> List Int
 | 0 => []
 | d + 1 => Lv y k n d ++ FA y k (n + d)
theorem FO (y : EC) (k j d : Nat) : De y k (j + d) = De y k j ++ Lv y k j d := by
 induction d with
 | zero => simp [Lv]
 | succ d ih => rw [<- Nat.add_assoc]; simp only [De, Lv, ih, List.append_assoc]
theorem M9 (y : EC) (k j d : Nat) : Lv y k j (d + 1) = FA y k j ++ Lv y k (j + 1) d := by
 have h1 := FO y k j (d + 1)
 have h2 := FO y k (j + 1) d
 rw [show j + (d + 1) = j + 1 + d by omega, h2] at h1
 simp only [De, List.append_assoc] at h1
 exact (List.append_cancel_left h1).symm
theorem M1 {q : EC × RSE} (h : DM (GY y) x0 k 0 q.1) (hk : k < 6) (hv : x0.vals.length <= 5) (hl : x0.vals.length = y.vals.length) (hb : DB y) (hn : AtN s q.2 (De y k y.vals.length ++ rest)) :
  ∀ j, j <= x0.vals.length -> DM (GY y) x0 k j (Fd s k q j).1 ∧ AtN s (Fd s k q j).2 (Lv y k j (y.vals.length - j) ++ rest) := by
 intro j
 induction j with
 | zero =>
  intro _
  refine ⟨h, ?_⟩
  have := FO y k 0 y.vals.length
  rw [Nat.zero_add] at this
  simp only [De, List.nil_append] at this
  rw [Nat.sub_zero, <- this]; exact hn
 | succ j ih =>
  intro hj
  obtain ⟨i1, i2⟩ := ih (by omega)
  rw [show y.vals.length - j = (y.vals.length - (j + 1)) + 1 by omega, M9, List.append_assoc] at i2
  exact ND i1 hk (by omega) hv hb i2
def KC (y : EC) (n : Nat) : Nat -> List Int
 | 0 => []
 | d + 1 => KC y n d ++ De y (n + d) y.vals.length
theorem F7 (y : EC) (j d : Nat) : Di y (j + d) = Di y j ++ KC y j d := by
 induction d with
 | zero => simp [KC]
 | succ d ih => rw [<- Nat.add_assoc]; simp only [Di, KC, ih, List.append_assoc]
theorem Ni (y : EC) (j d : Nat) : KC y j (d + 1) = De y j y.vals.length ++ KC y (j + 1) d := by
 have h1 := F7 y j (d + 1)
 have h2 := F7 y (j + 1) d
 rw [show j + (d + 1) = j + 1 + d by omega, h2] at h1
 simp only [Di, List.append_assoc] at h1
 exact (List.append_cancel_left h1).symm
theorem Oj {q : EC × RSE} (ht : q.1.tab = List.replicate 65 0) (hv : q.1.vals.length <= 5) (hl : q.1.vals.length = y.vals.length) (hb : DB y) (n6 : n <= 6) (hn : AtN s q.2 (Di y n ++ rest)) :
  ∀ k, k <= n -> DM (GY y) q.1 k 0 (C6 s q q.1.vals.length k).1 ∧ AtN s (C6 s q q.1.vals.length k).2 (KC y k (n - k) ++ rest) := by
 intro k
 induction k with
 | zero =>
  intro _
  refine ⟨DM.zero _ _ ht, ?_⟩
  have := F7 y 0 n
  rw [Nat.zero_add] at this
  simp only [Di, List.nil_append] at this
  rw [Nat.sub_zero, <- this]; exact hn
 | succ k ih =>
  intro hk
  obtain ⟨i1, i2⟩ := ih (by omega)
  rw [show n - k = (n - (k + 1)) + 1 by omega, Ni, List.append_assoc] at i2
  obtain ⟨j1, j2⟩ := M1 i1 (by omega) hv hl hb i2 q.1.vals.length (Nat.le_refl _)
  rw [hl, Nat.sub_self] at j2
  refine ⟨j1.row, ?_⟩
  show AtN s (Fd s k (C6 s q q.1.vals.length k) q.1.vals.length).2 _
  rw [hl]; exact j2
structure EBd (nb nv h : Int) (e : ES) : Prop where
 w0 : 0 <= e.who
 w1 : e.who <= nb - 1
 v0 : 0 <= e.val
 v1 : e.val <= nv - 1
 m0 : 0 <= e.made
 m1 : e.made <= h
 a0 : 0 <= e.amount
 a1 : e.amount <= 1000000
theorem Q3 (s : List UInt8) (nb nv h : Int) (st : RSE) (hb : 1 <= nb) (hv : 1 <= nv) (hh : 0 <= h) : EBd nb nv h (LD s nb nv h st).1 := by
 have h1 := Cg s (nb - 1) st (by omega)
 have h2 := Cg s (nv - 1) (nx s (nb - 1) st).2 (by omega)
 have h3 := Cg s h (nx s (nv - 1) (nx s (nb - 1) st).2).2 hh
 have h4 := Cg s 1000000 (nx s h (nx s (nv - 1) (nx s (nb - 1) st).2).2).2 (by decide)
 exact ⟨h1.1, h1.2, h2.1, h2.2, h3.1, h3.2, h4.1, h4.2⟩
theorem PV (s : List UInt8) (nb nv h : Int) (st : RSE) (hb : 1 <= nb) (hv : 1 <= nv) (hh : 0 <= h) (k : Nat) : (rdE s nb nv h st k).1.length = k ∧ ∀ e, e ∈ (rdE s nb nv h st k).1 -> EBd nb nv h e := by
 induction k with
 | zero => exact ⟨rfl, fun e he => by simp [rdE] at he⟩
 | succ k ih =>
  refine ⟨by simp [rdE, ih.1], fun e he => ?_⟩
  simp only [rdE, List.mem_append, List.mem_singleton] at he
  rcases he with he | rfl
  ·exact ih.2 e he
  ·exact Q3 _ _ _ _ _ hb hv hh
theorem P0 {nb nv : Int} {st : RSE} {l : List ES} (hn : AtN s st (l.flatMap entNs ++ rest)) (hl : ∀ e, e ∈ l -> EBd nb nv h e) : ∀ k, k <= l.length -> (rdE s nb nv h st k).1 = l.take k ∧ AtN s (rdE s nb nv h st k).2 ((l.drop k).flatMap entNs ++ rest) := by
 intro k
 induction k with
 | zero => intro _; exact ⟨by simp [rdE], by simpa [rdE] using hn⟩
 | succ k ih =>
  intro hk
  obtain ⟨i1, i2⟩ := ih (by omega)
  have hlt : k < l.length := by omega
  have hb := hl _ (List.getElem_mem hlt)
  rw [List.drop_eq_getElem_cons hlt, List.flatMap_cons, List.append_assoc] at i2
  simp only [entNs, List.cons_append, List.nil_append] at i2
  obtain ⟨a1, a2⟩ := BL (most := nb - 1) i2 hb.w0 hb.w1
  obtain ⟨b1, b2⟩ := BL (most := nv - 1) a2 hb.v0 hb.v1
  obtain ⟨c1, c2⟩ := BL (most := h) b2 hb.m0 hb.m1
  obtain ⟨d1, d2⟩ := BL (most := 1000000) c2 hb.a0 hb.a1
  refine ⟨?_, ?_⟩
  ·simp only [rdE, LD, a1, b1, c1, d1]
   rw [i1, List.take_succ_eq_append_getElem hlt]
  ·simp only [rdE, LD]; exact d2
theorem K6 (i : Nat) (c : Int) (n : Nat) : BJ (fun a => if (i : Int) = (a : Int) then c else 0) n = if i < n then c else 0 := by
 induction n with
 | zero => simp [BJ]
 | succ n ih =>
  simp only [BJ, ih]
  by_cases e : i = n
  ·subst e; rw [if_neg (by omega), if_pos rfl, if_pos (by omega)]; omega
  ·rw [if_neg (show ¬ (i : Int) = (n : Int) by omega)]
   by_cases h : i < n
   ·rw [if_pos h, if_pos (by omega)]; omega
   ·rw [if_neg h, if_neg (by omega)]; omega
theorem Kv (f g : Nat -> Int) (n : Nat) : BJ (fun a => f a + g a) n = BJ f n + BJ g n := by
 induction n with
 | zero => rfl
 | succ n ih => simp only [BJ, ih]; omega
theorem Kw (e : ES) (l : List ES) (a b : Int) : AD (e :: l) a b = AD l a b + (if e.who = a ∧ e.val = b then 1 else 0) := by
 rw [Eu, Eu, List.countP_cons]
 by_cases h : e.who = a ∧ e.val = b
 ·rw [if_pos h, decide_eq_true h, if_pos rfl]; omega
 ·rw [if_neg h, decide_eq_false h, if_neg (by simp)]; omega
theorem Mc (l : List ES) (h : ∀ e, e ∈ l -> ∃ i j : Nat, e.who = i ∧ i < 6 ∧ e.val = j ∧ j < 5) : (l.length : Int) = BJ (fun a => BJ (fun b => AD l a b) 5) 6 := by
 induction l with
 | nil => simp [AD, BJ]
 | cons e l ih =>
  obtain ⟨i, j, h1, h2, h3, h4⟩ := h e (by simp)
  have ih := ih (fun e he => h e (by simp [he]))
  have e1 : ∀ a : Nat, BJ (fun b => AD (e :: l) a b) 5 = BJ (fun b => AD l a b) 5 + (if (i : Int) = (a : Int) then 1 else 0) := fun a => by
   rw [D6 (f := fun b => AD l a b + (if (j : Int) = (b : Int) then (if (i : Int) = (a : Int) then 1 else 0) else 0)) 5 (fun b _ => by
    rw [Kw, h1, h3]
    by_cases hi : (i : Int) = (a : Int)
    ·by_cases hj : (j : Int) = (b : Int)
     ·rw [if_pos ⟨hi, hj⟩, if_pos hj, if_pos hi]
     ·rw [if_neg (fun h => hj h.2), if_neg hj]
    ·rw [if_neg (fun h => hi h.1)]; simp [hi]), Kv, K6, if_pos h4]
  rw [D6 (f := fun a => BJ (fun b => AD l a b) 5 + (if (i : Int) = (a : Int) then 1 else 0)) 6 (fun a _ => e1 a), Kv, K6, if_pos h2, <- ih]
  simp
theorem FI (f : Nat -> Int) (c : Int) (n : Nat) (h : ∀ k, f k <= c) : BJ f n <= c * n := by
 induction n with
 | zero => simp [BJ]
 | succ n ih =>
  have := h n
  simp only [BJ, Int.natCast_add, Int.mul_add]; omega
theorem Kh (ok : Bl x) (hi : CP x) : x.ents.length <= 120 := by
 have okx : Ok x.height x := ok
 have h1 := Mc x.ents (fun e he => by
  obtain ⟨i, hw, hi'⟩ := (okx.ent e he).w
  obtain ⟨j, hv, hj⟩ := hi.en.vl e he
  have := okx.b6; have := okx.v5
  exact ⟨i, j, hw, by omega, hv, by omega⟩)
 have h2 : ∀ a : Nat, BJ (fun b => AD x.ents a b) 5 <= 20 := fun a => by
  have := FI (fun b => AD x.ents a b) 4 5 (fun b => hi.en.ct _ _); omega
 have h3 := FI (fun a => BJ (fun b => AD x.ents a b) 5) 20 6 h2
 omega
theorem Om {a b : List VS} (hl : a.length = b.length) (h : ∀ i, i < b.length -> a.getD i v0 = b.getD i v0) : a = b := by
 apply List.ext_getElem hl
 intro i h1 h2
 have := h i h2
 simpa [h1, h2] using this
structure YB (y : EC) : Prop where
 db : DB y
 vb : ∀ v, v ∈ y.vals -> VB0 v
 bb : ∀ n, n ∈ y.bal -> 0 <= n ∧ n <= 1000000
 ob : ∀ n, n ∈ y.vals.map (fun v => v.owner) -> 0 <= n ∧ n <= 6
 rb : ∀ n, n ∈ y.vals.map (fun v => v.rate) -> 0 <= n ∧ n <= 100
 eb : ∀ e, e ∈ y.ents -> EBd y.bal.length y.vals.length y.height e
 fb : y.fees <= 1000000
 pb : y.pool <= 1000000
 el : y.ents.length <= 120
theorem K1 (ok : Bl y) (hB : DK y) (hE : CP y) : YB y := by
 have okx : Ok y.height y := ok
 obtain ⟨h1, h2, h3, h4, h5⟩ := okx.bds
 have b6 := okx.b6
 have v5 := okx.v5
 have hval : ∀ v, v ∈ y.vals -> ∃ j, j < y.vals.length ∧ v = y.val j := fun v hv => by
  obtain ⟨j, hj, e⟩ := List.getElem_of_mem hv
  exact ⟨j, hj, by rw [<- e]; simp [EC.val, hj]⟩
 refine ⟨⟨fun k j hk hj => ?_, fun k j hk hj hs => ?_⟩, fun v hv => ?_, fun n hn => ?_, fun n hn => ?_, fun n hn => ?_, fun e he => ?_, h2, h3, Kh ok hE⟩
 ·by_cases hjv : j < y.vals.length
  ·exact ⟨okx.sh0 k j hk hj, Int.le_trans (okx.sh_le hk hjv) (okx.val j hjv).s1⟩
  ·rw [hE.sv k j (by omega) hk hj]; omega
 ·have hjv : j < y.vals.length := by
   by_cases hjv : j < y.vals.length
   ·exact hjv
   ·have := hE.sv k j (by omega) hk hj; omega
  have hu := okx.upt k j hk hj
  have ho := okx.owed hk hjv
  have h6 := (h4 j hjv).2
  have h7 := (okx.val j hjv).k0
  refine ⟨by omega, ?_⟩
  have h8 : 1 * (y.per j - y.upto k j) <= y.sh k j * (y.per j - y.upto k j) := Int.mul_le_mul_of_nonneg_right (by omega) (by omega)
  generalize y.sh k j * (y.per j - y.upto k j) = z at *
  omega
 ·obtain ⟨j, hj, rfl⟩ := hval v hv
  have hv := okx.val j hj
  have h6 := h4 j hj
  exact ⟨hv.t0, h6.1, hv.k0, Int.le_trans hv.ko h6.2, Int.le_trans hv.k0 hv.ko, h6.2, hv.jl⟩
 ·obtain ⟨k, hk, rfl⟩ := List.getElem_of_mem hn
  have e : y.balAt k = y.bal[k] := by simp [EC.balAt, hk]
  rw [<- e]; exact ⟨okx.bal k hk, h1 k hk⟩
 ·obtain ⟨i, rfl, hi⟩ := hE.ow n hn; omega
 ·obtain ⟨v, hv, rfl⟩ := List.mem_map.1 hn
  obtain ⟨j, hj, rfl⟩ := hval v hv
  exact ⟨(okx.val j hj).r0, (okx.val j hj).r1⟩
 ·obtain ⟨i, hw, hi⟩ := (okx.ent e he).w
  obtain ⟨j, hv, hj⟩ := hE.en.vl e he
  have h6 := okx.ent e he
  obtain ⟨k, hk, rfl⟩ := List.getElem_of_mem he
  have h7 := h5 k hk
  exact ⟨by omega, by omega, by omega, by omega, h6.m0, h6.m1, h6.a0, h7⟩
theorem F8 (os rs : List Int) (h : rs.length = os.length) : (vs0 os rs).length = os.length := by simp [vs0, h]
theorem Hs (os rs : List Int) (j : Nat) (h : rs.length = os.length) (hj : j < os.length) : (vs0 os rs).getD j v0 = ⟨os.getD j 0, rs.getD j 0, 0, 0, 0, 0, false, false⟩ := by
 simp [vs0, hj, h]
theorem PX (ok : Bl y) (hB : DK y) (hE : CP y) : Sim y (rdX (txt (BO y))).1 ∧ (rdX (txt (BO y))).2.bad = false := by
 have okx : Ok y.height y := ok
 have yb := K1 ok hB hE
 have b6 := okx.b6
 have v5 := okx.v5
 obtain ⟨s, hs⟩ : ∃ s, s = txt (BO y) := ⟨_, rfl⟩
 rw [<- hs]
 have h0 : AtN s ⟨0, false⟩ (BO y) := ⟨rfl, by rw [hs]; rfl⟩
 unfold BO at h0
 simp only [List.append_assoc] at h0
 obtain ⟨g1, g2⟩ := Kt h0 b6 v5 yb.bb yb.ob yb.rb ⟨by have := okx.top0; omega, okx.top1⟩ ⟨by have := okx.mat0; omega, okx.mat1⟩ ⟨okx.fee0, okx.fee1⟩
 unfold rdX
 rw [g1]
 generalize (rdG s ⟨0, false⟩).2 = st0 at *
 -- the chain's numbers
 obtain ⟨q0, hq0⟩ : ∃ q0 : EC × RSE, q0 = (xN' ⟨y.bal, y.vals.map (fun v => v.owner), y.vals.map (fun v => v.rate), y.top, y.mature, y.fee⟩, st0) := ⟨_, rfl⟩
 rw [<- hq0]
 simp only [List.cons_append, List.nil_append] at g2
 obtain ⟨a1, a2⟩ := BL (most := 1000) g2 okx.hgt0 okx.hgt1
 obtain ⟨b1, b2⟩ := BL (most := 1000000) a2 okx.fees yb.fb
 obtain ⟨c1, c2⟩ := BL (most := 1000000) b2 okx.pool yb.pb
 have hx1 : EW s q0 = ({ xN' ⟨y.bal, y.vals.map (fun v => v.owner), y.vals.map (fun v => v.rate), y.top, y.mature, y.fee⟩ with height := y.height, fees := y.fees, pool := y.pool }, (nx s 1000000 (nx s 1000000 (nx s 1000 st0).2).2).2) := by
  rw [hq0]; simp only [EW, a1, b1, c1]
 generalize (nx s 1000000 (nx s 1000000 (nx s 1000 st0).2).2).2 = st1 at *
 unfold PL QW
 obtain ⟨q1, hq1⟩ : ∃ q1, q1 = EW s q0 := ⟨_, rfl⟩
 rw [<- hq1]
 rw [<- hq1] at hx1
 have e11 : q1.1 = { xN' ⟨y.bal, y.vals.map (fun v => v.owner), y.vals.map (fun v => v.rate), y.top, y.mature, y.fee⟩ with height := y.height, fees := y.fees, pool := y.pool } := by rw [hx1]
 have e12 : q1.2 = st1 := by rw [hx1]
 have hl1 : q1.1.vals.length = y.vals.length := by rw [e11]; exact (F8 _ _ (by simp)).trans (by simp)
 have hv1 : ∀ i, i < y.vals.length -> q1.1.val i = ⟨(y.val i).owner, (y.val i).rate, 0, 0, 0, 0, false, false⟩ := fun i hi => by
  rw [e11]
  have := Hs (y.vals.map (fun v => v.owner)) (y.vals.map (fun v => v.rate)) i (by simp) (by simpa using hi)
  refine Eq.trans this ?_
  simp [EC.val, hi]
 clear hx1 hq1
 rw [<- e12] at c2
 obtain ⟨r1, r2⟩ := Pd hl1 c2 yb.vb y.vals.length (Nat.le_refl _)
 rw [hl1]
 obtain ⟨q2, hq2⟩ : ∃ q2, q2 = rdV s q1 y.vals.length := ⟨_, rfl⟩
 rw [<- hq2] at r1 r2 ⊢
 clear hq2
 rw [List.drop_length] at r2
 simp only [List.flatMap_nil, List.nil_append] at r2
 have hl2 : q2.1.vals.length = y.vals.length := r1.vl.trans hl1
 have hv2 : ∀ i, i < y.vals.length -> q2.1.val i = { y.val i with shares := 0 } := fun i hi => by
  obtain ⟨p1, p2, p3, p4⟩ := r1.lo i hi (by omega)
  rw [hv1 i hi] at p2 p3 p4
  simp only at p2 p3 p4
  rw [p1, p2, p3, p4]; rfl
 have hb2 : q2.1 = { y with tab := List.replicate 65 0, vals := q2.1.vals, ents := [] } := by
  have := r1.eq
  rw [e11] at this
  exact this
 have hbl2 : q2.1.bal.length = y.bal.length := by rw [hb2]
 have ht2 : q2.1.tab = List.replicate 65 0 := by rw [hb2]
 obtain ⟨d1, d2⟩ := Oj ht2 (by omega) hl2 yb.db b6 r2 y.bal.length (Nat.le_refl _)
 rw [hbl2]
 obtain ⟨q3, hq3⟩ : ∃ q3, q3 = C6 s q2 q2.1.vals.length y.bal.length := ⟨_, rfl⟩
 rw [<- hq3] at d1 d2 ⊢
 clear hq3
 rw [Nat.sub_self] at d2
 simp only [KC, List.nil_append] at d2
 have hsh : ∀ k j, k < 6 -> j < 5 -> q3.1.sh k j = y.sh k j := fun k j hk hj => by
  by_cases h1 : j < y.vals.length
  ·by_cases h2 : k < y.bal.length
   ·exact (d1.lo k j hk (by omega) (.inl h2)).1
   ·rw [(d1.hi k j hk hj (.inl (by unfold bef; omega))).1, hB.sh k j (by omega) hk hj]
  ·rw [(d1.hi k j hk hj (.inr (by omega))).1, hE.sv k j (by omega) hk hj]
 have hv3 : q3.1.vals = y.vals := by
  refine Om (d1.vl.trans hl2) (fun i hi => ?_)
  have h1 := d1.val i (by omega)
  rw [hv2 i hi, if_neg (by omega)] at h1
  have h2 : BJ (fun r => q3.1.sh r i) y.bal.length = (y.val i).shares := by
   rw [D6 (f := fun r => y.sh r i) _ (fun r hr => hsh r i (by omega) (by omega)), <- okx.shs i hi, <- Oy]
   have := GI (f := fun r => y.sh r i) y.bal.length (6 - y.bal.length) (fun k h1 h2 => hB.sh k i h1 (by omega) (by omega))
   rw [show y.bal.length + (6 - y.bal.length) = 6 by omega] at this
   exact this.symm
  rw [h2] at h1
  refine Eq.trans h1 ?_
  simp only [Int.zero_add]; rfl
 have hb3 : q3.1 = { y with tab := q3.1.tab, ents := [] } := by
  have := d1.eq
  rw [hv3, hb2] at this
  exact this
 have hst : ST y.tab q3.1.tab := by
  refine ⟨okx.tl, d1.tl, fun i hi => ?_, fun k j hk hj hne => ?_⟩
  ·have := hsh (i / 5) (i % 5) (by omega) (by omega)
   unfold EC.sh at this
   rw [show i / 5 * 5 + i % 5 = i by omega] at this
   exact this
  ·have hne' : y.sh k j ≠ 0 := hne
   have hpos : 0 < y.sh k j := by have := okx.sh0 k j hk hj; omega
   have h1 : j < y.vals.length := by
    by_cases h1 : j < y.vals.length
    ·exact h1
    ·exact absurd (hE.sv k j (by omega) hk hj) hne'
   have h2 : k < y.bal.length := by
    by_cases h2 : k < y.bal.length
    ·exact h2
    ·exact absurd (hB.sh k j (by omega) hk hj) hne'
   have hu := (d1.lo k j hk (by omega) (.inl h2)).2 hpos
   have hp := d1.per j hj
   unfold EC.upto EC.per at hu
   unfold EC.per at hp
   rw [hp, hu]; omega
 have e1 : (q3.1.bal.length : Int) = y.bal.length := by rw [hb3]
 have e2 : (q3.1.vals.length : Int) = y.vals.length := by rw [hv3]
 have e3 : q3.1.height = y.height := by rw [hb3]
 obtain ⟨n1, n2⟩ := BL (most := 120) d2 (by omega) (by have := yb.el; omega)
 have n2' : AtN s (nx s 120 q3.2).2 (y.ents.flatMap entNs ++ []) := by rw [List.append_nil]; exact n2
 obtain ⟨f1, f2⟩ := P0 n2' yb.eb y.ents.length (Nat.le_refl _)
 unfold Kj
 simp only [n1, e1, e2, e3, Int.toNat_natCast]
 refine ⟨⟨q3.1.tab, ?_, hst⟩, f2.1⟩
 rw [f1, List.take_length]
 generalize q3.1 = x3 at *
 rw [hb3]
theorem O1 (y : EC) (k j : Nat) : (FA y k j).length <= 2 := by unfold FA; split <;> simp
theorem KB (y : EC) (k n : Nat) : (De y k n).length <= 2 * n := by
 induction n with
 | zero => simp [De]
 | succ n ih => have := O1 y k n; simp only [De, List.length_append]; omega
theorem IZ (y : EC) (hv : y.vals.length <= 5) (n : Nat) : (Di y n).length <= 10 * n := by
 induction n with
 | zero => simp [Di]
 | succ n ih => have := KB y n y.vals.length; simp only [Di, List.length_append]; omega
theorem Fc {α : Type} (f : α -> List Int) (c : Nat) (l : List α) (h : ∀ a, (f a).length = c) : (l.flatMap f).length = c * l.length := by
 induction l with
 | nil => simp
 | cons a l ih => rw [List.flatMap_cons, List.length_append, h, ih, List.length_cons, Nat.mul_add]; omega
theorem Qm (y : EC) (n m : Nat) (z : Int) (hz : z ∈ Di y n) : ∃ k j, k < n ∧ j < y.vals.length ∧ z ∈ FA y k j := by
 have hr : ∀ k m, z ∈ De y k m -> ∃ j, j < m ∧ z ∈ FA y k j := by
  intro k m
  induction m with
  | zero => intro h; simp [De] at h
  | succ m ih =>
   intro h
   simp only [De, List.mem_append] at h
   rcases h with h | h
   ·obtain ⟨j, hj, h⟩ := ih h; exact ⟨j, by omega, h⟩
   ·exact ⟨m, by omega, h⟩
 induction n with
 | zero => simp [Di] at hz
 | succ n ih =>
  simp only [Di, List.mem_append] at hz
  rcases hz with h | h
  ·obtain ⟨k, j, hk, hj, h⟩ := ih h; exact ⟨k, j, by omega, hj, h⟩
  ·obtain ⟨j, hj, h⟩ := hr _ _ h; exact ⟨n, j, by omega, hj, h⟩
theorem QD (ok : Bl y) (hB : DK y) (hE : CP y) : ∀ n, n ∈ BO y -> 0 <= n ∧ n <= 1073741824000000 := by
 have okx : Ok y.height y := ok
 have yb := K1 ok hB hE
 have b6 := okx.b6
 have v5 := okx.v5
 intro n hn
 simp only [BO, Es, List.mem_append, List.mem_cons, List.not_mem_nil, or_false, List.mem_flatMap] at hn
 rcases hn with ((((((((((hn | hn) | hn) | hn) | hn) | hn) | hn) | hn) | hn) | hn) | hn) | hn
 ·omega
 ·have := yb.bb n hn; omega
 ·omega
 ·have := yb.ob n hn; omega
 ·omega
 ·have := yb.rb n hn; omega
 ·have := okx.top0; have := okx.top1; have := okx.mat0; have := okx.mat1; have := okx.fee0; have := okx.fee1
  omega
 ·have := okx.hgt0; have := okx.hgt1; have := okx.fees; have := okx.pool; have := yb.fb; have := yb.pb
  omega
 ·obtain ⟨v, hv, hn⟩ := hn
  have h := yb.vb v hv
  have h2 := Fx v
  obtain ⟨t0, t1, k0, k1, o0, o1, _⟩ := h
  simp only [C1, List.mem_cons, List.not_mem_nil, or_false] at hn
  omega
 ·obtain ⟨k, j, hk, hj, hn⟩ := Qm y _ 0 n hn
  have h1 := yb.db.s0 k j (by omega) (by omega)
  have h2 := yb.db.p0 k j (by omega) (by omega)
  unfold FA at hn
  split at hn
  ·rename_i hs
   have h2 := h2 hs
   simp only [List.mem_cons, List.not_mem_nil, or_false] at hn
   omega
  ·simp only [List.mem_cons, List.not_mem_nil, or_false] at hn
   omega
 ·have := yb.el; omega
 ·obtain ⟨e, he, hn⟩ := hn
  obtain ⟨w0, w1, v0, v1, m0, m1, a0, a1⟩ := yb.eb e he
  have := okx.hgt1
  simp only [entNs, List.mem_cons, List.not_mem_nil, or_false] at hn
  omega
theorem Mo (ok : Bl y) (hB : DK y) (hE : CP y) : (txt (BO y)).length <= 8192 := by
 have okx : Ok y.height y := ok
 have yb := K1 ok hB hE
 have b6 := okx.b6
 have v5 := okx.v5
 have hall := QD ok hB hE
 obtain ⟨A, hA⟩ : ∃ A, A = Es y ++ [y.height, y.fees, y.pool] ++ y.vals.flatMap C1 ++ Di y y.bal.length ++ [(y.ents.length : Int)] := ⟨_, rfl⟩
 have hn : BO y = A ++ y.ents.flatMap entNs := by rw [hA]; rfl
 have hAl : A.length <= 106 := by
  rw [hA]
  have h1 := IZ y v5 y.bal.length
  have h2 := Fc C1 4 y.vals (fun _ => rfl)
  simp only [Es, List.length_append, List.length_cons, List.length_nil, List.length_map, h2]
  omega
 have h1 := Ek A 17 (fun n hn' => KX n 16 (by decide) (hall n (by rw [hn]; simp [hn'])).1 (by have := hall n (by rw [hn]; simp [hn']); omega))
 have h2 := Ek (y.ents.flatMap entNs) 8 (fun n hn' => by
  obtain ⟨e, he, hn'⟩ := List.mem_flatMap.1 hn'
  obtain ⟨w0, w1, v0, v1, m0, m1, a0, a1⟩ := yb.eb e he
  have := okx.hgt1
  simp only [entNs, List.mem_cons, List.not_mem_nil, or_false] at hn'
  exact KX n 7 (by decide) (by omega) (by omega))
 have h3 := Fc entNs 4 y.ents (fun _ => rfl)
 have h4 := yb.el
 rw [hn, IW, List.length_append]
 omega
end Go.Proofs.YtohjjgefklhmaaaGreatDoor
