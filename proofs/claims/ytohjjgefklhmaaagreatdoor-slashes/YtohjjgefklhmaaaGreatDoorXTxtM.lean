import Derived.Test.YtohjjgefklhmaaaGreatDoorGDoesM
import Derived.Lib.ItoaMem
import Derived.Lib.ItoaLen
namespace Go.Proofs.YtohjjgefklhmaaaGreatDoor
open Go.ChangeShapes Go.WideShapes Go.ChangeAt Go.RowKit
set_option linter.unusedVariables false

/-! ### numbers as text -/
def numT (n : Int) : List UInt8 := Lib.itoa n ++ [32]
def txt : List Int → List UInt8
  | [] => []
  | n :: l => numT n ++ txt l
theorem txt_append (l m : List Int) : txt (l ++ m) = txt l ++ txt m := by
  induction l with
  | nil => rfl
  | cons a l ih => simp only [List.cons_append, txt, ih, List.append_assoc]
theorem txt_snoc (l : List Int) (n : Int) : txt (l ++ [n]) = txt l ++ (Lib.itoa n ++ [32]) := by
  rw [txt_append]; simp [txt, numT]
theorem txt_length_le (l : List Int) (c : Nat) (h : ∀ n, n ∈ l → (numT n).length ≤ c) : (txt l).length ≤ c * l.length := by
  induction l with
  | nil => simp [txt]
  | cons a l ih =>
    have h1 := h a (by simp)
    have h2 := ih (fun n hn => h n (by simp [hn]))
    simp only [txt, List.length_append, List.length_cons, Nat.mul_add, Nat.mul_one]; omega
theorem numT_len22 (n : Int) (h0 : -9223372036854775808 ≤ n) (h1 : n ≤ 9223372036854775807) : (numT n).length ≤ 22 := by
  have := Lib.itoa_length_le n h0 h1
  simp only [numT, List.length_append, List.length_singleton]; omega
/-! ### a number is read -/
end Go.Proofs.YtohjjgefklhmaaaGreatDoor

namespace Go.Proofs.YtohjjgefklhmaaaGreatDoor
open Go.ChangeShapes Go.WideShapes Go.ChangeAt Go.RowKit
set_option linter.unusedVariables false

/-! ### two engines that answer alike -/
end Go.Proofs.YtohjjgefklhmaaaGreatDoor

namespace Go.Proofs.YtohjjgefklhmaaaGreatDoor
open Go.ChangeShapes Go.WideShapes Go.ChangeAt Go.RowKit
set_option linter.unusedVariables false

/-! ### entries: in order, not yet past, four of a kind at most -/
def keyE (e : ES) : Int × Int × Int := (e.who, e.val, e.made)
theorem countE_P (l : List ES) (a b : Int) : countE l a b = ((l.countP (fun e => decide (e.who = a ∧ e.val = b)) : Nat) : Int) := by
  have key : ∀ (l : List ES) (n : Int), l.foldl (fun n e => if e.who = a ∧ e.val = b then n + 1 else n) n = n + ((l.countP (fun e => decide (e.who = a ∧ e.val = b)) : Nat) : Int) := by
    intro l
    induction l with
    | nil => intro n; simp
    | cons e l ih =>
      intro n
      simp only [List.foldl_cons, List.countP_cons, ih]
      by_cases he : e.who = a ∧ e.val = b
      · rw [if_pos he]; simp only [he, and_self, decide_true, if_true]; omega
      · rw [if_neg he]; simp only [he, decide_false]; simp
  unfold countE; rw [key]; omega
structure EntI (nv : Nat) (h m : Int) (l : List ES) : Prop where
  vl : ∀ e, e ∈ l → ∃ j : Nat, e.val = j ∧ j < nv
  so : l.Pairwise (fun a b => a.made ≤ b.made)
  lv : ∀ e, e ∈ l → h < e.made + m
  le : ∀ e, e ∈ l → e.made ≤ h
  ct : ∀ a b, countE l a b ≤ 4
theorem EntI.sub {nv : Nat} {h m : Int} {l l' : List ES} (i : EntI nv h m l) (s : List.Sublist l' l) : EntI nv h m l' :=
  ⟨fun e he => i.vl e (s.subset he), i.so.sublist s, fun e he => i.lv e (s.subset he), fun e he => i.le e (s.subset he), fun a b => by
    have := i.ct a b
    rw [countE_P] at this ⊢
    have := s.countP_le (p := fun e => decide (e.who = a ∧ e.val = b))
    omega⟩
theorem EntI.key {nv : Nat} {h m : Int} {l l' : List ES} (i : EntI nv h m l) (k : l'.map keyE = l.map keyE) : EntI nv h m l' := by
  have hm : ∀ e, e ∈ l' → ∃ d, d ∈ l ∧ d.who = e.who ∧ d.val = e.val ∧ d.made = e.made := by
    intro e he
    have : keyE e ∈ l.map keyE := by rw [← k]; exact List.mem_map_of_mem he
    obtain ⟨d, hd, hk⟩ := List.mem_map.1 this
    simp only [keyE, Prod.mk.injEq] at hk
    exact ⟨d, hd, hk.1, hk.2.1, hk.2.2⟩
  refine ⟨fun e he => ?_, ?_, fun e he => ?_, fun e he => ?_, fun a b => ?_⟩
  · obtain ⟨d, hd, _, h2, _⟩ := hm e he; rw [← h2]; exact i.vl d hd
  · have h1 : (l.map keyE).Pairwise (fun a b => a.2.2 ≤ b.2.2) := List.pairwise_map.2 i.so
    rw [← k] at h1
    exact (List.pairwise_map (f := keyE) (R := fun a b => a.2.2 ≤ b.2.2)).1 h1
  · obtain ⟨d, hd, _, _, h3⟩ := hm e he; rw [← h3]; exact i.lv d hd
  · obtain ⟨d, hd, _, _, h3⟩ := hm e he; rw [← h3]; exact i.le d hd
  · have e1 : ∀ l : List ES, l.countP (fun e => decide (e.who = a ∧ e.val = b)) = (l.map keyE).countP (fun q => decide (q.1 = a ∧ q.2.1 = b)) := fun l => by rw [List.countP_map]; rfl
    have := i.ct a b
    rw [countE_P, e1] at this ⊢
    rw [k]; exact this
theorem EntI.add {nv : Nat} {h m : Int} {l : List ES} (i : EntI nv h m l) (k j : Nat) (t : Int) (hj : j < nv) (hm : 1 ≤ m) (hc : countE l k j < 4) : EntI nv h m (l ++ [⟨k, j, h, t⟩]) := by
  have hm' : ∀ e, e ∈ l ++ [(⟨k, j, h, t⟩ : ES)] → e ∈ l ∨ e = ⟨k, j, h, t⟩ := fun e he => by simpa using he
  refine ⟨fun e he => ?_, ?_, fun e he => ?_, fun e he => ?_, fun a b => ?_⟩
  · rcases hm' e he with he | rfl
    · exact i.vl e he
    · exact ⟨j, rfl, hj⟩
  · rw [List.pairwise_append]
    refine ⟨i.so, by simp, fun a ha b hb => ?_⟩
    simp only [List.mem_singleton] at hb
    subst hb
    exact i.le a ha
  · rcases hm' e he with he | rfl
    · exact i.lv e he
    · simp only; omega
  · rcases hm' e he with he | rfl
    · exact i.le e he
    · exact Int.le_refl _
  · have h1 := i.ct a b
    rw [countE_P] at h1 hc ⊢
    rw [List.countP_append, List.countP_singleton]
    by_cases e : (k : Int) = a ∧ (j : Int) = b
    · obtain ⟨rfl, rfl⟩ := e
      simp only [and_self, decide_true, if_true]; omega
    · have e' : decide ((⟨k, j, h, t⟩ : ES).who = a ∧ (⟨k, j, h, t⟩ : ES).val = b) = false := decide_eq_false e
      rw [e', if_neg (by simp)]; omega
theorem peLoop_sub (x : EC) (k : Nat) (hk : k ≤ x.ents.length) : List.Sublist (peLoop x k).2 (x.ents.take k) ∧ ∀ e, e ∈ (peLoop x k).2 → e.made + x.mature ≠ x.height := by
  induction k with
  | zero => exact ⟨by simp [peLoop], by simp [peLoop]⟩
  | succ k ih =>
    obtain ⟨i1, i2⟩ := ih (by omega)
    have hlt : k < x.ents.length := by omega
    have ed : x.ents.getD k e0 = x.ents[k] := by simp [hlt]
    have et : x.ents.take (k + 1) = x.ents.take k ++ [x.ents[k]] := by rw [List.take_succ_eq_append_getElem hlt]
    simp only [peLoop]
    rw [ed]
    split
    · rw [et]
      exact ⟨i1.trans (List.sublist_append_left _ _), i2⟩
    · rename_i hne
      rw [et]
      refine ⟨List.Sublist.append i1 (List.Sublist.refl _), fun e he => ?_⟩
      simp only [List.mem_append, List.mem_singleton] at he
      rcases he with he | rfl
      · exact i2 e he
      · exact hne
theorem EntI.paid {x : EC} {nv : Nat} {h : Int} (i : EntI nv h x.mature x.ents) (hh : x.height = h + 1) : EntI nv (h + 1) x.mature (payEF x).ents := by
  obtain ⟨s1, s2⟩ := peLoop_sub x x.ents.length (Nat.le_refl _)
  rw [List.take_length] at s1
  have j := i.sub s1
  refine ⟨j.vl, j.so, fun e he => ?_, fun e he => ?_, j.ct⟩
  · have := j.lv e he
    have := s2 e he
    omega
  · have := j.le e he
    omega
theorem slLoop_key (x : EC) (j : Nat) (hgt p : Int) (k : Nat) : (slLoop x j hgt p k).2.map keyE = x.ents.map keyE ∧ (slLoop x j hgt p k).2.length = x.ents.length := by
  induction k with
  | zero => exact ⟨rfl, rfl⟩
  | succ k ih =>
    simp only [slLoop]
    split
    · refine ⟨?_, by simpa using ih.2⟩
      simp only
      rw [List.map_set, ih.1]
      apply List.ext_getElem?
      intro i
      by_cases e : k = i
      · subst e
        by_cases hk : k < x.ents.length
        · simp [hk, keyE, cutE]
        · rw [List.getElem?_eq_none (by simp; omega), List.getElem?_eq_none (by simp; omega)]
      · rw [List.getElem?_set_ne e]
    · exact ih

/-! ### what holds besides, of an engine -/
structure InvE (x : EC) : Prop where
  b1 : 1 ≤ x.bal.length
  v1 : 1 ≤ x.vals.length
  ow : ∀ o : Int, o ∈ x.vals.map (fun v => v.owner) → ∃ i : Nat, o = (i : Int) ∧ i < x.bal.length
  sv : ∀ k j, x.vals.length ≤ j → k < 6 → j < 5 → x.sh k j = 0
  en : EntI x.vals.length x.height x.mature x.ents
structure KeepO (x x' : EC) : Prop where
  bl : x'.bal.length = x.bal.length
  ow : x'.vals.map (fun v => v.owner) = x.vals.map (fun v => v.owner)
  sv : ∀ k j, x.vals.length ≤ j → k < 6 → j < 5 → x'.sh k j = x.sh k j
  hg : x'.height = x.height
  ma : x'.mature = x.mature
  en : x'.ents.map keyE = x.ents.map keyE
theorem KeepO.vl {x x' : EC} (h : KeepO x x') : x'.vals.length = x.vals.length := by
  have := congrArg List.length h.ow; simpa using this
theorem KeepO.refl (x : EC) : KeepO x x := ⟨rfl, rfl, fun _ _ _ _ _ => rfl, rfl, rfl, rfl⟩
theorem KeepO.trans {x y z : EC} (h : KeepO x y) (h' : KeepO y z) : KeepO x z :=
  ⟨h'.bl.trans h.bl, h'.ow.trans h.ow, fun k j a b c => (h'.sv k j (by rw [h.vl]; exact a) b c).trans (h.sv k j a b c), h'.hg.trans h.hg, h'.ma.trans h.ma, h'.en.trans h.en⟩
theorem InvE.keep {x x' : EC} (h : InvE x) (k : KeepO x x') : InvE x' :=
  ⟨by rw [k.bl]; exact h.b1, by rw [k.vl]; exact h.v1, by rw [k.ow, k.bl]; exact h.ow, fun a b c d e => by rw [k.vl] at c; rw [k.sv a b c d e]; exact h.sv a b c d e, by rw [k.vl, k.hg, k.ma]; exact h.en.key k.en⟩
theorem own_mod (l : List VS) (j : Nat) (g : VS → VS) (h : ∀ v, (g v).owner = v.owner) : (l.modify j g).map (fun v => v.owner) = l.map (fun v => v.owner) := by
  apply List.ext_getElem?
  intro i
  simp only [List.getElem?_map, List.getElem?_modify]
  by_cases e : j = i
  · subst e; cases l[j]? with
    | none => rfl
    | some v => simp [h]
  · simp [e]
theorem own_off (l : List VS) (k : Nat) : (offL l k).map (fun v => v.owner) = l.map (fun v => v.owner) := by
  induction k with
  | zero => rfl
  | succ k ih => simp only [offL]; refine (own_mod _ _ _ ?_).trans ih; intro v; rfl
theorem own_chooseL (n : Nat) : ∀ l : List VS, (chooseL n l).map (fun v => v.owner) = l.map (fun v => v.owner) := by
  induction n with
  | zero => intro l; rfl
  | succ n ih =>
    intro l
    simp only [chooseL]
    split
    · rfl
    · rw [ih]; exact own_mod _ _ _ (fun _ => rfl)
theorem own_choose (l : List VS) (t : Int) : (chooseF l t).map (fun v => v.owner) = l.map (fun v => v.owner) := by
  unfold chooseF; rw [own_chooseL, own_off]
theorem KeepO.charge (x : EC) (k : Nat) : KeepO x (chargeFE x k) := ⟨by simp [chargeFE], rfl, fun _ _ _ _ _ => rfl, rfl, rfl, rfl⟩
theorem KeepO.pay (x : EC) (k j : Nat) : KeepO x (payF x k j) :=
  ⟨by simp [payF], own_mod _ _ _ (fun _ => rfl), fun k' j' _ h6 h5 => by simp only [payF, EC.sh]; exact getD_set_off (by omega), rfl, rfl, rfl⟩
theorem KeepO.join (x : EC) (k j : Nat) (t : Int) (hj : j < x.vals.length) (hv : x.vals.length ≤ 5) : KeepO x (joinFE x k j t) :=
  (KeepO.pay x k j).trans ⟨rfl, by simp only [joinFE]; refine (own_mod _ _ _ ?_).trans (own_mod _ _ _ ?_) <;> intro v <;> rfl, fun k' j' hj' h6 h5 => by
    have : x.vals.length ≤ j' := by rw [(KeepO.pay x k j).vl] at hj'; exact hj'
    simp only [joinFE, EC.sh]; exact getD_set_off (by omega), rfl, rfl, rfl⟩
theorem KeepO.gone (x : EC) (k j : Nat) (n t : Int) (hj : j < x.vals.length) (hv : x.vals.length ≤ 5) : KeepO x (goneF x k j n t) :=
  ⟨rfl, by simp only [goneF]; refine (own_mod _ _ _ ?_).trans (own_mod _ _ _ ?_) <;> intro v <;> rfl, fun k' j' hj' h6 h5 => by simp only [goneF, EC.sh]; exact getD_set_off (by omega), rfl, rfl, rfl⟩
theorem KeepO.clear (x : EC) (j : Nat) : KeepO x (clearF x j) := ⟨rfl, own_mod _ _ _ (fun _ => rfl), fun _ _ _ _ _ => rfl, rfl, rfl, rfl⟩
theorem KeepO.leave (x : EC) (k j : Nat) (n : Int) (hj : j < x.vals.length) (hv : x.vals.length ≤ 5) : KeepO x (leaveF x k j n) := by
  have hp := KeepO.pay x k j
  have h1 := hp.trans (KeepO.gone (payF x k j) k j n (tokensForF (x.val j) n) (by rw [hp.vl]; exact hj) (by rw [hp.vl]; exact hv))
  unfold leaveF
  split
  · exact h1.trans (KeepO.clear _ _)
  · exact h1
theorem KeepO.coll (x : EC) (k j : Nat) : KeepO x (collF x k j) :=
  ⟨by simp [collF], by simp only [collF]; refine (own_mod _ _ _ ?_).trans (own_mod _ _ _ ?_) <;> intro v <;> rfl, fun _ _ _ _ _ => rfl, rfl, rfl, rfl⟩
theorem KeepO.slash (x : EC) (j : Nat) (hgt p : Int) : KeepO x (slashF x j hgt p) :=
  ⟨rfl, by simp only [slashF, jailF, slEntF, slTokF]; refine (own_mod _ _ _ ?_).trans ((own_mod _ _ _ ?_).trans (own_mod _ _ _ ?_)) <;> intro v <;> rfl, fun _ _ _ _ _ => rfl, rfl, rfl, (slLoop_key (slTokF x j p) j hgt p _).1⟩
theorem KeepO.out (x : EC) (j : Nat) : KeepO x (outF x j) := ⟨rfl, own_mod _ _ _ (fun _ => rfl), fun _ _ _ _ _ => rfl, rfl, rfl, rfl⟩
theorem KeepO.take (x : EC) (j : Nat) (a : Int) : KeepO x (takeF x j a) := by
  have h1 : KeepO x { x with vals := (x.vals.modify j (fun v => { v with comm := v.comm + a * (x.val j).rate / 100 })).modify j (fun v => { v with outs := v.outs + a }) } :=
    ⟨rfl, by simp only; refine (own_mod _ _ _ ?_).trans (own_mod _ _ _ ?_) <;> intro v <;> rfl, fun _ _ _ _ _ => rfl, rfl, rfl, rfl⟩
  refine h1.trans ?_
  unfold takeF shareOutF
  split
  · exact KeepO.refl _
  · exact ⟨rfl, rfl, fun k' j' _ h6 h5 => by simp only [EC.sh]; exact getD_set_off (by omega), rfl, rfl, rfl⟩
theorem KeepO.loop (x : EC) (f b : Int) (k : Nat) : KeepO x (shLoop x f b k).1 := by
  induction k with
  | zero => exact KeepO.refl x
  | succ k ih =>
    simp only [shLoop]
    split
    · exact ih.trans (KeepO.take _ _ _)
    · exact ih
theorem InvE.block {x : EC} (h : InvE x) : InvE (blkR x).2 := by
  have k1 := KeepO.loop x x.fees (bondedN x.vals) x.vals.length
  unfold blkR
  split
  · exact h
  · have hs : KeepO x (shareF x) := k1.trans ⟨rfl, rfl, fun _ _ _ _ _ => rfl, rfl, rfl, rfl⟩
    have h1 := h.keep hs
    have hu : (upF x).height = x.height + 1 := rfl
    have hp := (show EntI (shareF x).vals.length x.height (upF x).mature (upF x).ents by have := h1.en; rw [hs.hg] at this; exact this).paid (x := upF x) hu
    have hl : (payEF (upF x)).bal.length = (shareF x).bal.length := peLoop_len _ _
    have ho : (setF (payEF (upF x))).vals.map (fun v => v.owner) = (shareF x).vals.map (fun v => v.owner) := own_choose _ _
    have hvl : (setF (payEF (upF x))).vals.length = (shareF x).vals.length := by have := congrArg List.length ho; simpa using this
    refine ⟨by show 1 ≤ (payEF (upF x)).bal.length; rw [hl]; exact h1.b1, by rw [hvl]; exact h1.v1, ?_, ?_, ?_⟩
    · show ∀ o : Int, o ∈ (setF (payEF (upF x))).vals.map (fun v => v.owner) → ∃ i : Nat, o = (i : Int) ∧ i < (payEF (upF x)).bal.length
      rw [ho, hl]; exact h1.ow
    · intro k j hj
      rw [hvl] at hj
      exact h1.sv k j hj
    · rw [hvl]; exact hp
theorem InvE.ent {x : EC} (h : InvE x) (k j : Nat) (t : Int) (hj : j < x.vals.length) (hm : 1 ≤ x.mature) (hc : countE x.ents k j < 4) : InvE (entF x k j t) := by
  unfold entF
  split
  · exact h
  · exact ⟨h.b1, h.v1, h.ow, h.sv, h.en.add k j t hj hm hc⟩
theorem InvE.does {x : EC} (h : InvE x) (ok : Fine x) (k a b c d : Int) : InvE (doesR x k a b c d).2 := by
  have okx : Ok x.height x := ok
  have v5 := okx.v5
  have hch : ∀ k : Nat, k < x.bal.length → InvE (chargeFE x k) := fun k _ => h.keep (KeepO.charge x k)
  have hvl : ∀ k : Nat, (chargeFE x k).vals.length = x.vals.length := fun k => rfl
  unfold doesR
  split
  · refine msgR_keep h hch (fun k hk he => (hch k hk).keep ⟨by simp [sentB], rfl, fun _ _ _ _ _ => rfl, rfl, rfl, rfl⟩)
  split
  · unfold spendR
    split
    · exact h
    · exact h.keep ⟨by simp, rfl, fun _ _ _ _ _ => rfl, rfl, rfl, rfl⟩
  split
  · refine msgR_keep h hch (fun k hk he => ?_)
    obtain ⟨j, rfl, hj, _⟩ := bondErrF_ok he
    have hkb : KeepO (chargeFE x k) { chargeFE x k with bal := (chargeFE x k).bal.set k ((chargeFE x k).balAt k - c) } := ⟨by simp, rfl, fun _ _ _ _ _ => rfl, rfl, rfl, rfl⟩
    refine (hch k hk).keep (hkb.trans (KeepO.join _ k _ c ?_ ?_))
    · rw [Int.toNat_natCast]; exact hj
    · exact v5
  split
  · refine msgR_keep h hch (fun k hk he => ?_)
    obtain ⟨j, rfl, hj, _, _, hc4⟩ := unbErrF_ok he
    have kl := KeepO.leave (chargeFE x k) k (Int.toNat (j : Int)) c (by rw [Int.toNat_natCast]; exact hj) v5
    have h2 := (hch k hk).keep kl
    show InvE (entF (leaveF (chargeFE x k) k (Int.toNat (j : Int)) c) k (Int.toNat (j : Int)) _)
    refine h2.ent k _ _ (by rw [kl.vl, Int.toNat_natCast]; exact hj) (by rw [kl.ma]; exact okx.mat0) ?_
    have e1 : ∀ l : List ES, ∀ a b, l.countP (fun e => decide (e.who = a ∧ e.val = b)) = (l.map keyE).countP (fun q => decide (q.1 = a ∧ q.2.1 = b)) := fun l a b => by rw [List.countP_map]; rfl
    rw [countE_P, e1] at hc4 ⊢
    rw [kl.en, Int.toNat_natCast]; exact hc4
  split
  · refine msgR_keep h hch (fun k hk he => ?_)
    obtain ⟨j, t, rfl, rfl, hj, ht, _⟩ := movErrF_ok he
    have k1 := KeepO.leave (chargeFE x k) k (Int.toNat (j : Int)) d (by rw [Int.toNat_natCast]; exact hj) v5
    refine (hch k hk).keep (k1.trans (KeepO.join _ k _ _ ?_ ?_))
    · rw [k1.vl, Int.toNat_natCast]; exact ht
    · rw [k1.vl]; exact v5
  split
  · exact msgR_keep h hch (fun k hk he => (hch k hk).keep (KeepO.pay _ _ _))
  split
  · exact msgR_keep h hch (fun k hk he => (hch k hk).keep (KeepO.coll _ _ _))
  split
  · unfold slashR
    split
    · exact h
    · exact h.keep (KeepO.slash _ _ _ _)
  split
  · exact msgR_keep h hch (fun k hk he => (hch k hk).keep (KeepO.out _ _))
  · exact h.block
end Go.Proofs.YtohjjgefklhmaaaGreatDoor
