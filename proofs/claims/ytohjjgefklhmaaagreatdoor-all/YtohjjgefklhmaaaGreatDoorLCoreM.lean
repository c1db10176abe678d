import Derived.Test.YtohjjgefklhmaaaGreatDoorWriteM
namespace Go.Proofs.YtohjjgefklhmaaaGreatDoor
open Go.ChangeShapes Go.WideShapes Go.ChangeAt Go.RowKit
set_option linter.unusedVariables false
set_option maxHeartbeats 40000000
set_option maxRecDepth 100000
variable {w w' wr : World} {g gb n cap k base size m : Nat} {vv dv ev bv st v : Value} {who top : Int} {e : TypeId} {xs cs : List Value} {ents sl : List ES}
structure LC where
 top : Int
 mature : Int
 fee : Int
 height : Int
 fees : Int
 pool : Int
 bal : List Int
structure Bu (w : World) (g : Nat) (c : LC) (bv vv dv ev : Value) : Prop where
 L : Has w g 81 [.int .i64 c.top, .int .i64 c.mature, .int .i64 c.fee, .int .i64 c.height, bv, .int .i64 c.fees, .int .i64 c.pool, vv, dv, ev]
 b : w.ownsRow 0 3 1 bv c.bal.length (Ai c.bal)
structure LBd (c : LC) : Prop where
 len : c.bal.length <= 1000
 fee0 : 0 <= c.fee
 fee1 : c.fee <= 1000000
 fees0 : 0 <= c.fees
 fees1 : c.fees <= 1000000000000
 pool0 : 0 <= c.pool
 pool1 : c.pool <= 1000000000000
 bal : ∀ k (h : k < c.bal.length), 0 <= c.bal[k] ∧ c.bal[k] <= 1000000000000
def LS (g : Nat) (bv : Value) (k : Nat) : Prop := k = g ∨ bv.ownBlock = some k
def Bf (c : LC) (k : Nat) (x : Int) : LC := { c with bal := c.bal.set k x }
theorem IN (xs : List Int) (k : Nat) (x : Int) : (Ai xs).set k (.int .i64 x) = Ai (xs.set k x) := by simp [Ai]
theorem Bu.setBal {c : LC} (h : Bu w g c (.slice (some ⟨gb, 0, none⟩) n cap) vv dv ev) (hn : n = c.bal.length) (k : Nat) (x : Int) :
  Bu (w.setCell ⟨gb, k, none⟩ (.int .i64 x)) g (Bf c k x) (.slice (some ⟨gb, 0, none⟩) n cap) vv dv ev := by
 subst hn
 have hne : g ≠ gb := fun e => Has.apart h.L h.b (by decide) (by rw [e]; rfl)
 refine ⟨h.L.other _ _ hne, ?_⟩
 have := (h.b.stored k (.int .i64 x)).1
 rw [IN] at this
 simpa [Bf] using this
theorem Bu.drewN {c : LC} (h : Bu w g c bv vv dv ev) (n : Nat) : Bu (w.drewN n) g c bv vv dv ev := ⟨h.L, h.b⟩
theorem Bu.setFees {c : LC} (h : Bu w g c bv vv dv ev) (x : Int) : Bu (w.setCell ⟨g, 5, none⟩ (.int .i64 x)) g { c with fees := x } bv vv dv ev :=
 ⟨h.L.set 5 _, Aa h.b _ _ (fun e => Has.apart h.L h.b (by decide) e.symm)⟩
theorem Bu.setPool {c : LC} (h : Bu w g c bv vv dv ev) (x : Int) : Bu (w.setCell ⟨g, 6, none⟩ (.int .i64 x)) g { c with pool := x } bv vv dv ev :=
 ⟨h.L.set 6 _, Aa h.b _ _ (fun e => Has.apart h.L h.b (by decide) e.symm)⟩
theorem Bv (g : Nat) (c : LC) (bv vv dv ev : Value) (a : Int) (w : World) (h : Bu w g c bv vv dv ev) (hl : c.bal.length <= 1000) :
  Calls Tryz.prog 99 #[.pointer (some ⟨g, 0, none⟩), .int .i64 a] w fun e w' => e = .returned (.bool (inN a 0 ((c.bal.length : Int) - 1))) ∧ w = w' := by
 obtain ⟨ba, bc, rfl⟩ := Ac h.b
 have c4 : w.cell? ⟨g, 4, none⟩ = some (.slice ba c.bal.length bc) := h.L.cell 4
 clear h
 go_enter Tryz.func99, Tryz.ntmps99
 go_wp2_with (go_at_call 76; refine (EK _ _ _ _).mono ?_; rintro e w' ⟨rfl, rfl⟩)
 go_ret
 exact ⟨rfl, rfl⟩
def Ah (c : LC) (who : Int) : Int × LC :=
 if inN who 0 ((c.bal.length : Int) - 1) = true then
  if c.bal.getD who.toNat 0 < c.fee then (4, c) else (0, { Bf c who.toNat (c.bal.getD who.toNat 0 - c.fee) with fees := c.fees + c.fee })
 else (2, c)
theorem Iv {c : LC} (h : inN who 0 ((c.bal.length : Int) - 1) = false) : Ah c who = (2, c) := by unfold Ah; rw [if_neg (by simp [h])]
theorem Gi {c : LC} (h : inN (k : Int) 0 ((c.bal.length : Int) - 1) = true) (h2 : c.bal.getD k 0 < c.fee) : Ah c k = (4, c) := by
 unfold Ah; rw [if_pos h, Int.toNat_natCast, if_pos h2]
theorem G1 {c : LC} (h : inN (k : Int) 0 ((c.bal.length : Int) - 1) = true) (h2 : ¬ c.bal.getD k 0 < c.fee) : Ah c k = (0, { Bf c k (c.bal.getD k 0 - c.fee) with fees := c.fees + c.fee }) := by
 unfold Ah; rw [if_pos h, Int.toNat_natCast, if_neg h2]
theorem F1 (g : Nat) (c : LC) (bv vv dv ev : Value) (who : Int) (w : World) (h : Bu w g c bv vv dv ev) (hb : LBd c) :
  Calls Tryz.prog 124 #[.pointer (some ⟨g, 0, none⟩), .int .i64 who] w fun e w' => e = .returned (.int .i64 (Ah c who).1) ∧ Bu w' g (Ah c who).2 bv vv dv ev ∧ Kp (LS g bv) w w' := by
 have HC := Hd h
 have hlen := hb.len
 by_cases hin : inN who 0 ((c.bal.length : Int) - 1) = true
 case neg =>
  have hin' : inN who 0 ((c.bal.length : Int) - 1) = false := by simpa using hin
  rw [Iv hin']
  clear h hb hin
  go_enter Tryz.func124, Tryz.ntmps124
  go_wp2_with (go_at_call 99; refine (Bv g c bv vv dv ev _ _ HC.out hlen).mono ?_; rintro e w' ⟨rfl, rfl⟩)
  go_ret
  exact ⟨rfl, HC.out, Kp.refl _ _⟩
 obtain ⟨q1, q2⟩ := AQ.1 hin
 obtain ⟨k, rfl⟩ := Int.eq_ofNat_of_zero_le q1
 have hk : k < c.bal.length := by omega
 obtain ⟨ba, bc, rfl⟩ := Ac h.b
 obtain ⟨gb, rfl, _⟩ := Ag h.b (by omega)
 have c4 : w.cell? ⟨g, 4, none⟩ = some (.slice (some ⟨gb, 0, none⟩) c.bal.length bc) := h.L.cell 4
 have c2 : w.cell? ⟨g, 2, none⟩ = some (.int .i64 c.fee) := h.L.cell 2
 have c5 : w.cell? ⟨g, 5, none⟩ = some (.int .i64 c.fees) := h.L.cell 5
 have f5 := h.L.frozen 5
 have hgne : g ≠ gb := fun e => Has.apart h.L h.b (by decide) (by rw [e]; rfl)
 have hgne' : gb ≠ g := fun e => hgne e.symm
 have hgd : c.bal.getD k 0 = c.bal[k] := by simp [List.getD, hk]
 have cb : w.cell? ⟨gb, k, none⟩ = some (.int .i64 (c.bal.getD k 0)) := by
  rw [h.b.cellAt k (by omega)]; simp [Ai, hk]
 have fb := h.b.frozenAt k
 have hbk := hb.bal k hk
 rw [<- hgd] at hbk
 obtain ⟨hb0, hb1⟩ := hbk
 have hf0 := hb.fee0
 have hf1 := hb.fee1
 have hs0 := hb.fees0
 have hs1 := hb.fees1
 clear hgd
 by_cases hpoor : c.bal.getD k 0 < c.fee
 ·rw [Gi hin hpoor]
  generalize c.bal.getD k 0 = x at *
  clear h hb
  go_enter Tryz.func124, Tryz.ntmps124
  go_wp2_with (go_at_call 99; refine (Bv g c _ vv dv ev _ _ HC.out hlen).mono ?_; rintro e w' ⟨rfl, rfl⟩)
  go_quiet (fail)
  go_wp2
  go_ret
  exact ⟨rfl, HC.out.drewN _, (Kp.refl _ _).drewN _⟩
 ·rw [G1 hin hpoor]
  have HF : Hid (Bu ((w.setCell ⟨gb, k, none⟩ (.int .i64 (c.bal.getD k 0 - c.fee))).setCell ⟨g, 5, none⟩ (.int .i64 (c.fees + c.fee))) g { Bf c k (c.bal.getD k 0 - c.fee) with fees := c.fees + c.fee } (.slice (some ⟨gb, 0, none⟩) c.bal.length bc) vv dv ev) :=
   (h.setBal rfl k _).setFees _
  have HK : Hid (Kp (LS g (.slice (some ⟨gb, 0, none⟩) c.bal.length bc)) w ((w.setCell ⟨gb, k, none⟩ (.int .i64 (c.bal.getD k 0 - c.fee))).setCell ⟨g, 5, none⟩ (.int .i64 (c.fees + c.fee)))) :=
   ((Kp.refl _ w).setCell (p := ⟨gb, k, none⟩) (.inr rfl) _).setCell (p := ⟨g, 5, none⟩) (.inl rfl) _
  generalize c.bal.getD k 0 = x at *
  clear h hb
  go_enter Tryz.func124, Tryz.ntmps124
  go_wp2_with (go_at_call 99; refine (Bv g c _ vv dv ev _ _ HC.out hlen).mono ?_; rintro e w' ⟨rfl, rfl⟩)
  go_quiet (fail)
  go_wp2
  go_region
  go_wp2
  go_region
  go_wp2
  go_ret
  exact ⟨rfl, ⟨HF.out.L, HF.out.b⟩, ⟨HK.out.os, HK.out.tape, HK.out.output, HK.out.size, HK.out.block⟩⟩
def EP (c : LC) (who to amount : Int) : Int × LC :=
 if inN to 0 ((c.bal.length : Int) - 1) = true then
  if amount < 1 then (5, c) else
  if c.bal.getD who.toNat 0 < amount then (4, c) else
   (0, Bf (Bf c who.toNat (c.bal.getD who.toNat 0 - amount)) to.toNat ((c.bal.set who.toNat (c.bal.getD who.toNat 0 - amount)).getD to.toNat 0 + amount))
 else (2, c)
def G4 (c : LC) (who to amount : Int) : Int × LC :=
 if (Ah c who).1 = 0 then EP (Ah c who).2 who to amount else Ah c who
theorem Ki {c : LC} (h : (Ah c who).1 = 0) : inN who 0 ((c.bal.length : Int) - 1) = true ∧ (Ah c who).2.bal.length = c.bal.length := by
 unfold Ah at *
 split at h
 ·rename_i h1
  rw [if_pos h1]
  split at h
  ·simp at h
  ·rename_i h2
   rw [if_neg h2]
   exact ⟨h1, by simp [Bf]⟩
 ·simp at h
theorem Ob (g : Nat) (c : LC) (bv vv dv ev : Value) (who to amount : Int) (w : World) (h : Bu w g c bv vv dv ev) (hb : LBd c) (hb2 : ∀ k (h : k < (Ah c who).2.bal.length), 0 <= (Ah c who).2.bal[k] ∧ (Ah c who).2.bal[k] <= 1000000000000) :
  Calls Tryz.prog 63 #[.pointer (some ⟨g, 0, none⟩), .int .i64 who, .int .i64 to, .int .i64 amount] w fun e w' => e = .returned (.int .i64 (G4 c who to amount).1) ∧ Bu w' g (G4 c who to amount).2 bv vv dv ev ∧ Kp (LS g bv) w w' := by
 have hlen0 := hb.len
 have HCh : Hid (Calls Tryz.prog 124 #[.pointer (some ⟨g, 0, none⟩), .int .i64 who] w fun e w' => e = .returned (.int .i64 (Ah c who).1) ∧ Bu w' g (Ah c who).2 bv vv dv ev ∧ Kp (LS g bv) w w') := F1 g c bv vv dv ev who _ h hb
 by_cases h0 : (Ah c who).1 = 0
 case neg =>
  have e0 : G4 c who to amount = Ah c who := by unfold G4; rw [if_neg h0]
  have e1 : ((Ah c who).1 != 0) = true := by simpa using h0
  rw [e0]
  generalize (Ah c who).1 = q at *
  generalize (Ah c who).2 = c1 at *
  clear h hb hb2 e0 h0
  go_enter Tryz.func63, Tryz.ntmps63
  go_wp2_with fail
  refine HCh.out.mono ?_
  rintro e w1 ⟨rfl, h1, hk1⟩
  have HC := Hd h1
  have HK1 := Hd hk1
  clear hk1 HCh
  go_wp2
  go_ret
  exact ⟨rfl, HC.out, HK1.out⟩
 obtain ⟨hin, hl1⟩ := Ki h0
 have e0 : G4 c who to amount = EP (Ah c who).2 who to amount := by unfold G4; rw [if_pos h0]
 rw [e0]
 rw [h0] at HCh
 generalize (Ah c who).2 = c1 at *
 rw [<- hl1] at hin hlen0
 have hlen : c1.bal.length <= 1000 := hlen0
 clear h hb e0 h0 hl1 hlen0
 obtain ⟨q1, q2⟩ := AQ.1 hin
 obtain ⟨k, rfl⟩ := Int.eq_ofNat_of_zero_le q1
 have hk : k < c1.bal.length := by omega
 have hbk := hb2 k hk
 have hgd : c1.bal.getD k 0 = c1.bal[k] := by simp [List.getD, hk]
 rw [<- hgd] at hbk
 obtain ⟨hb0, hb1⟩ := hbk
 clear hgd
 by_cases hto : inN to 0 ((c1.bal.length : Int) - 1) = true
 case neg =>
  have hto' : inN to 0 ((c1.bal.length : Int) - 1) = false := by simpa using hto
  have eg : EP c1 k to amount = (2, c1) := by unfold EP; rw [if_neg hto]
  rw [eg]
  clear hb2 hto eg
  go_enter Tryz.func63, Tryz.ntmps63
  go_wp2_with fail
  refine HCh.out.mono ?_
  rintro e w1 ⟨rfl, h1, hk1⟩
  have HC := Hd h1
  have HK1 := Hd hk1
  clear hk1 HCh
  clear h1
  go_wp2_with (go_at_call 99; refine (Bv g c1 _ vv dv ev _ _ HC.out hlen).mono ?_; rintro e w' ⟨rfl, rfl⟩)
  go_ret
  exact ⟨rfl, HC.out, HK1.out⟩
 by_cases ham : amount < 1
 ·have eg : EP c1 k to amount = (5, c1) := by unfold EP; rw [if_pos hto, if_pos ham]
  rw [eg]
  clear hb2 eg
  go_enter Tryz.func63, Tryz.ntmps63
  go_wp2_with fail
  refine HCh.out.mono ?_
  rintro e w1 ⟨rfl, h1, hk1⟩
  have HC := Hd h1
  have HK1 := Hd hk1
  clear hk1 HCh
  clear h1
  go_wp2_with (go_at_call 99; refine (Bv g c1 _ vv dv ev _ _ HC.out hlen).mono ?_; rintro e w' ⟨rfl, rfl⟩)
  go_ret
  exact ⟨rfl, HC.out, HK1.out⟩
 by_cases hpo : c1.bal.getD k 0 < amount
 ·have eg : EP c1 k to amount = (4, c1) := by unfold EP; rw [if_pos hto, if_neg ham, Int.toNat_natCast, if_pos hpo]
  rw [eg]
  obtain ⟨x, hx⟩ : ∃ x, c1.bal.getD k 0 = x := ⟨_, rfl⟩
  have Hx := Hd hx
  rw [hx] at hpo hb0 hb1
  clear hb2 eg hx
  go_enter Tryz.func63, Tryz.ntmps63
  go_wp2_with fail
  refine HCh.out.mono ?_
  rintro e w1 ⟨rfl, h1, hk1⟩
  have HC := Hd h1
  have HK1 := Hd hk1
  clear hk1 HCh
  obtain ⟨ba, bc, rfl⟩ := Ac h1.b
  obtain ⟨gb, rfl, _⟩ := Ag h1.b (by omega)
  have c4 : w1.cell? ⟨g, 4, none⟩ = some (.slice (some ⟨gb, 0, none⟩) c1.bal.length bc) := h1.L.cell 4
  have hgne : g ≠ gb := fun e => Has.apart h1.L h1.b (by decide) (by rw [e]; rfl)
  have hgne' : gb ≠ g := fun e => hgne e.symm
  have cb : w1.cell? ⟨gb, k, none⟩ = some (.int .i64 x) := by
   rw [h1.b.cellAt k (by omega), <- Hx.out]; simp [Ai, hk]
  have fb := h1.b.frozenAt k
  clear h1
  go_wp2_with (go_at_call 99; refine (Bv g c1 _ vv dv ev _ _ HC.out hlen).mono ?_; rintro e w' ⟨rfl, rfl⟩)
  go_ret
  exact ⟨rfl, HC.out, HK1.out⟩
 obtain ⟨r1, r2⟩ := AQ.1 hto
 obtain ⟨j, rfl⟩ := Int.eq_ofNat_of_zero_le r1
 have hj : j < c1.bal.length := by omega
 have eg : EP c1 k j amount = (0, Bf (Bf c1 k (c1.bal.getD k 0 - amount)) j ((c1.bal.set k (c1.bal.getD k 0 - amount)).getD j 0 + amount)) := by unfold EP; rw [if_pos hto, if_neg ham, Int.toNat_natCast, Int.toNat_natCast, if_neg hpo]
 rw [eg]
 clear eg
 obtain ⟨x, hx⟩ : ∃ x, c1.bal.getD k 0 = x := ⟨_, rfl⟩
 have Hx := Hd hx
 rw [hx] at hpo hb0 hb1 ⊢
 have hy : 0 <= (c1.bal.set k (x - amount)).getD j 0 ∧ (c1.bal.set k (x - amount)).getD j 0 <= 1000000000000 := by
  by_cases e : k = j
  ·subst e; simp [List.getD, hk]; omega
  ·have e2 : (c1.bal.set k (x - amount)).getD j 0 = c1.bal[j] := by simp only [List.getD, List.getElem?_set_ne e, List.getElem?_eq_getElem hj, Option.getD_some]
   rw [e2]; exact hb2 j hj
 obtain ⟨y, hyy⟩ : ∃ y, (c1.bal.set k (x - amount)).getD j 0 = y := ⟨_, rfl⟩
 have Hy := Hd hyy
 rw [hyy] at hy ⊢
 obtain ⟨hy0, hy1⟩ := hy
 clear hyy hx hb2
 go_enter Tryz.func63, Tryz.ntmps63
 go_wp2_with fail
 refine HCh.out.mono ?_
 rintro e w1 ⟨rfl, h1, hk1⟩
 have HC := Hd h1
 have HK1 := Hd hk1
 clear hk1 HCh
 obtain ⟨ba, bc, rfl⟩ := Ac h1.b
 obtain ⟨gb, rfl, _⟩ := Ag h1.b (by omega)
 have c4 : w1.cell? ⟨g, 4, none⟩ = some (.slice (some ⟨gb, 0, none⟩) c1.bal.length bc) := h1.L.cell 4
 have hgne : g ≠ gb := fun e => Has.apart h1.L h1.b (by decide) (by rw [e]; rfl)
 have hgne' : gb ≠ g := fun e => hgne e.symm
 have cb : w1.cell? ⟨gb, k, none⟩ = some (.int .i64 x) := by
  rw [h1.b.cellAt k (by omega), <- Hx.out]; simp [Ai, hk]
 have fb := h1.b.frozenAt k
 have HA : Hid (Bu (w1.setCell ⟨gb, k, none⟩ (.int .i64 (x - amount))) g (Bf c1 k (x - amount)) (.slice (some ⟨gb, 0, none⟩) c1.bal.length bc) vv dv ev) := h1.setBal rfl k _
 have hjj : (Bf c1 k (x - amount)).bal = c1.bal.set k (x - amount) := rfl
 have hAb : (w1.setCell ⟨gb, k, none⟩ (.int .i64 (x - amount))).ownsRow 0 3 1 (.slice (some ⟨gb, 0, none⟩) c1.bal.length bc) c1.bal.length (Ai (c1.bal.set k (x - amount))) := by
  have h := HA.out.b
  rw [hjj] at h
  simpa using h
 have cj : (w1.setCell ⟨gb, k, none⟩ (.int .i64 (x - amount))).cell? ⟨gb, j, none⟩ = some (.int .i64 y) := by
  have hh := hAb.cellAt j (by omega)
  rw [hh, <- Hy.out]
  have hj' : j < (c1.bal.set k (x - amount)).length := by simpa using hj
  simp only [Ai, List.getElem?_map, List.getD, List.getElem?_eq_getElem hj', Option.map_some, Option.getD_some]
 have fj := hAb.frozenAt j
 have HF : Hid (Bu ((w1.setCell ⟨gb, k, none⟩ (.int .i64 (x - amount))).setCell ⟨gb, j, none⟩ (.int .i64 (y + amount))) g (Bf (Bf c1 k (x - amount)) j (y + amount)) (.slice (some ⟨gb, 0, none⟩) c1.bal.length bc) vv dv ev) :=
  HA.out.setBal (by rw [hjj]; simp) j _
 have HK : Hid (Kp (LS g (.slice (some ⟨gb, 0, none⟩) c1.bal.length bc)) w ((w1.setCell ⟨gb, k, none⟩ (.int .i64 (x - amount))).setCell ⟨gb, j, none⟩ (.int .i64 (y + amount)))) :=
  (HK1.out.setCell (p := ⟨gb, k, none⟩) (.inr rfl) _).setCell (p := ⟨gb, j, none⟩) (.inr rfl) _
 clear h1 HA hjj hAb
 go_wp2_with (go_at_call 99; refine (Bv g c1 _ vv dv ev _ _ HC.out hlen).mono ?_; rintro e w' ⟨rfl, rfl⟩)
 go_region
 go_wp2
 go_region
 go_wp2
 go_ret
 exact ⟨rfl, ⟨HF.out.L, HF.out.b⟩, ⟨HK.out.os, HK.out.tape, HK.out.output, HK.out.size, HK.out.block⟩⟩
def DP (c : LC) (to amount : Int) : Int × LC :=
 if inN to 0 ((c.bal.length : Int) - 1) = true then
  if amount < 1 then (5, c) else
  if c.pool < amount then (4, c) else (0, Bf { c with pool := c.pool - amount } to.toNat (c.bal.getD to.toNat 0 + amount))
 else (2, c)
theorem L3 (g : Nat) (c : LC) (bv vv dv ev : Value) (to amount : Int) (w : World) (h : Bu w g c bv vv dv ev) (hb : LBd c) :
  Calls Tryz.prog 64 #[.pointer (some ⟨g, 0, none⟩), .int .i64 to, .int .i64 amount] w fun e w' => e = .returned (.int .i64 (DP c to amount).1) ∧ Bu w' g (DP c to amount).2 bv vv dv ev ∧ Kp (LS g bv) w w' := by
 have hlen := hb.len
 have hp0 := hb.pool0
 have hp1 := hb.pool1
 have HC := Hd h
 have c6 : w.cell? ⟨g, 6, none⟩ = some (.int .i64 c.pool) := h.L.cell 6
 have f6 := h.L.frozen 6
 by_cases hto : inN to 0 ((c.bal.length : Int) - 1) = true
 case neg =>
  have hto' : inN to 0 ((c.bal.length : Int) - 1) = false := by simpa using hto
  have eg : DP c to amount = (2, c) := by unfold DP; rw [if_neg hto]
  rw [eg]
  clear h hb hto eg
  go_enter Tryz.func64, Tryz.ntmps64
  go_wp2_with (go_at_call 99; refine (Bv g c _ vv dv ev _ _ HC.out hlen).mono ?_; rintro e w' ⟨rfl, rfl⟩)
  go_ret
  exact ⟨rfl, HC.out, Kp.refl _ _⟩
 by_cases ham : amount < 1
 ·have eg : DP c to amount = (5, c) := by unfold DP; rw [if_pos hto, if_pos ham]
  rw [eg]
  clear h hb eg
  go_enter Tryz.func64, Tryz.ntmps64
  go_wp2_with (go_at_call 99; refine (Bv g c _ vv dv ev _ _ HC.out hlen).mono ?_; rintro e w' ⟨rfl, rfl⟩)
  go_ret
  exact ⟨rfl, HC.out, Kp.refl _ _⟩
 by_cases hpo : c.pool < amount
 ·have eg : DP c to amount = (4, c) := by unfold DP; rw [if_pos hto, if_neg ham, if_pos hpo]
  rw [eg]
  clear h hb eg
  go_enter Tryz.func64, Tryz.ntmps64
  go_wp2_with (go_at_call 99; refine (Bv g c _ vv dv ev _ _ HC.out hlen).mono ?_; rintro e w' ⟨rfl, rfl⟩)
  go_ret
  exact ⟨rfl, HC.out, Kp.refl _ _⟩
 obtain ⟨r1, r2⟩ := AQ.1 hto
 obtain ⟨j, rfl⟩ := Int.eq_ofNat_of_zero_le r1
 have hj : j < c.bal.length := by omega
 have eg : DP c j amount = (0, Bf { c with pool := c.pool - amount } j (c.bal.getD j 0 + amount)) := by unfold DP; rw [if_pos hto, if_neg ham, if_neg hpo, Int.toNat_natCast]
 rw [eg]
 obtain ⟨ba, bc, rfl⟩ := Ac h.b
 obtain ⟨gb, rfl, _⟩ := Ag h.b (by omega)
 have c4 : w.cell? ⟨g, 4, none⟩ = some (.slice (some ⟨gb, 0, none⟩) c.bal.length bc) := h.L.cell 4
 have hgne : g ≠ gb := fun e => Has.apart h.L h.b (by decide) (by rw [e]; rfl)
 have hgne' : gb ≠ g := fun e => hgne e.symm
 obtain ⟨x, hx⟩ : ∃ x, c.bal.getD j 0 = x := ⟨_, rfl⟩
 have hgd : c.bal.getD j 0 = c.bal[j] := by simp [List.getD, hj]
 have hbk := hb.bal j hj
 rw [<- hgd, hx] at hbk
 obtain ⟨hb0, hb1⟩ := hbk
 rw [hx]
 have cb : w.cell? ⟨gb, j, none⟩ = some (.int .i64 x) := by
  rw [h.b.cellAt j (by omega), <- hx]; simp [Ai, hj]
 have fb := h.b.frozenAt j
 have HF : Hid (Bu ((w.setCell ⟨g, 6, none⟩ (.int .i64 (c.pool - amount))).setCell ⟨gb, j, none⟩ (.int .i64 (x + amount))) g (Bf { c with pool := c.pool - amount } j (x + amount)) (.slice (some ⟨gb, 0, none⟩) c.bal.length bc) vv dv ev) :=
  Bu.setBal (h.setPool (c.pool - amount)) rfl j (x + amount)
 have HK : Hid (Kp (LS g (.slice (some ⟨gb, 0, none⟩) c.bal.length bc)) w ((w.setCell ⟨g, 6, none⟩ (.int .i64 (c.pool - amount))).setCell ⟨gb, j, none⟩ (.int .i64 (x + amount)))) :=
  ((Kp.refl _ w).setCell (p := ⟨g, 6, none⟩) (.inl rfl) _).setCell (p := ⟨gb, j, none⟩) (.inr rfl) _
 clear h hb eg hx hgd
 go_enter Tryz.func64, Tryz.ntmps64
 go_wp2_with (go_at_call 99; refine (Bv g c _ vv dv ev _ _ HC.out hlen).mono ?_; rintro e w' ⟨rfl, rfl⟩)
 go_region
 go_wp2
 go_ret
 exact ⟨rfl, ⟨HF.out.L, HF.out.b⟩, ⟨HK.out.os, HK.out.tape, HK.out.output, HK.out.size, HK.out.block⟩⟩
structure He (w : World) (g : Nat) (vv : Value) (vals : List VS) : Prop where
 c7 : w.cell? ⟨g, 7, none⟩ = some vv
 rd : Rd w vv vals.length 8 (A5 vals)
 len : vals.length <= 1000
def Fa (vals : List VS) (a b : Nat) : Bool :=
 match vals[a]?, vals[b]? with
 | some x, some y => decide (y.tokens < x.tokens) || (decide (x.tokens = y.tokens) && decide (a < b))
 | _, _ => false
theorem JM (vals : List VS) (a b : Nat) (ha : a < vals.length) (hb : b < vals.length) : Fa vals a b = (decide (vals[b].tokens < vals[a].tokens) || (decide (vals[a].tokens = vals[b].tokens) && decide (a < b))) := by
 unfold Fa; rw [List.getElem?_eq_getElem ha, List.getElem?_eq_getElem hb]
theorem He.facts {va : Option Addr} {vc : Nat} {vals : List VS} (h : He w g (.slice va n vc) vals) {k : Nat} (hk : k < vals.length) :
  ∃ gv, va = some ⟨gv, 0, none⟩ ∧ w.cell? ⟨gv, k * 8 + 2, none⟩ = some (.int .i64 vals[k].tokens) ∧ w.cell? ⟨gv, k * 8 + 3, none⟩ = some (.int .i64 vals[k].shares) ∧ w.cell? ⟨gv, k * 8 + 6, none⟩ = some (.bool vals[k].jailed) ∧ w.cell? ⟨gv, k * 8 + 7, none⟩ = some (.bool vals[k].inset) := by
 obtain ⟨a, c, he⟩ := h.rd.form
 simp only [Value.slice.injEq] at he
 obtain ⟨rfl, rfl, rfl⟩ := he
 obtain ⟨gv, hgv, hc⟩ := h.rd.get (by omega)
 exact ⟨gv, hgv, hc _ _ (An vals k hk 2 (by omega)), hc _ _ (An vals k hk 3 (by omega)), hc _ _ (An vals k hk 6 (by omega)), hc _ _ (An vals k hk 7 (by omega))⟩
theorem N8 (g : Nat) (vv : Value) (vals : List VS) (a b : Nat) (w : World) (h : He w g vv vals) (ha : a < vals.length) (hb : b < vals.length) :
  Calls Tryz.prog 153 #[.pointer (some ⟨g, 0, none⟩), .int .i64 a, .int .i64 b] w fun e w' => e = .returned (.bool (Fa vals a b)) ∧ ∃ n, w' = w.drewN n := by
 rw [JM vals a b ha hb]
 obtain ⟨va, vc, rfl⟩ := h.rd.form
 have c7 := h.c7
 have hlen := h.len
 obtain ⟨gv, rfl, x2, _, _, _⟩ := h.facts ha
 obtain ⟨gv', he, y2, _, _, _⟩ := h.facts hb
 simp only [Option.some.injEq, Addr.mk.injEq, and_true] at he
 subst he
 generalize vals[a].tokens = ta at *
 generalize vals[b].tokens = tb at *
 clear h
 by_cases h1 : tb < ta
 ·have e : (decide (tb < ta) || (decide (ta = tb) && decide (a < b))) = true := by simp [h1]
  rw [e]
  clear e
  go_enter Tryz.func153, Tryz.ntmps153
  go_wp2_with fail
  go_quiet (fail)
  go_wp2
  go_ret
  exact ⟨rfl, _, rfl⟩
 ·have h1b : decide (tb < ta) = false := by simpa using h1
  by_cases h2 : ta = tb
  ·by_cases h3 : a < b
   ·have e : (decide (tb < ta) || (decide (ta = tb) && decide (a < b))) = true := by simp [h2, h3]
    rw [e]
    have h2b : (ta == tb) = true := by simp [h2]
    clear e h1 h2
    go_enter Tryz.func153, Tryz.ntmps153
    go_wp2_with fail
    go_quiet (fail)
    go_wp2
    go_ret
    exact ⟨rfl, _, rfl⟩
   ·have e : (decide (tb < ta) || (decide (ta = tb) && decide (a < b))) = false := by simp [h1b, h3]
    rw [e]
    have h2b : (ta == tb) = true := by simp [h2]
    clear e h1 h2
    go_enter Tryz.func153, Tryz.ntmps153
    go_wp2_with fail
    go_quiet (fail)
    go_wp2
    go_ret
    exact ⟨rfl, _, rfl⟩
  ·have e : (decide (tb < ta) || (decide (ta = tb) && decide (a < b))) = false := by simp [h1b, h2]
   rw [e]
   have h2b : (ta == tb) = false := by simp [h2]
   clear e h1 h2
   go_enter Tryz.func153, Tryz.ntmps153
   go_wp2_with fail
   go_quiet (fail)
   go_wp2
   go_ret
   exact ⟨rfl, _, rfl⟩
def EZ (vals : List VS) (i : Nat) : Nat -> Nat
 | 0 => 0
 | k + 1 => EZ vals i k + (if (Fa vals k i && !(match vals[k]? with | some v => v.jailed | none => true)) = true then 1 else 0)
theorem QA (vals : List VS) (i k : Nat) : EZ vals i k <= k := by
 induction k with
 | zero => simp [EZ]
 | succ k ih =>
  have h1 : ∀ b : Bool, (if b = true then 1 else 0) <= 1 := fun b => by cases b <;> simp
  have := h1 (Fa vals k i && !(match vals[k]? with | some v => v.jailed | none => true))
  simp only [EZ]; omega
def Gh (vals : List VS) (top : Int) (i : Nat) (v : VS) : Bool := !v.jailed && (decide (0 < v.tokens) && decide ((EZ vals i vals.length : Int) < top))
def Be (vals : List VS) (top : Int) : Nat -> List VS
 | 0 => vals
 | i + 1 => (Be vals top i).modify i (fun v => { v with inset := Gh (Be vals top i) top i v })
theorem DQ (vals : List VS) (top : Int) (i : Nat) : (Be vals top i).length = vals.length := by
 induction i with
 | zero => rfl
 | succ i ih => simp [Be, ih]
theorem FM (l : List VS) (i : Nat) (hi : i < l.length) (f : VS -> Bool) : (A5 l).set (i * 8 + 7) (.bool (f l[i])) = A5 (l.modify i (fun v => { v with inset := f v })) := by
 induction l generalizing i with
 | nil => simp at hi
 | cons v l ih =>
  cases i with
  | zero => simp [A5, VS.cells]
  | succ i =>
   have e : (i + 1) * 8 + 7 = v.cells.length + (i * 8 + 7) := by simp [VS.cells]; omega
   rw [A5, e, List.set_append_right _ _ (by omega), Nat.add_sub_cancel_left, List.modify_succ_cons, A5]
   congr 1
   have := ih i (by simpa using hi)
   simpa using this
theorem E7 (h : w.ownsRow base e size (.slice (some ⟨g, 0, none⟩) m cap) n xs) (hm : m = n) (j : Nat) : w.frozen? ⟨g, j, none⟩ = false := by
 subst hm; exact h.frozenAt j
structure LVw (w : World) (g : Nat) (top : Int) (vv : Value) (vals : List VS) (cs : List Value) : Prop where
 L : Has w g 81 cs
 c0 : cs[0]? = some (.int .i64 top)
 c7 : cs[7]? = some vv
 v : w.ownsRow 0 114 8 vv vals.length (A5 vals)
 len : vals.length <= 1000
theorem LVw.vals {vals : List VS} (h : LVw w g top vv vals cs) : He w g vv vals := ⟨(h.L.cell 7).trans h.c7, Rd.of_owns h.v, h.len⟩
theorem LVw.drewN {vals : List VS} (h : LVw w g top vv vals cs) (n : Nat) : LVw (w.drewN n) g top vv vals cs := ⟨h.L, h.c0, h.c7, h.v, h.len⟩
theorem Lx (g : Nat) (top : Int) (vv : Value) (vals : List VS) (cs : List Value) (w : World) (h : LVw w g top vv vals cs) :
  Calls Tryz.prog 127 #[.pointer (some ⟨g, 0, none⟩)] w fun e w' => e = .returned (.tuple #[]) ∧ LVw w' g top vv (Be vals top vals.length) cs ∧ Kp (fun k => vv.ownBlock = some k) w w' := by
 obtain ⟨va, vc, (hva : vv = .slice va vals.length vc)⟩ := Ac h.v
 subst hva
 have hlen := h.len
 have HH := Hd h
 clear h
 go_enter Tryz.func127, Tryz.ntmps127
 go_wp2
 go_loopw [2] (fun i wr => ∃ i2 : Nat, i2 <= vals.length ∧ i = .int .i64 i2 ∧ LVw wr g top (.slice va vals.length vc) (Be vals top i2) cs ∧ Kp (fun k => (Value.slice va vals.length vc).ownBlock = some k) w wr) (fun i _ => vals.length - (intOf i).toNat)
 case atStart => exact ⟨0, Nat.zero_le _, rfl, HH.out, Kp.refl _ _⟩
 case round =>
  clear HH
  obtain ⟨i2, hi2, rfl, hV, hK⟩ := hrel
  have hl := DQ vals top i2
  have c7 : wr.cell? ⟨g, 7, none⟩ = some (.slice va vals.length vc) := hV.vals.c7
  by_cases hlt : i2 < vals.length
  ·have HS : Hid (Be vals top (i2 + 1) = (Be vals top i2).modify i2 (fun v => { v with inset := Gh (Be vals top i2) top i2 v })) := rfl
   generalize Be vals top i2 = cur at *
   have hlc : i2 < cur.length := by omega
   have HL := Hd hl
   have hla : cur.length <= vals.length := by omega
   have hlb : vals.length <= cur.length := by omega
   clear hl
   obtain ⟨gv, rfl, x2, _, x6, x7⟩ := hV.vals.facts hlc
   have HV := Hd hV
   clear hV
   go_wp2
   obtain ⟨wo, rfl⟩ : ∃ wo : World, wo = wr := ⟨_, rfl⟩
   go_loopw [3, 4] (fun n k wr => ∃ k2 : Nat, k2 <= vals.length ∧ k = .int .i64 k2 ∧ n = .int .i64 (EZ cur i2 k2 : Nat) ∧ ∃ m, wr = wo.drewN m) (fun _ k _ => vals.length - (intOf k).toNat)
   case atStart => exact ⟨0, Nat.zero_le _, rfl, rfl, 0, rfl⟩
   case round =>
    obtain ⟨k2, hk2, rfl, rfl, m, rfl⟩ := hrel
    have hcn := QA cur i2 k2
    by_cases hlt2 : k2 < vals.length
    ·have hkc : k2 < cur.length := by omega
     obtain ⟨gv', he, _, _, y6, _⟩ := HV.out.vals.facts hkc
     simp only [Option.some.injEq, Addr.mk.injEq, and_true] at he
     subst he
     have HC : Hid (EZ cur i2 (k2 + 1) = EZ cur i2 k2 + (if (Fa cur k2 i2 && !cur[k2].jailed) = true then 1 else 0)) := by
      show EZ cur i2 (k2 + 1) = _
      rw [EZ, List.getElem?_eq_getElem hkc]
     have HA : Hid (∀ u, Calls Tryz.prog 153 #[.pointer (some ⟨g, 0, none⟩), .int .i64 k2, .int .i64 i2] (wo.drewN u) fun e w' => e = .returned (.bool (Fa cur k2 i2)) ∧ ∃ n, w' = wo.drewN n) := fun u => by
      refine (N8 g _ cur k2 i2 _ (HV.out.drewN u).vals hkc hlc).mono ?_
      rintro e w' ⟨rfl, n, rfl⟩
      exact ⟨rfl, u + n, by simp [World.drewN, Nat.add_assoc]⟩
     generalize cur[k2].jailed = jl at *
     generalize Fa cur k2 i2 = ah at *
     generalize EZ cur i2 k2 = cn at *
     clear x2 x6 x7
     go_wp2_with fail
     refine (HA.out m).mono ?_
     rintro e w' ⟨rfl, n, rfl⟩
     clear HA
     cases ah with
     | true =>
      cases jl with
      | true =>
       go_wp2
       refine And.intro ?_ ?_
       ·first | exact ⟨k2 + 1, by omega, by go_num, by rw [HC.out]; rfl, n, rfl⟩ | ((repeat apply Exists.intro); exact ⟨⟨k2 + 1, by omega, by go_num, by rw [HC.out]; rfl, n, rfl⟩, rfl⟩)
       ·simp [intOf]; omega
      | false =>
       go_wp2
       refine And.intro ?_ ?_
       ·first | exact ⟨k2 + 1, by omega, by go_num, by rw [HC.out]; rfl, n, rfl⟩ | ((repeat apply Exists.intro); exact ⟨⟨k2 + 1, by omega, by go_num, by rw [HC.out]; rfl, n, rfl⟩, rfl⟩)
       ·simp [intOf]; omega
     | false =>
      go_wp2
      refine And.intro ?_ ?_
      ·first | exact ⟨k2 + 1, by omega, by go_num, by rw [HC.out]; rfl, n, rfl⟩ | ((repeat apply Exists.intro); exact ⟨⟨k2 + 1, by omega, by go_num, by rw [HC.out]; rfl, n, rfl⟩, rfl⟩)
      ·simp [intOf]; omega
    ·have hke : k2 = vals.length := by omega
     have c0 : wo.cell? ⟨g, 0, none⟩ = some (.int .i64 top) := (HV.out.L.cell 0).trans HV.out.c0
     have fr7 := E7 HV.out.v HL.out.symm (i2 * 8 + 7)
     have HFin : Hid (∀ b, Gh cur top i2 cur[i2] = b -> LVw (wo.setCell ⟨gv, i2 * 8 + 7, none⟩ (.bool b)) g top (.slice (some ⟨gv, 0, none⟩) vals.length vc) (Be vals top (i2 + 1)) cs ∧ Kp (fun k => (Value.slice (some ⟨gv, 0, none⟩) vals.length vc).ownBlock = some k) w (wo.setCell ⟨gv, i2 * 8 + 7, none⟩ (.bool b))) := by
      intro b hb
      have hne : g ≠ gv := fun e => Has.apart HV.out.L HV.out.v (by decide) (by rw [e]; rfl)
      refine ⟨⟨HV.out.L.other _ _ hne, HV.out.c0, HV.out.c7, ?_, ?_⟩, hK.setCell (p := ⟨gv, i2 * 8 + 7, none⟩) rfl _⟩
      ·have h1 := HV.out.v
       rw [HL.out] at h1
       have h2 := (h1.stored (i2 * 8 + 7) (.bool b)).1
       rw [<- hb, FM cur i2 hlc (fun v => Gh cur top i2 v)] at h2
       rw [HS.out, <- hb]
       simpa [HL.out] using h2
      ·rw [HS.out]; simp; omega
     have HSel : Hid (Gh cur top i2 cur[i2] = (!cur[i2].jailed && (decide (0 < cur[i2].tokens) && decide ((EZ cur i2 k2 : Int) < top)))) := by
      unfold Gh
      rw [HL.out, hke]
      exact rfl
     clear hke HS hK
     generalize cur[i2].jailed = jl at *
     generalize cur[i2].tokens = tk at *
     generalize EZ cur i2 k2 = cn at *
     cases jl with
     | true =>
      have hb : Gh cur top i2 cur[i2] = false := by rw [HSel.out]; rfl
      have HF := HFin.out false hb
      clear HFin HV HL
      go_wp2
      go_region
      all_goals
       go_wp2
       refine And.intro ?_ ?_
       ·first | exact ⟨i2 + 1, by omega, by go_num, ⟨HF.1.L, HF.1.c0, HF.1.c7, HF.1.v, HF.1.len⟩, ⟨HF.2.os, HF.2.tape, HF.2.output, HF.2.size, HF.2.block⟩⟩ | ((repeat apply Exists.intro); exact ⟨⟨i2 + 1, by omega, by go_num, ⟨HF.1.L, HF.1.c0, HF.1.c7, HF.1.v, HF.1.len⟩, ⟨HF.2.os, HF.2.tape, HF.2.output, HF.2.size, HF.2.block⟩⟩, rfl⟩)
       ·simp [intOf]; omega
     | false =>
      by_cases ht : 0 < tk
      ·by_cases hc : (cn : Int) < top
       ·have hb : Gh cur top i2 cur[i2] = true := by rw [HSel.out]; simp [ht, hc]
        have HF := HFin.out true hb
        clear HFin HV HL
        go_wp2
        go_region
        all_goals
         go_wp2
         refine And.intro ?_ ?_
         ·first | exact ⟨i2 + 1, by omega, by go_num, ⟨HF.1.L, HF.1.c0, HF.1.c7, HF.1.v, HF.1.len⟩, ⟨HF.2.os, HF.2.tape, HF.2.output, HF.2.size, HF.2.block⟩⟩ | ((repeat apply Exists.intro); exact ⟨⟨i2 + 1, by omega, by go_num, ⟨HF.1.L, HF.1.c0, HF.1.c7, HF.1.v, HF.1.len⟩, ⟨HF.2.os, HF.2.tape, HF.2.output, HF.2.size, HF.2.block⟩⟩, rfl⟩)
         ·simp [intOf]; omega
       ·have hb : Gh cur top i2 cur[i2] = false := by rw [HSel.out]; simp [hc]
        have hc' : decide ((cn : Int) < top) = false := by simpa using hc
        have HF := HFin.out false hb
        clear HFin HV HL
        go_wp2
        go_region
        all_goals
         go_wp2
         refine And.intro ?_ ?_
         ·first | exact ⟨i2 + 1, by omega, by go_num, ⟨HF.1.L, HF.1.c0, HF.1.c7, HF.1.v, HF.1.len⟩, ⟨HF.2.os, HF.2.tape, HF.2.output, HF.2.size, HF.2.block⟩⟩ | ((repeat apply Exists.intro); exact ⟨⟨i2 + 1, by omega, by go_num, ⟨HF.1.L, HF.1.c0, HF.1.c7, HF.1.v, HF.1.len⟩, ⟨HF.2.os, HF.2.tape, HF.2.output, HF.2.size, HF.2.block⟩⟩, rfl⟩)
         ·simp [intOf]; omega
      ·have hb : Gh cur top i2 cur[i2] = false := by rw [HSel.out]; simp [ht]
       have ht' : decide (0 < tk) = false := by simpa using ht
       have HF := HFin.out false hb
       clear HFin HV HL
       go_wp2
       go_region
       all_goals
        go_wp2
        refine And.intro ?_ ?_
        ·first | exact ⟨i2 + 1, by omega, by go_num, ⟨HF.1.L, HF.1.c0, HF.1.c7, HF.1.v, HF.1.len⟩, ⟨HF.2.os, HF.2.tape, HF.2.output, HF.2.size, HF.2.block⟩⟩ | ((repeat apply Exists.intro); exact ⟨⟨i2 + 1, by omega, by go_num, ⟨HF.1.L, HF.1.c0, HF.1.c7, HF.1.v, HF.1.len⟩, ⟨HF.2.os, HF.2.tape, HF.2.output, HF.2.size, HF.2.block⟩⟩, rfl⟩)
        ·simp [intOf]; omega
  ·have hke : i2 = vals.length := by omega
   have HF : Hid (LVw wr g top (.slice va vals.length vc) (Be vals top vals.length) cs) := by rw [hke] at hV; exact hV
   clear hV hke hl
   go_wp2
   go_end0
   exact ⟨rfl, HF.out, hK⟩
def E8 (c : LC) (p : LC × List ES) (e : ES) : LC × List ES :=
 if e.made + c.mature <= c.height then (Bf p.1 e.who.toNat (p.1.bal.getD e.who.toNat 0 + e.amount), p.2) else (p.1, p.2 ++ [e])
def CI (c : LC) (ents : List ES) (k : Nat) : LC × List ES := (ents.take k).foldl (E8 c) (c, [])
theorem EJ (c : LC) (ents : List ES) (k : Nat) (h : k < ents.length) : CI c ents (k + 1) = E8 c (CI c ents k) ents[k] := Cv _ _ ents k h
def Rn (c d : LC) : Prop := d.top = c.top ∧ d.mature = c.mature ∧ d.fee = c.fee ∧ d.height = c.height ∧ d.fees = c.fees ∧ d.pool = c.pool ∧ d.bal.length = c.bal.length
theorem IB (c : LC) (ents : List ES) (k : Nat) (hk : k <= ents.length) : Rn c (CI c ents k).1 ∧ (CI c ents k).2.length <= k := by
 induction k with
 | zero => simp [CI, Rn]
 | succ k ih =>
  obtain ⟨h1, h2⟩ := ih (by omega)
  rw [EJ c ents k (by omega), E8]
  split
  ·refine ⟨?_, by simp only; omega⟩
   obtain ⟨a, b, d, e, f, g, i⟩ := h1
   exact ⟨a, b, d, e, f, g, by simp [Bf, i]⟩
  ·exact ⟨h1, by simp; omega⟩
structure EOk (c : LC) (ents : List ES) : Prop where
 len : ents.length <= 1000
 ok : ∀ k (h : k < ents.length), 0 <= ents[k].who ∧ ents[k].who < c.bal.length ∧ 0 <= ents[k].made ∧ ents[k].made <= 100000 ∧ 0 <= ents[k].amount ∧ ents[k].amount <= 1000000
theorem PH {c : LC} (hE : EOk c ents) (hb : ∀ k (h : k < c.bal.length), 0 <= c.bal[k] ∧ c.bal[k] <= 1000000000) (k : Nat) (hk : k <= ents.length) :
  ∀ j (h : j < (CI c ents k).1.bal.length), 0 <= (CI c ents k).1.bal[j] ∧ (CI c ents k).1.bal[j] <= 1000000000 + 1000000 * (k : Int) := by
 induction k with
 | zero => intro j h; have := hb j h; exact ⟨this.1, Int.le_trans this.2 (by omega)⟩
 | succ k ih =>
  intro j hj
  have ih' := ih (by omega)
  have he := hE.ok k (by omega)
  have hs := (IB c ents k (by omega)).1
  revert hj
  rw [EJ c ents k (by omega), E8]
  split
  ·intro hj
   have hj' : j < (CI c ents k).1.bal.length := by simpa [Bf] using hj
   have hw : ents[k].who.toNat < (CI c ents k).1.bal.length := by rw [hs.2.2.2.2.2.2]; omega
   simp only [Bf, List.getElem_set]
   split
   ·have h1 := ih' _ hw
    simp only [List.getD, List.getElem?_eq_getElem hw, Option.getD_some]
    omega
   ·have h1 := ih' j hj'
    omega
  ·intro hj
   have h1 := ih' j hj
   simp only
   omega
theorem GC : (Tryz.prog.info? 131).map (fun i => (i.zero, i.size, i.bytes)) = some (some (.agg #[.int .i64 0, .int .i64 0, .int .i64 0, .int .i64 0]), 4, 32) := by kernel_rfl
theorem Fr (l : List ES) (o : ES) : Bi (l ++ [o]) = Bi l ++ o.cells := by
 induction l with
 | nil => simp [Bi]
 | cons v l ih => simp [Bi, ih]
theorem Kp.grown {S : Nat -> Prop} {a : World} {row : Option Nat} (h : Kp S a w) (hg : w.grownBy w' row) (hr : ∀ j, row = some j -> a.heap.size <= j) : Kp S a w' :=
 ⟨hg.os.trans h.os, hg.tape.trans h.tape, hg.output.trans h.output, Nat.le_trans h.size hg.size, fun k hk hs => (hg.block k (Nat.lt_of_lt_of_le hk h.size) (fun e => by have := hr k e.symm; omega)).trans (h.block k hk hs)⟩
structure GH (w wr : World) (g : Nat) (d : LC) (bv vv dv ev st : Value) (ents sl : List ES) : Prop where
 C : Bu wr g d bv vv dv ev
 rs : wr.ownsRow w.heap.size 131 4 st sl.length (Bi sl)
 re : wr.ownsRow 0 131 4 ev ents.length (Bi ents)
 lo : ∀ j, ev.ownBlock = some j -> j < w.heap.size
 K : Kp (LS g bv) w wr
theorem GH.drewN {d : LC} (h : GH w wr g d bv vv dv ev st ents sl) (n : Nat) : GH w (wr.drewN n) g d bv vv dv ev st ents sl := ⟨h.C.drewN n, h.rs, h.re, h.lo, h.K.drewN n⟩
theorem Bu.alloc {c : LC} (h : Bu w g c bv vv dv ev) (o : Obj) : Bu (w.alloc o) g c bv vv dv ev := ⟨h.L.alloc o, h.b.alloc o⟩
theorem GH.alloc {d : LC} (h : GH w wr g d bv vv dv ev st ents sl) (o : Obj) : GH w (wr.alloc o) g d bv vv dv ev st ents sl := ⟨h.C.alloc o, h.rs.alloc o, h.re.alloc o, h.lo, h.K.alloc o⟩
theorem Bu.grown {c : LC} (h : Bu w g c bv vv dv ev) (hg : w.grownBy w' v.ownBlock) (hv : w.ownsRow base e size v n xs) (he : 81 ≠ e) (hi : 3 ≠ e) : Bu w' g c bv vv dv ev :=
 ⟨Ao hg h.L (Has.apart h.L hv he), h.b.kept hg (Ae h.b hv hi)⟩
theorem GH.push {v5 : World} {g5 cap5 : Nat} {d : LC} {o : ES} (h : GH w wr g d bv vv dv ev st ents sl) (hg : wr.grownBy v5 st.ownBlock) (ho : v5.ownsRow w.heap.size 131 4 (.slice (some ⟨g5, 0, none⟩) (sl.length + 1) cap5) (sl.length + 1) (Bi sl ++ o.cells)) :
  GH w v5 g d bv vv dv ev (.slice (some ⟨g5, 0, none⟩) (sl.length + 1) cap5) ents (sl ++ [o]) := by
 refine ⟨h.C.grown hg h.rs (by decide) (by decide), ?_, h.re.kept hg ?_, h.lo, h.K.grown hg (fun j hj => (h.rs.lt j hj).1)⟩
 ·rw [Fr]; simpa using ho
 ·cases he : ev.ownBlock with
  | none => exact .inl rfl
  | some j =>
   refine .inr fun e => ?_
   have h1 := h.lo j he
   have h2 := (h.rs.lt j e.symm).1
   omega
theorem GH.setBal {d : LC} (h : GH w wr g d (.slice (some ⟨gb, 0, none⟩) n cap) vv dv ev st ents sl) (hn : n = d.bal.length) (k : Nat) (x : Int) :
  GH w (wr.setCell ⟨gb, k, none⟩ (.int .i64 x)) g (Bf d k x) (.slice (some ⟨gb, 0, none⟩) n cap) vv dv ev st ents sl := by
 have hb := h.C.b
 have q1 : st.ownBlock ≠ some gb := fun e => by
  rcases Ae h.rs hb (by decide) with h1 | h1
  ·rw [h1] at e; simp at e
  ·exact h1 (by rw [e]; rfl)
 have q2 : ev.ownBlock ≠ some gb := fun e => by
  rcases Ae h.re hb (by decide) with h1 | h1
  ·rw [h1] at e; simp at e
  ·exact h1 (by rw [e]; rfl)
 exact ⟨h.C.setBal hn k x, Aa h.rs _ _ q1, Aa h.re _ _ q2, h.lo, h.K.setCell (p := ⟨gb, k, none⟩) (.inr rfl) _⟩
theorem Qr (g : Nat) (c : LC) (bv vv dv ev : Value) (ents : List ES) (w : World) (h : Bu w g c bv vv dv ev) (hE : EOk c ents) (hb : ∀ k (h : k < c.bal.length), 0 <= c.bal[k] ∧ c.bal[k] <= 1000000000) (he : w.ownsRow 0 131 4 ev ents.length (Bi ents))
  (hm : 0 <= c.mature ∧ c.mature <= 1000) (hh : 0 <= c.height ∧ c.height <= 100000) (hbl : c.bal.length <= 1000) :
  Calls Tryz.prog 126 #[.pointer (some ⟨g, 0, none⟩)] w fun e w' => e = .returned (.tuple #[]) ∧ ∃ ev', Bu w' g (CI c ents ents.length).1 bv vv dv ev' ∧ w'.ownsRow 0 131 4 ev' (CI c ents ents.length).2.length (Bi (CI c ents ents.length).2) ∧
   Kp (LS g bv) w w' ∧ (∀ k, ev'.ownBlock = some k -> w.heap.size <= k) := by
 obtain ⟨i5, hi5, hz50, hz51, hz52⟩ := info_parts GC
 obtain ⟨ea, ec, (hea : ev = .slice ea ents.length ec)⟩ := Ac he
 subst hea
 obtain ⟨hm0, hm1⟩ := hm
 obtain ⟨hh0, hh1⟩ := hh
 have hel := hE.len
 have HE := Hd hE
 have HBD := Hd hb
 have HL := Hd h
 have HR := Hd he
 clear hE hb h he
 go_enter Tryz.func126, Tryz.ntmps126
 go_wp2
 go_loopw [2, 3] (fun st i wr => ∃ k : Nat, k <= ents.length ∧ i = .int .i64 k ∧ GH w wr g (CI c ents k).1 bv vv dv (.slice ea ents.length ec) st ents (CI c ents k).2) (fun _ i _ => ents.length - (intOf i).toNat)
 case atStart => exact ⟨0, Nat.zero_le _, rfl, ⟨HL.out, World.ownsRow_nil _ _ _ _, HR.out, fun j hj => (HR.out.lt j hj).2, Kp.refl _ _⟩⟩
 case round =>
  obtain ⟨k, hk, rfl, hP⟩ := hrel
  have hst := hP.rs
  have hC := hP.C
  have hre := hP.re
  clear HL HR
  obtain ⟨sa, sc, hsa⟩ := Ac hst
  subst hsa
  have c9 : wr.cell? ⟨g, 9, none⟩ = some (.slice ea ents.length ec) := hC.L.cell 9
  have gl := World.block_lt_of_cell? wr _ c9
  have f9 := hC.L.frozen 9
  by_cases hlt : k < ents.length
  ·obtain ⟨ge, rfl, _⟩ := Ag hre (by omega)
   have z0 := (hre.cellAt (k * 4 + 0) (by omega)).trans (AC ents k hlt 0 (by omega))
   have z1 := (hre.cellAt (k * 4 + 1) (by omega)).trans (AC ents k hlt 1 (by omega))
   have z2 := (hre.cellAt (k * 4 + 2) (by omega)).trans (AC ents k hlt 2 (by omega))
   have z3 := (hre.cellAt (k * 4 + 3) (by omega)).trans (AC ents k hlt 3 (by omega))
   obtain ⟨q1, q2, q3, q4, q5, q6⟩ := HE.out.ok k hlt
   have HS : Hid (CI c ents (k + 1) = E8 c (CI c ents k) ents[k]) := EJ c ents k hlt
   have hbd := PH HE.out HBD.out k hk
   obtain ⟨⟨s1, s2, s3, s4, s5, s6, s7⟩, s8⟩ := IB c ents k hk
   generalize ents[k] = e0 at *
   generalize CI c ents k = pp at *
   obtain ⟨d, sl⟩ := pp
   simp only at hC hst hbd s2 s4 s7 s8 hP
   have hsl : sl.length <= 1000 := by omega
   obtain ⟨who, val, made, amount⟩ := e0
   simp only [ES.cells, List.getElem?_cons_succ, List.getElem?_cons_zero, Nat.add_zero] at z0 z1 z2 z3
   simp only at q1 q2 q3 q4 q5 q6
   obtain ⟨kw, rfl⟩ := Int.eq_ofNat_of_zero_le q1
   have c1 : wr.cell? ⟨g, 1, none⟩ = some (.int .i64 d.mature) := hC.L.cell 1
   have c3 : wr.cell? ⟨g, 3, none⟩ = some (.int .i64 d.height) := hC.L.cell 3
   rw [s2] at c1
   rw [s4] at c3
   by_cases hp : made + c.mature <= c.height
   ·have hkw : kw < d.bal.length := by omega
    obtain ⟨ba, bc, rfl⟩ := Ac hC.b
    obtain ⟨gb, rfl, _⟩ := Ag hC.b (by omega)
    have c4 : wr.cell? ⟨g, 4, none⟩ = some (.slice (some ⟨gb, 0, none⟩) d.bal.length bc) := hC.L.cell 4
    have hgd : d.bal.getD kw 0 = d.bal[kw] := by simp [List.getD, hkw]
    have cb : wr.cell? ⟨gb, kw, none⟩ = some (.int .i64 (d.bal.getD kw 0)) := by
     rw [hC.b.cellAt kw (by omega)]; simp [Ai, hkw]
    have fb := hC.b.frozenAt kw
    have glb := World.block_lt_of_cell? wr _ cb
    obtain ⟨hb0, hb1⟩ := hbd kw hkw
    rw [<- hgd] at hb0 hb1
    have HS' : Hid (CI c ents (k + 1) = (Bf d kw (d.bal.getD kw 0 + amount), sl)) := by
     have h1 := HS.out
     rw [E8, if_pos hp] at h1
     exact h1
    have HP := Hd hP
    clear hP hC hst hre HS hbd hgd HBD HE
    generalize d.bal.getD kw 0 = x at *
    go_wp2
    go_quiet (fail)
    go_wp2
    go_region
    go_wp2
    refine And.intro ⟨k + 1, by omega, by go_num, ?_⟩ (by simp [intOf]; omega)
    rw [HS'.out]
    exact ((HP.out.alloc _).drewN _).setBal rfl kw _
   ·have HS' : Hid (CI c ents (k + 1) = (d, sl ++ [⟨kw, val, made, amount⟩])) := by
     have h1 := HS.out
     rw [E8, if_neg hp] at h1
     exact h1
    have HP := Hd hP
    clear hP hC hst hre HS hbd HBD HE
    go_wp2
    go_quiet (fail)
    go_wp2_with (at_builtin; go_loud (refine Ak rfl (.tmp 51) (.tmp 53) 79 rfl 131 i5 _ 4 32 Tryz.underlying79 hi5 hz50 hz51 hz52 rfl (by decide) w.heap.size _ sl.length (Bi sl) rfl (((HP.out.alloc _).drewN _).alloc _).rs (((HP.out.alloc _).drewN _).alloc _).K.size ⟨_, 0, none⟩ 1 1 [.int .i64 kw, .int .i64 val, .int .i64 made, .int .i64 amount] rfl (by rfl) (Ap _ [.int .i64 kw, .int .i64 val, .int .i64 made, .int .i64 amount] _ _ (by simp [World.drewN])) (by simp [Value.oneCell']) (by decide) (by simp [maxLen]; omega) (by omega) ?_))
    intro g5 cap5 v5 hown5 hgrow5 hor5 hold5
    have HP5 : Hid _ := (((HP.out.alloc _).drewN _).alloc _).push (o := ⟨kw, val, made, amount⟩) hgrow5 hown5
    clear HP hown5 hgrow5 hor5 hold5
    go_wp2
    refine And.intro ⟨k + 1, by omega, by go_num, ?_⟩ (by simp [intOf]; omega)
    rw [HS'.out]
    exact HP5.out
  ·go_wp2
   go_end0
   have hke : k = ents.length := by omega
   rw [<- hke]
   refine ⟨rfl, _, ⟨hC.L.set 9 _, Aa hC.b _ _ (fun e => Has.apart hC.L hC.b (by decide) e.symm)⟩, ?_, hP.K.setCell (p := ⟨g, 9, none⟩) (.inl rfl) _, fun j hj => (hst.lt j hj).1⟩
   exact Aj (Aa hst _ _ (fun e => Has.apart hC.L hst (by decide) e.symm)) (Nat.zero_le _)
theorem Bd {base' : Nat} {e' : TypeId} {size' : Nat} {n' gv : Nat} {xs' : List Value} (h : w.ownsRow base e size v n xs) (h' : w.ownsRow base' e' size' (.slice (some ⟨gv, 0, none⟩) m cap) n' xs') (hne : e ≠ e') : v.ownBlock ≠ some gv := by
 intro h0
 rcases Ae h h' hne with h1 | h1
 ·rw [h1] at h0; cases h0
 ·exact h1 (h0.trans rfl)
end Go.Proofs.YtohjjgefklhmaaaGreatDoor
