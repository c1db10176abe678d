import Derived.Test.YtohjjgefklhmaaaGreatDoorGOkM
namespace Go.Proofs.YtohjjgefklhmaaaGreatDoor
open Go.ChangeShapes Go.WideShapes Go.ChangeAt Go.RowKit
set_option linter.unusedVariables false
set_option maxHeartbeats 40000000
set_option maxRecDepth 100000
variable {a p val : Int} {x : EC} {S : Nat -> Prop} {W0 : World} {n k : Nat}
def CM (x : EC) (val hgt p : Int) : Int := if inB val x.vals.length = false then 3 else if hgt < 0 ∨ x.height < hgt then 12 else if p < 1 ∨ 100 < p then 13 else 0
def Bb (a p : Int) : Int := a * p / 100
theorem Dy (a0 : 0 <= a) (p0 : 0 <= p) (p1 : p <= 100) : 0 <= Bb a p ∧ Bb a p <= a := by
 unfold Bb
 have h1 : 0 <= a * p := Int.mul_nonneg a0 p0
 have h2 : a * p <= a * 100 := Int.mul_le_mul_of_nonneg_left p1 a0
 omega
def AJ (x : EC) (j : Nat) (p : Int) : EC := { x with pool := x.pool + Bb (x.val j).tokens p, vals := x.vals.modify j (fun v => { v with tokens := v.tokens - Bb (x.val j).tokens p }) }
def KQ (p : Int) (e : ES) : ES := { e with amount := e.amount - Bb e.amount p }
def Aq (x : EC) (j : Nat) (hgt p : Int) : Nat -> Int × List ES
 | 0 => (x.pool, x.ents)
 | k + 1 => if (x.ents.getD k e0).val = j ∧ hgt <= (x.ents.getD k e0).made then ((Aq x j hgt p k).1 + Bb (x.ents.getD k e0).amount p, (Aq x j hgt p k).2.set k (KQ p (x.ents.getD k e0))) else Aq x j hgt p k
def C9 (x : EC) (j : Nat) (hgt p : Int) : EC := { x with pool := (Aq x j hgt p x.ents.length).1, ents := (Aq x j hgt p x.ents.length).2 }
def GW (x : EC) (j : Nat) : EC := { x with vals := (x.vals.modify j (fun v => { v with jailed := true })).modify j (fun v => { v with inset := false }) }
def Bg (x : EC) (j : Nat) (hgt p : Int) : EC := GW (C9 (AJ x j p) j hgt p) j
def Bw (x : EC) (val hgt p : Int) : Int × EC := if CM x val hgt p ≠ 0 then (CM x val hgt p, x) else (0, Bg x val.toNat hgt p)
theorem Fl {hgt : Int} (h : CM x val hgt p = 0) : ∃ j : Nat, val = j ∧ j < x.vals.length ∧ 0 <= hgt ∧ hgt <= x.height ∧ 1 <= p ∧ p <= 100 := by
 unfold CM at h
 split at h
 ·cases h
 ·rename_i h1
  obtain ⟨j, rfl, hj⟩ := Bn (show inB val x.vals.length = true by simpa using h1)
  split at h
  ·cases h
  ·split at h
   ·cases h
   ·exact ⟨j, rfl, hj, by omega, by omega, by omega, by omega⟩
theorem EF (x : EC) (j : Nat) (hgt p : Int) (k : Nat) : (Aq x j hgt p k).2.length = x.ents.length := by
 induction k with
 | zero => rfl
 | succ k ih => unfold Aq; split <;> simp [ih]
theorem Gy (x : EC) (j : Nat) (hgt p : Int) (k i : Nat) (hi : k <= i) : (Aq x j hgt p k).2.getD i e0 = x.ents.getD i e0 := by
 induction k with
 | zero => rfl
 | succ k ih =>
  unfold Aq
  split
  ·simp only [List.getD]
   rw [List.getElem?_set_ne (by omega)]
   exact ih (by omega)
  ·exact ih (by omega)
theorem GX (x : EC) (j : Nat) (hgt p : Int) (p0 : 0 <= p) (p1 : p <= 100) (ha : ∀ e, e ∈ x.ents -> 0 <= e.amount) (k : Nat) (hk : k <= x.ents.length) : x.pool <= (Aq x j hgt p k).1 ∧ (Aq x j hgt p k).1 + AE ((Aq x j hgt p k).2.map (·.amount)) = x.pool + AE (x.ents.map (·.amount)) := by
 induction k with
 | zero => exact ⟨Int.le_refl _, rfl⟩
 | succ k ih =>
  obtain ⟨i1, i2⟩ := ih (by omega)
  have hlt : k < x.ents.length := by omega
  have egd : x.ents.getD k e0 = x.ents[k] := by simp [hlt]
  have hat := Gy x j hgt p k k (Nat.le_refl _)
  have hln := EF x j hgt p k
  unfold Aq
  split
  ·rw [egd] at hat ⊢
   obtain ⟨l0, l1⟩ := Dy (ha _ (List.getElem_mem hlt)) p0 p1
   have e1 : ((Aq x j hgt p k).2.set k (KQ p x.ents[k])).map (·.amount) = ((Aq x j hgt p k).2.map (·.amount)).set k (x.ents[k].amount - Bb x.ents[k].amount p) := by
    rw [List.map_set]; rfl
   have e2 : ((Aq x j hgt p k).2.map (·.amount)).getD k 0 = x.ents[k].amount := by
    have hk' : k < (Aq x j hgt p k).2.length := by omega
    rw [<- hat]
    simp [hk']
   have e3 := Cy ((Aq x j hgt p k).2.map (·.amount)) k (x.ents[k].amount - Bb x.ents[k].amount p) (by simpa using (show k < (Aq x j hgt p k).2.length by omega))
   rw [e2] at e3
   dsimp only
   rw [e1, e3]
   omega
  ·exact ⟨i1, i2⟩
theorem JC (x : EC) (j : Nat) (hgt p : Int) (p0 : 0 <= p) (p1 : p <= 100) (n : Nat) (h : Int) (ha : ∀ e, e ∈ x.ents -> Rc n h e) (k : Nat) (hk : k <= x.ents.length) : ∀ e, e ∈ (Aq x j hgt p k).2 -> Rc n h e := by
 induction k with
 | zero => exact ha
 | succ k ih =>
  have hlt : k < x.ents.length := by omega
  have egd : x.ents.getD k e0 = x.ents[k] := by simp [hlt]
  unfold Aq
  split
  ·intro e he
   rw [egd] at he
   have hm := List.mem_or_eq_of_mem_set he
   rcases hm with hm | rfl
   ·exact ih (by omega) e hm
   ·have h0 := ha _ (List.getElem_mem hlt)
    obtain ⟨l0, l1⟩ := Dy h0.a0 p0 p1
    exact ⟨h0.w, h0.m0, h0.m1, by show 0 <= x.ents[k].amount - Bb x.ents[k].amount p; omega⟩
  ·exact ih (by omega)
theorem Lc (l : List ES) (k : Nat) (hk : k < l.length) (i : Nat) (u : Value) (x : ES) (hx : l[k].cells.set i u = x.cells) (hi : i < 4) : (Bi l).set (k * 4 + i) u = Bi (l.set k x) := by
 induction l generalizing k with
 | nil => simp at hk
 | cons v l ih =>
  cases k with
  | zero =>
   simp only [List.getElem_cons_zero] at hx
   simp only [Nat.zero_mul, Nat.zero_add, Bi, List.set_cons_zero]
   rw [List.set_append_left _ _ (by simpa [ES.cells] using hi), hx]
  | succ k =>
   simp only [List.getElem_cons_succ] at hx
   simp only [Bi, List.set_cons_succ]
   rw [List.set_append_right _ _ (by simp [ES.cells]; omega)]
   have e : (k + 1) * 4 + i - v.cells.length = k * 4 + i := by simp [ES.cells]; omega
   rw [e, ih k (by simpa using hk) hx]
theorem PE.setEnt {w : World} {g : Nat} {bv vv : Value} {ge cap : Nat} {ents' : List ES} (h : PE S W0 w g x bv vv (.slice (some ⟨ge, 0, none⟩) n cap)) (hn : n = x.ents.length) (i : Nat) (u : Value) (he : (Bi x.ents).set i u = Bi ents') (hl : ents'.length = x.ents.length) : PE S W0 (w.setCell ⟨ge, i, none⟩ u) g { x with ents := ents' } bv vv (.slice (some ⟨ge, 0, none⟩) n cap) := by
 subst hn
 have hne : g ≠ ge := fun e => Has.apart h.L h.e (by decide) (by rw [e]; rfl)
 refine ⟨h.fr.setCell (h.se ge rfl) _, h.hS, h.hg, h.L.other _ _ hne, h.ht, Aa h.b _ _ (Bd h.b h.e (by decide)), Aa h.v _ _ (Bd h.v h.e (by decide)), ?_, h.sb, h.sv, h.se⟩
 have := (h.e.stored i u).1
 rw [he] at this
 simp only [hl]; exact this
section
variable {S : Nat -> Prop} {W0 : World} (g : Nat) (x : EC) (bv vv ev : Value) (w : World) (h : PE S W0 w g x bv vv ev)
include h
theorem Lg (val hgt p : Int) (hv : x.vals.length <= 5) :
  Calls Tryz.prog 119 #[.pointer (some ⟨g, 0, none⟩), .int .i64 val, .int .i64 hgt, .int .i64 p] w fun e w' => e = .returned (.int .i64 (CM x val hgt p)) ∧ w = w' := by
 obtain ⟨R, hR⟩ : ∃ R, CM x val hgt p = R := ⟨_, rfl⟩
 rw [hR]
 unfold CM at hR
 obtain ⟨va, vc, rfl⟩ := Ac h.v
 have c7 : w.cell? ⟨g, 7, none⟩ = some (.slice va x.vals.length vc) := h.L.cell 7
 have c3 : w.cell? ⟨g, 3, none⟩ = some (.int .i64 x.height) := h.L.cell 3
 clear h
 by_cases h1 : inB val x.vals.length = true
 case neg =>
  have h1' : inB val x.vals.length = false := by simpa using h1
  rw [if_pos h1'] at hR
  have HR := Hd hR
  clear hR h1
  go_enter Tryz.func119, Tryz.ntmps119
  go_wp2_with (go_at_call 144; refine (Hk g x.vals.length val _ _ _ c7 (by omega)).mono ?_; rintro e w' ⟨rfl, rfl⟩; rw [h1'])
  go_ret
  exact ⟨As HR.out, rfl⟩
 rw [if_neg (by simp [h1])] at hR
 obtain ⟨j, rfl, hj⟩ := Bn h1
 clear h1
 generalize x.height = xh at *
 by_cases h2 : hgt < 0
 ·rw [if_pos (Or.inl h2)] at hR
  have HR := Hd hR
  clear hR
  go_enter Tryz.func119, Tryz.ntmps119
  go_wp2_with (go_at_call 144; refine (BB g x.vals.length j _ _ _ c7 hj (by omega)).mono ?_; rintro e w' ⟨rfl, rfl⟩)
  go_ret
  exact ⟨As HR.out, rfl⟩
 by_cases h3 : xh < hgt
 ·rw [if_pos (Or.inr h3)] at hR
  have HR := Hd hR
  clear hR
  go_enter Tryz.func119, Tryz.ntmps119
  go_wp2_with (go_at_call 144; refine (BB g x.vals.length j _ _ _ c7 hj (by omega)).mono ?_; rintro e w' ⟨rfl, rfl⟩)
  go_ret
  exact ⟨As HR.out, rfl⟩
 rw [if_neg (by omega)] at hR
 by_cases h4 : p < 1
 ·rw [if_pos (Or.inl h4)] at hR
  have HR := Hd hR
  clear hR
  go_enter Tryz.func119, Tryz.ntmps119
  go_wp2_with (go_at_call 144; refine (BB g x.vals.length j _ _ _ c7 hj (by omega)).mono ?_; rintro e w' ⟨rfl, rfl⟩)
  go_ret
  exact ⟨As HR.out, rfl⟩
 by_cases h5 : 100 < p
 ·rw [if_pos (Or.inr h5)] at hR
  have HR := Hd hR
  clear hR
  go_enter Tryz.func119, Tryz.ntmps119
  go_wp2_with (go_at_call 144; refine (BB g x.vals.length j _ _ _ c7 hj (by omega)).mono ?_; rintro e w' ⟨rfl, rfl⟩)
  go_ret
  exact ⟨As HR.out, rfl⟩
 rw [if_neg (by omega)] at hR
 have HR := Hd hR
 clear hR
 go_enter Tryz.func119, Tryz.ntmps119
 go_wp2_with (go_at_call 144; refine (BB g x.vals.length j _ _ _ c7 hj (by omega)).mono ?_; rintro e w' ⟨rfl, rfl⟩)
 go_ret
 exact ⟨As HR.out, rfl⟩
theorem Kk (j : Nat) (p : Int) (hv : x.vals.length <= 5) (hj : j < x.vals.length) (t0 : 0 <= (x.val j).tokens) (t1 : (x.val j).tokens <= 1000000) (p0 : 0 <= p) (p1 : p <= 100) (q0 : 0 <= x.pool) (q1 : x.pool <= 1000000000) :
  Calls Tryz.prog 120 #[.pointer (some ⟨g, 0, none⟩), .int .i64 j, .int .i64 p] w fun e w' => e = .returned (.tuple #[]) ∧ PE S W0 w' g (AJ x j p) bv vv ev := by
 obtain ⟨va, vc, rfl⟩ := Ac h.v
 obtain ⟨gv, rfl, hcell, hfr⟩ := h.val8 rfl hj
 have c6 : w.cell? ⟨g, 6, none⟩ = some (.int .i64 x.pool) := h.L.cell 6
 have f6 := h.L.frozen 6
 have c7 : w.cell? ⟨g, 7, none⟩ = some (.slice (some ⟨gv, 0, none⟩) x.vals.length vc) := h.L.cell 7
 have y2 := hcell 2 (by omega)
 have f2 := hfr (j * 8 + 2)
 rw [x.val_eq hj] at y2
 simp only [VS.cells, List.getElem?_cons_succ, List.getElem?_cons_zero] at y2
 have n3 : g ≠ gv := fun e => Has.apart h.L h.v (by decide) (by rw [e]; rfl)
 have n4 : gv ≠ g := fun e => n3 e.symm
 obtain ⟨l0, l1⟩ := Dy t0 p0 p1
 have m0 : 0 <= (x.val j).tokens * p := Int.mul_nonneg t0 p0
 have m1 : (x.val j).tokens * p <= (x.val j).tokens * 100 := Int.mul_le_mul_of_nonneg_left p1 t0
 have m2 : (x.val j).tokens * p <= 100000000 := by omega
 have hP1 := h.setVal rfl (j * 8 + 2) (.int .i64 ((x.val j).tokens - Bb (x.val j).tokens p)) (vals' := x.vals.modify j (fun v => { v with tokens := v.tokens - Bb (x.val j).tokens p })) (Bk x.vals j hj 2 _ _ (by rw [x.val_eq hj]; rfl) (by omega)) (by simp)
 have hP2 := hP1.setHead (x' := AJ x j p) 6 (.int .i64 (x.pool + Bb (x.val j).tokens p)) rfl rfl rfl rfl rfl
 have HF := Hd hP2
 clear h hP1 hP2 hcell hfr
 generalize AJ x j p = xF at *
 unfold Bb at *
 generalize (x.val j).tokens = tk at *
 generalize x.pool = po at *
 go_enter Tryz.func120, Tryz.ntmps120
 go_wp2
 all_goals
  try go_region
  try go_wp2
  try go_region
  try go_wp2
  go_end0
  exact ⟨rfl, HF.out.eta rfl rfl rfl rfl⟩
theorem Sp (j : Nat) (hv : x.vals.length <= 5) (hj : j < x.vals.length) :
  Calls Tryz.prog 122 #[.pointer (some ⟨g, 0, none⟩), .int .i64 j] w fun e w' => e = .returned (.tuple #[]) ∧ PE S W0 w' g (GW x j) bv vv ev := by
 obtain ⟨va, vc, rfl⟩ := Ac h.v
 obtain ⟨gv, rfl, hcell, hfr⟩ := h.val8 rfl hj
 have c7 : w.cell? ⟨g, 7, none⟩ = some (.slice (some ⟨gv, 0, none⟩) x.vals.length vc) := h.L.cell 7
 have y6 := hcell 6 (by omega)
 have y7 := hcell 7 (by omega)
 have f6 := hfr (j * 8 + 6)
 have f7 := hfr (j * 8 + 7)
 rw [x.val_eq hj] at y6 y7
 simp only [VS.cells, List.getElem?_cons_succ, List.getElem?_cons_zero] at y6 y7
 have n3 : g ≠ gv := fun e => Has.apart h.L h.v (by decide) (by rw [e]; rfl)
 have n4 : gv ≠ g := fun e => n3 e.symm
 have hP1 := h.setVal rfl (j * 8 + 6) (.bool true) (vals' := x.vals.modify j (fun v => { v with jailed := true })) (Bk x.vals j hj 6 _ _ (by simp [VS.cells]) (by omega)) (by simp)
 have hj2 : j < (x.vals.modify j (fun v => { v with jailed := true })).length := by simpa using hj
 have hP2 := hP1.setVal (by simp) (j * 8 + 7) (.bool false) (vals' := (x.vals.modify j (fun v => { v with jailed := true })).modify j (fun v => { v with inset := false })) (Bk _ j hj2 7 _ _ (by simp [VS.cells]) (by omega)) (by simp)
 have HF := Hd hP2
 clear h hP1 hP2 hcell hfr hj2
 generalize (x.val j).jailed = jl at *
 generalize (x.val j).inset = iset at *
 go_enter Tryz.func122, Tryz.ntmps122
 go_wp2
 all_goals
  try go_region
  try go_wp2
  try go_region
  try go_wp2
  go_end0
  exact ⟨rfl, HF.out.eta rfl rfl rfl rfl⟩
end
structure RR (x : EC) (j : Nat) (hgt p : Int) : Prop where
 l : x.ents.length <= 100000
 p0 : 0 <= p
 p1 : p <= 100
 e : ∀ k (hk : k < x.ents.length), 0 <= x.ents[k].amount ∧ x.ents[k].amount <= 1000000
 q : ∀ k, k <= x.ents.length -> 0 <= (Aq x j hgt p k).1 ∧ (Aq x j hgt p k).1 <= 1000000000
theorem Jf (g : Nat) (x : EC) (bv vv ev : Value) (w : World) (h : PE S W0 w g x bv vv ev) (j : Nat) (hgt p : Int) (ok : RR x j hgt p) :
  Calls Tryz.prog 121 #[.pointer (some ⟨g, 0, none⟩), .int .i64 j, .int .i64 hgt, .int .i64 p] w fun e w' => e = .returned (.tuple #[]) ∧ PE S W0 w' g (C9 x j hgt p) bv vv ev := by
 obtain ⟨ea, ec, rfl⟩ := Ac h.e
 have c73 : w.cell? ⟨g, 73, none⟩ = some (.slice ea x.ents.length ec) := h.evAt
 have hel := ok.l
 have HP := Hd h
 have HK := Hd ok
 have HQ : Hid (C9 x j hgt p = { x with pool := (Aq x j hgt p x.ents.length).1, ents := (Aq x j hgt p x.ents.length).2 }) := rfl
 clear h ok
 go_enter Tryz.func121, Tryz.ntmps121
 go_wp2
 go_loopw [15] (fun i wr => ∃ k : Nat, k <= x.ents.length ∧ i = .int .i64 k ∧ PE S W0 wr g { x with pool := (Aq x j hgt p k).1, ents := (Aq x j hgt p k).2 } bv vv (.slice ea x.ents.length ec)) (fun i _ => x.ents.length - (intOf i).toNat)
 case atStart => exact ⟨0, Nat.zero_le _, rfl, HP.out⟩
 case round =>
  clear HP c73
  obtain ⟨k, hk, rfl, hP⟩ := hrel
  by_cases hlt : k < x.ents.length
  ·obtain ⟨am0, am1⟩ := HK.out.e k hlt
   obtain ⟨q0, q1⟩ := HK.out.q k hk
   have p0 := HK.out.p0
   have p1 := HK.out.p1
   have hln := EF x j hgt p k
   have egd : x.ents.getD k e0 = x.ents[k] := by simp [hlt]
   have hkl : k < (Aq x j hgt p k).2.length := by omega
   have hat : (Aq x j hgt p k).2[k] = x.ents[k] := by
    have := Gy x j hgt p k k (Nat.le_refl _)
    rw [egd] at this
    rw [<- this]
    simp [hkl]
   have hE : wr.ownsRow 0 125 4 (.slice ea x.ents.length ec) (Aq x j hgt p k).2.length (Bi (Aq x j hgt p k).2) := hP.e
   rw [hln] at hE
   obtain ⟨ge, rfl, _⟩ := Ag hE (by omega)
   have c6 : wr.cell? ⟨g, 6, none⟩ = some (.int .i64 (Aq x j hgt p k).1) := hP.L.cell 6
   have f6 := hP.L.frozen 6
   have c73 : wr.cell? ⟨g, 73, none⟩ = some (.slice (some ⟨ge, 0, none⟩) x.ents.length ec) := hP.evAt
   have z1 : wr.cell? ⟨ge, k * 4 + 1, none⟩ = some (.int .i64 x.ents[k].val) := by rw [<- hat]; exact (hE.cellAt (k * 4 + 1) (by omega)).trans (AC _ k hkl 1 (by omega))
   have z2 : wr.cell? ⟨ge, k * 4 + 2, none⟩ = some (.int .i64 x.ents[k].made) := by rw [<- hat]; exact (hE.cellAt (k * 4 + 2) (by omega)).trans (AC _ k hkl 2 (by omega))
   have z3 : wr.cell? ⟨ge, k * 4 + 3, none⟩ = some (.int .i64 x.ents[k].amount) := by rw [<- hat]; exact (hE.cellAt (k * 4 + 3) (by omega)).trans (AC _ k hkl 3 (by omega))
   have f3 := hE.frozenAt (k * 4 + 3)
   have n1 : g ≠ ge := fun e => Has.apart hP.L hP.e (by decide) (by rw [e]; rfl)
   have n2 : ge ≠ g := fun e => n1 e.symm
   by_cases hm : x.ents[k].val = j ∧ hgt <= x.ents[k].made
   ·have HL : Hid (Aq x j hgt p (k + 1) = ((Aq x j hgt p k).1 + Bb x.ents[k].amount p, (Aq x j hgt p k).2.set k (KQ p x.ents[k]))) := by
     show (if (x.ents.getD k e0).val = j ∧ hgt <= (x.ents.getD k e0).made then _ else _) = _
     rw [egd, if_pos hm]
    obtain ⟨hm1, hm2⟩ := hm
    obtain ⟨l0, l1⟩ := Dy am0 p0 p1
    have m0 : 0 <= x.ents[k].amount * p := Int.mul_nonneg am0 p0
    have m1 : x.ents[k].amount * p <= x.ents[k].amount * 100 := Int.mul_le_mul_of_nonneg_left p1 am0
    have m2 : x.ents[k].amount * p <= 100000000 := by omega
    have hPs := (hP.setEnt hln.symm (k * 4 + 3) (.int .i64 (x.ents[k].amount - Bb x.ents[k].amount p)) (ents' := (Aq x j hgt p k).2.set k (KQ p x.ents[k])) (Lc _ k hkl 3 _ _ (by rw [hat]; rfl) (by omega)) (by simp)).setHead (x' := { x with pool := (Aq x j hgt p k).1 + Bb x.ents[k].amount p, ents := (Aq x j hgt p k).2.set k (KQ p x.ents[k]) }) 6 (.int .i64 ((Aq x j hgt p k).1 + Bb x.ents[k].amount p)) rfl rfl rfl rfl rfl
    have HPs : Hid (PE S W0 ((wr.setCell ⟨ge, k * 4 + 3, none⟩ (.int .i64 (x.ents[k].amount - Bb x.ents[k].amount p))).setCell ⟨g, 6, none⟩ (.int .i64 ((Aq x j hgt p k).1 + Bb x.ents[k].amount p))) g { x with pool := (Aq x j hgt p (k + 1)).1, ents := (Aq x j hgt p (k + 1)).2 } bv vv (.slice (some ⟨ge, 0, none⟩) x.ents.length ec)) := by
     rw [HL.out]; exact hPs
    rw [hm1] at z1
    clear hP hPs HQ HK hE egd hat HL hln hkl hm1
    generalize (Aq x j hgt p k).1 = po at *
    unfold Bb at *
    generalize x.ents[k].made = emd at *
    generalize x.ents[k].amount = eam at *
    go_wp2
    all_goals
     try go_region
     try go_wp2
     try go_region
     try go_wp2
    refine And.intro ?_ ?_
    ·first
      | exact ⟨k + 1, by omega, by go_num, HPs.out.eta rfl rfl rfl rfl⟩
      | ((repeat apply Exists.intro); exact ⟨⟨k + 1, by omega, by go_num, HPs.out.eta rfl rfl rfl rfl⟩, rfl⟩)
    ·simp [intOf]; omega
   ·have HL : Hid (Aq x j hgt p (k + 1) = Aq x j hgt p k) := by
     show (if (x.ents.getD k e0).val = j ∧ hgt <= (x.ents.getD k e0).made then _ else _) = _
     rw [egd, if_neg hm]
    have HPs : Hid (PE S W0 wr g { x with pool := (Aq x j hgt p (k + 1)).1, ents := (Aq x j hgt p (k + 1)).2 } bv vv (.slice (some ⟨ge, 0, none⟩) x.ents.length ec)) := by
     rw [HL.out]; exact hP
    clear hP HQ HK hE egd hat HL hln hkl
    generalize x.ents[k].made = emd at *
    generalize x.ents[k].val = evl at *
    by_cases hv : evl = j
    ·have hm2 : emd < hgt := by
      have : ¬ hgt <= emd := fun hh => hm ⟨hv, hh⟩
      omega
     rw [hv] at z1
     clear hm hv
     go_wp2
     refine And.intro ?_ ?_
     ·first
       | exact ⟨k + 1, by omega, by go_num, HPs.out.eta rfl rfl rfl rfl⟩
       | ((repeat apply Exists.intro); exact ⟨⟨k + 1, by omega, by go_num, HPs.out.eta rfl rfl rfl rfl⟩, rfl⟩)
     ·simp [intOf]; omega
    ·have hv' : (evl == (j : Int)) = false := by simp [hv]
     clear hm hv
     go_wp2
     refine And.intro ?_ ?_
     ·first
       | exact ⟨k + 1, by omega, by go_num, HPs.out.eta rfl rfl rfl rfl⟩
       | ((repeat apply Exists.intro); exact ⟨⟨k + 1, by omega, by go_num, HPs.out.eta rfl rfl rfl rfl⟩, rfl⟩)
     ·simp [intOf]; omega
  ·have ek : k = x.ents.length := by omega
   subst ek
   have HF : Hid (PE S W0 wr g (C9 x j hgt p) bv vv (.slice ea x.ents.length ec)) := by
    rw [HQ.out]; exact hP
   clear hP HQ HK
   go_wp2
   go_end0
   exact ⟨rfl, HF.out⟩
section
variable {S : Nat -> Prop} {W0 : World} (g : Nat) (x : EC) (bv vv ev : Value) (w : World) (h : PE S W0 w g x bv vv ev)
include h
theorem R3 (val hgt p : Int) (hv : x.vals.length <= 5) (hV : ∀ j, j < x.vals.length -> 0 <= (x.val j).tokens ∧ (x.val j).tokens <= 1000000) (q0 : 0 <= x.pool) (q1 : x.pool <= 1000000) (hS : ∀ j : Nat, CM x j hgt p = 0 -> RR (AJ x j p) j hgt p) :
  Calls Tryz.prog 61 #[.pointer (some ⟨g, 0, none⟩), .int .i64 val, .int .i64 hgt, .int .i64 p] w fun e w' => e = .returned (.int .i64 (Bw x val hgt p).1) ∧ PE S W0 w' g (Bw x val hgt p).2 bv vv ev := by
 unfold Bw
 have HE : Hid (Calls Tryz.prog 119 #[.pointer (some ⟨g, 0, none⟩), .int .i64 val, .int .i64 hgt, .int .i64 p] w fun e w' => e = .returned (.int .i64 (CM x val hgt p)) ∧ w = w') := Lg g x bv vv ev w h val hgt p hv
 by_cases he : CM x val hgt p = 0
 case neg =>
  rw [if_pos he]
  have he' : (CM x val hgt p == 0) = false := by simp [he]
  have HP := Hd h
  clear h he hS hV
  generalize CM x val hgt p = er at *
  go_enter Tryz.func61, Tryz.ntmps61
  go_wp2_with fail
  refine HE.out.mono ?_
  rintro e w1 ⟨rfl, rfl⟩
  clear HE
  go_wp2
  go_ret
  exact ⟨rfl, HP.out⟩
 rw [if_neg (by simp [he])]
 obtain ⟨j, rfl, hj, g0, g1, p0, p1⟩ := Fl he
 rw [Int.toNat_natCast]
 rw [he] at HE
 have HT : Hid (Calls Tryz.prog 120 #[.pointer (some ⟨g, 0, none⟩), .int .i64 j, .int .i64 p] w fun e w' => e = .returned (.tuple #[]) ∧ PE S W0 w' g (AJ x j p) bv vv ev) := Kk g x bv vv ev w h j p hv hj (hV j hj).1 (hV j hj).2 (by omega) p1 q0 (by omega)
 have HN : Hid (∀ w1, PE S W0 w1 g (AJ x j p) bv vv ev -> Calls Tryz.prog 121 #[.pointer (some ⟨g, 0, none⟩), .int .i64 j, .int .i64 hgt, .int .i64 p] w1 fun e w' => e = .returned (.tuple #[]) ∧ PE S W0 w' g (C9 (AJ x j p) j hgt p) bv vv ev) := fun w1 h1 => Jf g _ _ _ _ w1 h1 j hgt p (hS j he)
 have HJ : Hid (∀ w1, PE S W0 w1 g (C9 (AJ x j p) j hgt p) bv vv ev -> Calls Tryz.prog 122 #[.pointer (some ⟨g, 0, none⟩), .int .i64 j] w1 fun e w' => e = .returned (.tuple #[]) ∧ PE S W0 w' g (Bg x j hgt p) bv vv ev) := fun w1 h1 => Sp g _ _ _ _ w1 h1 j (by simpa [C9, AJ] using hv) (by simpa [C9, AJ] using hj)
 clear h he hS hV
 generalize Bg x j hgt p = x4 at *
 generalize C9 (AJ x j p) j hgt p = x3 at *
 generalize AJ x j p = x2 at *
 go_enter Tryz.func61, Tryz.ntmps61
 go_wp2_with fail
 refine HE.out.mono ?_
 rintro e w1 ⟨rfl, rfl⟩
 clear HE
 go_wp2_with fail
 refine HT.out.mono ?_
 rintro e w1 ⟨rfl, hP⟩
 have HP1 := Hd hP
 clear HT hP
 go_wp2_with fail
 refine (HN.out _ HP1.out).mono ?_
 rintro e w2 ⟨rfl, hP⟩
 have HP2 := Hd hP
 clear HN hP HP1
 go_wp2_with fail
 refine (HJ.out _ HP2.out).mono ?_
 rintro e w3 ⟨rfl, hP⟩
 have HP3 := Hd hP
 clear HJ hP HP2
 go_wp2
 go_ret
 exact ⟨rfl, HP3.out⟩
end
def Cc (x : EC) (who val : Int) : Int := if BN x who val ≠ 0 then BN x who val else if (x.val val.toNat).jailed = true then 0 else 11
def ET (x : EC) (j : Nat) : EC := { x with vals := x.vals.modify j (fun v => { v with jailed := false }) }
def CJ (x : EC) (who val : Int) : Int × EC := Gc x who (fun y k => Cc y k val) (fun y _ => ET y val.toNat)
theorem Kx {who : Int} (h : Cc x who val = 0) : ∃ j : Nat, val = j ∧ j < x.vals.length ∧ (x.val j).owner = who ∧ (x.val j).jailed = true := by
 unfold Cc at h
 split at h
 ·rename_i h1; exact (h1 h).elim
 ·rename_i h1
  obtain ⟨j, rfl, hj, ho⟩ := FT (by simpa using h1)
  rw [Int.toNat_natCast] at h
  split at h
  ·rename_i h2; exact ⟨j, rfl, hj, ho, h2⟩
  ·cases h
section
variable {S : Nat -> Prop} {W0 : World} (g : Nat) (x : EC) (bv vv ev : Value) (w : World) (h : PE S W0 w g x bv vv ev)
include h
theorem IJ (who val : Int) (hv : x.vals.length <= 5) :
  Calls Tryz.prog 123 #[.pointer (some ⟨g, 0, none⟩), .int .i64 who, .int .i64 val] w fun e w' => e = .returned (.int .i64 (Cc x who val)) ∧ w = w' := by
 have HO : Hid (Calls Tryz.prog 117 #[.pointer (some ⟨g, 0, none⟩), .int .i64 who, .int .i64 val] w fun e w' => e = .returned (.int .i64 (BN x who val)) ∧ w = w') := E6 g x bv vv ev w h who val hv
 unfold Cc
 by_cases ho : BN x who val = 0
 case neg =>
  rw [if_pos ho]
  have ho' : (BN x who val == 0) = false := by simp [ho]
  clear h ho
  generalize BN x who val = oe at *
  go_enter Tryz.func123, Tryz.ntmps123
  go_wp2_with fail
  refine HO.out.mono ?_
  rintro e w1 ⟨rfl, rfl⟩
  clear HO
  go_wp2
  go_ret
  exact ⟨rfl, rfl⟩
 rw [if_neg (by simp [ho])]
 obtain ⟨j, rfl, hj, _⟩ := FT ho
 rw [ho] at HO
 rw [Int.toNat_natCast]
 obtain ⟨va, vc, rfl⟩ := Ac h.v
 obtain ⟨gv, rfl, hcell, hfr⟩ := h.val8 rfl hj
 have c7 : w.cell? ⟨g, 7, none⟩ = some (.slice (some ⟨gv, 0, none⟩) x.vals.length vc) := h.L.cell 7
 have y6 := hcell 6 (by omega)
 rw [x.val_eq hj] at y6
 simp only [VS.cells, List.getElem?_cons_succ, List.getElem?_cons_zero] at y6
 clear h ho hcell hfr
 generalize (x.val j).jailed = jl at *
 cases jl
 ·rw [if_neg (by simp)]
  go_enter Tryz.func123, Tryz.ntmps123
  go_wp2_with fail
  refine HO.out.mono ?_
  rintro e w1 ⟨rfl, rfl⟩
  clear HO
  go_wp2
  go_ret
  exact ⟨rfl, rfl⟩
 ·rw [if_pos rfl]
  go_enter Tryz.func123, Tryz.ntmps123
  go_wp2_with fail
  refine HO.out.mono ?_
  rintro e w1 ⟨rfl, rfl⟩
  clear HO
  go_wp2
  go_ret
  exact ⟨rfl, rfl⟩
theorem SC (k j : Nat) (ha : CK x) (hc : Az x k = 0) (he : Cc (Ab x k) k j = 0) (hv : x.vals.length <= 5) (hj : j < x.vals.length) :
  Calls Tryz.prog 62 #[.pointer (some ⟨g, 0, none⟩), .int .i64 k, .int .i64 j] w fun e w' => e = .returned (.int .i64 0) ∧ PE S W0 w' g (ET (Ab x k) j) bv vv ev := by
 have HC : Hid (Calls Tryz.prog 105 #[.pointer (some ⟨g, 0, none⟩), .int .i64 k] w fun e w' => e = .returned (.int .i64 0) ∧ PE S W0 w' g (Ab x k) bv vv ev) := BH g x bv vv ev w h k ha hc
 have HE : Hid (∀ w1, PE S W0 w1 g (Ab x k) bv vv ev -> Calls Tryz.prog 123 #[.pointer (some ⟨g, 0, none⟩), .int .i64 k, .int .i64 j] w1 fun e w' => e = .returned (.int .i64 0) ∧ w1 = w') := fun w1 h1 => by
  have := IJ g _ _ _ _ w1 h1 k j hv
  rw [he] at this
  exact this
 have hj' : j < (Ab x k).vals.length := hj
 clear h he hc
 generalize Ab x k = x2 at *
 go_enter Tryz.func62, Tryz.ntmps62
 go_wp2_with fail
 refine HC.out.mono ?_
 rintro e w1 ⟨rfl, hP⟩
 have HP := Hd hP
 clear hP HC
 go_wp2_with fail
 refine (HE.out _ HP.out).mono ?_
 rintro e w2 ⟨rfl, rfl⟩
 clear HE
 have h := HP.out
 obtain ⟨va, vc, rfl⟩ := Ac h.v
 obtain ⟨gv, rfl, hcell, hfr⟩ := h.val8 rfl hj'
 have c7 : w1.cell? ⟨g, 7, none⟩ = some (.slice (some ⟨gv, 0, none⟩) x2.vals.length vc) := h.L.cell 7
 have y6 := hcell 6 (by omega)
 have f6 := hfr (j * 8 + 6)
 rw [x2.val_eq hj'] at y6
 simp only [VS.cells, List.getElem?_cons_succ, List.getElem?_cons_zero] at y6
 have hP1 := h.setVal rfl (j * 8 + 6) (.bool false) (vals' := x2.vals.modify j (fun v => { v with jailed := false })) (Bk x2.vals j hj' 6 _ _ (by simp [VS.cells]) (by omega)) (by simp)
 have HF := Hd hP1
 clear h hP1 hcell hfr HP
 generalize (x2.val j).jailed = jl at *
 go_wp2
 all_goals
  try go_region
  try go_wp2
  go_ret
  exact ⟨rfl, HF.out.eta rfl rfl rfl rfl⟩
end
theorem Lq (x : EC) (j : Nat) (hgt p : Int) (hj : j < x.vals.length) (i : Nat) : (Bg x j hgt p).val i = if i = j then { x.val j with tokens := (x.val j).tokens - Bb (x.val j).tokens p, jailed := true, inset := false } else x.val i := by
 have h1 : j < (x.vals.modify j (fun v => { v with tokens := v.tokens - Bb (x.val j).tokens p })).length := by simpa using hj
 have h2 : j < ((x.vals.modify j (fun v => { v with tokens := v.tokens - Bb (x.val j).tokens p })).modify j (fun v => { v with jailed := true })).length := by simpa using hj
 show (((x.vals.modify j (fun v => { v with tokens := v.tokens - Bb (x.val j).tokens p })).modify j (fun v => { v with jailed := true })).modify j (fun v => { v with inset := false })).getD i v0 = _
 rw [AK _ _ _ _ h2]
 by_cases e : i = j
 ·subst e
  rw [if_pos rfl, if_pos rfl, AK _ _ _ _ h1, if_pos rfl, AK _ _ _ _ hj, if_pos rfl]
  rfl
 ·rw [if_neg e, if_neg e, AK _ _ _ _ h1, if_neg e, AK _ _ _ _ hj, if_neg e]
  rfl
theorem BT (f : VS -> Int) (g : VS -> VS) (l : List VS) (j : Nat) (h : ∀ v, f (g v) = f v) : AT f (l.modify j g) = AT f l := by
 by_cases hj : j < l.length
 ·rw [AY f l j g hj]
  have := h (l.getD j v0)
  omega
 ·have e : l.modify j g = l := by
   apply List.ext_getElem?
   intro i
   rw [List.getElem?_modify]
   by_cases ei : j = i
   ·subst ei; rw [List.getElem?_eq_none (by omega)]; rfl
   ·simp [ei]
  rw [e]
theorem K5 (x : EC) (j : Nat) (hgt p : Int) (hj : j < x.vals.length) : AT (·.tokens) (Bg x j hgt p).vals = AT (·.tokens) x.vals - Bb (x.val j).tokens p ∧ AT (·.outs) (Bg x j hgt p).vals = AT (·.outs) x.vals := by
 have e0 : (Bg x j hgt p).vals = ((x.vals.modify j (fun v => { v with tokens := v.tokens - Bb (x.val j).tokens p })).modify j (fun v => { v with jailed := true })).modify j (fun v => { v with inset := false }) := rfl
 rw [e0]
 constructor
 ·refine (BT (·.tokens) _ _ _ (by intro v; rfl)).trans ((BT (·.tokens) _ _ _ (by intro v; rfl)).trans ?_)
  rw [AY _ _ _ _ hj, x.val_getD j]
  show AT (·.tokens) x.vals + ((x.val j).tokens - Bb (x.val j).tokens p) - (x.val j).tokens = _
  omega
 ·exact (BT (·.outs) _ _ _ (by intro v; rfl)).trans ((BT (·.outs) _ _ _ (by intro v; rfl)).trans (BT (·.outs) _ _ _ (by intro v; rfl)))
section
variable {H : Int} {x : EC}
theorem Ok.slOk (ok : Ok H x) {j : Nat} {hgt p : Int} (hj : j < x.vals.length) (p0 : 1 <= p) (p1 : p <= 100) (hn : x.ents.length <= 100000) : RR (AJ x j p) j hgt p := by
 obtain ⟨b1, b2, b3, b4, b5⟩ := ok.bds
 have hb := b4 j hj
 have hv := ok.val j hj
 obtain ⟨l0, l1⟩ := Dy hv.t0 (show 0 <= p by omega) p1
 have hp := ok.pool
 have hpt : (AJ x j p).pool = x.pool + Bb (x.val j).tokens p := rfl
 refine ⟨hn, by omega, p1, fun k hk => ⟨(ok.ent _ (List.getElem_mem hk)).a0, b5 k hk⟩, fun k hk => ?_⟩
 obtain ⟨s1, s2⟩ := GX (AJ x j p) j hgt p (by omega) p1 (fun e he => (ok.ent e he).a0) k hk
 have s3 : 0 <= AE ((Aq (AJ x j p) j hgt p k).2.map (·.amount)) := EE _ (fun i hi => by
  have hi' : i < (Aq (AJ x j p) j hgt p k).2.length := by simpa using hi
  have e : ((Aq (AJ x j p) j hgt p k).2.map (·.amount)).getD i 0 = (Aq (AJ x j p) j hgt p k).2[i].amount := by simp [hi']
  rw [e]
  exact (JC (AJ x j p) j hgt p (by omega) p1 x.bal.length x.height (fun e he => ok.ent e he) k hk _ (List.getElem_mem hi')).a0)
 have s4 : AE ((AJ x j p).ents.map (·.amount)) <= 1000000 := by
  obtain ⟨q1, q2, q3, q4⟩ := ok.parts
  have ht := ok.tot
  have hf := ok.fees
  unfold EC.tot at ht
  show AE (x.ents.map (·.amount)) <= 1000000
  omega
 rw [hpt] at s1 s2
 constructor <;> omega
theorem Ok.slash (ok : Ok H x) {j : Nat} {hgt p : Int} (hj : j < x.vals.length) (p0 : 1 <= p) (p1 : p <= 100) : Ok H (Bg x j hgt p) ∧ (Bg x j hgt p).tot = x.tot ∧ (Bg x j hgt p).ents.length = x.ents.length := by
 have hv := ok.val j hj
 obtain ⟨l0, l1⟩ := Dy hv.t0 (show 0 <= p by omega) p1
 have hval := Lq x j hgt p hj
 obtain ⟨su1, su2⟩ := K5 x j hgt p hj
 have hvl : (Bg x j hgt p).vals.length = x.vals.length := by simp [Bg, GW, C9, AJ]
 have hel : (Bg x j hgt p).ents.length = x.ents.length := EF (AJ x j p) j hgt p _
 obtain ⟨s1, s2⟩ := GX (AJ x j p) j hgt p (by omega) p1 (fun e he => (ok.ent e he).a0) x.ents.length (Nat.le_refl _)
 have hpl : (Bg x j hgt p).pool = (Aq (AJ x j p) j hgt p x.ents.length).1 := rfl
 have hen : (Bg x j hgt p).ents = (Aq (AJ x j p) j hgt p x.ents.length).2 := rfl
 have hpt : (AJ x j p).pool = x.pool + Bb (x.val j).tokens p := rfl
 have hte : (AJ x j p).ents = x.ents := rfl
 rw [<- hpl, hpt] at s1
 rw [<- hpl, <- hen, hpt, hte] at s2
 have htot : (Bg x j hgt p).tot = x.tot := by
  unfold EC.tot
  rw [su1, su2]
  have e1 : (Bg x j hgt p).bal = x.bal := rfl
  have e2 : (Bg x j hgt p).fees = x.fees := rfl
  rw [e1, e2]
  omega
 have hp := ok.pool
 refine ⟨⟨ok.b6, by rw [hvl]; exact ok.v5, ok.tl, ok.fee0, ok.fee1, ok.top0, ok.top1, ok.mat0, ok.mat1, ok.hgt0, ok.hgt1, ok.H0, ok.H1, ok.bal, ok.fees, by omega, fun i hi => ?_, ?_, by rw [htot]; exact ok.tot, ok.sh0, fun i hi => ?_, ok.per, ok.upt, fun i hi => ?_⟩, htot, hel⟩
 ·rw [hvl] at hi
  rw [hval]
  split
  ·exact ⟨by show 0 <= (x.val j).tokens - Bb (x.val j).tokens p; omega, hv.s0, hv.s1, hv.r0, hv.r1, hv.k0, hv.ko, fun ht => hv.tk (by have : 0 < (x.val j).tokens - Bb (x.val j).tokens p := ht; omega), hv.oz, fun _ => rfl⟩
  ·exact ok.val i hi
 ·exact JC (AJ x j p) j hgt p (by omega) p1 x.bal.length x.height (fun e he => ok.ent e he) x.ents.length (Nat.le_refl _)
 ·rw [hvl] at hi
  rw [hval]
  have := ok.shs i hi
  split
  ·rename_i e; subst e; exact this
  ·exact this
 ·rw [hvl] at hi
  rw [hval]
  have := ok.due i hi
  split
  ·rename_i e; subst e; exact this
  ·exact this
theorem OY (x : EC) (j : Nat) (hj : j < x.vals.length) (i : Nat) : (ET x j).val i = if i = j then { x.val j with jailed := false } else x.val i := by
 show (x.vals.modify j (fun v => { v with jailed := false })).getD i v0 = _
 rw [AK _ _ _ _ hj]
 rfl
theorem Ok.out (ok : Ok H x) {j : Nat} (hj : j < x.vals.length) : Ok H (ET x j) ∧ (ET x j).tot = x.tot := by
 have hv := ok.val j hj
 have hval := OY x j hj
 have hvl : (ET x j).vals.length = x.vals.length := by simp [ET]
 have htot : (ET x j).tot = x.tot := by
  have e0 : (ET x j).vals = x.vals.modify j (fun v => { v with jailed := false }) := rfl
  unfold EC.tot
  rw [e0]
  have t1 : AT (·.tokens) (x.vals.modify j (fun v => { v with jailed := false })) = AT (·.tokens) x.vals := BT (·.tokens) _ _ _ (by intro v; rfl)
  have t2 : AT (·.outs) (x.vals.modify j (fun v => { v with jailed := false })) = AT (·.outs) x.vals := BT (·.outs) _ _ _ (by intro v; rfl)
  rw [t1, t2]
  have e1 : (ET x j).bal = x.bal := rfl
  have e2 : (ET x j).fees = x.fees := rfl
  have e3 : (ET x j).pool = x.pool := rfl
  have e4 : (ET x j).ents = x.ents := rfl
  rw [e1, e2, e3, e4]
 refine ⟨⟨ok.b6, by rw [hvl]; exact ok.v5, ok.tl, ok.fee0, ok.fee1, ok.top0, ok.top1, ok.mat0, ok.mat1, ok.hgt0, ok.hgt1, ok.H0, ok.H1, ok.bal, ok.fees, ok.pool, fun i hi => ?_, ok.ent, by rw [htot]; exact ok.tot, ok.sh0, fun i hi => ?_, ok.per, ok.upt, fun i hi => ?_⟩, htot⟩
 ·rw [hvl] at hi
  rw [hval]
  split
  ·exact ⟨hv.t0, hv.s0, hv.s1, hv.r0, hv.r1, hv.k0, hv.ko, hv.tk, hv.oz, fun h => by cases h⟩
  ·exact ok.val i hi
 ·rw [hvl] at hi
  rw [hval]
  have := ok.shs i hi
  split
  ·rename_i e; subst e; exact this
  ·exact this
 ·rw [hvl] at hi
  rw [hval]
  have := ok.due i hi
  split
  ·rename_i e; subst e; exact this
  ·exact this
end
def Eng (S : Nat -> Prop) (W0 w : World) (g : Nat) (x : EC) (bv vv : Value) : Prop := ∃ ev, PE S W0 w g x bv vv ev
structure CW (x x' : EC) (n : Nat) : Prop where
 fine : Bl x'
 tot : x'.tot = x.tot
 el : x'.ents.length <= n + 1
 bl : x'.bal.length = x.bal.length
 vl : x'.vals.length = x.vals.length
 hg : x'.height <= x.height + 1
 fee : x'.fee = x.fee
 top : x'.top = x.top
theorem CW.refl (h : Bl x) (hn : x.ents.length <= n) : CW x x n := ⟨h, rfl, by omega, rfl, rfl, by omega, rfl, rfl⟩
theorem Bl.charge (h : Bl x) {k : Nat} (hc : Az x k = 0) : Bl (Ab x k) ∧ (Ab x k).tot = x.tot := by
 obtain ⟨k', e, hk, hf⟩ := Cs hc
 have e' : k = k' := by omega
 subst e'
 exact Ok.charge h hk hf
theorem CW.charge (h : Bl x) (hn : x.ents.length <= n) {k : Nat} (hc : Az x k = 0) : CW x (Ab x k) n := by
 obtain ⟨h1, h2⟩ := h.charge hc
 exact ⟨h1, h2, by show x.ents.length <= n + 1; omega, by simp [Ab], rfl, by show x.height <= _; omega, rfl, rfl⟩
def CG (x : EC) (who val a : Int) : Int × EC := Gc x who (fun y k => BV y k val a) (fun y k => AV { y with bal := y.bal.set k (y.balAt k - a) } k val.toNat a)
def CL (x : EC) (who val : Int) : Int × EC := Gc x who (fun y k => BX y k val) (fun y k => AF y k val.toNat)
theorem EY (h : BV x k val a = 0) : ∃ j : Nat, val = j ∧ j < x.vals.length ∧ 1 <= a ∧ a <= x.balAt k ∧ AX (x.val j) a = 0 := by
 unfold BV at h
 split at h
 ·cases h
 ·rename_i h1
  obtain ⟨j, rfl, hj⟩ := Bn (show inB val x.vals.length = true by simpa using h1)
  rw [Int.toNat_natCast] at h
  split at h
  ·cases h
  ·split at h
   ·cases h
   ·exact ⟨j, rfl, hj, by omega, by omega, h⟩
theorem FQ (h : BX x k val = 0) : ∃ j : Nat, val = j ∧ j < x.vals.length ∧ 1 <= x.sh k j := by
 unfold BX at h
 split at h
 ·cases h
 ·rename_i h1
  obtain ⟨j, rfl, hj⟩ := Bn (show inB val x.vals.length = true by simpa using h1)
  rw [Int.toNat_natCast] at h
  split at h
  ·cases h
  ·exact ⟨j, rfl, hj, by omega⟩
section
variable {S : Nat -> Prop} {W0 : World} {g : Nat} {x : EC} {bv vv ev : Value} {w : World} (h : PE S W0 w g x bv vv ev) (ok : Bl x) (n : Nat) (hn : x.ents.length <= n) (hn2 : n <= 99999)
include h ok hn hn2
omit hn2 in
theorem SH (who dst a : Int) : Calls Tryz.prog 53 #[.pointer (some ⟨g, 0, none⟩), .int .i64 who, .int .i64 dst, .int .i64 a] w fun e w' => e = .returned (.int .i64 (Co x who dst a).1) ∧ Eng S W0 w' g (Co x who dst a).2 bv vv ∧ CW x (Co x who dst a).2 n := by
 have okx : Ok x.height x := ok
 refine (St g x bv vv ev w h who dst a okx.accOk).mono ?_
 rintro e w' ⟨rfl, hp⟩
 refine ⟨rfl, ⟨ev, hp⟩, ?_⟩
 unfold Co
 by_cases hc : Az x who = 0
 ·obtain ⟨k, rfl, hk, hf⟩ := Cs hc
  have hL := CW.charge ok hn hc
  by_cases he : BM (Ab x k).bal.length ((Ab x k).balAt k) dst a = 0
  ·rw [B8 hc he]
   obtain ⟨t, rfl, ht, a1, a2⟩ := Fj he
   have hkc : k < (Ab x k).bal.length := by rw [hL.bl]; exact hk
   obtain ⟨f1, f2⟩ := Ok.sent hL.fine hkc ht (show 0 <= a by omega) a2
   exact ⟨f1, f2.trans hL.tot, hL.el, by simp [Ec, Ab], rfl, hL.hg, rfl, rfl⟩
  ·rw [AP hc he]; exact hL
 ·rw [Bq hc]; exact CW.refl ok hn
omit hn2 in
theorem RG (dst a : Int) : Calls Tryz.prog 54 #[.pointer (some ⟨g, 0, none⟩), .int .i64 dst, .int .i64 a] w fun e w' => e = .returned (.int .i64 (Bo x dst a).1) ∧ Eng S W0 w' g (Bo x dst a).2 bv vv ∧ CW x (Bo x dst a).2 n := by
 have okx : Ok x.height x := ok
 refine (RZ g x bv vv ev w h dst a okx.accOk).mono ?_
 rintro e w' ⟨rfl, hp⟩
 refine ⟨rfl, ⟨ev, hp⟩, ?_⟩
 unfold Bo
 split
 ·exact CW.refl ok hn
 ·rename_i he
  obtain ⟨t, rfl, ht, a1, a2⟩ := Fj (show BM x.bal.length x.pool dst a = 0 by simpa using he)
  rw [Int.toNat_natCast]
  obtain ⟨f1, f2⟩ := okx.spend ht (show 0 <= a by omega) a2
  exact ⟨f1, f2, by show x.ents.length <= n + 1; omega, by simp, rfl, by show x.height <= _; omega, rfl, rfl⟩
omit hn2 in
theorem Sc (who val a : Int) : Calls Tryz.prog 56 #[.pointer (some ⟨g, 0, none⟩), .int .i64 who, .int .i64 val, .int .i64 a] w fun e w' => e = .returned (.int .i64 (CG x who val a).1) ∧ Eng S W0 w' g (CG x who val a).2 bv vv ∧ CW x (CG x who val a).2 n := by
 have okx : Ok x.height x := ok
 unfold CG
 by_cases hc : Az x who = 0
 ·obtain ⟨k, rfl, hk, hf⟩ := Cs hc
  have hL := CW.charge ok hn hc
  have hcx : Ok x.height (Ab x k) := hL.fine
  have hkc : k < (Ab x k).bal.length := by rw [hL.bl]; exact hk
  by_cases he : BV (Ab x k) k val a = 0
  ·rw [B8 hc he]
   obtain ⟨j, rfl, hj, a1, a2, hje⟩ := EY he
   obtain ⟨f0, f1, f2⟩ := hcx.bond hkc hj a1 a2 hje
   have e2 : (Ab x k).balAt k = x.balAt k - x.fee := by simp [Ab, EC.balAt, hk]
   have eq : J6 x k j a = AV { Ab x k with bal := (Ab x k).bal.set k ((Ab x k).balAt k - a) } k j a := by
    unfold J6
    rw [e2]
    simp [Ab]
   rw [Int.toNat_natCast]
   simp only at f1 f2 ⊢
   rw [<- eq] at f1 f2 ⊢
   have jo := okx.jnOk hk hj
   have hb1 := okx.bds.1 k hk
   refine (Sh g x bv vv ev w h k j a okx.b6 hk okx.v5 hj jo.hV jo.hd jo.o0 jo.o1 jo.s0 jo.s1 a1 (by have := okx.fee0; omega) (by rw [e2] at a2; omega) (by omega) okx.fee0 okx.fees (by have := okx.bds.2.1; omega) hje).mono ?_
   rintro e w' ⟨rfl, hp⟩
   refine ⟨rfl, ⟨ev, hp⟩, f1, f2.trans hL.tot, ?_, ?_, ?_, ?_, rfl, rfl⟩
   ·show x.ents.length <= n + 1; omega
   ·rw [eq]; simp [AV, AF, Ab]
   ·rw [eq]; simp [AV, AF, Ab]
   ·show x.height <= _; omega
  ·rw [AP hc he]
   refine (N4 g x bv vv ev w h k val a okx.accOk hc _ he (fun w1 h1 => L0 g _ _ _ _ w1 h1 k val a hcx.b6 hkc hcx.v5 (fun j hj => hcx.valOk hj) (hcx.bds.1 k hkc))).mono ?_
   rintro e w' ⟨rfl, hp⟩
   exact ⟨rfl, ⟨ev, hp⟩, hL⟩
 ·rw [Bq hc]
  refine (Pc g x bv vv ev w h who val a okx.accOk hc).mono ?_
  rintro e w' ⟨rfl, hp⟩
  exact ⟨rfl, ⟨ev, hp⟩, CW.refl ok hn⟩
theorem QB (who val a : Int) : Calls Tryz.prog 57 #[.pointer (some ⟨g, 0, none⟩), .int .i64 who, .int .i64 val, .int .i64 a] w fun e w' => e = .returned (.int .i64 (D8 x who val a).1) ∧ Eng S W0 w' g (D8 x who val a).2 bv vv ∧ CW x (D8 x who val a).2 n := by
 have okx : Ok x.height x := ok
 unfold D8
 by_cases hc : Az x who = 0
 ·obtain ⟨k, rfl, hk, hf⟩ := Cs hc
  have hL := CW.charge ok hn hc
  have hcx : Ok x.height (Ab x k) := hL.fine
  have hkc : k < (Ab x k).bal.length := by rw [hL.bl]; exact hk
  have hk6 : k < 6 := by have := okx.b6; omega
  by_cases he : Cj (Ab x k) k val a = 0
  ·rw [B8 hc he]
   obtain ⟨j, rfl, hj, a1, a2, _⟩ := FY he
   obtain ⟨f1, f2, f3⟩ := hcx.unb hkc hj a1 a2
   obtain ⟨l1, l2, l3, l4, l5, l6, l7⟩ := hcx.leave hkc hj a a1 a2
   rw [Int.toNat_natCast]
   refine (QQ g x bv vv ev w h k j a okx.accOk hc (hcx.lvOk hkc hj) (by omega) he a1 a2 (by rw [l6]; show x.ents.length <= _; omega)).mono ?_
   rintro e w' ⟨rfl, hp⟩
   have hu : (FB (Ab x k) k j a).height = x.height ∧ (FB (Ab x k) k j a).bal.length = x.bal.length ∧ (FB (Ab x k) k j a).vals.length = x.vals.length ∧ (FB (Ab x k) k j a).fee = x.fee ∧ (FB (Ab x k) k j a).top = x.top := by
    have hlf : (AA (Ab x k) k j a).fee = x.fee ∧ (AA (Ab x k) k j a).top = x.top := by unfold AA; split <;> exact ⟨rfl, rfl⟩
    unfold FB ER
    split
    ·exact ⟨l7, l4.trans hL.bl, l5, hlf.1, hlf.2⟩
    ·exact ⟨l7, l4.trans hL.bl, l5, hlf.1, hlf.2⟩
   refine ⟨rfl, hp, by unfold Bl; simp only; rw [hu.1]; exact f1, f2.trans hL.tot, ?_, hu.2.1, hu.2.2.1, by simp only; rw [hu.1]; omega, hu.2.2.2.1, hu.2.2.2.2⟩
   have : (Ab x k).ents.length = x.ents.length := rfl
   simp only; omega
  ·rw [AP hc he]
   refine (Kz g x bv vv ev w h k val a okx.accOk hc _ he (fun w1 h1 => Ge g _ _ _ _ w1 h1 k val a hk6 hcx.v5 (by show x.ents.length <= _; omega))).mono ?_
   rintro e w' ⟨rfl, hp⟩
   exact ⟨rfl, ⟨ev, hp⟩, hL⟩
 ·rw [Bq hc]
  refine (Lk g x bv vv ev w h who val a okx.accOk hc).mono ?_
  rintro e w' ⟨rfl, hp⟩
  exact ⟨rfl, ⟨ev, hp⟩, CW.refl ok hn⟩
end
section
variable {S : Nat -> Prop} {W0 : World} {g : Nat} {x : EC} {bv vv ev : Value} {w : World} (h : PE S W0 w g x bv vv ev) (ok : Bl x) (n : Nat) (hn : x.ents.length <= n)
include h ok hn
theorem Sr (who val dst a : Int) : Calls Tryz.prog 58 #[.pointer (some ⟨g, 0, none⟩), .int .i64 who, .int .i64 val, .int .i64 dst, .int .i64 a] w fun e w' => e = .returned (.int .i64 (D7 x who val dst a).1) ∧ Eng S W0 w' g (D7 x who val dst a).2 bv vv ∧ CW x (D7 x who val dst a).2 n := by
 have okx : Ok x.height x := ok
 unfold D7
 by_cases hc : Az x who = 0
 ·obtain ⟨k, rfl, hk, hf⟩ := Cs hc
  have hL := CW.charge ok hn hc
  have hcx : Ok x.height (Ab x k) := hL.fine
  have hkc : k < (Ab x k).bal.length := by rw [hL.bl]; exact hk
  have hk6 : k < 6 := by have := okx.b6; omega
  by_cases he : BP (Ab x k) k val dst a = 0
  ·rw [B8 hc he]
   obtain ⟨j, t, rfl, rfl, hj, ht, htj, a1, a2, t1, hje⟩ := F6 he
   obtain ⟨f1, f2, f3⟩ := hcx.mov hkc hj ht htj a1 a2 t1 hje
   obtain ⟨l1, l2, l3, l4, l5, l6, l7⟩ := hcx.leave hkc hj a a1 a2
   rw [Int.toNat_natCast, Int.toNat_natCast]
   have hsl := hcx.sh_le hk6 hj
   obtain ⟨q0, q1⟩ := CO (hcx.valOk hj) (show 0 <= a by omega) (show a <= ((Ab x k).val j).shares by omega)
   have hb := (hcx.bds.2.2.2.1 j hj).1
   refine (SG g x bv vv ev w h k j t a okx.accOk hc (hcx.lvOk hkc hj) (fun i hi => hcx.valOk hi) (fun i hi => hcx.sh_le hk6 hi) he a1 a2 t1 (by omega) (l1.jnOk (by rw [l4]; exact hkc) (by rw [l5]; exact ht))).mono ?_
   rintro e w' ⟨rfl, hp⟩
   have hlf : (AA (Ab x k) k j a).fee = x.fee ∧ (AA (Ab x k) k j a).top = x.top := by unfold AA; split <;> exact ⟨rfl, rfl⟩
   have hu : (Ig (Ab x k) k j t a).height = x.height := l7
   refine ⟨rfl, ⟨ev, hp⟩, by unfold Bl; simp only; rw [hu]; exact f1, f2.trans hL.tot, ?_, ?_, ?_, by simp only; rw [hu]; omega, hlf.1, hlf.2⟩
   ·simp only; rw [f3]; show x.ents.length <= _; omega
   ·simp only [Ig, AV, AF, List.length_set]; rw [l4]; exact hL.bl
   ·simp only [Ig, AV, AF, List.length_modify]; exact l5
  ·rw [AP hc he]
   refine (M7 g x bv vv ev w h k val dst a okx.accOk hc _ he (fun w1 h1 => Ih g _ _ _ _ w1 h1 k val dst a hk6 hcx.v5 (fun i hi => hcx.valOk hi) (fun i hi => hcx.sh_le hk6 hi))).mono ?_
   rintro e w' ⟨rfl, hp⟩
   exact ⟨rfl, ⟨ev, hp⟩, hL⟩
 ·rw [Bq hc]
  refine (P2 g x bv vv ev w h who val dst a okx.accOk hc).mono ?_
  rintro e w' ⟨rfl, hp⟩
  exact ⟨rfl, ⟨ev, hp⟩, CW.refl ok hn⟩
theorem Sq (who val : Int) : Calls Tryz.prog 59 #[.pointer (some ⟨g, 0, none⟩), .int .i64 who, .int .i64 val] w fun e w' => e = .returned (.int .i64 (CL x who val).1) ∧ Eng S W0 w' g (CL x who val).2 bv vv ∧ CW x (CL x who val).2 n := by
 have okx : Ok x.height x := ok
 unfold CL
 by_cases hc : Az x who = 0
 ·obtain ⟨k, rfl, hk, hf⟩ := Cs hc
  have hL := CW.charge ok hn hc
  have hcx : Ok x.height (Ab x k) := hL.fine
  have hkc : k < (Ab x k).bal.length := by rw [hL.bl]; exact hk
  have hk6 : k < 6 := by have := okx.b6; omega
  by_cases he : BX (Ab x k) k val = 0
  ·rw [B8 hc he]
   obtain ⟨j, rfl, hj, s1⟩ := FQ he
   have f1 := hcx.pay hkc hj
   obtain ⟨_, _, _, _, f2⟩ := Ef hcx hkc hj
   rw [Int.toNat_natCast]
   have lo := okx.lvOk hk hj
   refine (Nr g x bv vv ev w h k j okx.b6 hk okx.v5 hj s1 lo.hd (by rw [x.val_eq hj]; exact lo.o0) (by rw [x.val_eq hj]; have := lo.o1; omega) hf (by have := lo.b1; omega) okx.fee0 okx.fees (by have := okx.bds.2.1; omega)).mono ?_
   rintro e w' ⟨rfl, hp⟩
   refine ⟨rfl, ⟨ev, hp⟩, f1, f2.trans hL.tot, ?_, ?_, ?_, ?_, rfl, rfl⟩
   ·show x.ents.length <= n + 1; omega
   ·simp [AF, Ab]
   ·simp [AF, Ab]
   ·show x.height <= _; omega
  ·rw [AP hc he]
   refine (Je g x bv vv ev w h k val okx.accOk hc _ he (fun w1 h1 => (Jn g _ _ _ _ w1 h1 k val hk6 hcx.v5).mono ?_)).mono ?_
   ·rintro e w' ⟨rfl, rfl⟩
    exact ⟨rfl, Below.refl _ _⟩
   ·rintro e w' ⟨rfl, hp⟩
    exact ⟨rfl, ⟨ev, hp⟩, hL⟩
 ·rw [Bq hc]
  refine (J7 g x bv vv ev w h who val okx.accOk hc).mono ?_
  rintro e w' ⟨rfl, hp⟩
  exact ⟨rfl, ⟨ev, hp⟩, CW.refl ok hn⟩
theorem Ss (who val : Int) : Calls Tryz.prog 60 #[.pointer (some ⟨g, 0, none⟩), .int .i64 who, .int .i64 val] w fun e w' => e = .returned (.int .i64 (CH x who val).1) ∧ Eng S W0 w' g (CH x who val).2 bv vv ∧ CW x (CH x who val).2 n := by
 have okx : Ok x.height x := ok
 unfold CH
 by_cases hc : Az x who = 0
 ·obtain ⟨k, rfl, hk, hf⟩ := Cs hc
  have hL := CW.charge ok hn hc
  have hcx : Ok x.height (Ab x k) := hL.fine
  have hkc : k < (Ab x k).bal.length := by rw [hL.bl]; exact hk
  by_cases he : BN (Ab x k) k val = 0
  ·rw [B8 hc he]
   obtain ⟨j, rfl, hj, _⟩ := FT he
   obtain ⟨f1, f2⟩ := hcx.coll hkc hj
   rw [Int.toNat_natCast]
   have lo := okx.lvOk hk hj
   have hb := hcx.bds.1 k hkc
   refine (PQ g x bv vv ev w h k j okx.accOk hc he okx.b6 hk okx.v5 hj lo.k0 (by have := lo.k1; omega) lo.o0 (by have := lo.o1; omega) (hcx.bal k hkc) (by omega)).mono ?_
   rintro e w' ⟨rfl, hp⟩
   refine ⟨rfl, ⟨ev, hp⟩, f1, f2.trans hL.tot, ?_, ?_, ?_, ?_, rfl, rfl⟩
   ·show x.ents.length <= n + 1; omega
   ·simp [Ce, Ab]
   ·simp [Ce, Ab]
   ·show x.height <= _; omega
  ·rw [AP hc he]
   refine (JX g x bv vv ev w h k val okx.accOk hc _ he (fun w1 h1 => (E6 g _ _ _ _ w1 h1 k val hcx.v5).mono ?_)).mono ?_
   ·rintro e w' ⟨rfl, rfl⟩
    exact ⟨rfl, Below.refl _ _⟩
   ·rintro e w' ⟨rfl, hp⟩
    exact ⟨rfl, ⟨ev, hp⟩, hL⟩
 ·rw [Bq hc]
  refine (Ku g x bv vv ev w h who val okx.accOk hc).mono ?_
  rintro e w' ⟨rfl, hp⟩
  exact ⟨rfl, ⟨ev, hp⟩, CW.refl ok hn⟩
theorem SP (who val : Int) : Calls Tryz.prog 62 #[.pointer (some ⟨g, 0, none⟩), .int .i64 who, .int .i64 val] w fun e w' => e = .returned (.int .i64 (CJ x who val).1) ∧ Eng S W0 w' g (CJ x who val).2 bv vv ∧ CW x (CJ x who val).2 n := by
 have okx : Ok x.height x := ok
 unfold CJ
 by_cases hc : Az x who = 0
 ·obtain ⟨k, rfl, hk, hf⟩ := Cs hc
  have hL := CW.charge ok hn hc
  have hcx : Ok x.height (Ab x k) := hL.fine
  by_cases he : Cc (Ab x k) k val = 0
  ·rw [B8 hc he]
   obtain ⟨j, rfl, hj, _⟩ := Kx he
   obtain ⟨f1, f2⟩ := hcx.out hj
   rw [Int.toNat_natCast]
   refine (SC g x bv vv ev w h k j okx.accOk hc he okx.v5 hj).mono ?_
   rintro e w' ⟨rfl, hp⟩
   refine ⟨rfl, ⟨ev, hp⟩, f1, f2.trans hL.tot, ?_, ?_, ?_, ?_, rfl, rfl⟩
   ·show x.ents.length <= n + 1; omega
   ·simp [ET, Ab]
   ·simp [ET, Ab]
   ·show x.height <= _; omega
  ·rw [AP hc he]
   refine (Ny g x bv vv ev w h k val okx.accOk hc _ he (fun w1 h1 => (IJ g _ _ _ _ w1 h1 k val hcx.v5).mono ?_)).mono ?_
   ·rintro e w' ⟨rfl, rfl⟩
    exact ⟨rfl, Below.refl _ _⟩
   ·rintro e w' ⟨rfl, hp⟩
    exact ⟨rfl, ⟨ev, hp⟩, hL⟩
 ·rw [Bq hc]
  refine (Ov g x bv vv ev w h who val okx.accOk hc).mono ?_
  rintro e w' ⟨rfl, hp⟩
  exact ⟨rfl, ⟨ev, hp⟩, CW.refl ok hn⟩
theorem RE (val hgt p : Int) (hn2 : n <= 99999) : Calls Tryz.prog 61 #[.pointer (some ⟨g, 0, none⟩), .int .i64 val, .int .i64 hgt, .int .i64 p] w fun e w' => e = .returned (.int .i64 (Bw x val hgt p).1) ∧ Eng S W0 w' g (Bw x val hgt p).2 bv vv ∧ CW x (Bw x val hgt p).2 n := by
 have okx : Ok x.height x := ok
 obtain ⟨b1, b2, b3, b4, b5⟩ := okx.bds
 refine (R3 g x bv vv ev w h val hgt p okx.v5 (fun j hj => ⟨(okx.val j hj).t0, (b4 j hj).1⟩) okx.pool b3 (fun j hs => ?_)).mono ?_
 ·obtain ⟨j', e, hj, _, _, p0, p1⟩ := Fl hs
  have e' : j = j' := by omega
  subst e'
  exact okx.slOk hj p0 p1 (by omega)
 ·rintro e w' ⟨rfl, hp⟩
  refine ⟨rfl, ⟨ev, hp⟩, ?_⟩
  unfold Bw
  split
  ·exact CW.refl ok hn
  ·rename_i he
   obtain ⟨j, rfl, hj, _, _, p0, p1⟩ := Fl (show CM x val hgt p = 0 by simpa using he)
   rw [Int.toNat_natCast]
   obtain ⟨f1, f2, f3⟩ := okx.slash (hgt := hgt) hj p0 p1
   exact ⟨f1, f2, by simp only; rw [f3]; omega, rfl, by simp [Bg, GW, C9, AJ], by show x.height <= _; omega, rfl, rfl⟩
theorem Rz (hn2 : n <= 99999) : Calls Tryz.prog 55 #[.pointer (some ⟨g, 0, none⟩)] w fun e w' => e = .returned (.int .i64 (BZ x).1) ∧ Eng S W0 w' g (BZ x).2 bv vv ∧ CW x (BZ x).2 n := by
 have okx : Ok x.height x := ok
 have hs := okx.share (by have := okx.hgt1; omega)
 have hlv : (Ba (upF x)).vals.length = x.vals.length := hs.2.2.2.2.2.2.1
 have htp : (Ba (upF x)).top = x.top := hs.2.2.2.2.2.1
 refine (Sa g x bv vv ev w h okx.v5 okx.feeOk okx.hgt0 (by rw [htp]; have := okx.top0; omega) (by rw [htp]; have := okx.top1; omega) (by rw [hlv]; have := okx.v5; omega) hs.2.2.2.2.1 (fun hh => ?_)).mono ?_
 ·have hu := Ok.up okx rfl hh
  exact hu.1.peOk (by rw [hu.2.2.2.1]; omega)
 ·rintro e w' ⟨rfl, hp⟩
  obtain ⟨b1, b2, b3, b4, b5, b6⟩ := ok.block
  refine ⟨rfl, hp, b1, b2, by omega, b4, b5, b6, ?_, ?_⟩
  ·unfold BZ; split
   ·rfl
   ·show (BR x).fee = x.fee
    have hin := Ij x x.fees (Ad x.vals) x.vals.length
    exact hin
  ·unfold BZ; split
   ·rfl
   ·exact htp
end
end Go.Proofs.YtohjjgefklhmaaaGreatDoor
