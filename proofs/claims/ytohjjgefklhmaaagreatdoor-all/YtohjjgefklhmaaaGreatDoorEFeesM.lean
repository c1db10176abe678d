import Derived.Test.YtohjjgefklhmaaaGreatDoorEEngM
namespace Go.Proofs.YtohjjgefklhmaaaGreatDoor
open Go.ChangeShapes Go.WideShapes Go.ChangeAt Go.RowKit
set_option linter.unusedVariables false
set_option maxHeartbeats 40000000
set_option maxRecDepth 100000
variable {S : Nat -> Prop} {W0 : World} {x : EC}
def A7 (x : EC) (j : Nat) (a : Int) : EC := if (x.val j).shares < 1 then x else { x with tab := x.tab.set (30 + j) (x.per j + a * 1073741824 / (x.val j).shares) }
def AH (x : EC) (j : Nat) (a : Int) : EC := A7 { x with vals := (x.vals.modify j (fun v => { v with comm := v.comm + a * (x.val j).rate / 100 })).modify j (fun v => { v with outs := v.outs + a }) } j (a - a * (x.val j).rate / 100)
section
variable {S : Nat -> Prop} {W0 : World} (g : Nat) (x : EC) (bv vv ev : Value) (w : World) (h : PE S W0 w g x bv vv ev)
include h
theorem Nw (j : Nat) (a : Int) (hv : x.vals.length <= 5) (hj : j < x.vals.length) (a0 : 0 <= a) (a1 : a <= 1000000) (s0 : 0 <= (x.val j).shares) (s1 : (x.val j).shares <= 1000000) (p0 : 0 <= x.per j) (p1 : x.per j <= 4000000000000000000) :
  Calls Tryz.prog 156 #[.pointer (some ⟨g, 0, none⟩), .int .i64 j, .int .i64 a] w fun e w' => e = .returned (.tuple #[]) ∧ PE S W0 w' g (A7 x j a) bv vv ev := by
 obtain ⟨va, vc, rfl⟩ := Ac h.v
 obtain ⟨gv, rfl, hcell, hfr⟩ := h.val8 rfl hj
 have c7 : w.cell? ⟨g, 7, none⟩ = some (.slice (some ⟨gv, 0, none⟩) x.vals.length vc) := h.L.cell 7
 have y3 := hcell 3 (by omega)
 rw [x.val_eq hj] at y3
 simp only [VS.cells, List.getElem?_cons_succ, List.getElem?_cons_zero] at y3
 have cp := h.perAt (j := j) (by omega)
 have fp := h.L.frozen (38 + j)
 by_cases hs : (x.val j).shares < 1
 ·have HF : Hid (PE S W0 w g (A7 x j a) bv (.slice (some ⟨gv, 0, none⟩) x.vals.length vc) ev) := by
   unfold A7; rw [if_pos hs]; exact h
  clear h hcell hfr
  generalize (x.val j).shares = s at *
  go_enter Tryz.func156, Tryz.ntmps156
  go_wp2
  refine bodyPost_ret (results_none rfl _ _ _) rfl ?_
  exact ⟨rfl, HF.out⟩
 ·have hP := h.setTab (30 + j) (x.per j + a * 1073741824 / (x.val j).shares) (by omega)
  rw [<- Nat.add_assoc] at hP
  have HF : Hid (PE S W0 (w.setCell ⟨g, 38 + j, none⟩ (.int .i64 (x.per j + a * 1073741824 / (x.val j).shares))) g (A7 x j a) bv (.slice (some ⟨gv, 0, none⟩) x.vals.length vc) ev) := by
   unfold A7; rw [if_neg hs]; exact hP
  have q0 : 0 <= a * 1073741824 / (x.val j).shares := Int.ediv_nonneg (by omega) s0
  have q1 : a * 1073741824 / (x.val j).shares <= 1073741824000000 := by
   have : a * 1073741824 / (x.val j).shares <= a * 1073741824 := Int.ediv_le_self _ (by omega)
   omega
  clear h hP hcell hfr
  generalize (x.val j).shares = s at *
  generalize x.per j = p at *
  have hs2 : 0 < s := by omega
  go_enter Tryz.func156, Tryz.ntmps156
  go_wp2
  go_region
  go_wp2
  go_end0
  exact ⟨rfl, HF.out.eta rfl rfl rfl rfl⟩
end
theorem My (x : EC) (l : List VS) (j : Nat) (hj : j < l.length) (f : VS -> VS) (hx : x.vals = l.modify j f) : x.val j = f l[j] := by
 simp [EC.val, hx, List.getD, hj]
section
variable {S : Nat -> Prop} {W0 : World} (g : Nat) (x : EC) (bv vv ev : Value) (w : World) (h : PE S W0 w g x bv vv ev)
include h
theorem SK (j : Nat) (a : Int) (hv : x.vals.length <= 5) (hj : j < x.vals.length) (a0 : 0 <= a) (a1 : a <= 1000000) (s0 : 0 <= (x.val j).shares) (s1 : (x.val j).shares <= 1000000) (r0 : 0 <= (x.val j).rate) (r1 : (x.val j).rate <= 100) (k0 : 0 <= (x.val j).comm) (k1 : (x.val j).comm <= 1000000000) (o0 : 0 <= (x.val j).outs) (o1 : (x.val j).outs <= 1000000000) (p0 : 0 <= x.per j) (p1 : x.per j <= 4000000000000000000) :
  Calls Tryz.prog 146 #[.pointer (some ⟨g, 0, none⟩), .int .i64 j, .int .i64 a] w fun e w' => e = .returned (.tuple #[]) ∧ PE S W0 w' g (AH x j a) bv vv ev := by
 obtain ⟨va, vc, rfl⟩ := Ac h.v
 obtain ⟨gv, rfl, hcell, hfr⟩ := h.val8 rfl hj
 have c7 : w.cell? ⟨g, 7, none⟩ = some (.slice (some ⟨gv, 0, none⟩) x.vals.length vc) := h.L.cell 7
 have y1 := hcell 1 (by omega)
 have y4 := hcell 4 (by omega)
 have y5 := hcell 5 (by omega)
 have f4 := hfr (j * 8 + 4)
 have f5 := hfr (j * 8 + 5)
 rw [x.val_eq hj] at y1 y4 y5
 simp only [VS.cells, List.getElem?_cons_succ, List.getElem?_cons_zero] at y1 y4 y5
 have hgne : g ≠ gv := fun e => Has.apart h.L h.v (by decide) (by rw [e]; rfl)
 have hgne' : gv ≠ g := fun e => hgne e.symm
 have m0 : 0 <= a * (x.val j).rate := Int.mul_nonneg a0 r0
 have m1 : a * (x.val j).rate <= a * 100 := Int.mul_le_mul_of_nonneg_left r1 a0
 have m2 : a * (x.val j).rate <= 100000000 := by omega
 have hP1 := h.setVal rfl (j * 8 + 4) (.int .i64 ((x.val j).comm + a * (x.val j).rate / 100)) (vals' := x.vals.modify j (fun v => { v with comm := v.comm + a * (x.val j).rate / 100 })) (Bk x.vals j hj 4 _ _ (by rw [x.val_eq hj]; rfl) (by omega)) (by simp)
 have hj2 : j < (x.vals.modify j (fun v => { v with comm := v.comm + a * (x.val j).rate / 100 })).length := by simpa using hj
 have hP2 := hP1.setVal (by simp) (j * 8 + 5) (.int .i64 ((x.val j).outs + a)) (vals' := (x.vals.modify j (fun v => { v with comm := v.comm + a * (x.val j).rate / 100 })).modify j (fun v => { v with outs := v.outs + a })) (Bk _ j hj2 5 _ _ (by simp [x.val_eq hj, VS.cells]) (by omega)) (by simp)
 have HP2 := Hd hP2
 have ev1 : ({ x with vals := (x.vals.modify j (fun v => { v with comm := v.comm + a * (x.val j).rate / 100 })).modify j (fun v => { v with outs := v.outs + a }) } : EC).val j = { x.val j with comm := (x.val j).comm + a * (x.val j).rate / 100, outs := (x.val j).outs + a } := by
  rw [My _ _ j hj2 _ rfl]
  simp [x.val_eq hj]
 have HS : Hid (∀ w, PE S W0 w g { x with vals := (x.vals.modify j (fun v => { v with comm := v.comm + a * (x.val j).rate / 100 })).modify j (fun v => { v with outs := v.outs + a }) } bv (.slice (some ⟨gv, 0, none⟩) x.vals.length vc) ev -> Calls Tryz.prog 156 #[.pointer (some ⟨g, 0, none⟩), .int .i64 j, .int .i64 (a - a * (x.val j).rate / 100)] w fun e w' => e = .returned (.tuple #[]) ∧ PE S W0 w' g (AH x j a) bv (.slice (some ⟨gv, 0, none⟩) x.vals.length vc) ev) := fun w h => Nw g _ _ _ _ w h j _ (by simp; omega) (by simpa using hj) (by omega) (by omega) (by rw [ev1]; exact s0) (by rw [ev1]; exact s1) p0 p1
 clear h hP1 hP2 hcell hfr hj2 ev1
 have e100 : Hid (a * (x.val j).rate / 100 = a * (x.val j).rate / 100) := rfl
 generalize AH x j a = xF at *
 generalize { x with vals := (x.vals.modify j (fun v => { v with comm := v.comm + a * (x.val j).rate / 100 })).modify j (fun v => { v with outs := v.outs + a }) } = x2 at *
 generalize (x.val j).rate = r at *
 generalize (x.val j).comm = cc at *
 generalize (x.val j).outs = oo at *
 go_enter Tryz.func146, Tryz.ntmps146
 go_wp2_with fail
 all_goals
  try go_region
  try go_wp2_with fail
 refine (HS.out _ (HP2.out.eta rfl rfl rfl rfl)).mono ?_
 rintro e w2 ⟨rfl, hP⟩
 have HF := Hd hP
 clear hP HP2 HS
 go_wp2
 go_end0
 exact ⟨rfl, HF.out⟩
end
def v0 : VS := ⟨0, 0, 0, 0, 0, 0, false, false⟩
def Bs (l : List VS) : Nat -> Int × Int
 | 0 => (-1, 0)
 | k + 1 => if (l.getD k v0).inset = false ∧ (l.getD k v0).jailed = false ∧ (Bs l k).2 < (l.getD k v0).tokens then ((k : Int), (l.getD k v0).tokens) else Bs l k
theorem Hf (l : List VS) (k : Nat) : (Bs l k).1 = -1 ∨ (0 <= (Bs l k).1 ∧ (Bs l k).1 < k) := by
 induction k with
 | zero => exact .inl rfl
 | succ k ih =>
  unfold Bs
  split
  ·right; simp only; omega
  ·rcases ih with h | h
   ·exact .inl h
   ·right; omega
theorem NR (l : List VS) (k : Nat) : 0 <= (Bs l k).2 := by
 induction k with
 | zero => exact Int.le_refl _
 | succ k ih =>
  unfold Bs
  split
  ·rename_i h; simp only; omega
  ·exact ih
def Dw (l : List VS) : Nat -> List VS
 | 0 => l
 | k + 1 => (Dw l k).modify k (fun v => { v with inset := false })
theorem DF (l : List VS) (k : Nat) : (Dw l k).length = l.length := by
 induction k with
 | zero => rfl
 | succ k ih => simp [Dw, ih]
def BY : Nat -> List VS -> List VS
 | 0, l => l
 | n + 1, l => if (Bs l l.length).1 < 0 then l else BY n (l.modify (Bs l l.length).1.toNat (fun v => { v with inset := true }))
def Bc (l : List VS) (top : Int) : List VS := BY top.toNat (Dw l l.length)
theorem Sf (g : Nat) (vals : List VS) (vv : Value) (w : World) (c7 : w.cell? ⟨g, 7, none⟩ = some vv) (hv : Rd w vv vals.length 8 (A5 vals)) (l2 : vals.length <= 1000) :
  Calls Tryz.prog 147 #[.pointer (some ⟨g, 0, none⟩)] w fun e w' => e = .returned (.int .i64 (Bs vals vals.length).1) ∧ Below w.heap.size w w' := by
 obtain ⟨va, vc, rfl⟩ := hv.form
 go_enter Tryz.func147, Tryz.ntmps147
 go_wp2
 go_loopw [3, 4, 12] (fun b m i wr => ∃ k : Nat, k <= vals.length ∧ i = .int .i64 k ∧ b = .int .i64 (Bs vals k).1 ∧ m = .int .i64 (Bs vals k).2 ∧ Below w.heap.size w wr) (fun _ _ i _ => vals.length - (intOf i).toNat)
 case atStart => exact ⟨0, Nat.zero_le _, rfl, rfl, rfl, Below.refl _ _⟩
 case round =>
  obtain ⟨k, hk, rfl, rfl, rfl, hbw⟩ := hrel
  have hv' := hv.below hbw (Nat.le_refl _)
  by_cases hlt : k < vals.length
  ·obtain ⟨gv, rfl, hc⟩ := hv'.get (by omega)
   have y0 := hc _ _ (An vals k hlt 0 (by omega))
   have y1 := hc _ _ (An vals k hlt 1 (by omega))
   have y2 := hc _ _ (An vals k hlt 2 (by omega))
   have y3 := hc _ _ (An vals k hlt 3 (by omega))
   have y4 := hc _ _ (An vals k hlt 4 (by omega))
   have y5 := hc _ _ (An vals k hlt 5 (by omega))
   have y6 := hc _ _ (An vals k hlt 6 (by omega))
   have y7 := hc _ _ (An vals k hlt 7 (by omega))
   rw [Nat.add_zero] at y0
   have HB : Hid (∀ o, Below w.heap.size w (wr.alloc o)) := fun o => hbw.alloc hbw.size o
   have hS : Bs vals (k + 1) = if vals[k].inset = false ∧ vals[k].jailed = false ∧ (Bs vals k).2 < vals[k].tokens then ((k : Int), vals[k].tokens) else Bs vals k := by
    have e : vals.getD k v0 = vals[k] := by simp [hlt]
    rw [<- e]; rfl
   have HS := Hd hS
   clear hS
   generalize vals[k] = x at *
   obtain ⟨xo, xr, xt, xs, xc, xou, xj, xi⟩ := x
   dsimp only at y0 y1 y2 y3 y4 y5 y6 y7
   clear hc hv hv' hbw
   by_cases hm : (Bs vals k).2 < xt
   ·cases xi <;> cases xj <;> go_wp2
    all_goals
     refine And.intro ?_ ?_
     ·first
       | exact ⟨k + 1, by omega, by go_num, by rw [HS.out]; simp [hm], by rw [HS.out]; simp [hm], HB.out _⟩
       | ((repeat apply Exists.intro); exact ⟨⟨k + 1, by omega, by go_num, by rw [HS.out]; simp [hm], by rw [HS.out]; simp [hm], HB.out _⟩, rfl⟩)
     ·simp [intOf]; omega
   ·cases xi <;> cases xj <;> go_wp2
    all_goals
     refine And.intro ?_ ?_
     ·first
       | exact ⟨k + 1, by omega, by go_num, by rw [HS.out]; simp [hm], by rw [HS.out]; simp [hm], HB.out _⟩
       | ((repeat apply Exists.intro); exact ⟨⟨k + 1, by omega, by go_num, by rw [HS.out]; simp [hm], by rw [HS.out]; simp [hm], HB.out _⟩, rfl⟩)
     ·simp [intOf]; omega
  ·have e : k = vals.length := by omega
   have HE := Hd e
   clear e
   go_wp2
   go_ret
   refine ⟨As ?_, hbw⟩
   rw [HE.out]
theorem QN (g : Nat) (x : EC) (bv vv ev : Value) (w : World) (h : PE S W0 w g x bv vv ev) (l2 : x.vals.length <= 1000) (ht0 : 0 <= x.top) (ht1 : x.top <= 1000) :
  Calls Tryz.prog 109 #[.pointer (some ⟨g, 0, none⟩)] w fun e w' => e = .returned (.tuple #[]) ∧ PE S W0 w' g { x with vals := Bc x.vals x.top } bv vv ev := by
 obtain ⟨va, vc, rfl⟩ := Ac h.v
 have c7 : w.cell? ⟨g, 7, none⟩ = some (.slice va x.vals.length vc) := h.L.cell 7
 have HC := Hd h
 clear h
 go_enter Tryz.func109, Tryz.ntmps109
 go_wp2
 go_loopw [10] (fun i wr => ∃ k : Nat, k <= x.vals.length ∧ i = .int .i64 k ∧ PE S W0 wr g { x with vals := Dw x.vals k } bv (.slice va x.vals.length vc) ev) (fun i _ => x.vals.length - (intOf i).toNat)
 case atStart => exact ⟨0, Nat.zero_le _, rfl, HC.out⟩
 case round =>
  clear HC
  obtain ⟨k, hk, rfl, hP⟩ := hrel
  have hln := DF x.vals k
  have c7' : wr.cell? ⟨g, 7, none⟩ = some (.slice va x.vals.length vc) := hP.L.cell 7
  by_cases hlt : k < x.vals.length
  ·have hlt' : k < (Dw x.vals k).length := by omega
   obtain ⟨gv, rfl, hcell, hfr⟩ := hP.val8 hln.symm hlt'
   have y7 := hcell 7 (by omega)
   simp only [VS.cells, List.getElem?_cons_succ, List.getElem?_cons_zero] at y7
   have f7 := hfr (k * 8 + 7)
   have HP1 : Hid (PE S W0 (wr.setCell ⟨gv, k * 8 + 7, none⟩ (.bool false)) g { x with vals := Dw x.vals (k + 1) } bv (.slice (some ⟨gv, 0, none⟩) x.vals.length vc) ev) :=
    hP.setVal hln.symm (k * 8 + 7) (.bool false) (FM (Dw x.vals k) k hlt' (fun _ => false)) (by simp only [DF])
   clear hP hcell hfr hln
   generalize (Dw x.vals k)[k] = xx at *
   go_wp2
   refine And.intro ?_ ?_
   ·first | exact ⟨k + 1, by omega, by go_num, HP1.out⟩ | ((repeat apply Exists.intro); exact ⟨⟨k + 1, by omega, by go_num, HP1.out⟩, rfl⟩)
   ·simp [intOf]; omega
  ·have ek : k = x.vals.length := by omega
   have HP0 : Hid (PE S W0 wr g { x with vals := Dw x.vals x.vals.length } bv (.slice va x.vals.length vc) ev) := by rw [ek] at hP; exact hP
   have Hl : Hid ((Dw x.vals x.vals.length).length = x.vals.length) := by rw [ek] at hln; exact hln
   clear hP hln c7' c7 ek
   go_wp2
   obtain ⟨wo, rfl⟩ : ∃ wo : World, wo = wr := ⟨_, rfl⟩
   go_loopw [3] (fun n wr => ∃ q : Nat, (q : Int) <= x.top ∧ n = .int .i64 q ∧ ∃ l, l.length = x.vals.length ∧ BY (x.top.toNat - q) l = Bc x.vals x.top ∧ PE S W0 wr g { x with vals := l } bv (.slice va x.vals.length vc) ev) (fun n _ => x.top.toNat - (intOf n).toNat)
   case atStart => exact ⟨0, by omega, rfl, _, Hl.out, rfl, HP0.out⟩
   case round =>
    clear HP0 Hl
    obtain ⟨q, hq, rfl, l, hln, hch, hP⟩ := hrel
    have c0 : wr.cell? ⟨g, 0, none⟩ = some (.int .i64 x.top) := hP.L.cell 0
    have c7 : wr.cell? ⟨g, 7, none⟩ = some (.slice va x.vals.length vc) := hP.L.cell 7
    by_cases hqt : (q : Int) < x.top
    ·have HB : Hid (Calls Tryz.prog 147 #[.pointer (some ⟨g, 0, none⟩)] wr fun e w' => e = .returned (.int .i64 (Bs l l.length).1) ∧ Below wr.heap.size wr w') := Sf g l _ wr c7 (Rd.of_owns hP.v) (by omega)
     have HP1 := Hd hP
     have HC : Hid (Bc x.vals x.top = if (Bs l l.length).1 < 0 then l else BY (x.top.toNat - (q + 1)) (l.modify (Bs l l.length).1.toNat (fun v => { v with inset := true }))) := by
      rw [<- hch, show x.top.toNat - q = (x.top.toNat - (q + 1)) + 1 by omega]; rfl
     have hr := Hf l l.length
     clear hP hch
     generalize (Bs l l.length).1 = r at *
     go_wp2_with fail
     refine HB.out.mono ?_
     rintro e w2 ⟨rfl, hb2⟩
     have hP2 := HP1.out.below hb2
     clear HB hb2 c0 c7 HP1
     rcases hr with rfl | ⟨hr0, hr1⟩
     ·have HF : Hid (PE S W0 w2 g { x with vals := Bc x.vals x.top } bv (.slice va x.vals.length vc) ev) := by rw [HC.out, if_pos (by decide)]; exact hP2
      clear hP2 hln HC
      go_wp2
      (try simp only [Exit.inBlock, Exit.then])
      refine bodyPost_ret (results_none rfl _ _ _) rfl ?_
      exact ⟨rfl, HF.out⟩
     ·obtain ⟨r2, rfl⟩ := Int.eq_ofNat_of_zero_le hr0
      have hr2 : r2 < l.length := by omega
      have hr3 : r2 < x.vals.length := by omega
      have c7 : w2.cell? ⟨g, 7, none⟩ = some (.slice va x.vals.length vc) := hP2.L.cell 7
      obtain ⟨gv, rfl, hcell, hfr⟩ := hP2.val8 hln.symm hr2
      have y7 := hcell 7 (by omega)
      simp only [VS.cells, List.getElem?_cons_succ, List.getElem?_cons_zero] at y7
      have f7 := hfr (r2 * 8 + 7)
      have HP3 : Hid (PE S W0 (w2.setCell ⟨gv, r2 * 8 + 7, none⟩ (.bool true)) g { x with vals := l.modify r2 (fun v => { v with inset := true }) } bv (.slice (some ⟨gv, 0, none⟩) x.vals.length vc) ev) :=
       hP2.setVal hln.symm (r2 * 8 + 7) (.bool true) (FM l r2 hr2 (fun _ => true)) (by simp)
      have HC2 : Hid (BY (x.top.toNat - (q + 1)) (l.modify r2 (fun v => { v with inset := true })) = Bc x.vals x.top) := by rw [HC.out, if_neg (by omega)]; rfl
      have hL2 : (l.modify r2 (fun v => { v with inset := true })).length = x.vals.length := by simpa using hln
      have HL2 := Hd hL2
      clear hL2
      clear hP2 hcell hfr hln HC
      generalize l[r2] = xx at *
      clear hr2 hr1
      go_wp2
      refine And.intro ?_ ?_
      ·first | exact ⟨q + 1, by omega, by go_num, _, HL2.out, HC2.out, HP3.out⟩ | ((repeat apply Exists.intro); exact ⟨⟨q + 1, by omega, by go_num, _, HL2.out, HC2.out, HP3.out⟩, rfl⟩)
      ·simp [intOf]; omega
    ·have HF : Hid (PE S W0 wr g { x with vals := Bc x.vals x.top } bv (.slice va x.vals.length vc) ev) := by
      rw [show x.top.toNat - q = 0 by omega] at hch
      rw [<- hch]; exact hP
     clear hP hch hln c7
     go_wp2
     go_end0
     exact ⟨rfl, HF.out⟩
theorem Gs (g : Nat) (vals : List VS) (vv : Value) (w : World) (c7 : w.cell? ⟨g, 7, none⟩ = some vv) (hv : Rd w vv vals.length 8 (A5 vals)) (hB : VB vals) (l2 : vals.length <= 1000) :
  Calls Tryz.prog 89 #[.pointer (some ⟨g, 0, none⟩)] w fun e w' => e = .returned (.int .i64 (Ad vals)) ∧ Below w.heap.size w w' := by
 obtain ⟨va, vc, rfl⟩ := hv.form
 go_enter Tryz.func89, Tryz.ntmps89
 go_wp2
 go_loopw [3, 11] (fun n i wr => ∃ k : Nat, k <= vals.length ∧ i = .int .i64 k ∧ n = .int .i64 (Ad (vals.take k)) ∧ Below w.heap.size w wr) (fun _ i _ => vals.length - (intOf i).toNat)
 case atStart => exact ⟨0, Nat.zero_le _, rfl, rfl, Below.refl _ _⟩
 case round =>
  obtain ⟨k, hk, rfl, rfl, hbw⟩ := hrel
  obtain ⟨q1, q2⟩ := D4 hB k hk
  have hv' := hv.below hbw (Nat.le_refl _)
  by_cases hlt : k < vals.length
  ·obtain ⟨gv, rfl, hc⟩ := hv'.get (by omega)
   have y0 := hc _ _ (An vals k hlt 0 (by omega))
   have y1 := hc _ _ (An vals k hlt 1 (by omega))
   have y2 := hc _ _ (An vals k hlt 2 (by omega))
   have y3 := hc _ _ (An vals k hlt 3 (by omega))
   have y4 := hc _ _ (An vals k hlt 4 (by omega))
   have y5 := hc _ _ (An vals k hlt 5 (by omega))
   have y6 := hc _ _ (An vals k hlt 6 (by omega))
   have y7 := hc _ _ (An vals k hlt 7 (by omega))
   rw [Nat.add_zero] at y0
   have hbd := hB k hlt
   have HS : Hid (Ad (vals.take (k + 1)) = if vals[k].inset = true then Ad (vals.take k) + vals[k].tokens else Ad (vals.take k)) := CC vals k hlt
   have HB : Hid (∀ o, Below w.heap.size w (wr.alloc o)) := fun o => hbw.alloc hbw.size o
   generalize vals[k] = x at *
   clear hc hv hv' hB hbw
   go_wp2
   all_goals
    refine And.intro ?_ ?_
    ·first | exact ⟨k + 1, by omega, by go_num, by rw [HS.out]; simp_all, HB.out _⟩ | ((repeat apply Exists.intro); exact ⟨⟨k + 1, by omega, by go_num, by rw [HS.out]; simp_all, HB.out _⟩, rfl⟩)
    ·simp [intOf]; omega
  ·go_wp2
   go_ret
   refine ⟨As ?_, hbw⟩
   rw [List.take_of_length_le (by omega)]
theorem Rt (g : Nat) (vals : List VS) (vv : Value) (w : World) (c7 : w.cell? ⟨g, 7, none⟩ = some vv) (ev : Value) (ents : List ES) (c73 : w.cell? ⟨g, 73, none⟩ = some ev) (he : Rd w ev ents.length 4 (Bi ents)) (hBe : EB ents) (l3 : ents.length <= 1000) (hv : Rd w vv vals.length 8 (A5 vals)) (hB : VB vals) (l2 : vals.length <= 1000) :
  Calls Tryz.prog 90 #[.pointer (some ⟨g, 0, none⟩)] w fun e w' => e = .returned (.int .i64 (AI vals + B2 ents)) ∧ Below w.heap.size w w' := by
 obtain ⟨va, vc, rfl⟩ := hv.form
 obtain ⟨ea, ec, rfl⟩ := he.form
 go_enter Tryz.func90, Tryz.ntmps90
 go_wp2
 go_loopw [3, 13] (fun n i wr => ∃ k : Nat, k <= vals.length ∧ i = .int .i64 k ∧ n = .int .i64 (AI (vals.take k)) ∧ Below w.heap.size w wr) (fun _ i _ => vals.length - (intOf i).toNat)
 case atStart => exact ⟨0, Nat.zero_le _, rfl, rfl, Below.refl _ _⟩
 case round =>
  obtain ⟨k, hk, rfl, rfl, hbw⟩ := hrel
  obtain ⟨q1, q2⟩ := Jy hB k hk
  have hv' := hv.below hbw (Nat.le_refl _)
  by_cases hlt : k < vals.length
  ·obtain ⟨gv, rfl, hc⟩ := hv'.get (by omega)
   have y0 := hc _ _ (An vals k hlt 0 (by omega))
   have y1 := hc _ _ (An vals k hlt 1 (by omega))
   have y2 := hc _ _ (An vals k hlt 2 (by omega))
   have y3 := hc _ _ (An vals k hlt 3 (by omega))
   have y4 := hc _ _ (An vals k hlt 4 (by omega))
   have y5 := hc _ _ (An vals k hlt 5 (by omega))
   have y6 := hc _ _ (An vals k hlt 6 (by omega))
   have y7 := hc _ _ (An vals k hlt 7 (by omega))
   rw [Nat.add_zero] at y0
   have hbd := hB k hlt
   have HS : Hid (AI (vals.take (k + 1)) = if vals[k].inset = true then AI (vals.take k) else AI (vals.take k) + vals[k].tokens) := Fg vals k hlt
   have HB : Hid (∀ o, Below w.heap.size w (wr.alloc o)) := fun o => hbw.alloc hbw.size o
   generalize vals[k] = x at *
   clear hc hv hv' hB hbw
   go_wp2
   all_goals
    refine And.intro ?_ ?_
    ·first | exact ⟨k + 1, by omega, by go_num, by rw [HS.out]; simp_all, HB.out _⟩ | ((repeat apply Exists.intro); exact ⟨⟨k + 1, by omega, by go_num, by rw [HS.out]; simp_all, HB.out _⟩, rfl⟩)
    ·simp [intOf]; omega
  ·have HV : Hid (AI (vals.take k) = AI vals) := by rw [List.take_of_length_le (by omega)]; exact rfl
   generalize AI (vals.take k) = sv at *
   have c73' : wr.cell? ⟨g, 73, none⟩ = some (.slice ea ents.length ec) := by
    rw [hbw.cell (p := ⟨g, 73, none⟩) (World.block_lt_of_cell? w _ c73)]; exact c73
   have HB := Hd hbw
   clear hv hv' hB hbw c73
   go_wp2
   obtain ⟨wo, rfl⟩ : ∃ wo : World, wo = wr := ⟨_, rfl⟩
   go_loopw [3, 30] (fun n i wr => ∃ k2 : Nat, k2 <= ents.length ∧ i = .int .i64 k2 ∧ n = .int .i64 (sv + B2 (ents.take k2)) ∧ Below w.heap.size w wr) (fun _ i _ => ents.length - (intOf i).toNat)
   case atStart => exact ⟨0, Nat.zero_le _, rfl, by simp [B2], HB.out⟩
   case round =>
    obtain ⟨k2, hk2, rfl, rfl, hbw⟩ := hrel
    obtain ⟨r1, r2⟩ := MM hBe k2 hk2
    have he' := he.below hbw (Nat.le_refl _)
    by_cases hlt2 : k2 < ents.length
    ·obtain ⟨gv, rfl, hc⟩ := he'.get (by omega)
     have y0 := hc _ _ (AC ents k2 hlt2 0 (by omega))
     have y1 := hc _ _ (AC ents k2 hlt2 1 (by omega))
     have y2 := hc _ _ (AC ents k2 hlt2 2 (by omega))
     have y3 := hc _ _ (AC ents k2 hlt2 3 (by omega))
     rw [Nat.add_zero] at y0
     have hbd := hBe k2 hlt2
     have HS : Hid (B2 (ents.take (k2 + 1)) = B2 (ents.take k2) + ents[k2].amount) := GD ents k2 hlt2
     have HB2 : Hid (∀ o, Below w.heap.size w (wr.alloc o)) := fun o => hbw.alloc hbw.size o
     generalize ents[k2] = x at *
     clear hc he he' hBe hbw
     go_wp2
     refine And.intro ?_ ?_
     ·first | exact ⟨k2 + 1, by omega, by go_num, by rw [HS.out]; go_num, HB2.out _⟩ | ((repeat apply Exists.intro); exact ⟨⟨k2 + 1, by omega, by go_num, by rw [HS.out]; go_num, HB2.out _⟩, rfl⟩)
     ·simp [intOf]; omega
    ·have HE : Hid (B2 (ents.take k2) = B2 ents) := by rw [List.take_of_length_le (by omega)]; exact rfl
     have HB2 := Hd hbw
     clear hbw he' he
     go_wp2
     go_ret
     refine ⟨As ?_, HB2.out⟩
     rw [HE.out, HV.out]
theorem NG : (Tryz.prog.info? 130).map (fun i => (i.zero, i.size, i.bytes)) = some (some (.agg #[.int .i64 0, .int .i64 0, .int .i64 0]), 3, 24) := by kernel_rfl
theorem EG : (Tryz.prog.info? 125).map (fun i => (i.zero, i.size, i.bytes)) = some (some (.agg #[.int .i64 0, .int .i64 0, .int .i64 0, .int .i64 0]), 4, 32) := by kernel_rfl
theorem L8 : (Tryz.prog.info? 125).map (·.size) = some 4 := by kernel_rfl
theorem GB (v : Value) (n : Nat) (L : List Value) (w : World) (hv : Rd w v n 4 L) (hlen : n <= 1048576) (h1 : ∀ u ∈ L, u.oneCell' = true) :
  Calls Tryz.prog 93 #[v] w fun e w' => e = .returned (.slice (some ⟨w.heap.size, 0, none⟩) n n) ∧
   w' = w.alloc (.cells L.toArray 125) := by
 obtain ⟨hL, a, cap, rfl, hx0⟩ := hv
 have HL := Hd hL
 have hx := Hd hx0
 have H1 := Hd h1
 clear hx0 hL h1
 obtain ⟨i0, hi, hz0, hz1, hz2⟩ := info_parts EG
 obtain ⟨Z, hZ⟩ : ∃ Z : Array Value, Z = madeCells #[.int .i64 0, .int .i64 0, .int .i64 0, .int .i64 0] (n * 4) := ⟨_, rfl⟩
 have hmk : ∀ u : World, (Instr.makeSlice 87 (.int .i64 (n : Int)) (.int .i64 (n : Int))).run Tryz.prog u =
   .ok (.slice (some ⟨u.heap.size, 0, none⟩) n n) (u.alloc (.cells Z 125)) := fun u => by
  have h := run_make (P := Tryz.prog) u 87 125 i0 _ Tryz.underlying87 hi hz0 .i64 .i64 (n : Int) (n : Int) (by omega) (Int.le_refl _) (by rw [hz2]; omega) (by omega)
  rw [hZ]
  simpa [hz1, Value.cells] using h
 have hZs : Z.size = n * 4 := by rw [hZ, size_madeCells]
 have hcp : (Builtin.copy_ #[87, 87] 3 #[.slice (some ⟨w.heap.size, 0, none⟩) n n, .slice a n cap]).run Tryz.prog (w.alloc (.cells Z 125)) =
   .ok (.int .i64 n) (w.alloc (.cells L.toArray 125)) := by
  have h := DX (P := Tryz.prog) (w.alloc (.cells Z 125)) 87 87 3 125 4 w.heap.size n n a n cap
   Z.toList 125 L Tryz.underlying87 L8 (by rw [Array.toArray_toList]; exact heap_alloc_new w _) (by rw [HL.out]; simp) ?_ (by rw [HL.out]; simp [hZs]) H1.out
  ·rw [DW] at h
   have e1 : Nat.min n n = n := by simp
   rw [e1] at h
   have e2 : List.drop L.length Z.toList = [] := by apply List.drop_eq_nil_of_le; rw [HL.out]; simp [hZs]
   rw [e2, List.append_nil] at h
   exact h
  ·intro h0
   obtain ⟨g, rfl, hc⟩ := hx.out (by rw [HL.out] at h0; omega)
   refine ⟨_, rfl, fun j v hj => ?_⟩
   have h1 := hc j v hj
   rw [Dl]
   rw [(Below.refl w.heap.size w).alloc (Nat.le_refl _) _ |>.cell (World.block_lt_of_cell? w _ h1)]
   exact h1
 clear hZ hZs
 go_enter Tryz.func93, Tryz.ntmps93
 go_wp2
 go_ret
 exact ⟨rfl, rfl⟩
theorem Pf (l : List ES) : ∀ u ∈ Bi l, u.oneCell' = true := by
 induction l with
 | nil => simp [Bi]
 | cons v l ih =>
  intro u hu
  simp only [Bi, List.mem_append] at hu
  rcases hu with hu | hu
  ·simp [ES.cells] at hu
   rcases hu with rfl | rfl | rfl | rfl <;> rfl
  ·exact ih u hu
def FH (x : EC) (fees bonded : Int) (j : Nat) : Int := fees * (x.val j).tokens / bonded
def Am (x : EC) (fees bonded : Int) : Nat -> EC × Int
 | 0 => (x, fees)
 | k + 1 => if ((Am x fees bonded k).1.val k).inset = true ∧ 0 < bonded then (AH (Am x fees bonded k).1 k (FH (Am x fees bonded k).1 fees bonded k), (Am x fees bonded k).2 - FH (Am x fees bonded k).1 fees bonded k) else Am x fees bonded k
def BR (x : EC) : EC := { (Am x x.fees (Ad x.vals) x.vals.length).1 with pool := x.pool + (Am x x.fees (Ad x.vals) x.vals.length).2, fees := 0 }
theorem Ej (l : List VS) (i j : Nat) (f : VS -> VS) (h : i ≠ j) : (l.modify j f).getD i ⟨0, 0, 0, 0, 0, 0, false, false⟩ = l.getD i ⟨0, 0, 0, 0, 0, 0, false, false⟩ := by
 simp only [List.getD, List.getElem?_modify]
 have hji : ¬ j = i := fun e => h e.symm
 simp [hji]
theorem D1 (x : EC) (j : Nat) (a : Int) : (AH x j a).vals = (x.vals.modify j (fun v => { v with comm := v.comm + a * (x.val j).rate / 100 })).modify j (fun v => { v with outs := v.outs + a }) := by
 unfold AH A7; split <;> rfl
theorem GF (x : EC) (j : Nat) (a : Int) : (AH x j a).vals.length = x.vals.length := by rw [D1]; simp
theorem Gm (x : EC) (j : Nat) (a : Int) (i : Nat) (h : i ≠ j) : (AH x j a).val i = x.val i := by
 unfold EC.val; rw [D1, Ej _ _ _ _ h, Ej _ _ _ _ h]
theorem Gl (x : EC) (j : Nat) (a : Int) (i : Nat) (h : i ≠ j) : (AH x j a).per i = x.per i := by
 unfold AH A7
 split
 ·rfl
 ·simp only [EC.per, List.getD]
  rw [List.getElem?_set_ne (by omega)]
theorem Dm (x : EC) (j : Nat) (a : Int) : (AH x j a).pool = x.pool ∧ (AH x j a).fees = x.fees ∧ (AH x j a).height = x.height ∧ (AH x j a).top = x.top ∧ (AH x j a).mature = x.mature ∧ (AH x j a).fee = x.fee ∧ (AH x j a).bal = x.bal ∧ (AH x j a).ents = x.ents := by
 unfold AH A7
 split <;> exact ⟨rfl, rfl, rfl, rfl, rfl, rfl, rfl, rfl⟩
structure Se (x y : EC) (k : Nat) : Prop where
 len : y.vals.length = x.vals.length
 val : ∀ i, k <= i -> y.val i = x.val i
 per : ∀ i, k <= i -> y.per i = x.per i
 pool : y.pool = x.pool
 fees : y.fees = x.fees
theorem Ct (x : EC) (fees bonded : Int) (k : Nat) : Se x (Am x fees bonded k).1 k := by
 induction k with
 | zero => exact ⟨rfl, fun _ _ => rfl, fun _ _ => rfl, rfl, rfl⟩
 | succ k ih =>
  unfold Am
  split
  ·refine ⟨(GF _ _ _).trans ih.len, fun i hi => ?_, fun i hi => ?_, (Dm _ _ _).1.trans ih.pool, (Dm _ _ _).2.1.trans ih.fees⟩
   ·rw [Gm _ _ _ _ (by omega)]; exact ih.val i (by omega)
   ·rw [Gl _ _ _ _ (by omega)]; exact ih.per i (by omega)
  ·exact ⟨ih.len, fun i hi => ih.val i (by omega), fun i hi => ih.per i (by omega), ih.pool, ih.fees⟩
theorem F5 {l : List VS} (h : VB l) (k : Nat) (hk : k < l.length) (hi : l[k].inset = true) : l[k].tokens <= Ad l := by
 have key : ∀ m, k < m -> m <= l.length -> l[k].tokens <= Ad (l.take m) := by
  intro m hm hl
  induction m with
  | zero => omega
  | succ m ih =>
   rw [CC l m (by omega)]
   by_cases e : m = k
   ·subst e
    have := (D4 h m (by omega)).1
    rw [if_pos hi]; omega
   ·have h1 := ih (by omega) (by omega)
    have h2 := h m (by omega)
    split <;> omega
 have := key l.length hk (Nat.le_refl _)
 rwa [List.take_length] at this
structure Hb (x : EC) : Prop where
 v : ∀ j, j < x.vals.length -> Dj (x.val j)
 r : ∀ j, j < x.vals.length -> 0 <= (x.val j).rate ∧ (x.val j).rate <= 100
 k : ∀ j, j < x.vals.length -> 0 <= (x.val j).comm ∧ (x.val j).comm <= 1000000000
 o : ∀ j, j < x.vals.length -> 0 <= (x.val j).outs ∧ (x.val j).outs <= 1000000000
 p : ∀ j, j < x.vals.length -> 0 <= x.per j ∧ x.per j <= 4000000000000000000
 f0 : 0 <= x.fees
 f1 : x.fees <= 1000000
 l0 : 0 <= x.pool
 l1 : x.pool <= 1000000000
theorem Hb.vb (h : Hb x) : VB x.vals := fun k hk => by
 rw [x.val_eq hk]; exact ⟨(h.v k hk).t0, (h.v k hk).t1⟩
theorem Ko {fees t b : Int} (f0 : 0 <= fees) (t0 : 0 <= t) (tb : t <= b) (b0 : 0 < b) : 0 <= fees * t / b ∧ fees * t / b <= fees := by
 refine ⟨Int.ediv_nonneg (Int.mul_nonneg f0 t0) (by omega), ?_⟩
 have h1 : fees * t <= fees * b := Int.mul_le_mul_of_nonneg_left tb f0
 have h2 := Int.ediv_le_ediv b0 h1
 rwa [Int.mul_ediv_cancel _ (by omega)] at h2
theorem EX (h : Hb x) (k : Nat) (hk : k <= x.vals.length) : -(1000000 * k) <= (Am x x.fees (Ad x.vals) k).2 ∧ (Am x x.fees (Ad x.vals) k).2 <= 1000000 := by
 induction k with
 | zero => have := h.f0; have := h.f1; simp [Am]; omega
 | succ k ih =>
  obtain ⟨i1, i2⟩ := ih (by omega)
  have f0 := h.f0
  have f1 := h.f1
  unfold Am
  split
  ·rename_i hc
   have hv := (Ct x x.fees (Ad x.vals) k).val k (Nat.le_refl _)
   rw [hv] at hc
   have hb := F5 h.vb k (by omega) (by rw [x.val_eq (by omega)]; exact hc.1)
   rw [x.val_eq (by omega)] at hb
   have := Ko h.f0 (h.v k (by omega)).t0 hb hc.2
   unfold FH
   rw [hv]
   simp only
   omega
  ·omega
theorem Lu (g : Nat) (x : EC) (bv vv ev : Value) (w : World) (h : PE S W0 w g x bv vv ev) (hv : x.vals.length <= 5) (hF : Hb x) :
  Calls Tryz.prog 107 #[.pointer (some ⟨g, 0, none⟩)] w fun e w' => e = .returned (.tuple #[]) ∧ PE S W0 w' g (BR x) bv vv ev := by
 obtain ⟨va, vc, rfl⟩ := Ac h.v
 have c5 : w.cell? ⟨g, 5, none⟩ = some (.int .i64 x.fees) := h.L.cell 5
 have c7 : w.cell? ⟨g, 7, none⟩ = some (.slice va x.vals.length vc) := h.L.cell 7
 have HB : Hid (Calls Tryz.prog 89 #[.pointer (some ⟨g, 0, none⟩)] w fun e w' => e = .returned (.int .i64 (Ad x.vals)) ∧ Below w.heap.size w w') := Gs g x.vals _ w c7 (Rd.of_owns h.v) hF.vb (by omega)
 have HP := Hd h
 clear h
 go_enter Tryz.func107, Tryz.ntmps107
 go_wp2_with fail
 refine HB.out.mono ?_
 rintro e w1 ⟨rfl, hb1⟩
 have hP1 := HP.out.below hb1
 have HP1 := Hd hP1
 have d7 : w1.cell? ⟨g, 7, none⟩ = some (.slice va x.vals.length vc) := hP1.L.cell 7
 clear hP1 hb1 HP HB c5 c7
 go_wp2
 have hB0 := D4 hF.vb x.vals.length (Nat.le_refl _)
 rw [List.take_length] at hB0
 obtain ⟨B0, B1⟩ := hB0
 have HT : Hid (∀ k (hk : k < x.vals.length), (x.vals[k]).inset = true -> (x.vals[k]).tokens <= Ad x.vals) := fun k hk hi => F5 hF.vb k hk hi
 have HF := Hd hF
 have f0 := hF.f0
 have f1 := hF.f1
 have l0 := hF.l0
 have l1 := hF.l1
 have HQ : Hid (BR x = { (Am x x.fees (Ad x.vals) x.vals.length).1 with pool := x.pool + (Am x x.fees (Ad x.vals) x.vals.length).2, fees := 0 }) := rfl
 have HL : Hid (∀ k, k <= x.vals.length -> -(1000000 * k) <= (Am x x.fees (Ad x.vals) k).2 ∧ (Am x x.fees (Ad x.vals) k).2 <= 1000000) := fun k hk => EX hF k hk
 clear hF
 generalize Ad x.vals = B at *
 go_loopw [4, 20] (fun lf i wr => ∃ k : Nat, k <= x.vals.length ∧ i = .int .i64 k ∧ lf = .int .i64 (Am x x.fees B k).2 ∧ PE S W0 wr g (Am x x.fees B k).1 bv (.slice va x.vals.length vc) ev) (fun _ i _ => x.vals.length - (intOf i).toNat)
 case atStart => exact ⟨0, Nat.zero_le _, rfl, rfl, HP1.out⟩
 case round =>
  clear HP1 d7
  obtain ⟨k, hk, rfl, rfl, hP⟩ := hrel
  have hinv := Ct x x.fees B k
  have hln := hinv.len
  obtain ⟨q0, q1⟩ := HL.out k hk
  by_cases hlt : k < x.vals.length
  ·have HS1 : Hid (((Am x x.fees B k).1.val k).inset = true ∧ 0 < B -> (Am x x.fees B (k + 1)).1 = AH (Am x x.fees B k).1 k (x.fees * ((Am x x.fees B k).1.val k).tokens / B) ∧ (Am x x.fees B (k + 1)).2 = (Am x x.fees B k).2 - x.fees * ((Am x x.fees B k).1.val k).tokens / B) := fun h => by
    simp only [Am, if_pos h, FH]; exact ⟨trivial, trivial⟩
   have HS2 : Hid (¬ (((Am x x.fees B k).1.val k).inset = true ∧ 0 < B) -> (Am x x.fees B (k + 1)).1 = (Am x x.fees B k).1 ∧ (Am x x.fees B (k + 1)).2 = (Am x x.fees B k).2) := fun h => by
    simp only [Am, if_neg h]; exact ⟨trivial, trivial⟩
   have hev := hinv.val k (Nat.le_refl _)
   have hep := hinv.per k (Nat.le_refl _)
   have hvo := HF.out.v k hlt
   have hro := HF.out.r k hlt
   have hko := HF.out.k k hlt
   have hoo := HF.out.o k hlt
   have hpo := HF.out.p k hlt
   have hto := HT.out k hlt
   rw [x.val_eq hlt] at hto
   rw [<- hev] at hvo hro hko hoo hto
   rw [<- hep] at hpo
   clear hev hep hinv HF HT HL HQ
   generalize (Am x x.fees B k).1 = y at *
   generalize (Am x x.fees B k).2 = lf at *
   have hlt' : k < y.vals.length := by omega
   obtain ⟨gv, rfl, hcell, hfr⟩ := hP.val8 hln.symm hlt'
   have c7 : wr.cell? ⟨g, 7, none⟩ = some (.slice (some ⟨gv, 0, none⟩) x.vals.length vc) := hP.L.cell 7
   have y0 := hcell 0 (by omega)
   have y1 := hcell 1 (by omega)
   have y2 := hcell 2 (by omega)
   have y3 := hcell 3 (by omega)
   have y4 := hcell 4 (by omega)
   have y5 := hcell 5 (by omega)
   have y6 := hcell 6 (by omega)
   have y7 := hcell 7 (by omega)
   rw [y.val_eq hlt'] at y0 y1 y2 y3 y4 y5 y6 y7
   simp only [VS.cells, List.getElem?_cons_succ, List.getElem?_cons_zero, Nat.add_zero] at y0 y1 y2 y3 y4 y5 y6 y7
   have HP := Hd hP
   clear hP hcell hfr
   have t0 := hvo.t0
   have t1 := hvo.t1
   obtain ⟨m0, m1⟩ := Ho f0 f1 t0 t1
   by_cases hc : (y.val k).inset = true ∧ 0 < B
   ·obtain ⟨e1, e2⟩ := HS1.out hc
    obtain ⟨p0, p1⟩ := Ko f0 t0 (hto hc.1) hc.2
    have HTk : Hid (∀ w, PE S W0 w g y bv (.slice (some ⟨gv, 0, none⟩) x.vals.length vc) ev -> Calls Tryz.prog 146 #[.pointer (some ⟨g, 0, none⟩), .int .i64 k, .int .i64 (x.fees * (y.val k).tokens / B)] w fun e w' => e = .returned (.tuple #[]) ∧ PE S W0 w' g (AH y k (x.fees * (y.val k).tokens / B)) bv (.slice (some ⟨gv, 0, none⟩) x.vals.length vc) ev) := fun w h => SK g y _ _ _ w h k _ (by omega) hlt' p0 (by omega) hvo.s0 hvo.s1 hro.1 hro.2 hko.1 hko.2 hoo.1 hoo.2 hpo.1 hpo.2
    rw [<- e1] at HTk
    have HE2 := Hd e2
    obtain ⟨hi, hB⟩ := hc
    clear e1 e2 HS1 HS2 hvo hro hko hoo hpo hto
    generalize y.val k = v at *
    obtain ⟨vo, vr, vt, vs, vcm, vou, vj, vi⟩ := v
    simp only at hi
    subst hi
    dsimp only at *
    go_wp2_with fail
    refine (HTk.out _ ((HP.out.alloc _).eta rfl rfl rfl rfl)).mono ?_
    rintro e w2 ⟨rfl, hP2⟩
    have HP2 := Hd hP2
    clear hP2 HTk HP y0 y1 y2 y3 y4 y5 y6 y7
    go_wp2
    refine And.intro ?_ ?_
    ·first | exact ⟨k + 1, by omega, by go_num, by rw [HE2.out], HP2.out⟩ | ((repeat apply Exists.intro); exact ⟨⟨k + 1, by omega, by go_num, by rw [HE2.out], HP2.out⟩, rfl⟩)
    ·simp [intOf]; omega
   ·obtain ⟨e1, e2⟩ := HS2.out hc
    have HE2 : Hid ((Am x x.fees B (k + 1)).1 = y ∧ (Am x x.fees B (k + 1)).2 = lf) := ⟨e1, e2⟩
    have hc2 : (y.val k).inset = false ∨ ((y.val k).inset = true ∧ ¬ 0 < B) := by
     cases hq : (y.val k).inset with
     | false => exact .inl rfl
     | true => exact .inr ⟨rfl, fun h => hc ⟨hq, h⟩⟩
    clear e1 e2 HS1 HS2 hvo hro hko hoo hpo hto hc
    generalize y.val k = v at *
    obtain ⟨vo, vr, vt, vs, vcm, vou, vj, vi⟩ := v
    dsimp only at *
    rcases hc2 with rfl | ⟨rfl, hB⟩
    ·go_wp2
     refine And.intro ?_ ?_
     ·first | exact ⟨k + 1, by omega, by go_num, by rw [HE2.out.2], by rw [HE2.out.1]; exact (HP.out.alloc _).eta rfl rfl rfl rfl⟩ | ((repeat apply Exists.intro); exact ⟨⟨k + 1, by omega, by go_num, by rw [HE2.out.2], by rw [HE2.out.1]; exact (HP.out.alloc _).eta rfl rfl rfl rfl⟩, rfl⟩)
     ·simp [intOf]; omega
    ·go_wp2
     refine And.intro ?_ ?_
     ·first | exact ⟨k + 1, by omega, by go_num, by rw [HE2.out.2], by rw [HE2.out.1]; exact (HP.out.alloc _).eta rfl rfl rfl rfl⟩ | ((repeat apply Exists.intro); exact ⟨⟨k + 1, by omega, by go_num, by rw [HE2.out.2], by rw [HE2.out.1]; exact (HP.out.alloc _).eta rfl rfl rfl rfl⟩, rfl⟩)
     ·simp [intOf]; omega
  ·obtain rfl : k = x.vals.length := by omega
   have hip := hinv.pool
   have hif := hinv.fees
   generalize (Am x x.fees B x.vals.length).1 = y at *
   generalize (Am x x.fees B x.vals.length).2 = lf at *
   have c5 : wr.cell? ⟨g, 5, none⟩ = some (.int .i64 y.fees) := hP.L.cell 5
   have c6 : wr.cell? ⟨g, 6, none⟩ = some (.int .i64 y.pool) := hP.L.cell 6
   rw [hip] at c6
   have k5 := hP.L.frozen 5
   have k6 := hP.L.frozen 6
   have HP2 : Hid (PE S W0 ((wr.setCell ⟨g, 6, none⟩ (.int .i64 (x.pool + lf))).setCell ⟨g, 5, none⟩ (.int .i64 0)) g (BR x) bv (.slice va x.vals.length vc) ev) := by
    rw [HQ.out]
    exact (hP.setHead (x' := { y with pool := x.pool + lf }) 6 (.int .i64 (x.pool + lf)) rfl rfl rfl rfl rfl).setHead (x' := { y with pool := x.pool + lf, fees := 0 }) 5 (.int .i64 0) rfl rfl rfl rfl rfl
   clear hP hinv HQ HL HT HF hip hif
   go_wp2
   go_end0
   exact ⟨rfl, HP2.out.eta rfl rfl rfl rfl⟩
def upF (x : EC) : EC := { BR x with height := x.height + 1 }
def DC (x : EC) : EC := { x with vals := Bc x.vals x.top }
theorem RN (g : Nat) (x x3 : EC) (bv vv ev : Value) (w : World) (h : PE S W0 w g x bv vv ev) (hv : x.vals.length <= 5) (hF : Hb x) (hh0 : 0 <= x.height) (hh1 : x.height < 1000) (ht0 : 0 <= x3.top) (ht1 : x3.top <= 1000) (hv3 : x3.vals.length <= 1000) (hhs : (BR x).height = x.height) (Ev : Value -> Prop)
  (hpay : ∀ w1, PE S W0 w1 g (upF x) bv vv ev -> Calls Tryz.prog 108 #[.pointer (some ⟨g, 0, none⟩)] w1 fun e w' => e = .returned (.tuple #[]) ∧ ∃ ev', Ev ev' ∧ PE S W0 w' g x3 bv vv ev') :
  Calls Tryz.prog 55 #[.pointer (some ⟨g, 0, none⟩)] w fun e w' => e = .returned (.int .i64 0) ∧ ∃ ev', Ev ev' ∧ PE S W0 w' g (DC x3) bv vv ev' := by
 have c3 : w.cell? ⟨g, 3, none⟩ = some (.int .i64 x.height) := h.L.cell 3
 have HSh : Hid (Calls Tryz.prog 107 #[.pointer (some ⟨g, 0, none⟩)] w fun e w' => e = .returned (.tuple #[]) ∧ PE S W0 w' g (BR x) bv vv ev) := Lu g x bv vv ev w h hv hF
 have HPay := Hd hpay
 have HH := Hd hhs
 clear h hpay hF hhs
 go_enter Tryz.func55, Tryz.ntmps55
 go_wp2_with fail
 refine HSh.out.mono ?_
 rintro e w1 ⟨rfl, hP1⟩
 have d3 : w1.cell? ⟨g, 3, none⟩ = some (.int .i64 (BR x).height) := hP1.L.cell 3
 rw [HH.out] at d3
 have k3 := hP1.L.frozen 3
 have HP2 : Hid (PE S W0 (w1.setCell ⟨g, 3, none⟩ (.int .i64 (x.height + 1))) g (upF x) bv vv ev) := hP1.setHead (x' := upF x) 3 (.int .i64 (x.height + 1)) rfl rfl rfl rfl rfl
 clear hP1 HSh HH
 go_wp2_with fail
 refine (HPay.out _ HP2.out).mono ?_
 rintro e w3 ⟨rfl, ev', hE, hP3⟩
 have HE := Hd hE
 have HP3 := Hd hP3
 clear HP2 HPay hP3 hE
 go_wp2_with fail
 refine (QN g x3 bv vv ev' _ HP3.out hv3 ht0 ht1).mono ?_
 rintro e w4 ⟨rfl, hP4⟩
 have HF := Hd hP4
 clear hP4 HP3
 go_wp2
 go_ret
 exact ⟨rfl, ev', HE.out, HF.out⟩
def Ec (bal : List Int) (k t : Nat) (a : Int) : List Int := (bal.set k (bal.getD k 0 - a)).set t ((bal.set k (bal.getD k 0 - a)).getD t 0 + a)
def Mi (x : EC) (k t : Nat) (a : Int) : EC := { Ab x k with bal := Ec (Ab x k).bal k t a }
theorem EV (g n t : Nat) (funds a : Int) (ba : Option Addr) (bc : Nat) (w : World) (c4 : w.cell? ⟨g, 4, none⟩ = some (.slice ba n bc)) (ht : t < n) (hl : n <= 1000) (h1 : 1 <= a) (h2 : a <= funds) :
  Calls Tryz.prog 106 #[.pointer (some ⟨g, 0, none⟩), .int .i64 funds, .int .i64 t, .int .i64 a] w fun e w' => e = .returned (.int .i64 0) ∧ w = w' := by
 go_enter Tryz.func106, Tryz.ntmps106
 go_wp2_with (go_at_call 96; refine (Ga g n t _ _ _ c4 ht hl).mono ?_; rintro e w' ⟨rfl, rfl⟩)
 go_ret
 exact ⟨rfl, rfl⟩
theorem Sm (g : Nat) (x : EC) (bv vv ev : Value) (w : World) (h : PE S W0 w g x bv vv ev) (k t : Nat) (a : Int) (hl : x.bal.length <= 6) (hk : k < x.bal.length) (ht : t < x.bal.length) (h1 : 1 <= a) (h2 : a + x.fee <= x.balAt k) (hx1 : x.balAt k <= 1000000000) (hf0 : 0 <= x.fee) (hs0 : 0 <= x.fees) (hs1 : x.fees <= 1000000000) (ht0 : 0 <= x.balAt t) (ht1 : x.balAt t <= 1000000000) :
  Calls Tryz.prog 53 #[.pointer (some ⟨g, 0, none⟩), .int .i64 k, .int .i64 t, .int .i64 a] w fun e w' => e = .returned (.int .i64 0) ∧ PE S W0 w' g (Mi x k t a) bv vv ev := by
 have HCh : Hid (Calls Tryz.prog 105 #[.pointer (some ⟨g, 0, none⟩), .int .i64 k] w fun e w' => e = .returned (.int .i64 0) ∧ PE S W0 w' g (Ab x k) bv vv ev) := Hw g x bv vv ev w h k (by omega) hk (by omega) hx1 hf0 hs0 hs1
 have e1 : (Ab x k).bal.length = x.bal.length := by simp [Ab]
 have e2 : (Ab x k).balAt k = x.balAt k - x.fee := by simp [Ab, EC.balAt, hk]
 have e3 : 0 <= (Ab x k).balAt t ∧ (Ab x k).balAt t <= 1000000000 := by
  by_cases e : k = t
  ·subst e; rw [e2]; omega
  ·have : (Ab x k).balAt t = x.balAt t := by
    simp only [Ab, EC.balAt, List.getD]; rw [List.getElem?_set_ne e]
   rw [this]; omega
 have HQ : Hid (Mi x k t a = { Ab x k with bal := Ec (Ab x k).bal k t a }) := rfl
 clear h
 generalize Mi x k t a = xF at *
 have e4 : a <= (Ab x k).balAt k := by omega
 have e5 : (Ab x k).balAt k <= 1000000000 := by omega
 clear h2 hx1 e2 ht0 ht1
 generalize Ab x k = y at *
 go_enter Tryz.func53, Tryz.ntmps53
 go_wp2_with fail
 refine HCh.out.mono ?_
 rintro e w1 ⟨rfl, hP⟩
 clear HCh
 obtain ⟨ba, bc, rfl⟩ := Ac hP.b
 obtain ⟨gb, rfl, _⟩ := Ag hP.b (by omega)
 have hky : k < y.bal.length := by omega
 have hty : t < y.bal.length := by omega
 have hly : y.bal.length <= 6 := by omega
 have c4 : w1.cell? ⟨g, 4, none⟩ = some (.slice (some ⟨gb, 0, none⟩) y.bal.length bc) := hP.L.cell 4
 have cb := hP.balAt' hky
 have ct := hP.balAt' hty
 have fb := hP.b.frozenAt k
 have ft := hP.b.frozenAt t
 have n1 : g ≠ gb := fun e => Has.apart hP.L hP.b (by decide) (by rw [e]; rfl)
 have n2 : gb ≠ g := fun e => n1 e.symm
 have hP1 := hP.setBal rfl k (y.balAt k - a)
 have hP2 := hP1.setBal (by simp) t ((y.bal.set k (y.balAt k - a)).getD t 0 + a)
 have HF : Hid (PE S W0 ((w1.setCell ⟨gb, k, none⟩ (.int .i64 (y.balAt k - a))).setCell ⟨gb, t, none⟩ (.int .i64 ((y.bal.set k (y.balAt k - a)).getD t 0 + a))) g xF (.slice (some ⟨gb, 0, none⟩) y.bal.length bc) vv ev) := by
  rw [HQ.out]; exact hP2
 clear hP hP1 hP2 HQ e1
 by_cases hkt : k = t
 ·subst hkt
  have e6 : (y.bal.set k (y.balAt k - a)).getD k 0 = y.balAt k - a := by simp [hky]
  rw [e6, Int.sub_add_cancel] at HF
  clear e6 ct ft e3
  generalize y.balAt k = b at *
  go_wp2_with (go_at_call 106; refine (EV g y.bal.length k _ _ _ _ _ c4 hky (by omega) h1 (by assumption)).mono ?_; rintro e w' ⟨rfl, rfl⟩)
  all_goals try go_region
  all_goals try go_wp2
  all_goals try go_region
  all_goals try go_wp2
  go_ret
  exact ⟨rfl, HF.out.eta rfl rfl rfl rfl⟩
 ·have e6 : (y.bal.set k (y.balAt k - a)).getD t 0 = y.balAt t := by
   simp only [List.getD, EC.balAt]; rw [List.getElem?_set_ne hkt]
  rw [e6] at HF
  obtain ⟨e7, e8⟩ := e3
  have hkt2 : t ≠ k := fun e => hkt e.symm
  clear e6
  generalize y.balAt k = b at *
  generalize y.balAt t = b2 at *
  go_wp2_with (go_at_call 106; refine (EV g y.bal.length t _ _ _ _ _ c4 hty (by omega) h1 (by assumption)).mono ?_; rintro e w' ⟨rfl, rfl⟩)
  all_goals try go_region
  all_goals try go_wp2
  all_goals try go_region
  all_goals try go_wp2
  go_ret
  exact ⟨rfl, HF.out.eta rfl rfl rfl rfl⟩
end Go.Proofs.YtohjjgefklhmaaaGreatDoor
