import Derived.Test.YtohjjgefklhmaaaGreatDoorEShareM
namespace Go.Proofs.YtohjjgefklhmaaaGreatDoor
open Go.ChangeShapes Go.WideShapes Go.ChangeAt Go.RowKit
set_option linter.unusedVariables false

def shareOutF (x : EC) (j : Nat) (a : Int) : EC := if (x.val j).shares < 1 then x else { x with tab := x.tab.set (30 + j) (x.per j + a * 1073741824 / (x.val j).shares) }
def takeF (x : EC) (j : Nat) (a : Int) : EC := shareOutF { x with vals := (x.vals.modify j (fun v => { v with comm := v.comm + a * (x.val j).rate / 100 })).modify j (fun v => { v with outs := v.outs + a }) } j (a - a * (x.val j).rate / 100)

section
variable {S : Nat → Prop} {W0 : World} (g : Nat) (x : EC) (bv vv ev : Value) (w : World) (h : PE S W0 w g x bv vv ev)
include h
set_option maxHeartbeats 2000000 in
set_option maxRecDepth 100000 in
theorem eshareOut (j : Nat) (a : Int) (hv : x.vals.length ≤ 5) (hj : j < x.vals.length) (a0 : 0 ≤ a) (a1 : a ≤ 1000000) (s0 : 0 ≤ (x.val j).shares) (s1 : (x.val j).shares ≤ 1000000) (p0 : 0 ≤ x.per j) (p1 : x.per j ≤ 4000000000000000000) :
    Calls Tryz.prog 156 #[.pointer (some ⟨g, 0, none⟩), .int .i64 j, .int .i64 a] w fun e w' => e = .returned (.tuple #[]) ∧ PE S W0 w' g (shareOutF x j a) bv vv ev := by
  obtain ⟨va, vc, rfl⟩ := ownsRow_slice h.v
  obtain ⟨gv, rfl, hcell, hfr⟩ := h.val8 rfl hj
  have c7 : w.cell? ⟨g, 7, none⟩ = some (.slice (some ⟨gv, 0, none⟩) x.vals.length vc) := h.L.cell 7
  have y3 := hcell 3 (by omega)
  rw [x.val_eq hj] at y3
  simp only [VS.cells, List.getElem?_cons_succ, List.getElem?_cons_zero] at y3
  have cp := h.perAt (j := j) (by omega)
  have fp := h.L.frozen (38 + j)
  by_cases hs : (x.val j).shares < 1
  · have HF : Hid (PE S W0 w g (shareOutF x j a) bv (.slice (some ⟨gv, 0, none⟩) x.vals.length vc) ev) := by
      unfold shareOutF; rw [if_pos hs]; exact h
    clear h hcell hfr
    generalize (x.val j).shares = s at *
    go_enter Tryz.func156, Tryz.ntmps156
    go_wp2
    refine bodyPost_ret (results_none rfl _ _ _) rfl ?_
    exact ⟨rfl, HF.out⟩
  · have hP := h.setTab (30 + j) (x.per j + a * 1073741824 / (x.val j).shares) (by omega)
    rw [← Nat.add_assoc] at hP
    have HF : Hid (PE S W0 (w.setCell ⟨g, 38 + j, none⟩ (.int .i64 (x.per j + a * 1073741824 / (x.val j).shares))) g (shareOutF x j a) bv (.slice (some ⟨gv, 0, none⟩) x.vals.length vc) ev) := by
      unfold shareOutF; rw [if_neg hs]; exact hP
    have q0 : 0 ≤ a * 1073741824 / (x.val j).shares := Int.ediv_nonneg (by omega) s0
    have q1 : a * 1073741824 / (x.val j).shares ≤ 1073741824000000 := by
      have : a * 1073741824 / (x.val j).shares ≤ a * 1073741824 := Int.ediv_le_self _ (by omega)
      omega
    clear h hP hcell hfr
    generalize (x.val j).shares = s at *
    generalize x.per j = p at *
    have hs2 : 0 < s := by omega
    go_enter Tryz.func156, Tryz.ntmps156
    go_wp2
    go_region
    go_wp2
    go_end0
    exact ⟨rfl, HF.out.eta rfl rfl rfl rfl⟩
end
end Go.Proofs.YtohjjgefklhmaaaGreatDoor

namespace Go.Proofs.YtohjjgefklhmaaaGreatDoor
open Go.ChangeShapes Go.WideShapes Go.ChangeAt Go.RowKit
set_option linter.unusedVariables false

theorem mod_val (x : EC) (l : List VS) (j : Nat) (hj : j < l.length) (f : VS → VS) (hx : x.vals = l.modify j f) : x.val j = f l[j] := by
  simp [EC.val, hx, List.getD, hj]

section
variable {S : Nat → Prop} {W0 : World} (g : Nat) (x : EC) (bv vv ev : Value) (w : World) (h : PE S W0 w g x bv vv ev)
include h
set_option maxHeartbeats 2000000 in
set_option maxRecDepth 100000 in
theorem etake (j : Nat) (a : Int) (hv : x.vals.length ≤ 5) (hj : j < x.vals.length) (a0 : 0 ≤ a) (a1 : a ≤ 1000000) (s0 : 0 ≤ (x.val j).shares) (s1 : (x.val j).shares ≤ 1000000) (r0 : 0 ≤ (x.val j).rate) (r1 : (x.val j).rate ≤ 100) (k0 : 0 ≤ (x.val j).comm) (k1 : (x.val j).comm ≤ 1000000000) (o0 : 0 ≤ (x.val j).outs) (o1 : (x.val j).outs ≤ 1000000000) (p0 : 0 ≤ x.per j) (p1 : x.per j ≤ 4000000000000000000) :
    Calls Tryz.prog 146 #[.pointer (some ⟨g, 0, none⟩), .int .i64 j, .int .i64 a] w fun e w' => e = .returned (.tuple #[]) ∧ PE S W0 w' g (takeF x j a) bv vv ev := by
  obtain ⟨va, vc, rfl⟩ := ownsRow_slice h.v
  obtain ⟨gv, rfl, hcell, hfr⟩ := h.val8 rfl hj
  have c7 : w.cell? ⟨g, 7, none⟩ = some (.slice (some ⟨gv, 0, none⟩) x.vals.length vc) := h.L.cell 7
  have y1 := hcell 1 (by omega)
  have y4 := hcell 4 (by omega)
  have y5 := hcell 5 (by omega)
  have f4 := hfr (j * 8 + 4)
  have f5 := hfr (j * 8 + 5)
  rw [x.val_eq hj] at y1 y4 y5
  simp only [VS.cells, List.getElem?_cons_succ, List.getElem?_cons_zero] at y1 y4 y5
  have hgne : g ≠ gv := fun e => Has.apart h.L h.v (by decide) (by rw [e]; rfl)
  have hgne' : gv ≠ g := fun e => hgne e.symm
  have m0 : 0 ≤ a * (x.val j).rate := Int.mul_nonneg a0 r0
  have m1 : a * (x.val j).rate ≤ a * 100 := Int.mul_le_mul_of_nonneg_left r1 a0
  have m2 : a * (x.val j).rate ≤ 100000000 := by omega
  have hP1 := h.setVal rfl (j * 8 + 4) (.int .i64 ((x.val j).comm + a * (x.val j).rate / 100)) (vals' := x.vals.modify j (fun v => { v with comm := v.comm + a * (x.val j).rate / 100 })) (vrow_mod x.vals j hj 4 _ _ (by rw [x.val_eq hj]; rfl) (by omega)) (by simp)
  have hj2 : j < (x.vals.modify j (fun v => { v with comm := v.comm + a * (x.val j).rate / 100 })).length := by simpa using hj
  have hP2 := hP1.setVal (by simp) (j * 8 + 5) (.int .i64 ((x.val j).outs + a)) (vals' := (x.vals.modify j (fun v => { v with comm := v.comm + a * (x.val j).rate / 100 })).modify j (fun v => { v with outs := v.outs + a })) (vrow_mod _ j hj2 5 _ _ (by simp [x.val_eq hj, VS.cells]) (by omega)) (by simp)
  have HP2 : Hid (PE S W0 ((w.setCell ⟨gv, j * 8 + 4, none⟩ (.int .i64 ((x.val j).comm + a * (x.val j).rate / 100))).setCell ⟨gv, j * 8 + 5, none⟩ (.int .i64 ((x.val j).outs + a))) g { x with vals := (x.vals.modify j (fun v => { v with comm := v.comm + a * (x.val j).rate / 100 })).modify j (fun v => { v with outs := v.outs + a }) } bv (.slice (some ⟨gv, 0, none⟩) x.vals.length vc) ev) := hP2
  have ev1 : ({ x with vals := (x.vals.modify j (fun v => { v with comm := v.comm + a * (x.val j).rate / 100 })).modify j (fun v => { v with outs := v.outs + a }) } : EC).val j = { x.val j with comm := (x.val j).comm + a * (x.val j).rate / 100, outs := (x.val j).outs + a } := by
    rw [mod_val _ _ j hj2 _ rfl]
    simp [x.val_eq hj]
  have HS : Hid (∀ w, PE S W0 w g { x with vals := (x.vals.modify j (fun v => { v with comm := v.comm + a * (x.val j).rate / 100 })).modify j (fun v => { v with outs := v.outs + a }) } bv (.slice (some ⟨gv, 0, none⟩) x.vals.length vc) ev → Calls Tryz.prog 156 #[.pointer (some ⟨g, 0, none⟩), .int .i64 j, .int .i64 (a - a * (x.val j).rate / 100)] w fun e w' => e = .returned (.tuple #[]) ∧ PE S W0 w' g (takeF x j a) bv (.slice (some ⟨gv, 0, none⟩) x.vals.length vc) ev) := fun w h => eshareOut g _ _ _ _ w h j _ (by simp; omega) (by simpa using hj) (by omega) (by omega) (by rw [ev1]; exact s0) (by rw [ev1]; exact s1) p0 p1
  clear h hP1 hP2 hcell hfr hj2 ev1
  have e100 : Hid (a * (x.val j).rate / 100 = a * (x.val j).rate / 100) := rfl
  generalize takeF x j a = xF at *
  generalize { x with vals := (x.vals.modify j (fun v => { v with comm := v.comm + a * (x.val j).rate / 100 })).modify j (fun v => { v with outs := v.outs + a }) } = x2 at *
  generalize (x.val j).rate = r at *
  generalize (x.val j).comm = cc at *
  generalize (x.val j).outs = oo at *
  go_enter Tryz.func146, Tryz.ntmps146
  go_wp2_with fail
  all_goals
    try go_region
    try go_wp2_with fail
  refine (HS.out _ (HP2.out.eta rfl rfl rfl rfl)).mono ?_
  rintro e w2 ⟨rfl, hP⟩
  have HF : Hid (PE S W0 w2 g xF bv (.slice (some ⟨gv, 0, none⟩) x.vals.length vc) ev) := hP
  clear hP HP2 HS
  go_wp2
  go_end0
  exact ⟨rfl, HF.out⟩
end
end Go.Proofs.YtohjjgefklhmaaaGreatDoor

namespace Go.Proofs.YtohjjgefklhmaaaGreatDoor
open Go.ChangeShapes Go.WideShapes Go.ChangeAt Go.RowKit
set_option linter.unusedVariables false

def v0 : VS := ⟨0, 0, 0, 0, 0, 0, false, false⟩
/-- the best of those that are not in the set -/
def bestL (l : List VS) : Nat → Int × Int
  | 0 => (-1, 0)
  | k + 1 => if (l.getD k v0).inset = false ∧ (l.getD k v0).jailed = false ∧ (bestL l k).2 < (l.getD k v0).tokens then ((k : Int), (l.getD k v0).tokens) else bestL l k
theorem bestL_range (l : List VS) (k : Nat) : (bestL l k).1 = -1 ∨ (0 ≤ (bestL l k).1 ∧ (bestL l k).1 < k) := by
  induction k with
  | zero => exact .inl rfl
  | succ k ih =>
    unfold bestL
    split
    · right; simp only; omega
    · rcases ih with h | h
      · exact .inl h
      · right; omega
theorem bestL_pos (l : List VS) (k : Nat) : 0 ≤ (bestL l k).2 := by
  induction k with
  | zero => exact Int.le_refl _
  | succ k ih =>
    unfold bestL
    split
    · rename_i h; simp only; omega
    · exact ih
def offL (l : List VS) : Nat → List VS
  | 0 => l
  | k + 1 => (offL l k).modify k (fun v => { v with inset := false })
theorem offL_len (l : List VS) (k : Nat) : (offL l k).length = l.length := by
  induction k with
  | zero => rfl
  | succ k ih => simp [offL, ih]
def chooseL : Nat → List VS → List VS
  | 0, l => l
  | n + 1, l => if (bestL l l.length).1 < 0 then l else chooseL n (l.modify (bestL l l.length).1.toNat (fun v => { v with inset := true }))
def chooseF (l : List VS) (top : Int) : List VS := chooseL top.toNat (offL l l.length)

set_option maxHeartbeats 2000000 in
set_option maxRecDepth 100000 in
theorem ebest (g : Nat) (vals : List VS) (vv : Value) (w : World) (c7 : w.cell? ⟨g, 7, none⟩ = some vv) (hv : Rd w vv vals.length 8 (vrow vals)) (l2 : vals.length ≤ 1000) :
    Calls Tryz.prog 147 #[.pointer (some ⟨g, 0, none⟩)] w fun e w' => e = .returned (.int .i64 (bestL vals vals.length).1) ∧ Below w.heap.size w w' := by
  obtain ⟨va, vc, rfl⟩ := hv.form
  go_enter Tryz.func147, Tryz.ntmps147
  go_wp2
  go_loopw [3, 4, 12] (fun b m i wr => ∃ k : Nat, k ≤ vals.length ∧ i = .int .i64 k ∧ b = .int .i64 (bestL vals k).1 ∧ m = .int .i64 (bestL vals k).2 ∧ Below w.heap.size w wr) (fun _ _ i _ => vals.length - (intOf i).toNat)
  case atStart => exact ⟨0, Nat.zero_le _, rfl, rfl, rfl, Below.refl _ _⟩
  case round =>
    obtain ⟨k, hk, rfl, rfl, rfl, hbw⟩ := hrel
    have hv' := hv.below hbw (Nat.le_refl _)
    by_cases hlt : k < vals.length
    · obtain ⟨gv, rfl, hc⟩ := hv'.get (by omega)
      have y0 := hc _ _ (vrow_at vals k hlt 0 (by omega))
      have y1 := hc _ _ (vrow_at vals k hlt 1 (by omega))
      have y2 := hc _ _ (vrow_at vals k hlt 2 (by omega))
      have y3 := hc _ _ (vrow_at vals k hlt 3 (by omega))
      have y4 := hc _ _ (vrow_at vals k hlt 4 (by omega))
      have y5 := hc _ _ (vrow_at vals k hlt 5 (by omega))
      have y6 := hc _ _ (vrow_at vals k hlt 6 (by omega))
      have y7 := hc _ _ (vrow_at vals k hlt 7 (by omega))
      rw [Nat.add_zero] at y0
      have HB : Hid (∀ o, Below w.heap.size w (wr.alloc o)) := fun o => hbw.alloc hbw.size o
      have hS : bestL vals (k + 1) = if vals[k].inset = false ∧ vals[k].jailed = false ∧ (bestL vals k).2 < vals[k].tokens then ((k : Int), vals[k].tokens) else bestL vals k := by
        have e : vals.getD k v0 = vals[k] := by simp [hlt]
        rw [← e]; rfl
      have HS : Hid (bestL vals (k + 1) = if vals[k].inset = false ∧ vals[k].jailed = false ∧ (bestL vals k).2 < vals[k].tokens then ((k : Int), vals[k].tokens) else bestL vals k) := hS
      clear hS
      generalize vals[k] = x at *
      obtain ⟨xo, xr, xt, xs, xc, xou, xj, xi⟩ := x
      dsimp only at y0 y1 y2 y3 y4 y5 y6 y7
      clear hc hv hv' hbw
      by_cases hm : (bestL vals k).2 < xt
      · cases xi <;> cases xj <;> go_wp2
        all_goals
          refine And.intro ?_ ?_
          · first
              | exact ⟨k + 1, by omega, by go_num, by rw [HS.out]; simp [hm], by rw [HS.out]; simp [hm], HB.out _⟩
              | ((repeat apply Exists.intro); exact ⟨⟨k + 1, by omega, by go_num, by rw [HS.out]; simp [hm], by rw [HS.out]; simp [hm], HB.out _⟩, rfl⟩)
          · simp [intOf]; omega
      · cases xi <;> cases xj <;> go_wp2
        all_goals
          refine And.intro ?_ ?_
          · first
              | exact ⟨k + 1, by omega, by go_num, by rw [HS.out]; simp [hm], by rw [HS.out]; simp [hm], HB.out _⟩
              | ((repeat apply Exists.intro); exact ⟨⟨k + 1, by omega, by go_num, by rw [HS.out]; simp [hm], by rw [HS.out]; simp [hm], HB.out _⟩, rfl⟩)
          · simp [intOf]; omega
    · have e : k = vals.length := by omega
      have HE : Hid (k = vals.length) := e
      clear e
      go_wp2
      go_ret
      refine ⟨ret_int ?_, hbw⟩
      rw [HE.out]
end Go.Proofs.YtohjjgefklhmaaaGreatDoor

namespace Go.Proofs.YtohjjgefklhmaaaGreatDoor
open Go.ChangeShapes Go.WideShapes Go.ChangeAt Go.RowKit
set_option linter.unusedVariables false

set_option maxHeartbeats 2000000 in
set_option maxRecDepth 100000 in
theorem echoose {S : Nat → Prop} {W0 : World} (g : Nat) (x : EC) (bv vv ev : Value) (w : World) (h : PE S W0 w g x bv vv ev) (l2 : x.vals.length ≤ 1000) (ht0 : 0 ≤ x.top) (ht1 : x.top ≤ 1000) :
    Calls Tryz.prog 109 #[.pointer (some ⟨g, 0, none⟩)] w fun e w' => e = .returned (.tuple #[]) ∧ PE S W0 w' g { x with vals := chooseF x.vals x.top } bv vv ev := by
  obtain ⟨va, vc, rfl⟩ := ownsRow_slice h.v
  have c7 : w.cell? ⟨g, 7, none⟩ = some (.slice va x.vals.length vc) := h.L.cell 7
  have HC : Hid (PE S W0 w g x bv (.slice va x.vals.length vc) ev) := h
  clear h
  go_enter Tryz.func109, Tryz.ntmps109
  go_wp2
  go_loopw [10] (fun i wr => ∃ k : Nat, k ≤ x.vals.length ∧ i = .int .i64 k ∧ PE S W0 wr g { x with vals := offL x.vals k } bv (.slice va x.vals.length vc) ev) (fun i _ => x.vals.length - (intOf i).toNat)
  case atStart => exact ⟨0, Nat.zero_le _, rfl, HC.out⟩
  case round =>
    clear HC
    obtain ⟨k, hk, rfl, hP⟩ := hrel
    have hln := offL_len x.vals k
    have c7' : wr.cell? ⟨g, 7, none⟩ = some (.slice va x.vals.length vc) := hP.L.cell 7
    by_cases hlt : k < x.vals.length
    · have hlt' : k < (offL x.vals k).length := by omega
      obtain ⟨gv, rfl, hcell, hfr⟩ := hP.val8 hln.symm hlt'
      have y7 := hcell 7 (by omega)
      simp only [VS.cells, List.getElem?_cons_succ, List.getElem?_cons_zero] at y7
      have f7 := hfr (k * 8 + 7)
      have HP1 : Hid (PE S W0 (wr.setCell ⟨gv, k * 8 + 7, none⟩ (.bool false)) g { x with vals := offL x.vals (k + 1) } bv (.slice (some ⟨gv, 0, none⟩) x.vals.length vc) ev) :=
        hP.setVal hln.symm (k * 8 + 7) (.bool false) (vrow_inset (offL x.vals k) k hlt' (fun _ => false)) (by simp only [offL_len])
      clear hP hcell hfr hln
      generalize (offL x.vals k)[k] = xx at *
      go_wp2
      refine And.intro ?_ ?_
      · first | exact ⟨k + 1, by omega, by go_num, HP1.out⟩ | ((repeat apply Exists.intro); exact ⟨⟨k + 1, by omega, by go_num, HP1.out⟩, rfl⟩)
      · simp [intOf]; omega
    · have ek : k = x.vals.length := by omega
      have HP0 : Hid (PE S W0 wr g { x with vals := offL x.vals x.vals.length } bv (.slice va x.vals.length vc) ev) := by rw [ek] at hP; exact hP
      have Hl : Hid ((offL x.vals x.vals.length).length = x.vals.length) := by rw [ek] at hln; exact hln
      clear hP hln c7' c7 ek
      go_wp2
      obtain ⟨wo, rfl⟩ : ∃ wo : World, wo = wr := ⟨_, rfl⟩
      go_loopw [3] (fun n wr => ∃ q : Nat, (q : Int) ≤ x.top ∧ n = .int .i64 q ∧ ∃ l, l.length = x.vals.length ∧ chooseL (x.top.toNat - q) l = chooseF x.vals x.top ∧ PE S W0 wr g { x with vals := l } bv (.slice va x.vals.length vc) ev) (fun n _ => x.top.toNat - (intOf n).toNat)
      case atStart => exact ⟨0, by omega, rfl, _, Hl.out, rfl, HP0.out⟩
      case round =>
        clear HP0 Hl
        obtain ⟨q, hq, rfl, l, hln, hch, hP⟩ := hrel
        have c0 : wr.cell? ⟨g, 0, none⟩ = some (.int .i64 x.top) := hP.L.cell 0
        have c7 : wr.cell? ⟨g, 7, none⟩ = some (.slice va x.vals.length vc) := hP.L.cell 7
        by_cases hqt : (q : Int) < x.top
        · have HB : Hid (Calls Tryz.prog 147 #[.pointer (some ⟨g, 0, none⟩)] wr fun e w' => e = .returned (.int .i64 (bestL l l.length).1) ∧ Below wr.heap.size wr w') := ebest g l _ wr c7 (Rd.of_owns hP.v) (by omega)
          have HP1 : Hid (PE S W0 wr g { x with vals := l } bv (.slice va x.vals.length vc) ev) := hP
          have HC : Hid (chooseF x.vals x.top = if (bestL l l.length).1 < 0 then l else chooseL (x.top.toNat - (q + 1)) (l.modify (bestL l l.length).1.toNat (fun v => { v with inset := true }))) := by
            rw [← hch, show x.top.toNat - q = (x.top.toNat - (q + 1)) + 1 by omega]; rfl
          have hr := bestL_range l l.length
          clear hP hch
          generalize (bestL l l.length).1 = r at *
          go_wp2_with fail
          refine HB.out.mono ?_
          rintro e w2 ⟨rfl, hb2⟩
          have hP2 := HP1.out.below hb2
          clear HB hb2 c0 c7 HP1
          rcases hr with rfl | ⟨hr0, hr1⟩
          · have HF : Hid (PE S W0 w2 g { x with vals := chooseF x.vals x.top } bv (.slice va x.vals.length vc) ev) := by rw [HC.out, if_pos (by decide)]; exact hP2
            clear hP2 hln HC
            go_wp2
            (try simp only [Exit.inBlock, Exit.then])
            refine bodyPost_ret (results_none rfl _ _ _) rfl ?_
            exact ⟨rfl, HF.out⟩
          · obtain ⟨r2, rfl⟩ := Int.eq_ofNat_of_zero_le hr0
            have hr2 : r2 < l.length := by omega
            have hr3 : r2 < x.vals.length := by omega
            have c7 : w2.cell? ⟨g, 7, none⟩ = some (.slice va x.vals.length vc) := hP2.L.cell 7
            obtain ⟨gv, rfl, hcell, hfr⟩ := hP2.val8 hln.symm hr2
            have y7 := hcell 7 (by omega)
            simp only [VS.cells, List.getElem?_cons_succ, List.getElem?_cons_zero] at y7
            have f7 := hfr (r2 * 8 + 7)
            have HP3 : Hid (PE S W0 (w2.setCell ⟨gv, r2 * 8 + 7, none⟩ (.bool true)) g { x with vals := l.modify r2 (fun v => { v with inset := true }) } bv (.slice (some ⟨gv, 0, none⟩) x.vals.length vc) ev) :=
              hP2.setVal hln.symm (r2 * 8 + 7) (.bool true) (vrow_inset l r2 hr2 (fun _ => true)) (by simp)
            have HC2 : Hid (chooseL (x.top.toNat - (q + 1)) (l.modify r2 (fun v => { v with inset := true })) = chooseF x.vals x.top) := by rw [HC.out, if_neg (by omega)]; rfl
            have hL2 : (l.modify r2 (fun v => { v with inset := true })).length = x.vals.length := by simpa using hln
            have HL2 : Hid ((l.modify r2 (fun v => { v with inset := true })).length = x.vals.length) := hL2
            clear hL2
            clear hP2 hcell hfr hln HC
            generalize l[r2] = xx at *
            clear hr2 hr1
            go_wp2
            refine And.intro ?_ ?_
            · first | exact ⟨q + 1, by omega, by go_num, _, HL2.out, HC2.out, HP3.out⟩ | ((repeat apply Exists.intro); exact ⟨⟨q + 1, by omega, by go_num, _, HL2.out, HC2.out, HP3.out⟩, rfl⟩)
            · simp [intOf]; omega
        · have HF : Hid (PE S W0 wr g { x with vals := chooseF x.vals x.top } bv (.slice va x.vals.length vc) ev) := by
            rw [show x.top.toNat - q = 0 by omega] at hch
            rw [← hch]; exact hP
          clear hP hch hln c7
          go_wp2
          go_end0
          exact ⟨rfl, HF.out⟩
end Go.Proofs.YtohjjgefklhmaaaGreatDoor
