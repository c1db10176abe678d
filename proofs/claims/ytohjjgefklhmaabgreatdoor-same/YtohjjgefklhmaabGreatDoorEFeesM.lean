import Derived.Test.YtohjjgefklhmaabGreatDoorEBondM
namespace Go.Proofs.YtohjjgefklhmaabGreatDoor
open Go.ChangeShapes Go.WideShapes Go.ChangeAt Go.RowKit
set_option linter.unusedVariables false

def shareOutF (x : EC) (j : Nat) (a : Int) : EC := if (x.val j).shares < 1 then x else { x with tab := x.tab.set (30 + j) (x.per j + a * 1073741824 / (x.val j).shares) }
def takeF (x : EC) (j : Nat) (a : Int) : EC := shareOutF { x with vals := (x.vals.modify j (fun v => { v with comm := v.comm + a * (x.val j).rate / 100 })).modify j (fun v => { v with outs := v.outs + a }) } j (a - a * (x.val j).rate / 100)

section
variable {S : Nat → Prop} {W0 : World} (g : Nat) (x : EC) (bv vv ev : Value) (w : World) (h : PE S W0 w g x bv vv ev)
include h
set_option maxHeartbeats 2000000 in
set_option maxRecDepth 100000 in
theorem eshareOut (j : Nat) (a : Int) (hv : x.vals.length ≤ 5) (hj : j < x.vals.length) (a0 : 0 ≤ a) (a1 : a ≤ 1000000) (s0 : 0 ≤ (x.val j).shares) (s1 : (x.val j).shares ≤ 1000000) (p0 : 0 ≤ x.per j) (p1 : x.per j ≤ 4000000000000000000) :
    Calls Tryz.prog 97 #[.pointer (some ⟨g, 0, none⟩), .int .i64 j, .int .i64 a] w fun e w' => e = .returned (.tuple #[]) ∧ PE S W0 w' g (shareOutF x j a) bv vv ev := by
  obtain ⟨va, vc, rfl⟩ := ownsRow_slice h.v
  obtain ⟨gv, rfl, hcell, hfr⟩ := h.val8 rfl hj
  have c7 : w.cell? ⟨g, 7, none⟩ = some (.slice (some ⟨gv, 0, none⟩) x.vals.length vc) := h.L.cell 7
  have y3 := hcell 3 (by omega)
  rw [x.val_eq hj] at y3
  simp only [VS.cells, List.getElem?_cons_succ, List.getElem?_cons_zero] at y3
  have cp := h.perAt (j := j) (by omega)
  have fp := h.L.frozen (38 + j)
  by_cases hs : (x.val j).shares < 1
  · have HF : Hid (PE S W0 w g (shareOutF x j a) bv (.slice (some ⟨gv, 0, none⟩) x.vals.length vc) ev) := by
      unfold shareOutF; rw [if_pos hs]; exact h
    clear h hcell hfr
    generalize (x.val j).shares = s at *
    go_enter Tryz.func97, Tryz.ntmps97
    go_wp2
    refine bodyPost_ret (results_none rfl _ _ _) rfl ?_
    exact ⟨rfl, HF.out⟩
  · have hP := h.setTab (30 + j) (x.per j + a * 1073741824 / (x.val j).shares) (by omega)
    rw [← Nat.add_assoc] at hP
    have HF : Hid (PE S W0 (w.setCell ⟨g, 38 + j, none⟩ (.int .i64 (x.per j + a * 1073741824 / (x.val j).shares))) g (shareOutF x j a) bv (.slice (some ⟨gv, 0, none⟩) x.vals.length vc) ev) := by
      unfold shareOutF; rw [if_neg hs]; exact hP
    have q0 : 0 ≤ a * 1073741824 / (x.val j).shares := Int.ediv_nonneg (by omega) s0
    have q1 : a * 1073741824 / (x.val j).shares ≤ 1073741824000000 := by
      have : a * 1073741824 / (x.val j).shares ≤ a * 1073741824 := Int.ediv_le_self _ (by omega)
      omega
    clear h hP hcell hfr
    generalize (x.val j).shares = s at *
    generalize x.per j = p at *
    have hs2 : 0 < s := by omega
    go_enter Tryz.func97, Tryz.ntmps97
    go_wp2
    go_region
    go_wp2
    go_end0
    exact ⟨rfl, HF.out.eta rfl rfl rfl rfl⟩
end
end Go.Proofs.YtohjjgefklhmaabGreatDoor

namespace Go.Proofs.YtohjjgefklhmaabGreatDoor
open Go.ChangeShapes Go.WideShapes Go.ChangeAt Go.RowKit
set_option linter.unusedVariables false

theorem mod_val (x : EC) (l : List VS) (j : Nat) (hj : j < l.length) (f : VS → VS) (hx : x.vals = l.modify j f) : x.val j = f l[j] := by
  simp [EC.val, hx, List.getD, hj]

section
variable {S : Nat → Prop} {W0 : World} (g : Nat) (x : EC) (bv vv ev : Value) (w : World) (h : PE S W0 w g x bv vv ev)
include h
set_option maxHeartbeats 2000000 in
set_option maxRecDepth 100000 in
theorem etake (j : Nat) (a : Int) (hv : x.vals.length ≤ 5) (hj : j < x.vals.length) (a0 : 0 ≤ a) (a1 : a ≤ 1000000) (s0 : 0 ≤ (x.val j).shares) (s1 : (x.val j).shares ≤ 1000000) (r0 : 0 ≤ (x.val j).rate) (r1 : (x.val j).rate ≤ 100) (k0 : 0 ≤ (x.val j).comm) (k1 : (x.val j).comm ≤ 1000000000) (o0 : 0 ≤ (x.val j).outs) (o1 : (x.val j).outs ≤ 1000000000) (p0 : 0 ≤ x.per j) (p1 : x.per j ≤ 4000000000000000000) :
    Calls Tryz.prog 87 #[.pointer (some ⟨g, 0, none⟩), .int .i64 j, .int .i64 a] w fun e w' => e = .returned (.tuple #[]) ∧ PE S W0 w' g (takeF x j a) bv vv ev := by
  obtain ⟨va, vc, rfl⟩ := ownsRow_slice h.v
  obtain ⟨gv, rfl, hcell, hfr⟩ := h.val8 rfl hj
  have c7 : w.cell? ⟨g, 7, none⟩ = some (.slice (some ⟨gv, 0, none⟩) x.vals.length vc) := h.L.cell 7
  have y1 := hcell 1 (by omega)
  have y4 := hcell 4 (by omega)
  have y5 := hcell 5 (by omega)
  have f4 := hfr (j * 8 + 4)
  have f5 := hfr (j * 8 + 5)
  rw [x.val_eq hj] at y1 y4 y5
  simp only [VS.cells, List.getElem?_cons_succ, List.getElem?_cons_zero] at y1 y4 y5
  have hgne : g ≠ gv := fun e => Has.apart h.L h.v (by decide) (by rw [e]; rfl)
  have hgne' : gv ≠ g := fun e => hgne e.symm
  have m0 : 0 ≤ a * (x.val j).rate := Int.mul_nonneg a0 r0
  have m1 : a * (x.val j).rate ≤ a * 100 := Int.mul_le_mul_of_nonneg_left r1 a0
  have m2 : a * (x.val j).rate ≤ 100000000 := by omega
  have hP1 := h.setVal rfl (j * 8 + 4) (.int .i64 ((x.val j).comm + a * (x.val j).rate / 100)) (vals' := x.vals.modify j (fun v => { v with comm := v.comm + a * (x.val j).rate / 100 })) (vrow_mod x.vals j hj 4 _ _ (by rw [x.val_eq hj]; rfl) (by omega)) (by simp)
  have hj2 : j < (x.vals.modify j (fun v => { v with comm := v.comm + a * (x.val j).rate / 100 })).length := by simpa using hj
  have hP2 := hP1.setVal (by simp) (j * 8 + 5) (.int .i64 ((x.val j).outs + a)) (vals' := (x.vals.modify j (fun v => { v with comm := v.comm + a * (x.val j).rate / 100 })).modify j (fun v => { v with outs := v.outs + a })) (vrow_mod _ j hj2 5 _ _ (by simp [x.val_eq hj, VS.cells]) (by omega)) (by simp)
  have HP2 : Hid (PE S W0 ((w.setCell ⟨gv, j * 8 + 4, none⟩ (.int .i64 ((x.val j).comm + a * (x.val j).rate / 100))).setCell ⟨gv, j * 8 + 5, none⟩ (.int .i64 ((x.val j).outs + a))) g { x with vals := (x.vals.modify j (fun v => { v with comm := v.comm + a * (x.val j).rate / 100 })).modify j (fun v => { v with outs := v.outs + a }) } bv (.slice (some ⟨gv, 0, none⟩) x.vals.length vc) ev) := hP2
  have ev1 : ({ x with vals := (x.vals.modify j (fun v => { v with comm := v.comm + a * (x.val j).rate / 100 })).modify j (fun v => { v with outs := v.outs + a }) } : EC).val j = { x.val j with comm := (x.val j).comm + a * (x.val j).rate / 100, outs := (x.val j).outs + a } := by
    rw [mod_val _ _ j hj2 _ rfl]
    simp [x.val_eq hj]
  have HS : Hid (∀ w, PE S W0 w g { x with vals := (x.vals.modify j (fun v => { v with comm := v.comm + a * (x.val j).rate / 100 })).modify j (fun v => { v with outs := v.outs + a }) } bv (.slice (some ⟨gv, 0, none⟩) x.vals.length vc) ev → Calls Tryz.prog 97 #[.pointer (some ⟨g, 0, none⟩), .int .i64 j, .int .i64 (a - a * (x.val j).rate / 100)] w fun e w' => e = .returned (.tuple #[]) ∧ PE S W0 w' g (takeF x j a) bv (.slice (some ⟨gv, 0, none⟩) x.vals.length vc) ev) := fun w h => eshareOut g _ _ _ _ w h j _ (by simp; omega) (by simpa using hj) (by omega) (by omega) (by rw [ev1]; exact s0) (by rw [ev1]; exact s1) p0 p1
  clear h hP1 hP2 hcell hfr hj2 ev1
  have e100 : Hid (a * (x.val j).rate / 100 = a * (x.val j).rate / 100) := rfl
  generalize takeF x j a = xF at *
  generalize { x with vals := (x.vals.modify j (fun v => { v with comm := v.comm + a * (x.val j).rate / 100 })).modify j (fun v => { v with outs := v.outs + a }) } = x2 at *
  generalize (x.val j).rate = r at *
  generalize (x.val j).comm = cc at *
  generalize (x.val j).outs = oo at *
  go_enter Tryz.func87, Tryz.ntmps87
  go_wp2_with fail
  all_goals
    try go_region
    try go_wp2_with fail
  refine (HS.out _ (HP2.out.eta rfl rfl rfl rfl)).mono ?_
  rintro e w2 ⟨rfl, hP⟩
  have HF : Hid (PE S W0 w2 g xF bv (.slice (some ⟨gv, 0, none⟩) x.vals.length vc) ev) := hP
  clear hP HP2 HS
  go_wp2
  go_end0
  exact ⟨rfl, HF.out⟩
end
end Go.Proofs.YtohjjgefklhmaabGreatDoor
