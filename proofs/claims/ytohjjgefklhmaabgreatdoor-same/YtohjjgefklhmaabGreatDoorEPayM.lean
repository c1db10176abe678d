import Derived.Test.YtohjjgefklhmaabGreatDoorKBaseM
namespace Go.Proofs.YtohjjgefklhmaabGreatDoor
open Go.ChangeShapes Go.WideShapes Go.ChangeAt Go.RowKit
set_option linter.unusedVariables false

set_option maxHeartbeats 1000000 in
set_option maxRecDepth 100000 in
theorem kacc_any (g n k : Nat) (ba : Option Addr) (bc : Nat) (w : World) (c4 : w.cell? ⟨g, 4, none⟩ = some (.slice ba n bc)) (hk : k < n) (hl : n ≤ 1000) :
    Calls Tryz.prog 54 #[.pointer (some ⟨g, 0, none⟩), .int .i64 k] w fun e w' => e = .returned (.bool true) ∧ w = w' := by
  have h1 : (k : Int) < (n : Int) := by omega
  go_enter Tryz.func54, Tryz.ntmps54
  go_wp2
  go_ret
  exact ⟨rfl, rfl⟩
set_option maxHeartbeats 1000000 in
set_option maxRecDepth 100000 in
theorem kval_any (g n k : Nat) (ba : Option Addr) (bc : Nat) (w : World) (c7 : w.cell? ⟨g, 7, none⟩ = some (.slice ba n bc)) (hk : k < n) (hl : n ≤ 1000) :
    Calls Tryz.prog 84 #[.pointer (some ⟨g, 0, none⟩), .int .i64 k] w fun e w' => e = .returned (.bool true) ∧ w = w' := by
  have h1 : (k : Int) < (n : Int) := by omega
  go_enter Tryz.func84, Tryz.ntmps84
  go_wp2
  go_ret
  exact ⟨rfl, rfl⟩

/-- how the calls turn the numbers -/
def EC.due (x : EC) (k j : Nat) : Int := x.sh k j * (x.per j - x.upto k j) / 1073741824
def chargeF (x : EC) (k : Nat) : EC := { x with bal := x.bal.set k (x.balAt k - x.fee), fees := x.fees + x.fee }
def payF (x : EC) (k j : Nat) : EC := { x with vals := x.vals.modify j (fun v => { v with outs := v.outs - x.due k j }), bal := x.bal.set k (x.balAt k + x.due k j), tab := x.tab.set (35 + (k * 5 + j)) (x.per j) }
theorem vrow_mod (l : List VS) (k : Nat) (hk : k < l.length) (i : Nat) (u : Value) (f : VS → VS) (hx : l[k].cells.set i u = (f l[k]).cells) (hi : i < 8) : (vrow l).set (k * 8 + i) u = vrow (l.modify k f) := by
  rw [vrow_set l k hk i u (f l[k]) hx hi]
  congr 1
  apply List.ext_getElem?
  intro m
  rw [List.getElem?_modify]
  by_cases e : k = m
  · subst e; simp [hk]
  · simp [e]
/-- what is needed lest a due wraps -/
structure DueOk (x : EC) (k j : Nat) : Prop where
  u0 : -1073741824000000 ≤ x.upto k j
  up : x.upto k j ≤ x.per j
  p1 : x.per j ≤ 4611686018427387904
  d0 : 0 ≤ x.sh k j * (x.per j - x.upto k j)
  d1 : x.sh k j * (x.per j - x.upto k j) ≤ 4611686018427387904
theorem DueOk.due0 {x : EC} {k j : Nat} (h : DueOk x k j) : 0 ≤ x.due k j := Int.ediv_nonneg h.d0 (by decide)

section
variable {S : Nat → Prop} {W0 : World} (g : Nat) (x : EC) (bv vv ev : Value) (w : World) (h : PE S W0 w g x bv vv ev)
include h

set_option maxHeartbeats 2000000 in
set_option maxRecDepth 100000 in
theorem echarge (k : Nat) (hl : x.bal.length ≤ 1000) (hk : k < x.bal.length) (hx0 : x.fee ≤ x.balAt k) (hx1 : x.balAt k ≤ 1000000000) (hf0 : 0 ≤ x.fee) (hs0 : 0 ≤ x.fees) (hs1 : x.fees ≤ 1000000000) :
    Calls Tryz.prog 47 #[.pointer (some ⟨g, 0, none⟩), .int .i64 k] w fun e w' => e = .returned (.int .i64 0) ∧ PE S W0 w' g (chargeF x k) bv vv ev := by
  obtain ⟨ba, bc, rfl⟩ := ownsRow_slice h.b
  obtain ⟨gb, rfl, _⟩ := ownsRow_some h.b (by omega)
  have c4 : w.cell? ⟨g, 4, none⟩ = some (.slice (some ⟨gb, 0, none⟩) x.bal.length bc) := h.L.cell 4
  have c2 : w.cell? ⟨g, 2, none⟩ = some (.int .i64 x.fee) := h.L.cell 2
  have c5 : w.cell? ⟨g, 5, none⟩ = some (.int .i64 x.fees) := h.L.cell 5
  have f5 := h.L.frozen 5
  have hgne : g ≠ gb := fun e => Has.apart h.L h.b (by decide) (by rw [e]; rfl)
  have hgne' : gb ≠ g := fun e => hgne e.symm
  have cb := h.balAt' hk
  have fb := h.b.frozenAt k
  have HF : Hid (PE S W0 ((w.setCell ⟨gb, k, none⟩ (.int .i64 (x.balAt k - x.fee))).setCell ⟨g, 5, none⟩ (.int .i64 (x.fees + x.fee))) g (chargeF x k) (.slice (some ⟨gb, 0, none⟩) x.bal.length bc) vv ev) :=
    (h.setBal rfl k (x.balAt k - x.fee)).setHead (x' := chargeF x k) 5 (.int .i64 (x.fees + x.fee)) rfl rfl rfl rfl rfl
  clear h
  generalize x.balAt k = y at *
  go_enter Tryz.func47, Tryz.ntmps47
  go_wp2_with (go_at_call 54; refine (kacc_any g x.bal.length k _ _ _ c4 hk hl).mono ?_; rintro e w' ⟨rfl, rfl⟩)
  go_quiet (fail)
  go_wp2
  go_region
  go_wp2
  go_region
  go_wp2
  go_ret
  exact ⟨rfl, HF.out.eta rfl rfl rfl rfl⟩

set_option maxHeartbeats 2000000 in
set_option maxRecDepth 100000 in
theorem epending (k j : Nat) (hk : k < 6) (hj : j < 5) (u0 : -1073741824000000 ≤ x.upto k j) (up : x.upto k j ≤ x.per j) (p1 : x.per j ≤ 4611686018427387904) :
    Calls Tryz.prog 74 #[.pointer (some ⟨g, 0, none⟩), .int .i64 k, .int .i64 j] w fun e w' => e = .returned (.int .i64 (x.per j - x.upto k j)) ∧ w' = w.drew := by
  have c2 := h.perAt hj
  have c3 := h.uptoAt hk hj
  clear h
  generalize x.per j = p at *
  generalize x.upto k j = u at *
  go_enter Tryz.func74, Tryz.ntmps74
  go_wp2
  go_region
  go_wp2
  go_ret
  exact ⟨rfl, rfl⟩

set_option maxHeartbeats 2000000 in
set_option maxRecDepth 100000 in
theorem edue (k j : Nat) (hk : k < 6) (hj : j < 5) (hd : DueOk x k j) :
    Calls Tryz.prog 56 #[.pointer (some ⟨g, 0, none⟩), .int .i64 k, .int .i64 j] w fun e w' => e = .returned (.int .i64 (x.due k j)) ∧ w' = w.drew := by
  have c1 := h.shAt hk hj
  have c2 := h.perAt hj
  have c3 := h.uptoAt hk hj
  obtain ⟨u0, up, p1, d0, d1⟩ := hd
  have HP : Hid (Calls Tryz.prog 74 #[.pointer (some ⟨g, 0, none⟩), .int .i64 k, .int .i64 j] w fun e w' => e = .returned (.int .i64 (x.per j - x.upto k j)) ∧ w' = w.drew) := epending g x _ _ _ w h k j hk hj u0 up p1
  have HD : Hid (x.due k j = x.sh k j * (x.per j - x.upto k j) / 1073741824) := rfl
  clear h
  generalize x.due k j = dd at *
  generalize x.sh k j = s at *
  generalize x.per j = p at *
  generalize x.upto k j = u at *
  go_enter Tryz.func56, Tryz.ntmps56
  go_wp2_with (go_at_call 74; refine HP.out.mono ?_; rintro e w' ⟨rfl, rfl⟩)
  go_wp2
  go_ret
  refine ⟨ret_int ?_, rfl⟩
  exact HD.out.symm
end
end Go.Proofs.YtohjjgefklhmaabGreatDoor

namespace Go.Proofs.YtohjjgefklhmaabGreatDoor
open Go.ChangeShapes Go.WideShapes Go.ChangeAt Go.RowKit
set_option linter.unusedVariables false

section
variable {S : Nat → Prop} {W0 : World} (g : Nat) (x : EC) (bv vv ev : Value) (w : World) (h : PE S W0 w g x bv vv ev)
include h

set_option maxHeartbeats 2000000 in
set_option maxRecDepth 100000 in
theorem epay (k j : Nat) (hl : x.bal.length ≤ 6) (hk : k < x.bal.length) (hv : x.vals.length ≤ 5) (hj : j < x.vals.length) (hd : DueOk x k j) (o0 : 0 ≤ x.vals[j].outs) (o1 : x.vals[j].outs ≤ 1000000000) (b0 : 0 ≤ x.balAt k) (b1 : x.balAt k ≤ 1000000000) :
    Calls Tryz.prog 64 #[.pointer (some ⟨g, 0, none⟩), .int .i64 k, .int .i64 j] w fun e w' => e = .returned (.tuple #[]) ∧ PE S W0 w' g (payF x k j) bv vv ev := by
  obtain ⟨ba, bc, rfl⟩ := ownsRow_slice h.b
  obtain ⟨gb, rfl, _⟩ := ownsRow_some h.b (by omega)
  obtain ⟨va, vc, rfl⟩ := ownsRow_slice h.v
  obtain ⟨gv, rfl, hcell, hfr⟩ := h.val8 rfl hj
  have c4 : w.cell? ⟨g, 4, none⟩ = some (.slice (some ⟨gb, 0, none⟩) x.bal.length bc) := h.L.cell 4
  have c7 : w.cell? ⟨g, 7, none⟩ = some (.slice (some ⟨gv, 0, none⟩) x.vals.length vc) := h.L.cell 7
  have cb := h.balAt' hk
  have fb := h.b.frozenAt k
  have y5 : w.cell? ⟨gv, j * 8 + 5, none⟩ = some (.int .i64 x.vals[j].outs) := hcell 5 (by omega)
  have fv := hfr (j * 8 + 5)
  have cp := h.perAt (j := j) (by omega)
  have cu := h.uptoAt (k := k) (j := j) (by omega) (by omega)
  have fu := h.L.frozen (43 + k * 5 + j)
  have n1 : g ≠ gb := fun e => Has.apart h.L h.b (by decide) (by rw [e]; rfl)
  have n2 : gb ≠ g := fun e => n1 e.symm
  have n3 : g ≠ gv := fun e => Has.apart h.L h.v (by decide) (by rw [e]; rfl)
  have n4 : gv ≠ g := fun e => n3 e.symm
  have n5 : gb ≠ gv := fun e => row_ne h.b h.v (by decide) (by rw [← e]; rfl)
  have n6 : gv ≠ gb := fun e => n5 e.symm
  have d0 := hd.due0
  have d1 : x.due k j ≤ 4294967296 := by
    have := hd.d1
    unfold EC.due; omega
  have HD : Hid (Calls Tryz.prog 56 #[.pointer (some ⟨g, 0, none⟩), .int .i64 k, .int .i64 j] w fun e w' => e = .returned (.int .i64 (x.due k j)) ∧ w' = w.drew) := edue g x _ _ _ w h k j (by omega) (by omega) hd
  have hP1 := h.setVal (vals' := x.vals.modify j (fun v => { v with outs := v.outs - x.due k j })) rfl (j * 8 + 5) (.int .i64 (x.vals[j].outs - x.due k j)) (vrow_mod x.vals j hj 5 _ _ rfl (by omega)) (by simp)
  have hP2 := hP1.setBal rfl k (x.balAt k + x.due k j)
  have hP3 := hP2.setTab (35 + (k * 5 + j)) (x.per j) (by omega)
  rw [← Nat.add_assoc, ← Nat.add_assoc] at hP3
  have HF : Hid (PE S W0 (((w.setCell ⟨gv, j * 8 + 5, none⟩ (.int .i64 (x.vals[j].outs - x.due k j))).setCell ⟨gb, k, none⟩ (.int .i64 (x.balAt k + x.due k j))).setCell ⟨g, 43 + k * 5 + j, none⟩ (.int .i64 (x.per j))) g (payF x k j) (.slice (some ⟨gb, 0, none⟩) x.bal.length bc) (.slice (some ⟨gv, 0, none⟩) x.vals.length vc) ev) := hP3
  clear h hP1 hP2 hP3 hcell hfr hd
  generalize x.due k j = d at *
  generalize x.balAt k = y at *
  generalize x.vals[j].outs = o at *
  generalize x.per j = p at *
  generalize x.upto k j = u at *
  go_enter Tryz.func64, Tryz.ntmps64
  go_wp2_with fail
  refine HD.out.mono ?_
  rintro e w' ⟨rfl, rfl⟩
  clear HD
  go_wp2
  go_region
  go_wp2
  go_end0
  exact ⟨rfl, HF.out.eta rfl rfl rfl rfl⟩
end
end Go.Proofs.YtohjjgefklhmaabGreatDoor
