import Derived.Test.YtohjjgefklhmaabGreatDoorGErr3M
import Derived.Deep.RegionWith
import Derived.Deep.DeepCutAuto
namespace Go.Proofs.YtohjjgefklhmaabGreatDoor
open Go.ChangeShapes Go.WideShapes Go.ChangeAt Go.RowKit
set_option linter.unusedVariables false

def clearF (x : EC) (j : Nat) : EC := { x with pool := x.pool + ((x.val j).outs - (x.val j).comm), vals := x.vals.modify j (fun v => { v with outs := v.comm }) }
/-- the shares are gone, and their tokens -/
def goneF (x : EC) (k j : Nat) (n t : Int) : EC :=
  { x with
    vals := (x.vals.modify j (fun v => { v with tokens := v.tokens - t })).modify j (fun v => { v with shares := v.shares - n }),
    tab := x.tab.set (k * 5 + j) (x.sh k j - n) }
def leaveF (x : EC) (k j : Nat) (n : Int) : EC :=
  if (x.val j).shares - n = 0 then clearF (goneF (payF x k j) k j n (tokensForF (x.val j) n)) j else goneF (payF x k j) k j n (tokensForF (x.val j) n)

set_option maxHeartbeats 2000000 in
set_option maxRecDepth 100000 in
theorem gclear {S : Nat → Prop} {W0 : World} (g : Nat) (x : EC) (bv vv ev : Value) (w : World) (h : PE S W0 w g x bv vv ev) (j : Nat) (hv : x.vals.length ≤ 5) (hj : j < x.vals.length) (p0 : -1000000000 ≤ x.pool) (p1 : x.pool ≤ 1000000000) (k0 : -1000000000 ≤ (x.val j).comm) (k1 : (x.val j).comm ≤ 1000000000) (o0 : -1000000000 ≤ (x.val j).outs) (o1 : (x.val j).outs ≤ 1000000000) :
    Calls Tryz.prog 91 #[.pointer (some ⟨g, 0, none⟩), .int .i64 j] w fun e w' => e = .returned (.tuple #[]) ∧ PE S W0 w' g (clearF x j) bv vv ev := by
  obtain ⟨va, vc, rfl⟩ := ownsRow_slice h.v
  obtain ⟨gv, rfl, hcell, hfr⟩ := h.val8 rfl hj
  have c6 : w.cell? ⟨g, 6, none⟩ = some (.int .i64 x.pool) := h.L.cell 6
  have f6 := h.L.frozen 6
  have c7 : w.cell? ⟨g, 7, none⟩ = some (.slice (some ⟨gv, 0, none⟩) x.vals.length vc) := h.L.cell 7
  have y4 := hcell 4 (by omega)
  have y5 := hcell 5 (by omega)
  have f5 := hfr (j * 8 + 5)
  rw [x.val_eq hj] at y4 y5
  simp only [VS.cells, List.getElem?_cons_succ, List.getElem?_cons_zero] at y4 y5
  have n3 : g ≠ gv := fun e => Has.apart h.L h.v (by decide) (by rw [e]; rfl)
  have n4 : gv ≠ g := fun e => n3 e.symm
  have hP1 := h.setHead (x' := { x with pool := x.pool + ((x.val j).outs - (x.val j).comm) }) 6 (.int .i64 (x.pool + ((x.val j).outs - (x.val j).comm))) rfl rfl rfl rfl rfl
  have hP2 := hP1.setVal rfl (j * 8 + 5) (.int .i64 (x.val j).comm) (vals' := x.vals.modify j (fun v => { v with outs := v.comm })) (vrow_mod x.vals j hj 5 _ _ (by rw [x.val_eq hj]; rfl) (by omega)) (by simp)
  have HF : Hid (PE S W0 ((w.setCell ⟨g, 6, none⟩ (.int .i64 (x.pool + ((x.val j).outs - (x.val j).comm)))).setCell ⟨gv, j * 8 + 5, none⟩ (.int .i64 (x.val j).comm)) g (clearF x j) bv (.slice (some ⟨gv, 0, none⟩) x.vals.length vc) ev) := hP2
  clear h hP1 hP2 hcell hfr
  generalize (x.val j).comm = cm at *
  generalize (x.val j).outs = ou at *
  generalize x.pool = po at *
  go_enter Tryz.func91, Tryz.ntmps91
  go_wp2
  go_region
  go_wp2
  try go_region
  try go_wp2
  go_end0
  exact ⟨rfl, HF.out.eta rfl rfl rfl rfl⟩
end Go.Proofs.YtohjjgefklhmaabGreatDoor

namespace Go.Proofs.YtohjjgefklhmaabGreatDoor
open Go.ChangeShapes Go.WideShapes Go.ChangeAt Go.RowKit
set_option linter.unusedVariables false

theorem goneF_val (x : EC) (k j : Nat) (n t : Int) (hj : j < x.vals.length) : (goneF x k j n t).val j = { x.val j with tokens := (x.val j).tokens - t, shares := (x.val j).shares - n } := by
  have hj2 : j < (x.vals.modify j (fun v => { v with tokens := v.tokens - t })).length := by simpa using hj
  simp only [goneF, EC.val, List.getD]
  simp [hj]

set_option maxHeartbeats 4000000 in
set_option maxRecDepth 100000 in
theorem gleave {S : Nat → Prop} {W0 : World} (g : Nat) (x : EC) (bv vv ev : Value) (w : World) (h : PE S W0 w g x bv vv ev) (k j : Nat) (n : Int) (hl : x.bal.length ≤ 6) (hk : k < x.bal.length) (hv : x.vals.length ≤ 5) (hj : j < x.vals.length) (hV : ValOk (x.val j)) (hd : DueOk x k j) (o0 : 0 ≤ (x.val j).outs) (o1 : (x.val j).outs ≤ 1000000) (k0 : 0 ≤ (x.val j).comm) (k1 : (x.val j).comm ≤ 1000000) (b0 : 0 ≤ x.balAt k) (b1 : x.balAt k ≤ 1000000) (p0 : 0 ≤ x.pool) (p1 : x.pool ≤ 1000000) (n1 : 1 ≤ n) (n2 : n ≤ x.sh k j) (s1 : x.sh k j ≤ (x.val j).shares) (hdo : x.due k j ≤ 1000000) :
    Calls Tryz.prog 61 #[.pointer (some ⟨g, 0, none⟩), .int .i64 k, .int .i64 j, .int .i64 n] w fun e w' => e = .returned (.int .i64 (tokensForF (x.val j) n)) ∧ PE S W0 w' g (leaveF x k j n) bv vv ev := by
  have HPay : Hid (Calls Tryz.prog 64 #[.pointer (some ⟨g, 0, none⟩), .int .i64 k, .int .i64 j] w fun e w' => e = .returned (.tuple #[]) ∧ PE S W0 w' g (payF x k j) bv vv ev) := epay g x bv vv ev w h k j hl hk hv hj hd (by rw [x.val_eq hj]; exact o0) (by rw [x.val_eq hj]; omega) b0 (by omega)
  have e1 := (payF_val x k j).resolve_right (by omega)
  have e2 := payF_sh x k j (by omega) (by omega)
  have e3 : (payF x k j).vals.length = x.vals.length := by simp [payF]
  have e4 : (payF x k j).pool = x.pool := rfl
  have hq : tokensForF ((payF x k j).val j) n = tokensForF (x.val j) n := by rw [e1]; rfl
  have hV1 : ValOk ((payF x k j).val j) := by rw [e1]; exact ⟨hV.t0, hV.t1, hV.s0, hV.s1⟩
  have hs1 : ((payF x k j).val j).shares = (x.val j).shares := by rw [e1]
  have d0 := hd.due0
  have oo : -1000000000 ≤ ((payF x k j).val j).outs ∧ ((payF x k j).val j).outs ≤ 1000000000 := by rw [e1]; simp only; omega
  have kk : -1000000000 ≤ ((payF x k j).val j).comm ∧ ((payF x k j).val j).comm ≤ 1000000000 := by rw [e1]; simp only; omega
  obtain ⟨q0, q1⟩ := tokensForF_bd hV (show 0 ≤ n by omega) (show n ≤ (x.val j).shares by omega)
  have hxs := hV.s1
  have HJ : Hid (leaveF x k j n = if (x.val j).shares - n = 0 then clearF (goneF (payF x k j) k j n (tokensForF (x.val j) n)) j else goneF (payF x k j) k j n (tokensForF (x.val j) n)) := rfl
  rw [← e4] at p0 p1
  rw [← e2] at n2 s1
  rw [← hs1] at s1 hxs HJ
  rw [← hq] at HJ q0 q1 ⊢
  have qt : tokensForF ((payF x k j).val j) n ≤ ((payF x k j).val j).tokens := by rw [e1] at *; exact q1
  clear h hd o0 o1 b0 b1 e1 hV k0 k1 q1 e4 hq hs1 e2 hdo d0
  generalize hxF : leaveF x k j n = xF at *
  clear hxF
  generalize payF x k j = x1 at *
  obtain ⟨t0, t1, u0, u1⟩ := id hV1
  go_enter Tryz.func61, Tryz.ntmps61
  go_wp2_with fail
  refine HPay.out.mono ?_
  rintro e w1 ⟨rfl, hP⟩
  clear HPay
  obtain ⟨va, vc, rfl⟩ := ownsRow_slice hP.v
  have hj1 : j < x1.vals.length := by omega
  obtain ⟨gv, rfl, hcell, hfr⟩ := hP.val8 rfl hj1
  have c7 : w1.cell? ⟨g, 7, none⟩ = some (.slice (some ⟨gv, 0, none⟩) x1.vals.length vc) := hP.L.cell 7
  have y0 := hcell 0 (by omega)
  have y1 := hcell 1 (by omega)
  have y2 := hcell 2 (by omega)
  have y3 := hcell 3 (by omega)
  have y4 := hcell 4 (by omega)
  have y5 := hcell 5 (by omega)
  have y6 := hcell 6 (by omega)
  have y7 := hcell 7 (by omega)
  rw [x1.val_eq hj1] at y0 y1 y2 y3 y4 y5 y6 y7
  simp only [VS.cells, List.getElem?_cons_succ, List.getElem?_cons_zero, Nat.add_zero] at y0 y1 y2 y3 y4 y5 y6 y7
  have HS : Hid (∀ u, Calls Tryz.prog 90 #[.agg #[.int .i64 (x1.val j).owner, .int .i64 (x1.val j).rate, .int .i64 (x1.val j).tokens, .int .i64 (x1.val j).shares, .int .i64 (x1.val j).comm, .int .i64 (x1.val j).outs, .bool (x1.val j).jailed, .bool (x1.val j).inset], .int .i64 n] u fun e w' => e = .returned (.int .i64 (tokensForF (x1.val j) n)) ∧ Below u.heap.size u w') := fun u => tokensFor_any (x1.val j) n u hV1 (by omega) (by omega)
  have HP : Hid (PE S W0 w1 g x1 bv (.slice (some ⟨gv, 0, none⟩) x1.vals.length vc) ev) := hP
  have HV : Hid (x1.vals[j] = x1.val j) := x1.val_eq hj1
  have HG : Hid ((goneF x1 k j n (tokensForF (x1.val j) n)).val j = { x1.val j with tokens := (x1.val j).tokens - tokensForF (x1.val j) n, shares := (x1.val j).shares - n }) := goneF_val x1 k j n _ hj1
  clear hP hcell hfr hV1
  generalize hvv : x1.val j = v at *
  have HVV : Hid (x1.val j = v) := hvv
  clear hvv
  generalize hbb : tokensForF v n = b at *
  have HBB : Hid (tokensForF v n = b) := hbb
  clear hbb
  go_wp2_with fail
  refine (HS.out _).mono ?_
  rintro e w2 ⟨rfl, hb2⟩
  have hP := HP.out.below hb2
  clear HP HS hb2 y0 y1 y2 y3 y4 y5 y6 y7 c7
  obtain ⟨gv', he, hcell, hfr⟩ := hP.val8 rfl hj1
  simp only [Option.some.injEq, Addr.mk.injEq, and_true] at he
  subst he
  have c7 : w2.cell? ⟨g, 7, none⟩ = some (.slice (some ⟨gv, 0, none⟩) x1.vals.length vc) := hP.L.cell 7
  have hgne : g ≠ gv := fun e => Has.apart hP.L hP.v (by decide) (by rw [e]; rfl)
  have hgne' : gv ≠ g := fun e => hgne e.symm
  have y2 := hcell 2 (by omega)
  have y3 := hcell 3 (by omega)
  have f2 := hfr (j * 8 + 2)
  have f3 := hfr (j * 8 + 3)
  rw [HV.out] at y2 y3
  simp only [VS.cells, List.getElem?_cons_succ, List.getElem?_cons_zero] at y2 y3
  have hkj : k * 5 + j < 65 := by omega
  have sc := hP.shAt (k := k) (j := j) (by omega) (by omega)
  have fs := hP.L.frozen (8 + k * 5 + j)
  have hP2 := hP.setVal rfl (j * 8 + 2) (.int .i64 (v.tokens - b)) (vals' := x1.vals.modify j (fun v => { v with tokens := v.tokens - b })) (vrow_mod x1.vals j hj1 2 _ _ (by rw [HV.out]; rfl) (by omega)) (by simp)
  have hj2 : j < (x1.vals.modify j (fun v => { v with tokens := v.tokens - b })).length := by simpa using hj1
  have hP3 := hP2.setVal (by simp) (j * 8 + 3) (.int .i64 (v.shares - n)) (vals' := (x1.vals.modify j (fun v => { v with tokens := v.tokens - b })).modify j (fun v => { v with shares := v.shares - n })) (vrow_mod _ j hj2 3 _ _ (by simp [HV.out, VS.cells]) (by omega)) (by simp)
  have hP4 := hP3.setTab (k * 5 + j) (x1.sh k j - n) hkj
  rw [← Nat.add_assoc] at hP4
  have HP4 : Hid (PE S W0 (((w2.setCell ⟨gv, j * 8 + 2, none⟩ (.int .i64 (v.tokens - b))).setCell ⟨gv, j * 8 + 3, none⟩ (.int .i64 (v.shares - n))).setCell ⟨g, 8 + k * 5 + j, none⟩ (.int .i64 (x1.sh k j - n))) g (goneF x1 k j n b) bv (.slice (some ⟨gv, 0, none⟩) x1.vals.length vc) ev) := hP4
  have hgl : (goneF x1 k j n b).vals.length = x1.vals.length := by simp [goneF]
  have HCl : Hid (∀ u, PE S W0 u g (goneF x1 k j n b) bv (.slice (some ⟨gv, 0, none⟩) x1.vals.length vc) ev → Calls Tryz.prog 91 #[.pointer (some ⟨g, 0, none⟩), .int .i64 j] u fun e w' => e = .returned (.tuple #[]) ∧ PE S W0 w' g (clearF (goneF x1 k j n b) j) bv (.slice (some ⟨gv, 0, none⟩) x1.vals.length vc) ev) := fun u hu => gclear g _ _ _ _ u hu j (by omega) (by omega) (by show -1000000000 ≤ x1.pool; omega) (by show x1.pool ≤ 1000000000; omega) (by rw [HG.out]; exact kk.1) (by rw [HG.out]; exact kk.2) (by rw [HG.out]; exact oo.1) (by rw [HG.out]; exact oo.2)
  clear hP hP2 hP3 hP4 hcell hfr HV hj2 HG kk oo hgl
  generalize hsh : x1.sh k j = s at *
  clear hsh
  by_cases hz : v.shares - n = 0
  · have hz' : (v.shares - n == 0) = true := by simp [hz]
    have HJ2 : Hid (xF = clearF (goneF x1 k j n b) j) := by rw [HJ.out, if_pos hz]; exact rfl
    clear HJ hz
    go_wp2_with fail
    all_goals try go_region
    all_goals try go_wp2_with fail
    refine (HCl.out _ HP4.out.drew).mono ?_
    rintro e w5 ⟨rfl, hP5⟩
    have HF : Hid (PE S W0 w5 g xF bv (.slice (some ⟨gv, 0, none⟩) x1.vals.length vc) ev) := by rw [HJ2.out]; exact hP5
    clear hP5 HCl HP4 HJ2
    go_wp2
    go_ret
    refine ⟨?_, HF.out⟩
    rw [HVV.out, HBB.out]
    exact rfl
  · have hz' : (v.shares - n == 0) = false := by simp [hz]
    have HF : Hid (PE S W0 (((w2.setCell ⟨gv, j * 8 + 2, none⟩ (.int .i64 (v.tokens - b))).setCell ⟨gv, j * 8 + 3, none⟩ (.int .i64 (v.shares - n))).setCell ⟨g, 8 + k * 5 + j, none⟩ (.int .i64 (s - n))) g xF bv (.slice (some ⟨gv, 0, none⟩) x1.vals.length vc) ev) := by rw [HJ.out, if_neg hz]; exact HP4.out
    clear HJ hz HCl HP4
    go_wp2
    go_region
    go_wp2
    go_ret
    refine ⟨?_, HF.out.eta rfl rfl rfl rfl⟩
    rw [HVV.out, HBB.out]
    exact rfl
end Go.Proofs.YtohjjgefklhmaabGreatDoor
