import Derived.Test.YtohjjgefklhmaaaGreatDoorGErrM
import Derived.Deep.RegionWith
import Derived.Deep.DeepCutAuto
namespace Go.Proofs.YtohjjgefklhmaaaGreatDoor
open Go.ChangeShapes Go.WideShapes Go.ChangeAt Go.RowKit
set_option linter.unusedVariables false

def clearF (x : EC) (j : Nat) : EC := { x with pool := x.pool + ((x.val j).outs - (x.val j).comm), vals := x.vals.modify j (fun v => { v with outs := v.comm }) }
/-- the shares are gone, and their tokens -/
def goneF (x : EC) (k j : Nat) (n t : Int) : EC :=
  { x with
    vals := (x.vals.modify j (fun v => { v with tokens := v.tokens - t })).modify j (fun v => { v with shares := v.shares - n }),
    tab := x.tab.set (k * 5 + j) (x.sh k j - n) }
def leaveF (x : EC) (k j : Nat) (n : Int) : EC :=
  if (x.val j).shares - n = 0 then clearF (goneF (payF x k j) k j n (tokensForF (x.val j) n)) j else goneF (payF x k j) k j n (tokensForF (x.val j) n)

set_option maxHeartbeats 2000000 in
set_option maxRecDepth 100000 in
theorem gclear {S : Nat → Prop} {W0 : World} (g : Nat) (x : EC) (bv vv ev : Value) (w : World) (h : PE S W0 w g x bv vv ev) (j : Nat) (hv : x.vals.length ≤ 5) (hj : j < x.vals.length) (p0 : -1000000000 ≤ x.pool) (p1 : x.pool ≤ 1000000000) (k0 : -1000000000 ≤ (x.val j).comm) (k1 : (x.val j).comm ≤ 1000000000) (o0 : -1000000000 ≤ (x.val j).outs) (o1 : (x.val j).outs ≤ 1000000000) :
    Calls Tryz.prog 151 #[.pointer (some ⟨g, 0, none⟩), .int .i64 j] w fun e w' => e = .returned (.tuple #[]) ∧ PE S W0 w' g (clearF x j) bv vv ev := by
  obtain ⟨va, vc, rfl⟩ := ownsRow_slice h.v
  obtain ⟨gv, rfl, hcell, hfr⟩ := h.val8 rfl hj
  have c6 : w.cell? ⟨g, 6, none⟩ = some (.int .i64 x.pool) := h.L.cell 6
  have f6 := h.L.frozen 6
  have c7 : w.cell? ⟨g, 7, none⟩ = some (.slice (some ⟨gv, 0, none⟩) x.vals.length vc) := h.L.cell 7
  have y4 := hcell 4 (by omega)
  have y5 := hcell 5 (by omega)
  have f5 := hfr (j * 8 + 5)
  rw [x.val_eq hj] at y4 y5
  simp only [VS.cells, List.getElem?_cons_succ, List.getElem?_cons_zero] at y4 y5
  have n3 : g ≠ gv := fun e => Has.apart h.L h.v (by decide) (by rw [e]; rfl)
  have n4 : gv ≠ g := fun e => n3 e.symm
  have hP1 := h.setHead (x' := { x with pool := x.pool + ((x.val j).outs - (x.val j).comm) }) 6 (.int .i64 (x.pool + ((x.val j).outs - (x.val j).comm))) rfl rfl rfl rfl rfl
  have hP2 := hP1.setVal rfl (j * 8 + 5) (.int .i64 (x.val j).comm) (vals' := x.vals.modify j (fun v => { v with outs := v.comm })) (vrow_mod x.vals j hj 5 _ _ (by rw [x.val_eq hj]; rfl) (by omega)) (by simp)
  have HF : Hid (PE S W0 ((w.setCell ⟨g, 6, none⟩ (.int .i64 (x.pool + ((x.val j).outs - (x.val j).comm)))).setCell ⟨gv, j * 8 + 5, none⟩ (.int .i64 (x.val j).comm)) g (clearF x j) bv (.slice (some ⟨gv, 0, none⟩) x.vals.length vc) ev) := hP2
  clear h hP1 hP2 hcell hfr
  generalize (x.val j).comm = cm at *
  generalize (x.val j).outs = ou at *
  generalize x.pool = po at *
  go_enter Tryz.func151, Tryz.ntmps151
  go_wp2
  go_region
  go_wp2
  try go_region
  try go_wp2
  go_end0
  exact ⟨rfl, HF.out.eta rfl rfl rfl rfl⟩
end Go.Proofs.YtohjjgefklhmaaaGreatDoor

namespace Go.Proofs.YtohjjgefklhmaaaGreatDoor
open Go.ChangeShapes Go.WideShapes Go.ChangeAt Go.RowKit
set_option linter.unusedVariables false

theorem goneF_val (x : EC) (k j : Nat) (n t : Int) (hj : j < x.vals.length) : (goneF x k j n t).val j = { x.val j with tokens := (x.val j).tokens - t, shares := (x.val j).shares - n } := by
  have hj2 : j < (x.vals.modify j (fun v => { v with tokens := v.tokens - t })).length := by simpa using hj
  simp only [goneF, EC.val, List.getD]
  simp [hj]

set_option maxHeartbeats 4000000 in
set_option maxRecDepth 100000 in
theorem gleave {S : Nat → Prop} {W0 : World} (g : Nat) (x : EC) (bv vv ev : Value) (w : World) (h : PE S W0 w g x bv vv ev) (k j : Nat) (n : Int) (hl : x.bal.length ≤ 6) (hk : k < x.bal.length) (hv : x.vals.length ≤ 5) (hj : j < x.vals.length) (hV : ValOk (x.val j)) (hd : DueOk x k j) (o0 : 0 ≤ (x.val j).outs) (o1 : (x.val j).outs ≤ 1000000) (k0 : 0 ≤ (x.val j).comm) (k1 : (x.val j).comm ≤ 1000000) (b0 : 0 ≤ x.balAt k) (b1 : x.balAt k ≤ 1000000) (p0 : 0 ≤ x.pool) (p1 : x.pool ≤ 1000000) (n1 : 1 ≤ n) (n2 : n ≤ x.sh k j) (s1 : x.sh k j ≤ (x.val j).shares) (hdo : x.due k j ≤ 1000000) :
    Calls Tryz.prog 113 #[.pointer (some ⟨g, 0, none⟩), .int .i64 k, .int .i64 j, .int .i64 n] w fun e w' => e = .returned (.int .i64 (tokensForF (x.val j) n)) ∧ PE S W0 w' g (leaveF x k j n) bv vv ev := by
  have HPay : Hid (Calls Tryz.prog 116 #[.pointer (some ⟨g, 0, none⟩), .int .i64 k, .int .i64 j] w fun e w' => e = .returned (.tuple #[]) ∧ PE S W0 w' g (payF x k j) bv vv ev) := epay g x bv vv ev w h k j hl hk hv hj hd (by rw [x.val_eq hj]; exact o0) (by rw [x.val_eq hj]; omega) b0 (by omega)
  have e1 := (payF_val x k j).resolve_right (by omega)
  have e2 := payF_sh x k j (by omega) (by omega)
  have e3 : (payF x k j).vals.length = x.vals.length := by simp [payF]
  have e4 : (payF x k j).pool = x.pool := rfl
  have hq : tokensForF ((payF x k j).val j) n = tokensForF (x.val j) n := by rw [e1]; rfl
  have hV1 : ValOk ((payF x k j).val j) := by rw [e1]; exact ⟨hV.t0, hV.t1, hV.s0, hV.s1⟩
  have hs1 : ((payF x k j).val j).shares = (x.val j).shares := by rw [e1]
  have d0 := hd.due0
  have oo : -1000000000 ≤ ((payF x k j).val j).outs ∧ ((payF x k j).val j).outs ≤ 1000000000 := by rw [e1]; simp only; omega
  have kk : -1000000000 ≤ ((payF x k j).val j).comm ∧ ((payF x k j).val j).comm ≤ 1000000000 := by rw [e1]; simp only; omega
  obtain ⟨q0, q1⟩ := tokensForF_bd hV (show 0 ≤ n by omega) (show n ≤ (x.val j).shares by omega)
  have hxs := hV.s1
  have HJ : Hid (leaveF x k j n = if (x.val j).shares - n = 0 then clearF (goneF (payF x k j) k j n (tokensForF (x.val j) n)) j else goneF (payF x k j) k j n (tokensForF (x.val j) n)) := rfl
  rw [← e4] at p0 p1
  rw [← e2] at n2 s1
  rw [← hs1] at s1 hxs HJ
  rw [← hq] at HJ q0 q1 ⊢
  have qt : tokensForF ((payF x k j).val j) n ≤ ((payF x k j).val j).tokens := by rw [e1] at *; exact q1
  clear h hd o0 o1 b0 b1 e1 hV k0 k1 q1 e4 hq hs1 e2 hdo d0
  generalize hxF : leaveF x k j n = xF at *
  clear hxF
  generalize payF x k j = x1 at *
  obtain ⟨t0, t1, u0, u1⟩ := id hV1
  go_enter Tryz.func113, Tryz.ntmps113
  go_wp2_with fail
  refine HPay.out.mono ?_
  rintro e w1 ⟨rfl, hP⟩
  clear HPay
  obtain ⟨va, vc, rfl⟩ := ownsRow_slice hP.v
  have hj1 : j < x1.vals.length := by omega
  obtain ⟨gv, rfl, hcell, hfr⟩ := hP.val8 rfl hj1
  have c7 : w1.cell? ⟨g, 7, none⟩ = some (.slice (some ⟨gv, 0, none⟩) x1.vals.length vc) := hP.L.cell 7
  have y0 := hcell 0 (by omega)
  have y1 := hcell 1 (by omega)
  have y2 := hcell 2 (by omega)
  have y3 := hcell 3 (by omega)
  have y4 := hcell 4 (by omega)
  have y5 := hcell 5 (by omega)
  have y6 := hcell 6 (by omega)
  have y7 := hcell 7 (by omega)
  rw [x1.val_eq hj1] at y0 y1 y2 y3 y4 y5 y6 y7
  simp only [VS.cells, List.getElem?_cons_succ, List.getElem?_cons_zero, Nat.add_zero] at y0 y1 y2 y3 y4 y5 y6 y7
  have HS : Hid (∀ u, Calls Tryz.prog 150 #[.agg #[.int .i64 (x1.val j).owner, .int .i64 (x1.val j).rate, .int .i64 (x1.val j).tokens, .int .i64 (x1.val j).shares, .int .i64 (x1.val j).comm, .int .i64 (x1.val j).outs, .bool (x1.val j).jailed, .bool (x1.val j).inset], .int .i64 n] u fun e w' => e = .returned (.int .i64 (tokensForF (x1.val j) n)) ∧ Below u.heap.size u w') := fun u => tokensFor_any (x1.val j) n u hV1 (by omega) (by omega)
  have HP : Hid (PE S W0 w1 g x1 bv (.slice (some ⟨gv, 0, none⟩) x1.vals.length vc) ev) := hP
  have HV : Hid (x1.vals[j] = x1.val j) := x1.val_eq hj1
  have HG : Hid ((goneF x1 k j n (tokensForF (x1.val j) n)).val j = { x1.val j with tokens := (x1.val j).tokens - tokensForF (x1.val j) n, shares := (x1.val j).shares - n }) := goneF_val x1 k j n _ hj1
  clear hP hcell hfr hV1
  generalize hvv : x1.val j = v at *
  have HVV : Hid (x1.val j = v) := hvv
  clear hvv
  generalize hbb : tokensForF v n = b at *
  have HBB : Hid (tokensForF v n = b) := hbb
  clear hbb
  go_wp2_with fail
  refine (HS.out _).mono ?_
  rintro e w2 ⟨rfl, hb2⟩
  have hP := HP.out.below hb2
  clear HP HS hb2 y0 y1 y2 y3 y4 y5 y6 y7 c7
  obtain ⟨gv', he, hcell, hfr⟩ := hP.val8 rfl hj1
  simp only [Option.some.injEq, Addr.mk.injEq, and_true] at he
  subst he
  have c7 : w2.cell? ⟨g, 7, none⟩ = some (.slice (some ⟨gv, 0, none⟩) x1.vals.length vc) := hP.L.cell 7
  have hgne : g ≠ gv := fun e => Has.apart hP.L hP.v (by decide) (by rw [e]; rfl)
  have hgne' : gv ≠ g := fun e => hgne e.symm
  have y2 := hcell 2 (by omega)
  have y3 := hcell 3 (by omega)
  have f2 := hfr (j * 8 + 2)
  have f3 := hfr (j * 8 + 3)
  rw [HV.out] at y2 y3
  simp only [VS.cells, List.getElem?_cons_succ, List.getElem?_cons_zero] at y2 y3
  have hkj : k * 5 + j < 65 := by omega
  have sc := hP.shAt (k := k) (j := j) (by omega) (by omega)
  have fs := hP.L.frozen (8 + k * 5 + j)
  have hP2 := hP.setVal rfl (j * 8 + 2) (.int .i64 (v.tokens - b)) (vals' := x1.vals.modify j (fun v => { v with tokens := v.tokens - b })) (vrow_mod x1.vals j hj1 2 _ _ (by rw [HV.out]; rfl) (by omega)) (by simp)
  have hj2 : j < (x1.vals.modify j (fun v => { v with tokens := v.tokens - b })).length := by simpa using hj1
  have hP3 := hP2.setVal (by simp) (j * 8 + 3) (.int .i64 (v.shares - n)) (vals' := (x1.vals.modify j (fun v => { v with tokens := v.tokens - b })).modify j (fun v => { v with shares := v.shares - n })) (vrow_mod _ j hj2 3 _ _ (by simp [HV.out, VS.cells]) (by omega)) (by simp)
  have hP4 := hP3.setTab (k * 5 + j) (x1.sh k j - n) hkj
  rw [← Nat.add_assoc] at hP4
  have HP4 : Hid (PE S W0 (((w2.setCell ⟨gv, j * 8 + 2, none⟩ (.int .i64 (v.tokens - b))).setCell ⟨gv, j * 8 + 3, none⟩ (.int .i64 (v.shares - n))).setCell ⟨g, 8 + k * 5 + j, none⟩ (.int .i64 (x1.sh k j - n))) g (goneF x1 k j n b) bv (.slice (some ⟨gv, 0, none⟩) x1.vals.length vc) ev) := hP4
  have hgl : (goneF x1 k j n b).vals.length = x1.vals.length := by simp [goneF]
  have HCl : Hid (∀ u, PE S W0 u g (goneF x1 k j n b) bv (.slice (some ⟨gv, 0, none⟩) x1.vals.length vc) ev → Calls Tryz.prog 151 #[.pointer (some ⟨g, 0, none⟩), .int .i64 j] u fun e w' => e = .returned (.tuple #[]) ∧ PE S W0 w' g (clearF (goneF x1 k j n b) j) bv (.slice (some ⟨gv, 0, none⟩) x1.vals.length vc) ev) := fun u hu => gclear g _ _ _ _ u hu j (by omega) (by omega) (by show -1000000000 ≤ x1.pool; omega) (by show x1.pool ≤ 1000000000; omega) (by rw [HG.out]; exact kk.1) (by rw [HG.out]; exact kk.2) (by rw [HG.out]; exact oo.1) (by rw [HG.out]; exact oo.2)
  clear hP hP2 hP3 hP4 hcell hfr HV hj2 HG kk oo hgl
  generalize hsh : x1.sh k j = s at *
  clear hsh
  by_cases hz : v.shares - n = 0
  · have hz' : (v.shares - n == 0) = true := by simp [hz]
    have HJ2 : Hid (xF = clearF (goneF x1 k j n b) j) := by rw [HJ.out, if_pos hz]; exact rfl
    clear HJ hz
    go_wp2_with fail
    all_goals try go_region
    all_goals try go_wp2_with fail
    refine (HCl.out _ HP4.out.drew).mono ?_
    rintro e w5 ⟨rfl, hP5⟩
    have HF : Hid (PE S W0 w5 g xF bv (.slice (some ⟨gv, 0, none⟩) x1.vals.length vc) ev) := by rw [HJ2.out]; exact hP5
    clear hP5 HCl HP4 HJ2
    go_wp2
    go_ret
    refine ⟨?_, HF.out⟩
    rw [HVV.out, HBB.out]
    exact rfl
  · have hz' : (v.shares - n == 0) = false := by simp [hz]
    have HF : Hid (PE S W0 (((w2.setCell ⟨gv, j * 8 + 2, none⟩ (.int .i64 (v.tokens - b))).setCell ⟨gv, j * 8 + 3, none⟩ (.int .i64 (v.shares - n))).setCell ⟨g, 8 + k * 5 + j, none⟩ (.int .i64 (s - n))) g xF bv (.slice (some ⟨gv, 0, none⟩) x1.vals.length vc) ev) := by rw [HJ.out, if_neg hz]; exact HP4.out
    clear HJ hz HCl HP4
    go_wp2
    go_region
    go_wp2
    go_ret
    refine ⟨?_, HF.out.eta rfl rfl rfl rfl⟩
    rw [HVV.out, HBB.out]
    exact rfl
end Go.Proofs.YtohjjgefklhmaaaGreatDoor

namespace Go.Proofs.YtohjjgefklhmaaaGreatDoor
open Go.ChangeShapes Go.WideShapes Go.ChangeAt Go.RowKit
set_option linter.unusedVariables false

theorem PE.push {S : Nat → Prop} {W0 w v5 : World} {g : Nat} {x : EC} {bv vv ev ev' : Value} {o : ES} (h : PE S W0 w g x bv vv ev) (hg : w.grownBy v5 ev.ownBlock) (hown : v5.ownsRow 0 125 4 ev' (x.ents.length + 1) (erow x.ents ++ o.cells)) (hev : ∀ k, ev'.ownBlock = some k → ev.ownBlock = some k ∨ w.heap.size ≤ k) :
    Has v5 g 111 (eL x bv vv ev) ∧ PE S W0 (v5.setCell ⟨g, 73, none⟩ ev') g { x with ents := x.ents ++ [o] } bv vv ev' := by
  have hL := grown_has hg h.L (Has.apart h.L h.e (by decide))
  have hb := h.b.kept hg (ownsRow_apart h.b h.e (by decide))
  have hv := h.v.kept hg (ownsRow_apart h.v h.e (by decide))
  have hk : Kp S W0 v5 := h.fr.trans ⟨hg.os, hg.tape, hg.output, hg.size, fun k hk hs => hg.block k hk (fun e => hs (h.se k e.symm))⟩
  refine ⟨hL, hk.setCell h.hg _, h.hS, h.hg, ?_, h.ht, ownsRow_setCell hb _ _ (fun e => Has.apart hL hb (by decide) e.symm), ownsRow_setCell hv _ _ (fun e => Has.apart hL hv (by decide) e.symm), ?_, h.sb, h.sv, fun k hk' => ?_⟩
  · have := hL.set 73 ev'
    rw [eL_set_ev x bv vv ev ev' h.ht] at this
    exact this
  · simp only [List.length_append, List.length_singleton]
    rw [erow_snoc]
    exact ownsRow_setCell hown _ _ (fun e => Has.apart hL hown (by decide) e.symm)
  · rcases hev k hk' with h1 | h1
    · exact h.se k h1
    · exact h.hS k (Nat.le_trans h.fr.size h1)
def entF (x : EC) (k j : Nat) (t : Int) : EC := if t < 1 then x else { x with ents := x.ents ++ [⟨k, j, x.height, t⟩] }

set_option maxHeartbeats 2000000 in
set_option maxRecDepth 100000 in
theorem gaddEntry {S : Nat → Prop} {W0 : World} (g : Nat) (x : EC) (bv vv ev : Value) (w : World) (h : PE S W0 w g x bv vv ev) (k j : Nat) (t : Int) (hl : x.ents.length ≤ 100000) :
    Calls Tryz.prog 114 #[.pointer (some ⟨g, 0, none⟩), .int .i64 k, .int .i64 j, .int .i64 t] w fun e w' => e = .returned (.tuple #[]) ∧ ∃ ev', PE S W0 w' g (entF x k j t) bv vv ev' := by
  by_cases ht : t < 1
  · have HP : Hid (PE S W0 w g (entF x k j t) bv vv ev) := by unfold entF; rw [if_pos ht]; exact h
    clear h
    go_enter Tryz.func114, Tryz.ntmps114
    go_wp2
    refine bodyPost_ret (results_none rfl _ _ _) rfl ?_
    exact ⟨rfl, ev, HP.out⟩
  have HQ : Hid (entF x k j t = { x with ents := x.ents ++ [⟨k, j, x.height, t⟩] }) := by unfold entF; rw [if_neg ht]; exact rfl
  obtain ⟨i5, hi5, hz50, hz51, hz52⟩ := info_parts info_entPE
  obtain ⟨ea, ec, rfl⟩ := ownsRow_slice h.e
  have c3 : w.cell? ⟨g, 3, none⟩ = some (.int .i64 x.height) := h.L.cell 3
  have c73 : w.cell? ⟨g, 73, none⟩ = some (.slice ea x.ents.length ec) := h.evAt
  have g1 := h.L.lt
  have g2 : g < w.heap.size + 1 := by omega
  have HP : Hid (PE S W0 w g x bv vv (.slice ea x.ents.length ec)) := h
  clear h
  go_enter Tryz.func114, Tryz.ntmps114
  go_wp2_with fail
  go_region_law (refine step_append_sl2 rfl (.tmp 14) (.tmp 23) 87 rfl 125 i5 _ 4 32 Tryz.underlying87 hi5 hz50 hz51 hz52 rfl (by decide) 0 (.slice ea x.ents.length ec) x.ents.length (erow x.ents) (by first | rfl | simp [Act.eval]) (HP.out.alloc _).e (Nat.zero_le _) ⟨_, 0, none⟩ 1 1 [.int .i64 k, .int .i64 j, .int .i64 x.height, .int .i64 t] (by first | rfl | simp [Act.eval]) (by rfl) (cell_newAt _ [.int .i64 k, .int .i64 j, .int .i64 x.height, .int .i64 t] _ _ (by simp)) (by simp [Value.oneCell']) (by decide) (by simp [maxLen]; omega) (by omega) ?_; intro g5 cap5 v5 hown5 hgrow5 hor5 hold5; obtain ⟨hL5, hP5⟩ := ((HP.out.alloc _).drew).push (o := ⟨k, j, x.height, t⟩) hgrow5 hown5 (fun q hq => by simp only [Value.ownBlock, Option.some.injEq] at hq; rw [← hq]; exact hor5); have c73' : v5.cell? ⟨g, 73, none⟩ = some (.slice ea x.ents.length ec) := (hL5.cell 73).trans (eL_ev _ _ _ _ HP.out.ht); have f73' := hL5.frozen 73; have HP5 : Hid _ := hP5; clear hP5 hown5 hgrow5 hold5 hL5)
  all_goals
    go_wp2
    go_end0
    rw [HQ.out]
    exact ⟨rfl, _, HP5.out⟩
end Go.Proofs.YtohjjgefklhmaaaGreatDoor

namespace Go.Proofs.YtohjjgefklhmaaaGreatDoor
open Go.ChangeShapes Go.WideShapes Go.ChangeAt Go.RowKit
set_option linter.unusedVariables false

/-- numbers that do not wrap where a delegation is paid and changed -/
structure LvOk (x : EC) (k j : Nat) : Prop where
  hl : x.bal.length ≤ 6
  hk : k < x.bal.length
  hv : x.vals.length ≤ 5
  hj : j < x.vals.length
  hV : ValOk (x.val j)
  hd : DueOk x k j
  o0 : 0 ≤ (x.val j).outs
  o1 : (x.val j).outs ≤ 1000000
  k0 : 0 ≤ (x.val j).comm
  k1 : (x.val j).comm ≤ 1000000
  b0 : 0 ≤ x.balAt k
  b1 : x.balAt k ≤ 1000000
  p0 : 0 ≤ x.pool
  p1 : x.pool ≤ 1000000
  s0 : 0 ≤ x.sh k j
  s1 : x.sh k j ≤ (x.val j).shares
  hdo : x.due k j ≤ 1000000
def unbF (y : EC) (k j : Nat) (n : Int) : EC := entF (leaveF y k j n) k j (tokensForF (y.val j) n)
def unbR (x : EC) (who val n : Int) : Int × EC := msgR x who (fun y k => unbErrF y k val n) (fun y k => unbF y k val.toNat n)
theorem unbErrF_ok {x : EC} {k : Nat} {val n : Int} (h : unbErrF x k val n = 0) : ∃ j : Nat, val = j ∧ j < x.vals.length ∧ 1 ≤ n ∧ n ≤ x.sh k j ∧ countE x.ents k j < 4 := by
  unfold unbErrF at h
  split at h
  · cases h
  · rename_i h1
    obtain ⟨j, rfl, hj⟩ := inB_tt (show inB val x.vals.length = true by simpa using h1)
    rw [Int.toNat_natCast] at h
    split at h
    · cases h
    · split at h
      · cases h
      · rename_i h2 h3
        exact ⟨j, rfl, hj, by omega, by omega, by omega⟩

section
variable {S : Nat → Prop} {W0 : World} (g : Nat) (x : EC) (bv vv ev : Value) (w : World) (h : PE S W0 w g x bv vv ev)
include h
theorem gleave' (k j : Nat) (n : Int) (ok : LvOk x k j) (n1 : 1 ≤ n) (n2 : n ≤ x.sh k j) :
    Calls Tryz.prog 113 #[.pointer (some ⟨g, 0, none⟩), .int .i64 k, .int .i64 j, .int .i64 n] w fun e w' => e = .returned (.int .i64 (tokensForF (x.val j) n)) ∧ PE S W0 w' g (leaveF x k j n) bv vv ev :=
  gleave g x bv vv ev w h k j n ok.hl ok.hk ok.hv ok.hj ok.hV ok.hd ok.o0 ok.o1 ok.k0 ok.k1 ok.b0 ok.b1 ok.p0 ok.p1 n1 n2 ok.s1 ok.hdo

set_option maxHeartbeats 2000000 in
set_option maxRecDepth 100000 in
theorem eUnbond (k j : Nat) (n : Int) (ha : AccOk x) (hc : chErr x k = 0) (ok : LvOk (chargeFE x k) k j) (hE : x.ents.length ≤ 99999) (he : unbErrF (chargeFE x k) k j n = 0) (n1 : 1 ≤ n) (n2 : n ≤ x.sh k j) (hel : (leaveF (chargeFE x k) k j n).ents.length ≤ 100000) :
    Calls Tryz.prog 57 #[.pointer (some ⟨g, 0, none⟩), .int .i64 k, .int .i64 j, .int .i64 n] w fun e w' => e = .returned (.int .i64 0) ∧ ∃ ev', PE S W0 w' g (unbF (chargeFE x k) k j n) bv vv ev' := by
  have HC : Hid (Calls Tryz.prog 105 #[.pointer (some ⟨g, 0, none⟩), .int .i64 k] w fun e w' => e = .returned (.int .i64 0) ∧ PE S W0 w' g (chargeFE x k) bv vv ev) := gcharge_yes g x bv vv ev w h k ha hc
  have hk6 : k < 6 := Nat.lt_of_lt_of_le ok.hk ok.hl
  have HE : Hid (∀ w, PE S W0 w g (chargeFE x k) bv vv ev → Calls Tryz.prog 112 #[.pointer (some ⟨g, 0, none⟩), .int .i64 k, .int .i64 j, .int .i64 n] w fun e w' => e = .returned (.int .i64 0) ∧ Below w.heap.size w w') := fun w hw => by
    have := gunbondError g (chargeFE x k) bv vv ev w hw k j n hk6 ok.hv (by show x.ents.length ≤ 100000; omega)
    rw [he] at this
    exact this
  have HL : Hid (∀ w, PE S W0 w g (chargeFE x k) bv vv ev → Calls Tryz.prog 113 #[.pointer (some ⟨g, 0, none⟩), .int .i64 k, .int .i64 j, .int .i64 n] w fun e w' => e = .returned (.int .i64 (tokensForF ((chargeFE x k).val j) n)) ∧ PE S W0 w' g (leaveF (chargeFE x k) k j n) bv vv ev) := fun w hw => gleave' g _ _ _ _ w hw k j n ok n1 n2
  have HA : Hid (∀ w, PE S W0 w g (leaveF (chargeFE x k) k j n) bv vv ev → Calls Tryz.prog 114 #[.pointer (some ⟨g, 0, none⟩), .int .i64 k, .int .i64 j, .int .i64 (tokensForF ((chargeFE x k).val j) n)] w fun e w' => e = .returned (.tuple #[]) ∧ ∃ ev', PE S W0 w' g (unbF (chargeFE x k) k j n) bv vv ev') := fun w hw => gaddEntry g _ _ _ _ w hw k j _ hel
  clear h ok he hel
  generalize tokensForF ((chargeFE x k).val j) n = tk at *
  go_enter Tryz.func57, Tryz.ntmps57
  go_wp2_with fail
  refine HC.out.mono ?_
  rintro e w1 ⟨rfl, hP⟩
  have HP : Hid (PE S W0 w1 g (chargeFE x k) bv vv ev) := hP
  clear hP HC
  go_wp2_with fail
  refine (HE.out _ HP.out).mono ?_
  rintro e w2 ⟨rfl, hb⟩
  have HP2 : Hid (PE S W0 w2 g (chargeFE x k) bv vv ev) := HP.out.below hb
  clear hb HP HE
  go_wp2_with fail
  refine (HL.out _ HP2.out).mono ?_
  rintro e w3 ⟨rfl, hP3⟩
  have HP3 : Hid (PE S W0 w3 g (leaveF (chargeFE x k) k j n) bv vv ev) := hP3
  clear hP3 HP2 HL
  go_wp2_with fail
  refine (HA.out _ HP3.out).mono ?_
  rintro e w4 ⟨rfl, hP4⟩
  have HP4 : Hid (∃ ev', PE S W0 w4 g (unbF (chargeFE x k) k j n) bv vv ev') := hP4
  clear hP4 HP3 HA
  go_wp2
  go_ret
  exact ⟨rfl, HP4.out⟩
end
end Go.Proofs.YtohjjgefklhmaaaGreatDoor
