import Derived.Test.YtohjjgefklhmaaaGreatDoorGBaseM
import Derived.Deep.RegionWith
import Derived.Deep.DeepCutAuto
namespace Go.Proofs.YtohjjgefklhmaaaGreatDoor
open Go.ChangeShapes Go.WideShapes Go.ChangeAt Go.RowKit
set_option linter.unusedVariables false
set_option maxHeartbeats 40000000
set_option maxRecDepth 100000
variable {S : Nat -> Prop} {W0 : World} {x : EC} {k : Nat} {val n : Int}
def BQ (x : EC) (j : Nat) : EC := { x with pool := x.pool + ((x.val j).outs - (x.val j).comm), vals := x.vals.modify j (fun v => { v with outs := v.comm }) }
def AZ (x : EC) (k j : Nat) (n t : Int) : EC :=
 { x with
  vals := (x.vals.modify j (fun v => { v with tokens := v.tokens - t })).modify j (fun v => { v with shares := v.shares - n }),
  tab := x.tab.set (k * 5 + j) (x.sh k j - n) }
def AA (x : EC) (k j : Nat) (n : Int) : EC :=
 if (x.val j).shares - n = 0 then BQ (AZ (AF x k j) k j n (Af (x.val j) n)) j else AZ (AF x k j) k j n (Af (x.val j) n)
theorem R7 (g : Nat) (x : EC) (bv vv ev : Value) (w : World) (h : PE S W0 w g x bv vv ev) (j : Nat) (hv : x.vals.length <= 5) (hj : j < x.vals.length) (p0 : -1000000000 <= x.pool) (p1 : x.pool <= 1000000000) (k0 : -1000000000 <= (x.val j).comm) (k1 : (x.val j).comm <= 1000000000) (o0 : -1000000000 <= (x.val j).outs) (o1 : (x.val j).outs <= 1000000000) :
  Calls Tryz.prog 151 #[.pointer (some ⟨g, 0, none⟩), .int .i64 j] w fun e w' => e = .returned (.tuple #[]) ∧ PE S W0 w' g (BQ x j) bv vv ev := by
 obtain ⟨va, vc, rfl⟩ := Ac h.v
 obtain ⟨gv, rfl, hcell, hfr⟩ := h.val8 rfl hj
 have c6 : w.cell? ⟨g, 6, none⟩ = some (.int .i64 x.pool) := h.L.cell 6
 have f6 := h.L.frozen 6
 have c7 : w.cell? ⟨g, 7, none⟩ = some (.slice (some ⟨gv, 0, none⟩) x.vals.length vc) := h.L.cell 7
 have y4 := hcell 4 (by omega)
 have y5 := hcell 5 (by omega)
 have f5 := hfr (j * 8 + 5)
 rw [x.val_eq hj] at y4 y5
 simp only [VS.cells, List.getElem?_cons_succ, List.getElem?_cons_zero] at y4 y5
 have n3 : g ≠ gv := fun e => Has.apart h.L h.v (by decide) (by rw [e]; rfl)
 have n4 : gv ≠ g := fun e => n3 e.symm
 have hP1 := h.setHead (x' := { x with pool := x.pool + ((x.val j).outs - (x.val j).comm) }) 6 (.int .i64 (x.pool + ((x.val j).outs - (x.val j).comm))) rfl rfl rfl rfl rfl
 have hP2 := hP1.setVal rfl (j * 8 + 5) (.int .i64 (x.val j).comm) (vals' := x.vals.modify j (fun v => { v with outs := v.comm })) (Bk x.vals j hj 5 _ _ (by rw [x.val_eq hj]; rfl) (by omega)) (by simp)
 have HF : Hid (PE S W0 ((w.setCell ⟨g, 6, none⟩ (.int .i64 (x.pool + ((x.val j).outs - (x.val j).comm)))).setCell ⟨gv, j * 8 + 5, none⟩ (.int .i64 (x.val j).comm)) g (BQ x j) bv (.slice (some ⟨gv, 0, none⟩) x.vals.length vc) ev) := hP2
 clear h hP1 hP2 hcell hfr
 generalize (x.val j).comm = cm at *
 generalize (x.val j).outs = ou at *
 generalize x.pool = po at *
 go_enter Tryz.func151, Tryz.ntmps151
 go_wp2
 go_region
 go_wp2
 try go_region
 try go_wp2
 go_end0
 exact ⟨rfl, HF.out.eta rfl rfl rfl rfl⟩
theorem Oh (x : EC) (k j : Nat) (n t : Int) (hj : j < x.vals.length) : (AZ x k j n t).val j = { x.val j with tokens := (x.val j).tokens - t, shares := (x.val j).shares - n } := by
 have hj2 : j < (x.vals.modify j (fun v => { v with tokens := v.tokens - t })).length := by simpa using hj
 simp only [AZ, EC.val, List.getD]
 simp [hj]
theorem R5 (g : Nat) (x : EC) (bv vv ev : Value) (w : World) (h : PE S W0 w g x bv vv ev) (k j : Nat) (n : Int) (hl : x.bal.length <= 6) (hk : k < x.bal.length) (hv : x.vals.length <= 5) (hj : j < x.vals.length) (hV : Dj (x.val j)) (hd : Eo x k j) (o0 : 0 <= (x.val j).outs) (o1 : (x.val j).outs <= 1000000) (k0 : 0 <= (x.val j).comm) (k1 : (x.val j).comm <= 1000000) (b0 : 0 <= x.balAt k) (b1 : x.balAt k <= 1000000) (p0 : 0 <= x.pool) (p1 : x.pool <= 1000000) (n1 : 1 <= n) (n2 : n <= x.sh k j) (s1 : x.sh k j <= (x.val j).shares) (hdo : x.due k j <= 1000000) :
  Calls Tryz.prog 113 #[.pointer (some ⟨g, 0, none⟩), .int .i64 k, .int .i64 j, .int .i64 n] w fun e w' => e = .returned (.int .i64 (Af (x.val j) n)) ∧ PE S W0 w' g (AA x k j n) bv vv ev := by
 have HPay : Hid (Calls Tryz.prog 116 #[.pointer (some ⟨g, 0, none⟩), .int .i64 k, .int .i64 j] w fun e w' => e = .returned (.tuple #[]) ∧ PE S W0 w' g (AF x k j) bv vv ev) := Rp g x bv vv ev w h k j hl hk hv hj hd (by rw [x.val_eq hj]; exact o0) (by rw [x.val_eq hj]; omega) b0 (by omega)
 have e1 := (Ky x k j).resolve_right (by omega)
 have e2 := JW x k j (by omega) (by omega)
 have e3 : (AF x k j).vals.length = x.vals.length := by simp [AF]
 have e4 : (AF x k j).pool = x.pool := rfl
 have hq : Af ((AF x k j).val j) n = Af (x.val j) n := by rw [e1]; rfl
 have hV1 : Dj ((AF x k j).val j) := by rw [e1]; exact ⟨hV.t0, hV.t1, hV.s0, hV.s1⟩
 have hs1 : ((AF x k j).val j).shares = (x.val j).shares := by rw [e1]
 have d0 := hd.due0
 have oo : -1000000000 <= ((AF x k j).val j).outs ∧ ((AF x k j).val j).outs <= 1000000000 := by rw [e1]; simp only; omega
 have kk : -1000000000 <= ((AF x k j).val j).comm ∧ ((AF x k j).val j).comm <= 1000000000 := by rw [e1]; simp only; omega
 obtain ⟨q0, q1⟩ := CO hV (show 0 <= n by omega) (show n <= (x.val j).shares by omega)
 have hxs := hV.s1
 have HJ : Hid (AA x k j n = if (x.val j).shares - n = 0 then BQ (AZ (AF x k j) k j n (Af (x.val j) n)) j else AZ (AF x k j) k j n (Af (x.val j) n)) := rfl
 rw [<- e4] at p0 p1
 rw [<- e2] at n2 s1
 rw [<- hs1] at s1 hxs HJ
 rw [<- hq] at HJ q0 q1 ⊢
 have qt : Af ((AF x k j).val j) n <= ((AF x k j).val j).tokens := by rw [e1] at *; exact q1
 clear h hd o0 o1 b0 b1 e1 hV k0 k1 q1 e4 hq hs1 e2 hdo d0
 generalize hxF : AA x k j n = xF at *
 clear hxF
 generalize AF x k j = x1 at *
 obtain ⟨t0, t1, u0, u1⟩ := id hV1
 go_enter Tryz.func113, Tryz.ntmps113
 go_wp2_with fail
 refine HPay.out.mono ?_
 rintro e w1 ⟨rfl, hP⟩
 clear HPay
 obtain ⟨va, vc, rfl⟩ := Ac hP.v
 have hj1 : j < x1.vals.length := by omega
 obtain ⟨gv, rfl, hcell, hfr⟩ := hP.val8 rfl hj1
 have c7 : w1.cell? ⟨g, 7, none⟩ = some (.slice (some ⟨gv, 0, none⟩) x1.vals.length vc) := hP.L.cell 7
 have y0 := hcell 0 (by omega)
 have y1 := hcell 1 (by omega)
 have y2 := hcell 2 (by omega)
 have y3 := hcell 3 (by omega)
 have y4 := hcell 4 (by omega)
 have y5 := hcell 5 (by omega)
 have y6 := hcell 6 (by omega)
 have y7 := hcell 7 (by omega)
 rw [x1.val_eq hj1] at y0 y1 y2 y3 y4 y5 y6 y7
 simp only [VS.cells, List.getElem?_cons_succ, List.getElem?_cons_zero, Nat.add_zero] at y0 y1 y2 y3 y4 y5 y6 y7
 have HS : Hid (∀ u, Calls Tryz.prog 150 #[.agg #[.int .i64 (x1.val j).owner, .int .i64 (x1.val j).rate, .int .i64 (x1.val j).tokens, .int .i64 (x1.val j).shares, .int .i64 (x1.val j).comm, .int .i64 (x1.val j).outs, .bool (x1.val j).jailed, .bool (x1.val j).inset], .int .i64 n] u fun e w' => e = .returned (.int .i64 (Af (x1.val j) n)) ∧ Below u.heap.size u w') := fun u => FC (x1.val j) n u hV1 (by omega) (by omega)
 have HP := Hd hP
 have HV : Hid (x1.vals[j] = x1.val j) := x1.val_eq hj1
 have HG : Hid ((AZ x1 k j n (Af (x1.val j) n)).val j = { x1.val j with tokens := (x1.val j).tokens - Af (x1.val j) n, shares := (x1.val j).shares - n }) := Oh x1 k j n _ hj1
 clear hP hcell hfr hV1
 generalize hvv : x1.val j = v at *
 have HVV := Hd hvv
 clear hvv
 generalize hbb : Af v n = b at *
 have HBB := Hd hbb
 clear hbb
 go_wp2_with fail
 refine (HS.out _).mono ?_
 rintro e w2 ⟨rfl, hb2⟩
 have hP := HP.out.below hb2
 clear HP HS hb2 y0 y1 y2 y3 y4 y5 y6 y7 c7
 obtain ⟨gv', he, hcell, hfr⟩ := hP.val8 rfl hj1
 simp only [Option.some.injEq, Addr.mk.injEq, and_true] at he
 subst he
 have c7 : w2.cell? ⟨g, 7, none⟩ = some (.slice (some ⟨gv, 0, none⟩) x1.vals.length vc) := hP.L.cell 7
 have hgne : g ≠ gv := fun e => Has.apart hP.L hP.v (by decide) (by rw [e]; rfl)
 have hgne' : gv ≠ g := fun e => hgne e.symm
 have y2 := hcell 2 (by omega)
 have y3 := hcell 3 (by omega)
 have f2 := hfr (j * 8 + 2)
 have f3 := hfr (j * 8 + 3)
 rw [HV.out] at y2 y3
 simp only [VS.cells, List.getElem?_cons_succ, List.getElem?_cons_zero] at y2 y3
 have hkj : k * 5 + j < 65 := by omega
 have sc := hP.shAt (k := k) (j := j) (by omega) (by omega)
 have fs := hP.L.frozen (8 + k * 5 + j)
 have hP2 := hP.setVal rfl (j * 8 + 2) (.int .i64 (v.tokens - b)) (vals' := x1.vals.modify j (fun v => { v with tokens := v.tokens - b })) (Bk x1.vals j hj1 2 _ _ (by rw [HV.out]; rfl) (by omega)) (by simp)
 have hj2 : j < (x1.vals.modify j (fun v => { v with tokens := v.tokens - b })).length := by simpa using hj1
 have hP3 := hP2.setVal (by simp) (j * 8 + 3) (.int .i64 (v.shares - n)) (vals' := (x1.vals.modify j (fun v => { v with tokens := v.tokens - b })).modify j (fun v => { v with shares := v.shares - n })) (Bk _ j hj2 3 _ _ (by simp [HV.out, VS.cells]) (by omega)) (by simp)
 have hP4 := hP3.setTab (k * 5 + j) (x1.sh k j - n) hkj
 rw [<- Nat.add_assoc] at hP4
 have HP4 : Hid (PE S W0 (((w2.setCell ⟨gv, j * 8 + 2, none⟩ (.int .i64 (v.tokens - b))).setCell ⟨gv, j * 8 + 3, none⟩ (.int .i64 (v.shares - n))).setCell ⟨g, 8 + k * 5 + j, none⟩ (.int .i64 (x1.sh k j - n))) g (AZ x1 k j n b) bv (.slice (some ⟨gv, 0, none⟩) x1.vals.length vc) ev) := hP4
 have hgl : (AZ x1 k j n b).vals.length = x1.vals.length := by simp [AZ]
 have HCl : Hid (∀ u, PE S W0 u g (AZ x1 k j n b) bv (.slice (some ⟨gv, 0, none⟩) x1.vals.length vc) ev -> Calls Tryz.prog 151 #[.pointer (some ⟨g, 0, none⟩), .int .i64 j] u fun e w' => e = .returned (.tuple #[]) ∧ PE S W0 w' g (BQ (AZ x1 k j n b) j) bv (.slice (some ⟨gv, 0, none⟩) x1.vals.length vc) ev) := fun u hu => R7 g _ _ _ _ u hu j (by omega) (by omega) (by show -1000000000 <= x1.pool; omega) (by show x1.pool <= 1000000000; omega) (by rw [HG.out]; exact kk.1) (by rw [HG.out]; exact kk.2) (by rw [HG.out]; exact oo.1) (by rw [HG.out]; exact oo.2)
 clear hP hP2 hP3 hP4 hcell hfr HV hj2 HG kk oo hgl
 generalize hsh : x1.sh k j = s at *
 clear hsh
 by_cases hz : v.shares - n = 0
 ·have hz' : (v.shares - n == 0) = true := by simp [hz]
  have HJ2 : Hid (xF = BQ (AZ x1 k j n b) j) := by rw [HJ.out, if_pos hz]; exact rfl
  clear HJ hz
  go_wp2_with fail
  all_goals try go_region
  all_goals try go_wp2_with fail
  refine (HCl.out _ HP4.out.drew).mono ?_
  rintro e w5 ⟨rfl, hP5⟩
  have HF : Hid (PE S W0 w5 g xF bv (.slice (some ⟨gv, 0, none⟩) x1.vals.length vc) ev) := by rw [HJ2.out]; exact hP5
  clear hP5 HCl HP4 HJ2
  go_wp2
  go_ret
  refine ⟨?_, HF.out⟩
  rw [HVV.out, HBB.out]
  exact rfl
 ·have hz' : (v.shares - n == 0) = false := by simp [hz]
  have HF : Hid (PE S W0 (((w2.setCell ⟨gv, j * 8 + 2, none⟩ (.int .i64 (v.tokens - b))).setCell ⟨gv, j * 8 + 3, none⟩ (.int .i64 (v.shares - n))).setCell ⟨g, 8 + k * 5 + j, none⟩ (.int .i64 (s - n))) g xF bv (.slice (some ⟨gv, 0, none⟩) x1.vals.length vc) ev) := by rw [HJ.out, if_neg hz]; exact HP4.out
  clear HJ hz HCl HP4
  go_wp2
  go_region
  go_wp2
  go_ret
  refine ⟨?_, HF.out.eta rfl rfl rfl rfl⟩
  rw [HVV.out, HBB.out]
  exact rfl
theorem PE.push {w v5 : World} {g : Nat} {bv vv ev ev' : Value} {o : ES} (h : PE S W0 w g x bv vv ev) (hg : w.grownBy v5 ev.ownBlock) (hown : v5.ownsRow 0 125 4 ev' (x.ents.length + 1) (Bi x.ents ++ o.cells)) (hev : ∀ k, ev'.ownBlock = some k -> ev.ownBlock = some k ∨ w.heap.size <= k) :
  Has v5 g 111 (eL x bv vv ev) ∧ PE S W0 (v5.setCell ⟨g, 73, none⟩ ev') g { x with ents := x.ents ++ [o] } bv vv ev' := by
 have hL := Ao hg h.L (Has.apart h.L h.e (by decide))
 have hb := h.b.kept hg (Ae h.b h.e (by decide))
 have hv := h.v.kept hg (Ae h.v h.e (by decide))
 have hk : Kp S W0 v5 := h.fr.trans ⟨hg.os, hg.tape, hg.output, hg.size, fun k hk hs => hg.block k hk (fun e => hs (h.se k e.symm))⟩
 refine ⟨hL, hk.setCell h.hg _, h.hS, h.hg, ?_, h.ht, Aa hb _ _ (fun e => Has.apart hL hb (by decide) e.symm), Aa hv _ _ (fun e => Has.apart hL hv (by decide) e.symm), ?_, h.sb, h.sv, fun k hk' => ?_⟩
 ·have := hL.set 73 ev'
  rw [Jt x bv vv ev ev' h.ht] at this
  exact this
 ·simp only [List.length_append, List.length_singleton]
  rw [Fr]
  exact Aa hown _ _ (fun e => Has.apart hL hown (by decide) e.symm)
 ·rcases hev k hk' with h1 | h1
  ·exact h.se k h1
  ·exact h.hS k (Nat.le_trans h.fr.size h1)
def ER (x : EC) (k j : Nat) (t : Int) : EC := if t < 1 then x else { x with ents := x.ents ++ [⟨k, j, x.height, t⟩] }
theorem MZ (g : Nat) (x : EC) (bv vv ev : Value) (w : World) (h : PE S W0 w g x bv vv ev) (k j : Nat) (t : Int) (hl : x.ents.length <= 100000) :
  Calls Tryz.prog 114 #[.pointer (some ⟨g, 0, none⟩), .int .i64 k, .int .i64 j, .int .i64 t] w fun e w' => e = .returned (.tuple #[]) ∧ ∃ ev', PE S W0 w' g (ER x k j t) bv vv ev' := by
 by_cases ht : t < 1
 ·have HP : Hid (PE S W0 w g (ER x k j t) bv vv ev) := by unfold ER; rw [if_pos ht]; exact h
  clear h
  go_enter Tryz.func114, Tryz.ntmps114
  go_wp2
  refine bodyPost_ret (results_none rfl _ _ _) rfl ?_
  exact ⟨rfl, ev, HP.out⟩
 have HQ : Hid (ER x k j t = { x with ents := x.ents ++ [⟨k, j, x.height, t⟩] }) := by unfold ER; rw [if_neg ht]; exact rfl
 obtain ⟨i5, hi5, hz50, hz51, hz52⟩ := info_parts EG
 obtain ⟨ea, ec, rfl⟩ := Ac h.e
 have c3 : w.cell? ⟨g, 3, none⟩ = some (.int .i64 x.height) := h.L.cell 3
 have c73 : w.cell? ⟨g, 73, none⟩ = some (.slice ea x.ents.length ec) := h.evAt
 have g1 := h.L.lt
 have g2 : g < w.heap.size + 1 := by omega
 have HP := Hd h
 clear h
 go_enter Tryz.func114, Tryz.ntmps114
 go_wp2_with fail
 go_region_law (refine AU rfl (.tmp 14) (.tmp 23) 87 rfl 125 i5 _ 4 32 Tryz.underlying87 hi5 hz50 hz51 hz52 rfl (by decide) 0 (.slice ea x.ents.length ec) x.ents.length (Bi x.ents) (by first | rfl | simp [Act.eval]) (HP.out.alloc _).e (Nat.zero_le _) ⟨_, 0, none⟩ 1 1 [.int .i64 k, .int .i64 j, .int .i64 x.height, .int .i64 t] (by first | rfl | simp [Act.eval]) (by rfl) (Ap _ [.int .i64 k, .int .i64 j, .int .i64 x.height, .int .i64 t] _ _ (by simp)) (by simp [Value.oneCell']) (by decide) (by simp [maxLen]; omega) (by omega) ?_; intro g5 cap5 v5 hown5 hgrow5 hor5 hold5; obtain ⟨hL5, hP5⟩ := ((HP.out.alloc _).drew).push (o := ⟨k, j, x.height, t⟩) hgrow5 hown5 (fun q hq => by simp only [Value.ownBlock, Option.some.injEq] at hq; rw [<- hq]; exact hor5); have c73' : v5.cell? ⟨g, 73, none⟩ = some (.slice ea x.ents.length ec) := (hL5.cell 73).trans (Pv _ _ _ _ HP.out.ht); have f73' := hL5.frozen 73; have HP5 : Hid _ := hP5; clear hP5 hown5 hgrow5 hold5 hL5)
 all_goals
  go_wp2
  go_end0
  rw [HQ.out]
  exact ⟨rfl, _, HP5.out⟩
structure Q0 (x : EC) (k j : Nat) : Prop where
 hl : x.bal.length <= 6
 hk : k < x.bal.length
 hv : x.vals.length <= 5
 hj : j < x.vals.length
 hV : Dj (x.val j)
 hd : Eo x k j
 o0 : 0 <= (x.val j).outs
 o1 : (x.val j).outs <= 1000000
 k0 : 0 <= (x.val j).comm
 k1 : (x.val j).comm <= 1000000
 b0 : 0 <= x.balAt k
 b1 : x.balAt k <= 1000000
 p0 : 0 <= x.pool
 p1 : x.pool <= 1000000
 s0 : 0 <= x.sh k j
 s1 : x.sh k j <= (x.val j).shares
 hdo : x.due k j <= 1000000
def FB (y : EC) (k j : Nat) (n : Int) : EC := ER (AA y k j n) k j (Af (y.val j) n)
def D8 (x : EC) (who val n : Int) : Int × EC := Gc x who (fun y k => Cj y k val n) (fun y k => FB y k val.toNat n)
theorem FY (h : Cj x k val n = 0) : ∃ j : Nat, val = j ∧ j < x.vals.length ∧ 1 <= n ∧ n <= x.sh k j ∧ AD x.ents k j < 4 := by
 unfold Cj at h
 split at h
 ·cases h
 ·rename_i h1
  obtain ⟨j, rfl, hj⟩ := Bn (show inB val x.vals.length = true by simpa using h1)
  rw [Int.toNat_natCast] at h
  split at h
  ·cases h
  ·split at h
   ·cases h
   ·rename_i h2 h3
    exact ⟨j, rfl, hj, by omega, by omega, by omega⟩
section
variable {S : Nat -> Prop} {W0 : World} (g : Nat) (x : EC) (bv vv ev : Value) (w : World) (h : PE S W0 w g x bv vv ev)
include h
theorem Ms (k j : Nat) (n : Int) (ok : Q0 x k j) (n1 : 1 <= n) (n2 : n <= x.sh k j) :
  Calls Tryz.prog 113 #[.pointer (some ⟨g, 0, none⟩), .int .i64 k, .int .i64 j, .int .i64 n] w fun e w' => e = .returned (.int .i64 (Af (x.val j) n)) ∧ PE S W0 w' g (AA x k j n) bv vv ev :=
 R5 g x bv vv ev w h k j n ok.hl ok.hk ok.hv ok.hj ok.hV ok.hd ok.o0 ok.o1 ok.k0 ok.k1 ok.b0 ok.b1 ok.p0 ok.p1 n1 n2 ok.s1 ok.hdo
theorem QQ (k j : Nat) (n : Int) (ha : CK x) (hc : Az x k = 0) (ok : Q0 (Ab x k) k j) (hE : x.ents.length <= 99999) (he : Cj (Ab x k) k j n = 0) (n1 : 1 <= n) (n2 : n <= x.sh k j) (hel : (AA (Ab x k) k j n).ents.length <= 100000) :
  Calls Tryz.prog 57 #[.pointer (some ⟨g, 0, none⟩), .int .i64 k, .int .i64 j, .int .i64 n] w fun e w' => e = .returned (.int .i64 0) ∧ ∃ ev', PE S W0 w' g (FB (Ab x k) k j n) bv vv ev' := by
 have HC : Hid (Calls Tryz.prog 105 #[.pointer (some ⟨g, 0, none⟩), .int .i64 k] w fun e w' => e = .returned (.int .i64 0) ∧ PE S W0 w' g (Ab x k) bv vv ev) := BH g x bv vv ev w h k ha hc
 have hk6 : k < 6 := Nat.lt_of_lt_of_le ok.hk ok.hl
 have HE : Hid (∀ w, PE S W0 w g (Ab x k) bv vv ev -> Calls Tryz.prog 112 #[.pointer (some ⟨g, 0, none⟩), .int .i64 k, .int .i64 j, .int .i64 n] w fun e w' => e = .returned (.int .i64 0) ∧ Below w.heap.size w w') := fun w hw => by
  have := Ge g (Ab x k) bv vv ev w hw k j n hk6 ok.hv (by show x.ents.length <= 100000; omega)
  rw [he] at this
  exact this
 have HL : Hid (∀ w, PE S W0 w g (Ab x k) bv vv ev -> Calls Tryz.prog 113 #[.pointer (some ⟨g, 0, none⟩), .int .i64 k, .int .i64 j, .int .i64 n] w fun e w' => e = .returned (.int .i64 (Af ((Ab x k).val j) n)) ∧ PE S W0 w' g (AA (Ab x k) k j n) bv vv ev) := fun w hw => Ms g _ _ _ _ w hw k j n ok n1 n2
 have HA : Hid (∀ w, PE S W0 w g (AA (Ab x k) k j n) bv vv ev -> Calls Tryz.prog 114 #[.pointer (some ⟨g, 0, none⟩), .int .i64 k, .int .i64 j, .int .i64 (Af ((Ab x k).val j) n)] w fun e w' => e = .returned (.tuple #[]) ∧ ∃ ev', PE S W0 w' g (FB (Ab x k) k j n) bv vv ev') := fun w hw => MZ g _ _ _ _ w hw k j _ hel
 clear h ok he hel
 generalize Af ((Ab x k).val j) n = tk at *
 go_enter Tryz.func57, Tryz.ntmps57
 go_wp2_with fail
 refine HC.out.mono ?_
 rintro e w1 ⟨rfl, hP⟩
 have HP := Hd hP
 clear hP HC
 go_wp2_with fail
 refine (HE.out _ HP.out).mono ?_
 rintro e w2 ⟨rfl, hb⟩
 have HP2 : Hid (PE S W0 w2 g (Ab x k) bv vv ev) := HP.out.below hb
 clear hb HP HE
 go_wp2_with fail
 refine (HL.out _ HP2.out).mono ?_
 rintro e w3 ⟨rfl, hP3⟩
 have HP3 := Hd hP3
 clear hP3 HP2 HL
 go_wp2_with fail
 refine (HA.out _ HP3.out).mono ?_
 rintro e w4 ⟨rfl, hP4⟩
 have HP4 : Hid (∃ ev', PE S W0 w4 g (FB (Ab x k) k j n) bv vv ev') := hP4
 clear hP4 HP3 HA
 go_wp2
 go_ret
 exact ⟨rfl, HP4.out⟩
end
def Ig (y : EC) (k j t : Nat) (n : Int) : EC := AV (AA y k j n) k t (Af (y.val j) n)
def D7 (x : EC) (who val dst n : Int) : Int × EC := Gc x who (fun y k => BP y k val dst n) (fun y k => Ig y k val.toNat dst.toNat n)
theorem F6 {dst : Int} (h : BP x k val dst n = 0) : ∃ j t : Nat, val = j ∧ dst = t ∧ j < x.vals.length ∧ t < x.vals.length ∧ t ≠ j ∧ 1 <= n ∧ n <= x.sh k j ∧ 1 <= Af (x.val j) n ∧ AX (x.val t) (Af (x.val j) n) = 0 := by
 unfold BP at h
 split at h
 ·cases h
 ·rename_i h1
  obtain ⟨j, rfl, hj⟩ := Bn (show inB val x.vals.length = true by simpa using h1)
  split at h
  ·cases h
  ·rename_i h2
   obtain ⟨t, rfl, ht⟩ := Bn (show inB dst x.vals.length = true by
    cases hh : inB dst x.vals.length with
    | true => rfl
    | false => exact absurd (.inl hh) h2)
   rw [Int.toNat_natCast, Int.toNat_natCast] at h
   split at h
   ·cases h
   ·split at h
    ·cases h
    ·rename_i h3 h4
     exact ⟨j, t, rfl, rfl, hj, ht, fun e => h2 (.inr (by rw [e])), by omega, by omega, by omega, h⟩
structure Rw (x : EC) (k j : Nat) : Prop where
 hl : x.bal.length <= 6
 hk : k < x.bal.length
 hv : x.vals.length <= 5
 hj : j < x.vals.length
 hV : Dj (x.val j)
 hd : Eo x k j
 o0 : 0 <= (x.val j).outs
 o1 : (x.val j).outs <= 1000000000
 b0 : 0 <= x.balAt k
 b1 : x.balAt k <= 1000000000
 s0 : 0 <= x.sh k j
 s1 : x.sh k j <= 1000000
section
variable {S : Nat -> Prop} {W0 : World} (g : Nat) (x : EC) (bv vv ev : Value) (w : World) (h : PE S W0 w g x bv vv ev)
include h
theorem R0 (k j : Nat) (a : Int) (ok : Rw x k j) (a1 : 1 <= a) (a2 : a <= 1000000) :
  Calls Tryz.prog 111 #[.pointer (some ⟨g, 0, none⟩), .int .i64 k, .int .i64 j, .int .i64 a] w fun e w' => e = .returned (.tuple #[]) ∧ PE S W0 w' g (AV x k j a) bv vv ev :=
 Rg g x bv vv ev w h k j a ok.hl ok.hk ok.hv ok.hj ok.hV ok.hd ok.o0 ok.o1 ok.b0 ok.b1 ok.s0 ok.s1 a1 a2
theorem SG (k j t : Nat) (n : Int) (ha : CK x) (hc : Az x k = 0) (ok : Q0 (Ab x k) k j) (hV : ∀ i, i < (Ab x k).vals.length -> Dj ((Ab x k).val i)) (hs : ∀ i, i < (Ab x k).vals.length -> (Ab x k).sh k i <= ((Ab x k).val i).shares) (he : BP (Ab x k) k j t n = 0) (n1 : 1 <= n) (n2 : n <= x.sh k j) (t1 : 1 <= Af ((Ab x k).val j) n) (t2 : Af ((Ab x k).val j) n <= 1000000) (jo : Rw (AA (Ab x k) k j n) k t) :
  Calls Tryz.prog 58 #[.pointer (some ⟨g, 0, none⟩), .int .i64 k, .int .i64 j, .int .i64 t, .int .i64 n] w fun e w' => e = .returned (.int .i64 0) ∧ PE S W0 w' g (Ig (Ab x k) k j t n) bv vv ev := by
 have HC : Hid (Calls Tryz.prog 105 #[.pointer (some ⟨g, 0, none⟩), .int .i64 k] w fun e w' => e = .returned (.int .i64 0) ∧ PE S W0 w' g (Ab x k) bv vv ev) := BH g x bv vv ev w h k ha hc
 have hk6 : k < 6 := Nat.lt_of_lt_of_le ok.hk ok.hl
 have HE : Hid (∀ w, PE S W0 w g (Ab x k) bv vv ev -> Calls Tryz.prog 115 #[.pointer (some ⟨g, 0, none⟩), .int .i64 k, .int .i64 j, .int .i64 t, .int .i64 n] w fun e w' => e = .returned (.int .i64 0) ∧ Below w.heap.size w w') := fun w hw => by
  have := Ih g (Ab x k) bv vv ev w hw k j t n hk6 ok.hv hV hs
  rw [he] at this
  exact this
 have HL : Hid (∀ w, PE S W0 w g (Ab x k) bv vv ev -> Calls Tryz.prog 113 #[.pointer (some ⟨g, 0, none⟩), .int .i64 k, .int .i64 j, .int .i64 n] w fun e w' => e = .returned (.int .i64 (Af ((Ab x k).val j) n)) ∧ PE S W0 w' g (AA (Ab x k) k j n) bv vv ev) := fun w hw => Ms g _ _ _ _ w hw k j n ok n1 n2
 have HA : Hid (∀ w, PE S W0 w g (AA (Ab x k) k j n) bv vv ev -> Calls Tryz.prog 111 #[.pointer (some ⟨g, 0, none⟩), .int .i64 k, .int .i64 t, .int .i64 (Af ((Ab x k).val j) n)] w fun e w' => e = .returned (.tuple #[]) ∧ PE S W0 w' g (Ig (Ab x k) k j t n) bv vv ev) := fun w hw => R0 g _ _ _ _ w hw k t _ jo t1 t2
 clear h ok he jo hV hs
 generalize Af ((Ab x k).val j) n = tk at *
 go_enter Tryz.func58, Tryz.ntmps58
 go_wp2_with fail
 refine HC.out.mono ?_
 rintro e w1 ⟨rfl, hP⟩
 have HP := Hd hP
 clear hP HC
 go_wp2_with fail
 refine (HE.out _ HP.out).mono ?_
 rintro e w2 ⟨rfl, hb⟩
 have HP2 : Hid (PE S W0 w2 g (Ab x k) bv vv ev) := HP.out.below hb
 clear hb HP HE
 go_wp2_with fail
 refine (HL.out _ HP2.out).mono ?_
 rintro e w3 ⟨rfl, hP3⟩
 have HP3 := Hd hP3
 clear hP3 HP2 HL
 go_wp2_with fail
 refine (HA.out _ HP3.out).mono ?_
 rintro e w4 ⟨rfl, hP4⟩
 have HP4 : Hid (PE S W0 w4 g (Ig (Ab x k) k j t n) bv vv ev) := hP4
 clear hP4 HP3 HA
 go_wp2
 go_ret
 exact ⟨rfl, HP4.out⟩
end
def Ce (x : EC) (k j : Nat) : EC := { x with bal := x.bal.set k (x.balAt k + (x.val j).comm), vals := (x.vals.modify j (fun v => { v with outs := v.outs - v.comm })).modify j (fun v => { v with comm := 0 }) }
def CH (x : EC) (who val : Int) : Int × EC := Gc x who (fun y k => BN y k val) (fun y k => Ce y k val.toNat)
theorem FT {who : Int} (h : BN x who val = 0) : ∃ j : Nat, val = j ∧ j < x.vals.length ∧ (x.val j).owner = who := by
 unfold BN at h
 split at h
 ·cases h
 ·rename_i h1
  obtain ⟨j, rfl, hj⟩ := Bn (show inB val x.vals.length = true by simpa using h1)
  rw [Int.toNat_natCast] at h
  split at h
  ·rename_i h2; exact ⟨j, rfl, hj, h2⟩
  ·cases h
section
variable {S : Nat -> Prop} {W0 : World} (g : Nat) (x : EC) (bv vv ev : Value) (w : World) (h : PE S W0 w g x bv vv ev)
include h
theorem PM (k j : Nat) (hl : x.bal.length <= 6) (hk : k < x.bal.length) (hv : x.vals.length <= 5) (hj : j < x.vals.length) (k0 : 0 <= (x.val j).comm) (k1 : (x.val j).comm <= 1000000000) (o0 : 0 <= (x.val j).outs) (o1 : (x.val j).outs <= 1000000000) (b0 : 0 <= x.balAt k) (b1 : x.balAt k <= 1000000000) :
  Calls Tryz.prog 118 #[.pointer (some ⟨g, 0, none⟩), .int .i64 k, .int .i64 j] w fun e w' => e = .returned (.tuple #[]) ∧ PE S W0 w' g (Ce x k j) bv vv ev := by
 obtain ⟨ba, bc, rfl⟩ := Ac h.b
 obtain ⟨gb, rfl, _⟩ := Ag h.b (by omega)
 obtain ⟨va, vc, rfl⟩ := Ac h.v
 obtain ⟨gv, rfl, hcell, hfr⟩ := h.val8 rfl hj
 have c4 : w.cell? ⟨g, 4, none⟩ = some (.slice (some ⟨gb, 0, none⟩) x.bal.length bc) := h.L.cell 4
 have c7 : w.cell? ⟨g, 7, none⟩ = some (.slice (some ⟨gv, 0, none⟩) x.vals.length vc) := h.L.cell 7
 have cb := h.balAt' hk
 have fb := h.b.frozenAt k
 have y4 := hcell 4 (by omega)
 have y5 := hcell 5 (by omega)
 have f4 := hfr (j * 8 + 4)
 have f5 := hfr (j * 8 + 5)
 rw [x.val_eq hj] at y4 y5
 simp only [VS.cells, List.getElem?_cons_succ, List.getElem?_cons_zero] at y4 y5
 have n1 : g ≠ gb := fun e => Has.apart h.L h.b (by decide) (by rw [e]; rfl)
 have n2 : gb ≠ g := fun e => n1 e.symm
 have n3 : g ≠ gv := fun e => Has.apart h.L h.v (by decide) (by rw [e]; rfl)
 have n4 : gv ≠ g := fun e => n3 e.symm
 have n5 : gb ≠ gv := fun e => Bd h.b h.v (by decide) (by rw [<- e]; rfl)
 have n6 : gv ≠ gb := fun e => n5 e.symm
 have hP1 := h.setBal rfl k (x.balAt k + (x.val j).comm)
 have hP2 := hP1.setVal rfl (j * 8 + 5) (.int .i64 ((x.val j).outs - (x.val j).comm)) (vals' := x.vals.modify j (fun v => { v with outs := v.outs - v.comm })) (Bk x.vals j hj 5 _ _ (by rw [x.val_eq hj]; rfl) (by omega)) (by simp)
 have hj2 : j < (x.vals.modify j (fun v => { v with outs := v.outs - v.comm })).length := by simpa using hj
 have hP3 := hP2.setVal (by simp) (j * 8 + 4) (.int .i64 0) (vals' := (x.vals.modify j (fun v => { v with outs := v.outs - v.comm })).modify j (fun v => { v with comm := 0 })) (Bk _ j hj2 4 _ _ (by simp [VS.cells]) (by omega)) (by simp)
 have HF : Hid (PE S W0 (((w.setCell ⟨gb, k, none⟩ (.int .i64 (x.balAt k + (x.val j).comm))).setCell ⟨gv, j * 8 + 5, none⟩ (.int .i64 ((x.val j).outs - (x.val j).comm))).setCell ⟨gv, j * 8 + 4, none⟩ (.int .i64 0)) g (Ce x k j) (.slice (some ⟨gb, 0, none⟩) x.bal.length bc) (.slice (some ⟨gv, 0, none⟩) x.vals.length vc) ev) := hP3
 clear h hP1 hP2 hP3 hcell hfr hj2
 generalize (x.val j).comm = cm at *
 generalize (x.val j).outs = ou at *
 generalize x.balAt k = y at *
 go_enter Tryz.func118, Tryz.ntmps118
 go_wp2
 go_region
 go_wp2
 try go_region
 try go_wp2
 go_end0
 exact ⟨rfl, HF.out.eta rfl rfl rfl rfl⟩
end
def e0 : ES := ⟨0, 0, 0, 0⟩
def Au (x : EC) : Nat -> List Int × List ES
 | 0 => (x.bal, [])
 | k + 1 => if (x.ents.getD k e0).made + x.mature = x.height then ((Au x k).1.set (x.ents.getD k e0).who.toNat ((Au x k).1.getD (x.ents.getD k e0).who.toNat 0 + (x.ents.getD k e0).amount), (Au x k).2) else ((Au x k).1, (Au x k).2 ++ [x.ents.getD k e0])
def Ba (x : EC) : EC := { x with bal := (Au x x.ents.length).1, ents := (Au x x.ents.length).2 }
theorem Cz (x : EC) (k : Nat) : (Au x k).1.length = x.bal.length := by
 induction k with
 | zero => rfl
 | succ k ih => unfold Au; split <;> simp [ih]
theorem Hi (x : EC) (k : Nat) : (Au x k).2.length <= k := by
 induction k with
 | zero => simp [Au]
 | succ k ih => unfold Au; split <;> simp <;> omega
structure PF (x : EC) : Prop where
 l : x.ents.length <= 100000
 h0 : 0 <= x.height
 h1 : x.height <= 1000000
 m0 : 0 <= x.mature
 m1 : x.mature <= 1000000
 e : ∀ k (hk : k < x.ents.length), (∃ i : Nat, x.ents[k].who = i ∧ i < x.bal.length) ∧ 0 <= x.ents[k].made ∧ x.ents[k].made <= 1000000 ∧ 0 <= x.ents[k].amount ∧ x.ents[k].amount <= 1000000
 b : ∀ k, k <= x.ents.length -> ∀ i, i < x.bal.length -> 0 <= (Au x k).1.getD i 0 ∧ (Au x k).1.getD i 0 <= 1000000000
theorem KY (g : Nat) (x : EC) (bv vv ev : Value) (w : World) (h : PE S W0 w g x bv vv ev) (ok : PF x) :
  Calls Tryz.prog 108 #[.pointer (some ⟨g, 0, none⟩)] w fun e w' => e = .returned (.tuple #[]) ∧ ∃ ev', PE S W0 w' g (Ba x) bv vv ev' := by
 obtain ⟨i5, hi5, hz50, hz51, hz52⟩ := info_parts EG
 obtain ⟨ba, bc, rfl⟩ := Ac h.b
 obtain ⟨ea, ec, rfl⟩ := Ac h.e
 have c73 : w.cell? ⟨g, 73, none⟩ = some (.slice ea x.ents.length ec) := h.evAt
 have hel := ok.l
 have HP := Hd h
 have HO := Hd h.ownlt
 have HS : Hid (∀ b, w.heap.size <= b -> S b) := fun b hb => h.hS b (Nat.le_trans h.fr.size hb)
 have HK := Hd ok
 have HQ : Hid (Ba x = { x with bal := (Au x x.ents.length).1, ents := (Au x x.ents.length).2 }) := rfl
 clear h ok
 go_enter Tryz.func108, Tryz.ntmps108
 go_wp2
 go_loopw [2, 10] (fun st i wr => ∃ k : Nat, k <= x.ents.length ∧ i = .int .i64 k ∧ w.heap.size <= wr.heap.size ∧ wr.ownsRow w.heap.size 125 4 st (Au x k).2.length (Bi (Au x k).2) ∧ PE S W0 wr g { x with bal := (Au x k).1 } (.slice ba x.bal.length bc) vv (.slice ea x.ents.length ec)) (fun _ i _ => x.ents.length - (intOf i).toNat)
 case atStart => exact ⟨0, Nat.zero_le _, rfl, Nat.le_refl _, World.ownsRow_nil _ _ _ _, HP.out⟩
 case round =>
  clear HP c73
  obtain ⟨k, hk, rfl, hsz, hst, hP⟩ := hrel
  obtain ⟨sa, sc, rfl⟩ := Ac hst
  by_cases hlt : k < x.ents.length
  ·have hwl := Hi x k
   obtain ⟨⟨i, hwi, hi⟩, md0, md1, am0, am1⟩ := HK.out.e k hlt
   obtain ⟨bb0, bb1⟩ := HK.out.b k hk i hi
   have c1 : wr.cell? ⟨g, 1, none⟩ = some (.int .i64 x.mature) := hP.L.cell 1
   have c3 : wr.cell? ⟨g, 3, none⟩ = some (.int .i64 x.height) := hP.L.cell 3
   have c4 : wr.cell? ⟨g, 4, none⟩ = some (.slice ba x.bal.length bc) := hP.L.cell 4
   have hE : wr.ownsRow 0 125 4 (.slice ea x.ents.length ec) x.ents.length (Bi x.ents) := hP.e
   obtain ⟨ge, rfl, _⟩ := Ag hE (by omega)
   have z0 : wr.cell? ⟨ge, k * 4, none⟩ = some (.int .i64 x.ents[k].who) := (hE.cellAt (k * 4) (by omega)).trans (AC x.ents k hlt 0 (by omega))
   have z1 : wr.cell? ⟨ge, k * 4 + 1, none⟩ = some (.int .i64 x.ents[k].val) := (hE.cellAt (k * 4 + 1) (by omega)).trans (AC x.ents k hlt 1 (by omega))
   have z2 : wr.cell? ⟨ge, k * 4 + 2, none⟩ = some (.int .i64 x.ents[k].made) := (hE.cellAt (k * 4 + 2) (by omega)).trans (AC x.ents k hlt 2 (by omega))
   have z3 : wr.cell? ⟨ge, k * 4 + 3, none⟩ = some (.int .i64 x.ents[k].amount) := (hE.cellAt (k * 4 + 3) (by omega)).trans (AC x.ents k hlt 3 (by omega))
   have egd : x.ents.getD k e0 = x.ents[k] := by simp [hlt]
   have hbl := Cz x k
   have hbrow : wr.ownsRow 0 3 1 (.slice ba x.bal.length bc) (Au x k).1.length (Ai (Au x k).1) := hP.b
   rw [hbl] at hbrow
   obtain ⟨gb, rfl, _⟩ := Ag hbrow (by omega)
   have cb : wr.cell? ⟨gb, i, none⟩ = some (.int .i64 ((Au x k).1.getD i 0)) := hP.balAt' (k := i) (by show i < (Au x k).1.length; omega)
   have fb := hbrow.frozenAt i
   have g1 := hP.L.lt
   have g2 : gb < wr.heap.size := (hP.b.lt gb rfl).2
   have g3 : ge < wr.heap.size := (hP.e.lt ge rfl).2
   have n1 : g ≠ gb := fun e => Has.apart hP.L hP.b (by decide) (by rw [e]; rfl)
   have n2 : gb ≠ g := fun e => n1 e.symm
   have hmat0 := HK.out.m0
   have hmat1 := HK.out.m1
   have hh0 := HK.out.h0
   have hh1 := HK.out.h1
   have hgb : gb < w.heap.size := HO.out gb (.inr (.inl rfl))
   have HST := Hd hst
   by_cases hm : x.ents[k].made + x.mature = x.height
   ·have HL : Hid (Au x (k + 1) = ((Au x k).1.set i ((Au x k).1.getD i 0 + x.ents[k].amount), (Au x k).2)) := by
     show (if (x.ents.getD k e0).made + x.mature = x.height then _ else _) = _
     rw [egd, if_pos hm, hwi, Int.toNat_natCast]
    have hPs := fun o n => (((hP.alloc o).drewN n).setBal (by show x.bal.length = (Au x k).1.length; omega) i ((Au x k).1.getD i 0 + x.ents[k].amount))
    have HPs := Hd hPs
    have hRs := fun (o : Obj) (n : Nat) => Aa (w := (wr.alloc o).drewN n) (p := ⟨gb, i, none⟩) (u := .int .i64 ((Au x k).1.getD i 0 + x.ents[k].amount)) ((hst.alloc o)) (fun e => by have := (hst.lt gb e).1; omega)
    have HRs := Hd hRs
    have hZs := fun (o : Obj) (n : Nat) => (show w.heap.size <= (((wr.alloc o).drewN n).setCell ⟨gb, i, none⟩ (.int .i64 ((Au x k).1.getD i 0 + x.ents[k].amount))).heap.size by rw [FJ]; show w.heap.size <= (wr.alloc o).heap.size; rw [World.size_alloc]; omega)
    have HZs := Hd hZs
    clear hZs
    have e1 : (x.ents[k].made + x.mature == x.height) = true := by simp [hm]
    rw [hwi] at z0
    clear hP hst hPs hRs HST HQ HK hE hbrow hwi egd hm HO HS
    generalize hb0 : (Au x k).1.getD i 0 = b at *
    clear hb0
    generalize x.ents[k].val = evl at *
    generalize x.ents[k].made = emd at *
    generalize x.ents[k].amount = eam at *
    go_wp2
    go_quiet (fail)
    go_wp2
    go_region
    go_wp2
    refine And.intro ?_ ?_
    ·have hl := HL.out
     first
      | exact ⟨k + 1, by omega, by go_num, HZs.out _ 0, by rw [hl]; exact HRs.out _ 0, by rw [hl]; exact (HPs.out _ 0).eta rfl rfl rfl rfl⟩
      | ((repeat apply Exists.intro); exact ⟨⟨k + 1, by omega, by go_num, HZs.out _ 0, by rw [hl]; exact HRs.out _ 0, by rw [hl]; exact (HPs.out _ 0).eta rfl rfl rfl rfl⟩, rfl⟩)
    ·simp [intOf]; omega
   ·have HL : Hid (Au x (k + 1) = ((Au x k).1, (Au x k).2 ++ [x.ents[k]])) := by
     show (if (x.ents.getD k e0).made + x.mature = x.height then _ else _) = _
     rw [egd, if_neg hm]
    have HP := Hd hP
    have HN : Hid (∀ b, (Value.slice sa (Au x k).2.length sc).ownBlock = some b -> w.heap.size <= b) := fun b hb => (hst.lt b hb).1
    have e1 : (x.ents[k].made + x.mature == x.height) = false := by simp [hm]
    have HC : Hid ([Value.int .i64 x.ents[k].who, .int .i64 x.ents[k].val, .int .i64 x.ents[k].made, .int .i64 x.ents[k].amount] = x.ents[k].cells) := rfl
    clear hP hst HQ HK hE hbrow hwi egd hm cb fb bb0 bb1 c4
    generalize x.ents[k] = en at *
    generalize hwn : (Au x k).2 = wt at *
    have HWN := Hd hwn
    clear hwn
    have hw1 : w.heap.size <= wr.heap.size + 1 + 1 := by omega
    go_wp2
    go_quiet (fail)
    go_wp2_with (at_builtin; go_loud (refine Ak rfl (.tmp 38) (.tmp 40) 87 rfl 125 i5 _ 4 32 Tryz.underlying87 hi5 hz50 hz51 hz52 rfl (by decide) w.heap.size _ wt.length (Bi wt) rfl ((HST.out.alloc _).alloc _) (by simp [World.drewN]; omega) ⟨_, 0, none⟩ 1 1 [.int .i64 en.who, .int .i64 en.val, .int .i64 en.made, .int .i64 en.amount] rfl (by rfl) (Ap _ [.int .i64 en.who, .int .i64 en.val, .int .i64 en.made, .int .i64 en.amount] _ _ (by simp [World.drewN])) (by simp [Value.oneCell']) (by decide) (by simp [maxLen]; omega) (by omega) ?_))
    intro g5 cap5 v5 hown5 hgrow5 hor5 hold5
    have hq := ((HP.out.alloc (.cells #[.int .i64 en.who, .int .i64 en.val, .int .i64 en.made, .int .i64 en.amount] 125)).drewN nq).alloc (.cells #[.int .i64 en.who, .int .i64 en.val, .int .i64 en.made, .int .i64 en.amount] 125)
    have HQ5 : Hid (PE S W0 v5 g { x with bal := (Au x k).1 } (.slice (some ⟨gb, 0, none⟩) x.bal.length bc) vv (.slice (some ⟨ge, 0, none⟩) x.ents.length ec)) := by
     have hkk := C7 hgrow5
     refine PE.kp (w := _) (hq.eta rfl rfl rfl rfl) hkk (fun b _ ho h => ?_) (fun b _ h => ?_)
     ·have h1 := HN.out b h.symm
      have h2 := HO.out b ho
      omega
     ·exact HS.out b (HN.out b h.symm)
    have HO5 : Hid (v5.ownsRow w.heap.size 125 4 (.slice (some ⟨g5, 0, none⟩) (wt.length + 1) cap5) (wt ++ [en]).length (Bi (wt ++ [en]))) := by
     rw [Fr, List.length_append]; exact hown5
    have HZ5 : Hid (w.heap.size <= v5.heap.size) := by
     have := hgrow5.size
     simp [World.drewN] at this
     exact (show w.heap.size <= v5.heap.size by omega)
    clear hown5 hgrow5 hor5 hold5 hq HP HST HN
    go_wp2
    refine And.intro ?_ ?_
    ·have hl := HL.out
     first
      | exact ⟨k + 1, by omega, by go_num, HZ5.out, by rw [hl]; exact HO5.out, by rw [hl]; exact HQ5.out⟩
      | ((repeat apply Exists.intro); exact ⟨⟨k + 1, by omega, by go_num, HZ5.out, by rw [hl]; exact HO5.out, by rw [hl]; exact HQ5.out⟩, rfl⟩)
    ·simp [intOf]; omega
  ·have ek : k = x.ents.length := by omega
   subst ek
   have c73' : wr.cell? ⟨g, 73, none⟩ = some (.slice ea x.ents.length ec) := hP.evAt
   have f73 := hP.L.frozen 73
   have HF : Hid (PE S W0 (wr.setCell ⟨g, 73, none⟩ (.slice sa (Au x x.ents.length).2.length sc)) g (Ba x) (.slice ba x.bal.length bc) vv (.slice sa (Au x x.ents.length).2.length sc)) := by
    rw [HQ.out]
    exact hP.setEv (ents' := (Au x x.ents.length).2) (Aj hst (Nat.zero_le _)) (fun b hb => HS.out b (hst.lt b hb).1)
   clear hP hst HQ HK
   go_wp2
   go_end0
   exact ⟨rfl, _, HF.out⟩
def BZ (x : EC) : Int × EC := if 1000 <= x.height then (14, x) else (0, DC (Ba (upF x)))
section
variable {S : Nat -> Prop} {W0 : World} (g : Nat) (x : EC) (bv vv ev : Value) (w : World) (h : PE S W0 w g x bv vv ev)
include h
theorem Sa (hv : x.vals.length <= 5) (hF : Hb x) (hh0 : 0 <= x.height) (ht0 : 0 <= (Ba (upF x)).top) (ht1 : (Ba (upF x)).top <= 1000) (hv3 : (Ba (upF x)).vals.length <= 1000) (hhs : (BR x).height = x.height) (hE : x.height < 1000 -> PF (upF x)) :
  Calls Tryz.prog 55 #[.pointer (some ⟨g, 0, none⟩)] w fun e w' => e = .returned (.int .i64 (BZ x).1) ∧ ∃ ev', PE S W0 w' g (BZ x).2 bv vv ev' := by
 by_cases hh : 1000 <= x.height
 ·have e1 : BZ x = (14, x) := by unfold BZ; rw [if_pos hh]
  rw [e1]
  have c3 : w.cell? ⟨g, 3, none⟩ = some (.int .i64 x.height) := h.L.cell 3
  have HP := Hd h
  clear h e1
  go_enter Tryz.func55, Tryz.ntmps55
  go_wp2
  go_ret
  exact ⟨rfl, ev, HP.out⟩
 ·have e1 : BZ x = (0, DC (Ba (upF x))) := by unfold BZ; rw [if_neg hh]
  rw [e1]
  refine (RN g x (Ba (upF x)) bv vv ev w h hv hF hh0 (by omega) ht0 ht1 hv3 hhs (fun _ => True) (fun w1 h1 => (KY g (upF x) bv vv ev w1 h1 (hE (by omega))).mono ?_)).mono ?_
  ·rintro e w2 ⟨rfl, ev', h2⟩
   exact ⟨rfl, ev', trivial, h2⟩
  ·rintro e w2 ⟨rfl, ev', _, h2⟩
   exact ⟨rfl, ev', h2⟩
theorem PQ (k j : Nat) (ha : CK x) (hc : Az x k = 0) (he : BN (Ab x k) k j = 0) (hl : x.bal.length <= 6) (hk : k < x.bal.length) (hv : x.vals.length <= 5) (hj : j < x.vals.length) (k0 : 0 <= (x.val j).comm) (k1 : (x.val j).comm <= 1000000000) (o0 : 0 <= (x.val j).outs) (o1 : (x.val j).outs <= 1000000000) (b0 : 0 <= (Ab x k).balAt k) (b1 : (Ab x k).balAt k <= 1000000000) :
  Calls Tryz.prog 60 #[.pointer (some ⟨g, 0, none⟩), .int .i64 k, .int .i64 j] w fun e w' => e = .returned (.int .i64 0) ∧ PE S W0 w' g (Ce (Ab x k) k j) bv vv ev := by
 have HC : Hid (Calls Tryz.prog 105 #[.pointer (some ⟨g, 0, none⟩), .int .i64 k] w fun e w' => e = .returned (.int .i64 0) ∧ PE S W0 w' g (Ab x k) bv vv ev) := BH g x bv vv ev w h k ha hc
 have HE : Hid (∀ w, PE S W0 w g (Ab x k) bv vv ev -> Calls Tryz.prog 117 #[.pointer (some ⟨g, 0, none⟩), .int .i64 k, .int .i64 j] w fun e w' => e = .returned (.int .i64 0) ∧ w = w') := fun w hw => by
  have := E6 g (Ab x k) bv vv ev w hw k j hv
  rw [he] at this
  exact this
 have HA : Hid (∀ w, PE S W0 w g (Ab x k) bv vv ev -> Calls Tryz.prog 118 #[.pointer (some ⟨g, 0, none⟩), .int .i64 k, .int .i64 j] w fun e w' => e = .returned (.tuple #[]) ∧ PE S W0 w' g (Ce (Ab x k) k j) bv vv ev) := fun w hw => PM g _ _ _ _ w hw k j (by simp only [Ab, List.length_set]; exact hl) (by simp only [Ab, List.length_set]; exact hk) hv hj k0 k1 o0 o1 b0 b1
 clear h he
 go_enter Tryz.func60, Tryz.ntmps60
 go_wp2_with fail
 refine HC.out.mono ?_
 rintro e w1 ⟨rfl, hP⟩
 have HP := Hd hP
 clear hP HC
 go_wp2_with fail
 refine (HE.out _ HP.out).mono ?_
 rintro e w2 ⟨rfl, rfl⟩
 clear HE
 go_wp2_with fail
 refine (HA.out _ HP.out).mono ?_
 rintro e w3 ⟨rfl, hP3⟩
 have HP3 := Hd hP3
 clear hP3 HP HA
 go_wp2
 go_ret
 exact ⟨rfl, HP3.out⟩
theorem RZ (dst a : Int) (ha : CK x) :
  Calls Tryz.prog 54 #[.pointer (some ⟨g, 0, none⟩), .int .i64 dst, .int .i64 a] w fun e w' => e = .returned (.int .i64 (Bo x dst a).1) ∧ PE S W0 w' g (Bo x dst a).2 bv vv ev := by
 have hl := ha.l1
 have p0 := ha.p0
 have p1 := ha.p1
 have c6 : w.cell? ⟨g, 6, none⟩ = some (.int .i64 x.pool) := h.L.cell 6
 have f6 := h.L.frozen 6
 obtain ⟨ba, bc, rfl⟩ := Ac h.b
 have c4 : w.cell? ⟨g, 4, none⟩ = some (.slice ba x.bal.length bc) := h.L.cell 4
 have HT : Hid (Calls Tryz.prog 106 #[.pointer (some ⟨g, 0, none⟩), .int .i64 x.pool, .int .i64 dst, .int .i64 a] w fun e w' => e = .returned (.int .i64 (BM x.bal.length x.pool dst a)) ∧ w = w') := JJ g _ _ dst a _ _ w c4 (by omega)
 by_cases ht : BM x.bal.length x.pool dst a = 0
 case neg =>
  have e1 : Bo x dst a = (BM x.bal.length x.pool dst a, x) := by unfold Bo; rw [if_pos ht]
  rw [e1]
  have ht' : (BM x.bal.length x.pool dst a == 0) = false := by simp [ht]
  have HP := Hd h
  clear h e1 ht
  generalize BM x.bal.length x.pool dst a = te at *
  go_enter Tryz.func54, Tryz.ntmps54
  go_wp2_with (go_at_call 106; refine HT.out.mono ?_; rintro e w' ⟨rfl, rfl⟩)
  go_ret
  exact ⟨rfl, HP.out⟩
 have e1 : Bo x dst a = (0, { x with pool := x.pool - a, bal := x.bal.set dst.toNat (x.balAt dst.toNat + a) }) := by unfold Bo; rw [if_neg (by simp [ht])]
 rw [e1]
 rw [ht] at HT
 obtain ⟨t, rfl, htl, a1, a2⟩ := Fj ht
 rw [Int.toNat_natCast]
 obtain ⟨gb, rfl, _⟩ := Ag h.b (by omega)
 have cb := h.balAt' htl
 have fb := h.b.frozenAt t
 have n1 : g ≠ gb := fun e => Has.apart h.L h.b (by decide) (by rw [e]; rfl)
 have n2 : gb ≠ g := fun e => n1 e.symm
 obtain ⟨b0, b1⟩ := ha.b t htl
 have hP1 := h.setHead (x' := { x with pool := x.pool - a }) 6 (.int .i64 (x.pool - a)) rfl rfl rfl rfl rfl
 have hP2 := hP1.setBal rfl t (x.balAt t + a)
 have HF : Hid (PE S W0 ((w.setCell ⟨g, 6, none⟩ (.int .i64 (x.pool - a))).setCell ⟨gb, t, none⟩ (.int .i64 (x.balAt t + a))) g { x with pool := x.pool - a, bal := x.bal.set t (x.balAt t + a) } (.slice (some ⟨gb, 0, none⟩) x.bal.length bc) vv ev) := hP2
 clear h hP1 hP2 e1 ht ha
 generalize hby : x.balAt t = y at *
 clear hby
 go_enter Tryz.func54, Tryz.ntmps54
 go_wp2_with (go_at_call 106; refine HT.out.mono ?_; rintro e w' ⟨rfl, rfl⟩)
 all_goals try go_region
 all_goals try go_wp2
 all_goals try go_region
 all_goals try go_wp2
 go_ret
 exact ⟨rfl, HF.out.eta rfl rfl rfl rfl⟩
end
end Go.Proofs.YtohjjgefklhmaaaGreatDoor
