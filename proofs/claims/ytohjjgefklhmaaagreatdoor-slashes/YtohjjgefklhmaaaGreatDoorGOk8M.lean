import Derived.Test.YtohjjgefklhmaaaGreatDoorGSlashM
namespace Go.Proofs.YtohjjgefklhmaaaGreatDoor
open Go.ChangeShapes Go.WideShapes Go.ChangeAt Go.RowKit
set_option linter.unusedVariables false

theorem slashF_val (x : EC) (j : Nat) (hgt p : Int) (hj : j < x.vals.length) (i : Nat) : (slashF x j hgt p).val i = if i = j then { x.val j with tokens := (x.val j).tokens - lostF (x.val j).tokens p, jailed := true, inset := false } else x.val i := by
  have h1 : j < (x.vals.modify j (fun v => { v with tokens := v.tokens - lostF (x.val j).tokens p })).length := by simpa using hj
  have h2 : j < ((x.vals.modify j (fun v => { v with tokens := v.tokens - lostF (x.val j).tokens p })).modify j (fun v => { v with jailed := true })).length := by simpa using hj
  show (((x.vals.modify j (fun v => { v with tokens := v.tokens - lostF (x.val j).tokens p })).modify j (fun v => { v with jailed := true })).modify j (fun v => { v with inset := false })).getD i v0 = _
  rw [val_mod _ _ _ _ h2]
  by_cases e : i = j
  · subst e
    rw [if_pos rfl, if_pos rfl, val_mod _ _ _ _ h1, if_pos rfl, val_mod _ _ _ _ hj, if_pos rfl]
    rfl
  · rw [if_neg e, if_neg e, val_mod _ _ _ _ h1, if_neg e, val_mod _ _ _ _ hj, if_neg e]
    rfl
theorem sumV_modify_eq (f : VS → Int) (g : VS → VS) (l : List VS) (j : Nat) (h : ∀ v, f (g v) = f v) : sumV f (l.modify j g) = sumV f l := by
  by_cases hj : j < l.length
  · rw [sumV_mod f l j g hj]
    have := h (l.getD j v0)
    omega
  · have e : l.modify j g = l := by
      apply List.ext_getElem?
      intro i
      rw [List.getElem?_modify]
      by_cases ei : j = i
      · subst ei; rw [List.getElem?_eq_none (by omega)]; rfl
      · simp [ei]
    rw [e]
theorem slashF_sums (x : EC) (j : Nat) (hgt p : Int) (hj : j < x.vals.length) : sumV (·.tokens) (slashF x j hgt p).vals = sumV (·.tokens) x.vals - lostF (x.val j).tokens p ∧ sumV (·.outs) (slashF x j hgt p).vals = sumV (·.outs) x.vals := by
  have e0 : (slashF x j hgt p).vals = ((x.vals.modify j (fun v => { v with tokens := v.tokens - lostF (x.val j).tokens p })).modify j (fun v => { v with jailed := true })).modify j (fun v => { v with inset := false }) := rfl
  rw [e0]
  constructor
  · refine (sumV_modify_eq (·.tokens) _ _ _ (by intro v; rfl)).trans ((sumV_modify_eq (·.tokens) _ _ _ (by intro v; rfl)).trans ?_)
    rw [sumV_mod _ _ _ _ hj, x.val_getD j]
    show sumV (·.tokens) x.vals + ((x.val j).tokens - lostF (x.val j).tokens p) - (x.val j).tokens = _
    omega
  · exact (sumV_modify_eq (·.outs) _ _ _ (by intro v; rfl)).trans ((sumV_modify_eq (·.outs) _ _ _ (by intro v; rfl)).trans (sumV_modify_eq (·.outs) _ _ _ (by intro v; rfl)))
section
variable {H : Int} {x : EC}
theorem Ok.slOk (ok : Ok H x) {j : Nat} {hgt p : Int} (hj : j < x.vals.length) (p0 : 1 ≤ p) (p1 : p ≤ 100) (hn : x.ents.length ≤ 100000) : SlOk (slTokF x j p) j hgt p := by
  obtain ⟨b1, b2, b3, b4, b5⟩ := ok.bds
  have hb := b4 j hj
  have hv := ok.val j hj
  obtain ⟨l0, l1⟩ := lostF_bd hv.t0 (show 0 ≤ p by omega) p1
  have hp := ok.pool
  have hpt : (slTokF x j p).pool = x.pool + lostF (x.val j).tokens p := rfl
  refine ⟨hn, by omega, p1, fun k hk => ⟨(ok.ent _ (List.getElem_mem hk)).a0, b5 k hk⟩, fun k hk => ?_⟩
  obtain ⟨s1, s2⟩ := slLoop_pool (slTokF x j p) j hgt p (by omega) p1 (fun e he => (ok.ent e he).a0) k hk
  have s3 : 0 ≤ sumI ((slLoop (slTokF x j p) j hgt p k).2.map (·.amount)) := sumI_nn _ (fun i hi => by
    have hi' : i < (slLoop (slTokF x j p) j hgt p k).2.length := by simpa using hi
    have e : ((slLoop (slTokF x j p) j hgt p k).2.map (·.amount)).getD i 0 = (slLoop (slTokF x j p) j hgt p k).2[i].amount := by simp [hi']
    rw [e]
    exact (slLoop_nn (slTokF x j p) j hgt p (by omega) p1 x.bal.length x.height (fun e he => ok.ent e he) k hk _ (List.getElem_mem hi')).a0)
  have s4 : sumI ((slTokF x j p).ents.map (·.amount)) ≤ 1000000 := by
    obtain ⟨q1, q2, q3, q4⟩ := ok.parts
    have ht := ok.tot
    have hf := ok.fees
    unfold EC.tot at ht
    show sumI (x.ents.map (·.amount)) ≤ 1000000
    omega
  rw [hpt] at s1 s2
  constructor <;> omega
theorem Ok.slash (ok : Ok H x) {j : Nat} {hgt p : Int} (hj : j < x.vals.length) (p0 : 1 ≤ p) (p1 : p ≤ 100) : Ok H (slashF x j hgt p) ∧ (slashF x j hgt p).tot = x.tot ∧ (slashF x j hgt p).ents.length = x.ents.length := by
  have hv := ok.val j hj
  obtain ⟨l0, l1⟩ := lostF_bd hv.t0 (show 0 ≤ p by omega) p1
  have hval := slashF_val x j hgt p hj
  obtain ⟨su1, su2⟩ := slashF_sums x j hgt p hj
  have hvl : (slashF x j hgt p).vals.length = x.vals.length := by simp [slashF, jailF, slEntF, slTokF]
  have hel : (slashF x j hgt p).ents.length = x.ents.length := slLoop_len (slTokF x j p) j hgt p _
  obtain ⟨s1, s2⟩ := slLoop_pool (slTokF x j p) j hgt p (by omega) p1 (fun e he => (ok.ent e he).a0) x.ents.length (Nat.le_refl _)
  have hpl : (slashF x j hgt p).pool = (slLoop (slTokF x j p) j hgt p x.ents.length).1 := rfl
  have hen : (slashF x j hgt p).ents = (slLoop (slTokF x j p) j hgt p x.ents.length).2 := rfl
  have hpt : (slTokF x j p).pool = x.pool + lostF (x.val j).tokens p := rfl
  have hte : (slTokF x j p).ents = x.ents := rfl
  rw [← hpl, hpt] at s1
  rw [← hpl, ← hen, hpt, hte] at s2
  have htot : (slashF x j hgt p).tot = x.tot := by
    unfold EC.tot
    rw [su1, su2]
    have e1 : (slashF x j hgt p).bal = x.bal := rfl
    have e2 : (slashF x j hgt p).fees = x.fees := rfl
    rw [e1, e2]
    omega
  have hp := ok.pool
  refine ⟨⟨ok.b6, by rw [hvl]; exact ok.v5, ok.tl, ok.fee0, ok.fee1, ok.top0, ok.top1, ok.mat0, ok.mat1, ok.hgt0, ok.hgt1, ok.H0, ok.H1, ok.bal, ok.fees, by omega, fun i hi => ?_, ?_, by rw [htot]; exact ok.tot, ok.sh0, fun i hi => ?_, ok.per, ok.upt, fun i hi => ?_⟩, htot, hel⟩
  · rw [hvl] at hi
    rw [hval]
    split
    · exact ⟨by show 0 ≤ (x.val j).tokens - lostF (x.val j).tokens p; omega, hv.s0, hv.s1, hv.r0, hv.r1, hv.k0, hv.ko, fun ht => hv.tk (by have : 0 < (x.val j).tokens - lostF (x.val j).tokens p := ht; omega), hv.oz, fun _ => rfl⟩
    · exact ok.val i hi
  · exact slLoop_nn (slTokF x j p) j hgt p (by omega) p1 x.bal.length x.height (fun e he => ok.ent e he) x.ents.length (Nat.le_refl _)
  · rw [hvl] at hi
    rw [hval]
    have := ok.shs i hi
    split
    · rename_i e; subst e; exact this
    · exact this
  · rw [hvl] at hi
    rw [hval]
    have := ok.due i hi
    split
    · rename_i e; subst e; exact this
    · exact this
theorem outF_val (x : EC) (j : Nat) (hj : j < x.vals.length) (i : Nat) : (outF x j).val i = if i = j then { x.val j with jailed := false } else x.val i := by
  show (x.vals.modify j (fun v => { v with jailed := false })).getD i v0 = _
  rw [val_mod _ _ _ _ hj]
  rfl
theorem Ok.out (ok : Ok H x) {j : Nat} (hj : j < x.vals.length) : Ok H (outF x j) ∧ (outF x j).tot = x.tot := by
  have hv := ok.val j hj
  have hval := outF_val x j hj
  have hvl : (outF x j).vals.length = x.vals.length := by simp [outF]
  have htot : (outF x j).tot = x.tot := by
    have e0 : (outF x j).vals = x.vals.modify j (fun v => { v with jailed := false }) := rfl
    unfold EC.tot
    rw [e0]
    have t1 : sumV (·.tokens) (x.vals.modify j (fun v => { v with jailed := false })) = sumV (·.tokens) x.vals := sumV_modify_eq (·.tokens) _ _ _ (by intro v; rfl)
    have t2 : sumV (·.outs) (x.vals.modify j (fun v => { v with jailed := false })) = sumV (·.outs) x.vals := sumV_modify_eq (·.outs) _ _ _ (by intro v; rfl)
    rw [t1, t2]
    have e1 : (outF x j).bal = x.bal := rfl
    have e2 : (outF x j).fees = x.fees := rfl
    have e3 : (outF x j).pool = x.pool := rfl
    have e4 : (outF x j).ents = x.ents := rfl
    rw [e1, e2, e3, e4]
  refine ⟨⟨ok.b6, by rw [hvl]; exact ok.v5, ok.tl, ok.fee0, ok.fee1, ok.top0, ok.top1, ok.mat0, ok.mat1, ok.hgt0, ok.hgt1, ok.H0, ok.H1, ok.bal, ok.fees, ok.pool, fun i hi => ?_, ok.ent, by rw [htot]; exact ok.tot, ok.sh0, fun i hi => ?_, ok.per, ok.upt, fun i hi => ?_⟩, htot⟩
  · rw [hvl] at hi
    rw [hval]
    split
    · exact ⟨hv.t0, hv.s0, hv.s1, hv.r0, hv.r1, hv.k0, hv.ko, hv.tk, hv.oz, fun h => by cases h⟩
    · exact ok.val i hi
  · rw [hvl] at hi
    rw [hval]
    have := ok.shs i hi
    split
    · rename_i e; subst e; exact this
    · exact this
  · rw [hvl] at hi
    rw [hval]
    have := ok.due i hi
    split
    · rename_i e; subst e; exact this
    · exact this
end
end Go.Proofs.YtohjjgefklhmaaaGreatDoor

namespace Go.Proofs.YtohjjgefklhmaaaGreatDoor
open Go.ChangeShapes Go.WideShapes Go.ChangeAt Go.RowKit
set_option linter.unusedVariables false

/-- an engine in memory, whatever its row of entries -/
def Eng (S : Nat → Prop) (W0 w : World) (g : Nat) (x : EC) (bv vv : Value) : Prop := ∃ ev, PE S W0 w g x bv vv ev
/-- what a call leaves -/
structure Left (x x' : EC) (n : Nat) : Prop where
  fine : Fine x'
  tot : x'.tot = x.tot
  el : x'.ents.length ≤ n + 1
  bl : x'.bal.length = x.bal.length
  vl : x'.vals.length = x.vals.length
  hg : x'.height ≤ x.height + 1
  fee : x'.fee = x.fee
  top : x'.top = x.top
theorem Left.refl {x : EC} {n : Nat} (h : Fine x) (hn : x.ents.length ≤ n) : Left x x n := ⟨h, rfl, by omega, rfl, rfl, by omega, rfl, rfl⟩
theorem Fine.charge {x : EC} (h : Fine x) {k : Nat} (hc : chErr x k = 0) : Fine (chargeFE x k) ∧ (chargeFE x k).tot = x.tot := by
  obtain ⟨k', e, hk, hf⟩ := chErr_ok hc
  have e' : k = k' := by omega
  subst e'
  exact Ok.charge h hk hf
theorem Left.charge {x : EC} {n : Nat} (h : Fine x) (hn : x.ents.length ≤ n) {k : Nat} (hc : chErr x k = 0) : Left x (chargeFE x k) n := by
  obtain ⟨h1, h2⟩ := h.charge hc
  exact ⟨h1, h2, by show x.ents.length ≤ n + 1; omega, by simp [chargeFE], rfl, by show x.height ≤ _; omega, rfl, rfl⟩

def bondR (x : EC) (who val a : Int) : Int × EC := msgR x who (fun y k => bondErrF y k val a) (fun y k => joinFE { y with bal := y.bal.set k (y.balAt k - a) } k val.toNat a)
def withR (x : EC) (who val : Int) : Int × EC := msgR x who (fun y k => dueErrF y k val) (fun y k => payF y k val.toNat)
theorem bondErrF_ok {x : EC} {k : Nat} {val a : Int} (h : bondErrF x k val a = 0) : ∃ j : Nat, val = j ∧ j < x.vals.length ∧ 1 ≤ a ∧ a ≤ x.balAt k ∧ joinErrF (x.val j) a = 0 := by
  unfold bondErrF at h
  split at h
  · cases h
  · rename_i h1
    obtain ⟨j, rfl, hj⟩ := inB_tt (show inB val x.vals.length = true by simpa using h1)
    rw [Int.toNat_natCast] at h
    split at h
    · cases h
    · split at h
      · cases h
      · exact ⟨j, rfl, hj, by omega, by omega, h⟩
theorem dueErrF_ok {x : EC} {k : Nat} {val : Int} (h : dueErrF x k val = 0) : ∃ j : Nat, val = j ∧ j < x.vals.length ∧ 1 ≤ x.sh k j := by
  unfold dueErrF at h
  split at h
  · cases h
  · rename_i h1
    obtain ⟨j, rfl, hj⟩ := inB_tt (show inB val x.vals.length = true by simpa using h1)
    rw [Int.toNat_natCast] at h
    split at h
    · cases h
    · exact ⟨j, rfl, hj, by omega⟩

section
variable {S : Nat → Prop} {W0 : World} {g : Nat} {x : EC} {bv vv ev : Value} {w : World} (h : PE S W0 w g x bv vv ev) (ok : Fine x) (n : Nat) (hn : x.ents.length ≤ n) (hn2 : n ≤ 99999)
include h ok hn hn2
omit hn2 in
theorem fSend (who dst a : Int) : Calls Tryz.prog 53 #[.pointer (some ⟨g, 0, none⟩), .int .i64 who, .int .i64 dst, .int .i64 a] w fun e w' => e = .returned (.int .i64 (sendR x who dst a).1) ∧ Eng S W0 w' g (sendR x who dst a).2 bv vv ∧ Left x (sendR x who dst a).2 n := by
  have okx : Ok x.height x := ok
  refine (gSend g x bv vv ev w h who dst a okx.accOk).mono ?_
  rintro e w' ⟨rfl, hp⟩
  refine ⟨rfl, ⟨ev, hp⟩, ?_⟩
  unfold sendR
  by_cases hc : chErr x who = 0
  · obtain ⟨k, rfl, hk, hf⟩ := chErr_ok hc
    have hL := Left.charge ok hn hc
    by_cases he : transR (chargeFE x k).bal.length ((chargeFE x k).balAt k) dst a = 0
    · rw [msgR_ok hc he]
      obtain ⟨t, rfl, ht, a1, a2⟩ := transR_ok he
      have hkc : k < (chargeFE x k).bal.length := by rw [hL.bl]; exact hk
      obtain ⟨f1, f2⟩ := Ok.sent hL.fine hkc ht (show 0 ≤ a by omega) a2
      exact ⟨f1, f2.trans hL.tot, hL.el, by simp [sentB, chargeFE], rfl, hL.hg, rfl, rfl⟩
    · rw [msgR_err hc he]; exact hL
  · rw [msgR_fail hc]; exact Left.refl ok hn
omit hn2 in
theorem fSpend (dst a : Int) : Calls Tryz.prog 54 #[.pointer (some ⟨g, 0, none⟩), .int .i64 dst, .int .i64 a] w fun e w' => e = .returned (.int .i64 (spendR x dst a).1) ∧ Eng S W0 w' g (spendR x dst a).2 bv vv ∧ Left x (spendR x dst a).2 n := by
  have okx : Ok x.height x := ok
  refine (gSpend g x bv vv ev w h dst a okx.accOk).mono ?_
  rintro e w' ⟨rfl, hp⟩
  refine ⟨rfl, ⟨ev, hp⟩, ?_⟩
  unfold spendR
  split
  · exact Left.refl ok hn
  · rename_i he
    obtain ⟨t, rfl, ht, a1, a2⟩ := transR_ok (show transR x.bal.length x.pool dst a = 0 by simpa using he)
    rw [Int.toNat_natCast]
    obtain ⟨f1, f2⟩ := okx.spend ht (show 0 ≤ a by omega) a2
    exact ⟨f1, f2, by show x.ents.length ≤ n + 1; omega, by simp, rfl, by show x.height ≤ _; omega, rfl, rfl⟩
omit hn2 in
theorem fBond (who val a : Int) : Calls Tryz.prog 56 #[.pointer (some ⟨g, 0, none⟩), .int .i64 who, .int .i64 val, .int .i64 a] w fun e w' => e = .returned (.int .i64 (bondR x who val a).1) ∧ Eng S W0 w' g (bondR x who val a).2 bv vv ∧ Left x (bondR x who val a).2 n := by
  have okx : Ok x.height x := ok
  unfold bondR
  by_cases hc : chErr x who = 0
  · obtain ⟨k, rfl, hk, hf⟩ := chErr_ok hc
    have hL := Left.charge ok hn hc
    have hcx : Ok x.height (chargeFE x k) := hL.fine
    have hkc : k < (chargeFE x k).bal.length := by rw [hL.bl]; exact hk
    by_cases he : bondErrF (chargeFE x k) k val a = 0
    · rw [msgR_ok hc he]
      obtain ⟨j, rfl, hj, a1, a2, hje⟩ := bondErrF_ok he
      obtain ⟨f0, f1, f2⟩ := hcx.bond hkc hj a1 a2 hje
      have e2 : (chargeFE x k).balAt k = x.balAt k - x.fee := by simp [chargeFE, EC.balAt, hk]
      have eq : bondFE x k j a = joinFE { chargeFE x k with bal := (chargeFE x k).bal.set k ((chargeFE x k).balAt k - a) } k j a := by
        unfold bondFE
        rw [e2]
        simp [chargeFE]
      rw [Int.toNat_natCast]
      simp only at f1 f2 ⊢
      rw [← eq] at f1 f2 ⊢
      have jo := okx.jnOk hk hj
      have hb1 := okx.bds.1 k hk
      refine (eBond g x bv vv ev w h k j a okx.b6 hk okx.v5 hj jo.hV jo.hd jo.o0 jo.o1 jo.s0 jo.s1 a1 (by have := okx.fee0; omega) (by rw [e2] at a2; omega) (by omega) okx.fee0 okx.fees (by have := okx.bds.2.1; omega) hje).mono ?_
      rintro e w' ⟨rfl, hp⟩
      refine ⟨rfl, ⟨ev, hp⟩, f1, f2.trans hL.tot, ?_, ?_, ?_, ?_, rfl, rfl⟩
      · show x.ents.length ≤ n + 1; omega
      · rw [eq]; simp [joinFE, payF, chargeFE]
      · rw [eq]; simp [joinFE, payF, chargeFE]
      · show x.height ≤ _; omega
    · rw [msgR_err hc he]
      refine (gBond_err g x bv vv ev w h k val a okx.accOk hc _ he (fun w1 h1 => gbondError g _ _ _ _ w1 h1 k val a hcx.b6 hkc hcx.v5 (fun j hj => hcx.valOk hj) (hcx.bds.1 k hkc))).mono ?_
      rintro e w' ⟨rfl, hp⟩
      exact ⟨rfl, ⟨ev, hp⟩, hL⟩
  · rw [msgR_fail hc]
    refine (gBond_no g x bv vv ev w h who val a okx.accOk hc).mono ?_
    rintro e w' ⟨rfl, hp⟩
    exact ⟨rfl, ⟨ev, hp⟩, Left.refl ok hn⟩
theorem fUnbond (who val a : Int) : Calls Tryz.prog 57 #[.pointer (some ⟨g, 0, none⟩), .int .i64 who, .int .i64 val, .int .i64 a] w fun e w' => e = .returned (.int .i64 (unbR x who val a).1) ∧ Eng S W0 w' g (unbR x who val a).2 bv vv ∧ Left x (unbR x who val a).2 n := by
  have okx : Ok x.height x := ok
  unfold unbR
  by_cases hc : chErr x who = 0
  · obtain ⟨k, rfl, hk, hf⟩ := chErr_ok hc
    have hL := Left.charge ok hn hc
    have hcx : Ok x.height (chargeFE x k) := hL.fine
    have hkc : k < (chargeFE x k).bal.length := by rw [hL.bl]; exact hk
    have hk6 : k < 6 := by have := okx.b6; omega
    by_cases he : unbErrF (chargeFE x k) k val a = 0
    · rw [msgR_ok hc he]
      obtain ⟨j, rfl, hj, a1, a2, _⟩ := unbErrF_ok he
      obtain ⟨f1, f2, f3⟩ := hcx.unb hkc hj a1 a2
      obtain ⟨l1, l2, l3, l4, l5, l6, l7⟩ := hcx.leave hkc hj a a1 a2
      rw [Int.toNat_natCast]
      refine (eUnbond g x bv vv ev w h k j a okx.accOk hc (hcx.lvOk hkc hj) (by omega) he a1 a2 (by rw [l6]; show x.ents.length ≤ _; omega)).mono ?_
      rintro e w' ⟨rfl, hp⟩
      have hu : (unbF (chargeFE x k) k j a).height = x.height ∧ (unbF (chargeFE x k) k j a).bal.length = x.bal.length ∧ (unbF (chargeFE x k) k j a).vals.length = x.vals.length ∧ (unbF (chargeFE x k) k j a).fee = x.fee ∧ (unbF (chargeFE x k) k j a).top = x.top := by
        have hlf : (leaveF (chargeFE x k) k j a).fee = x.fee ∧ (leaveF (chargeFE x k) k j a).top = x.top := by unfold leaveF; split <;> exact ⟨rfl, rfl⟩
        unfold unbF entF
        split
        · exact ⟨l7, l4.trans hL.bl, l5, hlf.1, hlf.2⟩
        · exact ⟨l7, l4.trans hL.bl, l5, hlf.1, hlf.2⟩
      refine ⟨rfl, hp, by unfold Fine; simp only; rw [hu.1]; exact f1, f2.trans hL.tot, ?_, hu.2.1, hu.2.2.1, by simp only; rw [hu.1]; omega, hu.2.2.2.1, hu.2.2.2.2⟩
      have : (chargeFE x k).ents.length = x.ents.length := rfl
      simp only; omega
    · rw [msgR_err hc he]
      refine (gUnbond_err g x bv vv ev w h k val a okx.accOk hc _ he (fun w1 h1 => gunbondError g _ _ _ _ w1 h1 k val a hk6 hcx.v5 (by show x.ents.length ≤ _; omega))).mono ?_
      rintro e w' ⟨rfl, hp⟩
      exact ⟨rfl, ⟨ev, hp⟩, hL⟩
  · rw [msgR_fail hc]
    refine (gUnbond_no g x bv vv ev w h who val a okx.accOk hc).mono ?_
    rintro e w' ⟨rfl, hp⟩
    exact ⟨rfl, ⟨ev, hp⟩, Left.refl ok hn⟩
end
end Go.Proofs.YtohjjgefklhmaaaGreatDoor

namespace Go.Proofs.YtohjjgefklhmaaaGreatDoor
open Go.ChangeShapes Go.WideShapes Go.ChangeAt Go.RowKit
set_option linter.unusedVariables false

section
variable {S : Nat → Prop} {W0 : World} {g : Nat} {x : EC} {bv vv ev : Value} {w : World} (h : PE S W0 w g x bv vv ev) (ok : Fine x) (n : Nat) (hn : x.ents.length ≤ n)
include h ok hn
theorem fMove (who val dst a : Int) : Calls Tryz.prog 58 #[.pointer (some ⟨g, 0, none⟩), .int .i64 who, .int .i64 val, .int .i64 dst, .int .i64 a] w fun e w' => e = .returned (.int .i64 (movR x who val dst a).1) ∧ Eng S W0 w' g (movR x who val dst a).2 bv vv ∧ Left x (movR x who val dst a).2 n := by
  have okx : Ok x.height x := ok
  unfold movR
  by_cases hc : chErr x who = 0
  · obtain ⟨k, rfl, hk, hf⟩ := chErr_ok hc
    have hL := Left.charge ok hn hc
    have hcx : Ok x.height (chargeFE x k) := hL.fine
    have hkc : k < (chargeFE x k).bal.length := by rw [hL.bl]; exact hk
    have hk6 : k < 6 := by have := okx.b6; omega
    by_cases he : movErrF (chargeFE x k) k val dst a = 0
    · rw [msgR_ok hc he]
      obtain ⟨j, t, rfl, rfl, hj, ht, htj, a1, a2, t1, hje⟩ := movErrF_ok he
      obtain ⟨f1, f2, f3⟩ := hcx.mov hkc hj ht htj a1 a2 t1 hje
      obtain ⟨l1, l2, l3, l4, l5, l6, l7⟩ := hcx.leave hkc hj a a1 a2
      rw [Int.toNat_natCast, Int.toNat_natCast]
      have hsl := hcx.sh_le hk6 hj
      obtain ⟨q0, q1⟩ := tokensForF_bd (hcx.valOk hj) (show 0 ≤ a by omega) (show a ≤ ((chargeFE x k).val j).shares by omega)
      have hb := (hcx.bds.2.2.2.1 j hj).1
      refine (eMove g x bv vv ev w h k j t a okx.accOk hc (hcx.lvOk hkc hj) (fun i hi => hcx.valOk hi) (fun i hi => hcx.sh_le hk6 hi) he a1 a2 t1 (by omega) (l1.jnOk (by rw [l4]; exact hkc) (by rw [l5]; exact ht))).mono ?_
      rintro e w' ⟨rfl, hp⟩
      have hlf : (leaveF (chargeFE x k) k j a).fee = x.fee ∧ (leaveF (chargeFE x k) k j a).top = x.top := by unfold leaveF; split <;> exact ⟨rfl, rfl⟩
      have hu : (movF (chargeFE x k) k j t a).height = x.height := l7
      refine ⟨rfl, ⟨ev, hp⟩, by unfold Fine; simp only; rw [hu]; exact f1, f2.trans hL.tot, ?_, ?_, ?_, by simp only; rw [hu]; omega, hlf.1, hlf.2⟩
      · simp only; rw [f3]; show x.ents.length ≤ _; omega
      · simp only [movF, joinFE, payF, List.length_set]; rw [l4]; exact hL.bl
      · simp only [movF, joinFE, payF, List.length_modify]; exact l5
    · rw [msgR_err hc he]
      refine (gMove_err g x bv vv ev w h k val dst a okx.accOk hc _ he (fun w1 h1 => gmoveError g _ _ _ _ w1 h1 k val dst a hk6 hcx.v5 (fun i hi => hcx.valOk hi) (fun i hi => hcx.sh_le hk6 hi))).mono ?_
      rintro e w' ⟨rfl, hp⟩
      exact ⟨rfl, ⟨ev, hp⟩, hL⟩
  · rw [msgR_fail hc]
    refine (gMove_no g x bv vv ev w h who val dst a okx.accOk hc).mono ?_
    rintro e w' ⟨rfl, hp⟩
    exact ⟨rfl, ⟨ev, hp⟩, Left.refl ok hn⟩
theorem fWith (who val : Int) : Calls Tryz.prog 59 #[.pointer (some ⟨g, 0, none⟩), .int .i64 who, .int .i64 val] w fun e w' => e = .returned (.int .i64 (withR x who val).1) ∧ Eng S W0 w' g (withR x who val).2 bv vv ∧ Left x (withR x who val).2 n := by
  have okx : Ok x.height x := ok
  unfold withR
  by_cases hc : chErr x who = 0
  · obtain ⟨k, rfl, hk, hf⟩ := chErr_ok hc
    have hL := Left.charge ok hn hc
    have hcx : Ok x.height (chargeFE x k) := hL.fine
    have hkc : k < (chargeFE x k).bal.length := by rw [hL.bl]; exact hk
    have hk6 : k < 6 := by have := okx.b6; omega
    by_cases he : dueErrF (chargeFE x k) k val = 0
    · rw [msgR_ok hc he]
      obtain ⟨j, rfl, hj, s1⟩ := dueErrF_ok he
      have f1 := hcx.pay hkc hj
      obtain ⟨_, _, _, _, f2⟩ := payF_at hcx hkc hj
      rw [Int.toNat_natCast]
      have lo := okx.lvOk hk hj
      refine (eWithdraw g x bv vv ev w h k j okx.b6 hk okx.v5 hj s1 lo.hd (by rw [x.val_eq hj]; exact lo.o0) (by rw [x.val_eq hj]; have := lo.o1; omega) hf (by have := lo.b1; omega) okx.fee0 okx.fees (by have := okx.bds.2.1; omega)).mono ?_
      rintro e w' ⟨rfl, hp⟩
      refine ⟨rfl, ⟨ev, hp⟩, f1, f2.trans hL.tot, ?_, ?_, ?_, ?_, rfl, rfl⟩
      · show x.ents.length ≤ n + 1; omega
      · simp [payF, chargeFE]
      · simp [payF, chargeFE]
      · show x.height ≤ _; omega
    · rw [msgR_err hc he]
      refine (gWithdraw_err g x bv vv ev w h k val okx.accOk hc _ he (fun w1 h1 => (gdueError g _ _ _ _ w1 h1 k val hk6 hcx.v5).mono ?_)).mono ?_
      · rintro e w' ⟨rfl, rfl⟩
        exact ⟨rfl, Below.refl _ _⟩
      · rintro e w' ⟨rfl, hp⟩
        exact ⟨rfl, ⟨ev, hp⟩, hL⟩
  · rw [msgR_fail hc]
    refine (gWithdraw_no g x bv vv ev w h who val okx.accOk hc).mono ?_
    rintro e w' ⟨rfl, hp⟩
    exact ⟨rfl, ⟨ev, hp⟩, Left.refl ok hn⟩
theorem fColl (who val : Int) : Calls Tryz.prog 60 #[.pointer (some ⟨g, 0, none⟩), .int .i64 who, .int .i64 val] w fun e w' => e = .returned (.int .i64 (collR x who val).1) ∧ Eng S W0 w' g (collR x who val).2 bv vv ∧ Left x (collR x who val).2 n := by
  have okx : Ok x.height x := ok
  unfold collR
  by_cases hc : chErr x who = 0
  · obtain ⟨k, rfl, hk, hf⟩ := chErr_ok hc
    have hL := Left.charge ok hn hc
    have hcx : Ok x.height (chargeFE x k) := hL.fine
    have hkc : k < (chargeFE x k).bal.length := by rw [hL.bl]; exact hk
    by_cases he : ownErrF (chargeFE x k) k val = 0
    · rw [msgR_ok hc he]
      obtain ⟨j, rfl, hj, _⟩ := ownErrF_ok he
      obtain ⟨f1, f2⟩ := hcx.coll hkc hj
      rw [Int.toNat_natCast]
      have lo := okx.lvOk hk hj
      have hb := hcx.bds.1 k hkc
      refine (eCollect g x bv vv ev w h k j okx.accOk hc he okx.b6 hk okx.v5 hj lo.k0 (by have := lo.k1; omega) lo.o0 (by have := lo.o1; omega) (hcx.bal k hkc) (by omega)).mono ?_
      rintro e w' ⟨rfl, hp⟩
      refine ⟨rfl, ⟨ev, hp⟩, f1, f2.trans hL.tot, ?_, ?_, ?_, ?_, rfl, rfl⟩
      · show x.ents.length ≤ n + 1; omega
      · simp [collF, chargeFE]
      · simp [collF, chargeFE]
      · show x.height ≤ _; omega
    · rw [msgR_err hc he]
      refine (gCollect_err g x bv vv ev w h k val okx.accOk hc _ he (fun w1 h1 => (gownerError g _ _ _ _ w1 h1 k val hcx.v5).mono ?_)).mono ?_
      · rintro e w' ⟨rfl, rfl⟩
        exact ⟨rfl, Below.refl _ _⟩
      · rintro e w' ⟨rfl, hp⟩
        exact ⟨rfl, ⟨ev, hp⟩, hL⟩
  · rw [msgR_fail hc]
    refine (gCollect_no g x bv vv ev w h who val okx.accOk hc).mono ?_
    rintro e w' ⟨rfl, hp⟩
    exact ⟨rfl, ⟨ev, hp⟩, Left.refl ok hn⟩
theorem fFree (who val : Int) : Calls Tryz.prog 62 #[.pointer (some ⟨g, 0, none⟩), .int .i64 who, .int .i64 val] w fun e w' => e = .returned (.int .i64 (freeR x who val).1) ∧ Eng S W0 w' g (freeR x who val).2 bv vv ∧ Left x (freeR x who val).2 n := by
  have okx : Ok x.height x := ok
  unfold freeR
  by_cases hc : chErr x who = 0
  · obtain ⟨k, rfl, hk, hf⟩ := chErr_ok hc
    have hL := Left.charge ok hn hc
    have hcx : Ok x.height (chargeFE x k) := hL.fine
    by_cases he : freeErrF (chargeFE x k) k val = 0
    · rw [msgR_ok hc he]
      obtain ⟨j, rfl, hj, _⟩ := freeErrF_ok he
      obtain ⟨f1, f2⟩ := hcx.out hj
      rw [Int.toNat_natCast]
      refine (eFree g x bv vv ev w h k j okx.accOk hc he okx.v5 hj).mono ?_
      rintro e w' ⟨rfl, hp⟩
      refine ⟨rfl, ⟨ev, hp⟩, f1, f2.trans hL.tot, ?_, ?_, ?_, ?_, rfl, rfl⟩
      · show x.ents.length ≤ n + 1; omega
      · simp [outF, chargeFE]
      · simp [outF, chargeFE]
      · show x.height ≤ _; omega
    · rw [msgR_err hc he]
      refine (gFree_err g x bv vv ev w h k val okx.accOk hc _ he (fun w1 h1 => (gfreeError g _ _ _ _ w1 h1 k val hcx.v5).mono ?_)).mono ?_
      · rintro e w' ⟨rfl, rfl⟩
        exact ⟨rfl, Below.refl _ _⟩
      · rintro e w' ⟨rfl, hp⟩
        exact ⟨rfl, ⟨ev, hp⟩, hL⟩
  · rw [msgR_fail hc]
    refine (gFree_no g x bv vv ev w h who val okx.accOk hc).mono ?_
    rintro e w' ⟨rfl, hp⟩
    exact ⟨rfl, ⟨ev, hp⟩, Left.refl ok hn⟩
theorem fSlash (val hgt p : Int) (hn2 : n ≤ 99999) : Calls Tryz.prog 61 #[.pointer (some ⟨g, 0, none⟩), .int .i64 val, .int .i64 hgt, .int .i64 p] w fun e w' => e = .returned (.int .i64 (slashR x val hgt p).1) ∧ Eng S W0 w' g (slashR x val hgt p).2 bv vv ∧ Left x (slashR x val hgt p).2 n := by
  have okx : Ok x.height x := ok
  obtain ⟨b1, b2, b3, b4, b5⟩ := okx.bds
  refine (gSlash g x bv vv ev w h val hgt p okx.v5 (fun j hj => ⟨(okx.val j hj).t0, (b4 j hj).1⟩) okx.pool b3 (fun j hs => ?_)).mono ?_
  · obtain ⟨j', e, hj, _, _, p0, p1⟩ := slErrF_ok hs
    have e' : j = j' := by omega
    subst e'
    exact okx.slOk hj p0 p1 (by omega)
  · rintro e w' ⟨rfl, hp⟩
    refine ⟨rfl, ⟨ev, hp⟩, ?_⟩
    unfold slashR
    split
    · exact Left.refl ok hn
    · rename_i he
      obtain ⟨j, rfl, hj, _, _, p0, p1⟩ := slErrF_ok (show slErrF x val hgt p = 0 by simpa using he)
      rw [Int.toNat_natCast]
      obtain ⟨f1, f2, f3⟩ := okx.slash (hgt := hgt) hj p0 p1
      exact ⟨f1, f2, by simp only; rw [f3]; omega, rfl, by simp [slashF, jailF, slEntF, slTokF], by show x.height ≤ _; omega, rfl, rfl⟩
theorem fBlock (hn2 : n ≤ 99999) : Calls Tryz.prog 55 #[.pointer (some ⟨g, 0, none⟩)] w fun e w' => e = .returned (.int .i64 (blkR x).1) ∧ Eng S W0 w' g (blkR x).2 bv vv ∧ Left x (blkR x).2 n := by
  have okx : Ok x.height x := ok
  have hs := okx.share (by have := okx.hgt1; omega)
  have hlv : (payEF (upF x)).vals.length = x.vals.length := hs.2.2.2.2.2.2.1
  have htp : (payEF (upF x)).top = x.top := hs.2.2.2.2.2.1
  refine (gBlock g x bv vv ev w h okx.v5 okx.feeOk okx.hgt0 (by rw [htp]; have := okx.top0; omega) (by rw [htp]; have := okx.top1; omega) (by rw [hlv]; have := okx.v5; omega) hs.2.2.2.2.1 (fun hh => ?_)).mono ?_
  · have hu := Ok.up okx rfl hh
    exact hu.1.peOk (by rw [hu.2.2.2.1]; omega)
  · rintro e w' ⟨rfl, hp⟩
    obtain ⟨b1, b2, b3, b4, b5, b6⟩ := ok.block
    refine ⟨rfl, hp, b1, b2, by omega, b4, b5, b6, ?_, ?_⟩
    · unfold blkR; split
      · rfl
      · show (shareF x).fee = x.fee
        have hin := shLoop_fee x x.fees (bondedN x.vals) x.vals.length
        exact hin
    · unfold blkR; split
      · rfl
      · exact htp
end
end Go.Proofs.YtohjjgefklhmaaaGreatDoor
