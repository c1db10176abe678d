import Derived.Test.YtohjjgefklhmaaaCutS2M
namespace Go.Proofs.Ytohjjgefklhmaaa
open Go.ChangeShapes Go.WideShapes Go.ChangeAt Go.RowKit
set_option linter.unusedVariables false

section
variable {x : EC} {h f P : Int} {bal : List Int} {v : VS} {ents : List ES} {s : Int}
/-- an unbond of all -/
theorem QC.unbAll {t : Int} {jl is : Bool} (q : QC x h f P bal ⟨1, 0, t, t, 0, 0, jl, is⟩ ents t) (hb : bal.length = 4) (t1 : 1 ≤ t) (hm : 90 ≤ bal.getD 2 0) (hc4 : countE ents 2 1 < 4) :
    (unbR x 2 1 t).1 = 0 ∧ QC (unbR x 2 1 t).2 h (f + 90) P (bal.set 2 (bal.getD 2 0 - 90)) ⟨1, 0, 0, 0, 0, 0, jl, is⟩ (ents ++ [⟨2, 1, h, t⟩]) 0 := by
  have hc : chErr x ((2 : Nat) : Int) = 0 := q.paid 2 (by omega) (by omega)
  have qc := q.charge 2
  have he : unbErrF (chargeF x 2) 2 1 t = 0 := by
    unfold unbErrF
    rw [qc.vl, if_neg (by decide)]
    rw [show (chargeF x 2).sh 2 (1 : Int).toNat = t from qc.sh, if_neg (by omega), qc.en]
    rw [if_neg (by have : countE ents ((2 : Nat) : Int) 1 = countE ents 2 1 := rfl; omega)]
  have e : unbR x 2 1 t = (0, unbF (chargeF x 2) 2 1 t) := msgR_ok (k := 2) (err := fun y k => unbErrF y k 1 t) (act := fun y k => unbF y k (1 : Int).toNat t) hc he
  rw [e]
  refine ⟨rfl, ?_⟩
  have hd := qc.due0
  have hv1 := qc.val1
  obtain ⟨c1, c2, c3, c4, c5, c6, c7, c8, c9, c10, c11, c12, c13⟩ := qc
  generalize chargeF x 2 = y at *
  have htf : tokensForF (y.val 1) t = t := by
    rw [hv1]
    simp only [tokensForF]
    rw [if_neg (by omega)]
    exact Int.mul_ediv_cancel t (by omega)
  have hlf : leaveF y 2 1 t = clearF (goneF (payF y 2 1) 2 1 t t) 1 := by
    have hs : (y.val 1).shares - t = 0 := by rw [hv1]; simp only; omega
    unfold leaveF
    rw [if_pos hs, htf]
  have hgv : (goneF (payF y 2 1) 2 1 t t).vals = [⟨0, 5, 0, 0, 0, 0, false, false⟩, ⟨1, 0, 0, 0, 0, 0, jl, is⟩] := by
    simp only [goneF, payF]; rw [hd, c8]; simp
  have hg1 : (goneF (payF y 2 1) 2 1 t t).val 1 = ⟨1, 0, 0, 0, 0, 0, jl, is⟩ := by simp [EC.val, hgv]
  unfold unbF
  rw [htf, hlf]
  unfold entF
  rw [if_neg (by omega)]
  have hsp : (payF y 2 1).sh 2 1 = t := by
    simp only [payF, EC.sh]; rw [getD_set_ne (by omega)]; exact c11
  refine ⟨c1, c2, c3, c4, c5, ?_, ?_, ?_, ?_, ?_, ?_, ?_, ?_⟩
  · show (goneF (payF y 2 1) 2 1 t t).pool + (((goneF (payF y 2 1) 2 1 t t).val 1).outs - ((goneF (payF y 2 1) 2 1 t t).val 1).comm) = P
    rw [hg1]
    show y.pool + (0 - 0) = P
    rw [c6]; omega
  · simp only [clearF, goneF, payF]; rw [hd, c7]
    simp only [EC.balAt]
    rw [c7, getD_set_self (by omega)]
    simp
  · show (goneF (payF y 2 1) 2 1 t t).vals.modify 1 (fun v => { v with outs := v.comm }) = _
    rw [hgv]; rfl
  · show (goneF (payF y 2 1) 2 1 t t).ents ++ [⟨((2 : Nat) : Int), ((1 : Nat) : Int), (goneF (payF y 2 1) 2 1 t t).height, t⟩] = _
    simp only [goneF, payF]; rw [c9, c4]; rfl
  · simp only [clearF, goneF, payF, List.length_set]; exact c10
  · show (goneF (payF y 2 1) 2 1 t t).sh 2 1 = 0
    simp only [goneF]; rw [hsp]
    simp only [EC.sh]
    rw [getD_set_self (by simp only [payF, List.length_set]; omega)]
    omega
  · simp only [clearF, goneF, payF, EC.per]; rw [getD_set_ne (by omega), getD_set_ne (by omega)]; exact c12
  · simp only [clearF, goneF, payF, EC.upto]; rw [getD_set_ne (by omega), getD_set_self (by omega)]; exact c12
/-- a block without fees, whoever is in the set -/
theorem QC.up0 {jl is : Bool} {t sh : Int} (q : QC x h 0 P bal ⟨1, 0, t, sh, 0, 0, jl, is⟩ ents s) : QC (upF x) (h + 1) 0 P bal ⟨1, 0, t, sh, 0, 0, jl, is⟩ ents s := by
  cases is
  · have := q.up
    rw [Int.add_zero] at this
    exact this
  · have hb : bondedN x.vals = t := by rw [q.vs]; simp [bondedN]
    have h1 : shLoop x 0 t 1 = (x, 0) := by
      show (if (x.val 0).inset = true ∧ 0 < t then _ else (x, (0 : Int))) = _
      rw [if_neg]
      rw [q.val0]
      simp
    by_cases ht : 0 < t
    · have hp : partF x 0 t 1 = 0 := by unfold partF; simp
      have h2 : shLoop x 0 t 2 = (takeF x 1 0, 0) := by
        show (if ((shLoop x 0 t 1).1.val 1).inset = true ∧ 0 < t then (takeF (shLoop x 0 t 1).1 1 (partF (shLoop x 0 t 1).1 0 t 1), (shLoop x 0 t 1).2 - partF (shLoop x 0 t 1).1 0 t 1) else shLoop x 0 t 1) = _
        rw [h1]
        simp only
        rw [hp, if_pos ⟨by rw [q.val1], ht⟩]
        simp
      have e : shareF x = { takeF x 1 0 with pool := P + 0, fees := 0 } := by
        unfold shareF
        rw [hb, q.vl, q.pp, q.ff, h2]
      have hvs : (takeF x 1 0).vals = x.vals := by
        rw [takeF_vals, q.vs]; simp
      have htb : ∃ y, (takeF x 1 0).tab = x.tab.set 31 y ∧ y = 0 ∨ (takeF x 1 0).tab = x.tab := by
        unfold takeF shareOutF
        split
        · exact ⟨0, .inr rfl⟩
        · refine ⟨_, .inl ⟨rfl, ?_⟩⟩
          show x.per 1 + (0 - 0 * (x.val 1).rate / 100) * 1073741824 / _ = 0
          rw [q.per]; simp
      obtain ⟨_, _, k3, k4, k5, k6, k7, k8⟩ := takeF_head x 1 0
      have htl : (takeF x 1 0).tab.length = 65 ∧ (takeF x 1 0).sh 2 1 = x.sh 2 1 ∧ (takeF x 1 0).per 1 = 0 ∧ (takeF x 1 0).upto 2 1 = x.upto 2 1 := by
        obtain ⟨y, ⟨h1, h2⟩ | h1⟩ := htb
        · have := q.tl
          refine ⟨by rw [h1, List.length_set]; exact q.tl, ?_, ?_, ?_⟩
          · unfold EC.sh; rw [h1, getD_set_ne (by omega)]
          · unfold EC.per; rw [h1, getD_set_self (by omega)]; exact h2
          · unfold EC.upto; rw [h1, getD_set_ne (by omega)]
        · refine ⟨by rw [h1]; exact q.tl, by unfold EC.sh; rw [h1], ?_, by unfold EC.upto; rw [h1]⟩
          have := q.per
          unfold EC.per at *; rw [h1]; exact this
      unfold upF
      rw [e]
      exact ⟨k4.trans q.top, k5.trans q.mat, k6.trans q.fee, by simp only; rw [q.hh], rfl, by simp, k7.trans q.bl, hvs.trans q.vs, k8.trans q.en, htl.1, htl.2.1.trans q.sh, htl.2.2.1, htl.2.2.2.trans q.upt⟩
    · have h2 : shLoop x 0 t 2 = (x, 0) := by
        show (if ((shLoop x 0 t 1).1.val 1).inset = true ∧ 0 < t then _ else shLoop x 0 t 1) = _
        rw [if_neg (fun h => ht h.2), h1]
      have e : shareF x = { x with pool := P + 0, fees := 0 } := by
        unfold shareF
        rw [hb, q.vl, q.pp, q.ff, h2]
      obtain ⟨c1, c2, c3, c4, c5, c6, c7, c8, c9, c10, c11, c12, c13⟩ := q
      unfold upF
      rw [e]
      exact ⟨c1, c2, c3, by simp only; rw [c4], rfl, by simp, c7, c8, c9, c10, c11, c12, c13⟩
/-- a block without fees -/
theorem QC.block0 {jl is : Bool} {t sh : Int} (q : QC x h 0 P bal ⟨1, 0, t, sh, 0, 0, jl, is⟩ ents s) (t0 : 0 ≤ t) (hh : h < 1000) :
    (blkR x).1 = 0 ∧ (∀ bal' ents', peLoop (upF x) ents.length = (bal', ents') → QC (blkR x).2 (h + 1) 0 P bal' ⟨1, 0, t, sh, 0, 0, jl, !jl && decide (0 < t)⟩ ents' s) := by
  have qu := q.up0
  unfold blkR
  rw [q.hh, if_neg (by omega)]
  have hv : (payEF (upF x)).vals = [⟨0, 5, 0, 0, 0, 0, false, false⟩, ⟨1, 0, t, sh, 0, 0, jl, is⟩] := qu.vs
  have ht : (payEF (upF x)).top = 2 := qu.top
  refine ⟨rfl, fun bal' ents' hp => ?_⟩
  have hvv : (setF (payEF (upF x))).vals = [⟨0, 5, 0, 0, 0, 0, false, false⟩, ⟨1, 0, t, sh, 0, 0, jl, !jl && decide (0 < t)⟩] := by
    simp only [setF]; rw [hv, ht, chooseF_snd t sh jl is t0]
  obtain ⟨c1, c2, c3, c4, c5, c6, c7, c8, c9, c10, c11, c12, c13⟩ := qu
  refine ⟨c1, c2, c3, c4, c5, c6, ?_, hvv, ?_, c10, c11, c12, c13⟩
  · show (peLoop (upF x) (upF x).ents.length).1 = bal'
    rw [c9, hp]
  · show (peLoop (upF x) (upF x).ents.length).2 = ents'
    rw [c9, hp]
end
/-- the engine behind i blocks -/
def BQ (m k : Int) (i : Nat) (x : EC) : Prop :=
  match i with
  | 0 => QC x 0 180 0 [200000, 200000, 199820 - m, 200000] ⟨1, 0, m - k, m - k, 0, 0, false, false⟩ [⟨2, 1, 0, k⟩] (m - k)
  | 1 => QC x 1 0 180 [200000, 200000, 199820 - m, 200000] ⟨1, 0, m - k, m - k, 0, 0, false, decide (0 < m - k)⟩ [⟨2, 1, 0, k⟩] (m - k)
  | 2 => QC x 2 0 180 [200000, 200000, 199820 - m, 200000] ⟨1, 0, m - k, m - k, 0, 0, false, decide (0 < m - k)⟩ [⟨2, 1, 0, k⟩] (m - k)
  | _ => QC x 3 0 180 [200000, 200000, 199820 - m + k, 200000] ⟨1, 0, m - k, m - k, 0, 0, false, decide (0 < m - k)⟩ [] (m - k)
theorem BQ.block {m k : Int} {x : EC} (i : Nat) (hi : i < 3) (h : BQ m k i x) (hk : k ≤ m) : (blkR x).1 = 0 ∧ BQ m k (i + 1) (blkR x).2 := by
  have : i = 0 ∨ i = 1 ∨ i = 2 := by omega
  rcases this with rfl | rfl | rfl
  · have q : QC x 0 180 0 [200000, 200000, 199820 - m, 200000] ⟨1, 0, m - k, m - k, 0, 0, false, false⟩ [⟨2, 1, 0, k⟩] (m - k) := h
    exact q.block' (by omega) (by omega) (by intro e he; simp only [List.mem_singleton] at he; subst he; simp)
  · have q : QC x 1 0 180 [200000, 200000, 199820 - m, 200000] ⟨1, 0, m - k, m - k, 0, 0, false, decide (0 < m - k)⟩ [⟨2, 1, 0, k⟩] (m - k) := h
    obtain ⟨b1, b2⟩ := q.block0 (by omega) (by omega)
    exact ⟨b1, b2 _ _ (q.up0.wait (by intro e he; simp only [List.mem_singleton] at he; subst he; simp))⟩
  · have q : QC x 2 0 180 [200000, 200000, 199820 - m, 200000] ⟨1, 0, m - k, m - k, 0, 0, false, decide (0 < m - k)⟩ [⟨2, 1, 0, k⟩] (m - k) := h
    obtain ⟨b1, b2⟩ := q.block0 (by omega) (by omega)
    refine ⟨b1, b2 [200000, 200000, 199820 - m + k, 200000] [] ?_⟩
    have qu := q.up0
    have e1 : (upF x).ents.getD 0 e0 = ⟨2, 1, 0, k⟩ := by rw [qu.en]; rfl
    show peLoop (upF x) 1 = _
    show (if ((upF x).ents.getD 0 e0).made + (upF x).mature = (upF x).height then ((upF x).bal.set ((upF x).ents.getD 0 e0).who.toNat ((upF x).bal.getD ((upF x).ents.getD 0 e0).who.toNat 0 + ((upF x).ents.getD 0 e0).amount), ([] : List ES)) else _) = _
    rw [e1, qu.mat, qu.hh, qu.bl, if_pos (show (0 : Int) + 3 = 2 + 1 by decide)]
    rfl
section
variable {S : Nat → Prop} {W0 : World} {g : Nat} {bv vv : Value} {w : World}
theorem cUnbB {m k : Int} (hc : CS S W0 w g bv vv (fun x => QC x 0 90 0 [200000, 200000, 199910 - m, 200000] ⟨1, 0, m, m, 0, 0, false, false⟩ [] m)) (m2 : m ≤ 100000) (k1 : 1 ≤ k) (k2 : k ≤ m) :
    Calls Try.prog 21 #[.pointer (some ⟨g, 0, none⟩), .int .i64 2, .int .i64 1, .int .i64 k] w fun e w' => e = .returned (.int .i64 0) ∧ CS S W0 w' g bv vv (BQ m k 0) := by
  obtain ⟨x, ⟨ev, hP⟩, hF, q⟩ := hc
  have key : (unbR x 2 1 k).1 = 0 ∧ BQ m k 0 (unbR x 2 1 k).2 := by
    have eb : 199910 - m - 90 = 199820 - m := by omega
    by_cases e : k = m
    · subst e
      obtain ⟨r1, r2⟩ := q.unbAll rfl k1 (by show 90 ≤ 199910 - k; omega) (by decide)
      refine ⟨r1, ?_⟩
      have r3 : QC (unbR x 2 1 k).2 0 180 0 [200000, 200000, 199910 - k - 90, 200000] ⟨1, 0, 0, 0, 0, 0, false, false⟩ [⟨2, 1, 0, k⟩] 0 := r2
      rw [eb] at r3
      show QC _ 0 180 0 _ ⟨1, 0, k - k, k - k, 0, 0, false, false⟩ _ (k - k)
      rw [Int.sub_self]
      exact r3
    · obtain ⟨r1, r2⟩ := q.unb rfl k k1 (by omega) (by show 90 ≤ 199910 - m; omega) (by decide)
      refine ⟨r1, ?_⟩
      have r3 : QC (unbR x 2 1 k).2 0 180 0 [200000, 200000, 199910 - m - 90, 200000] ⟨1, 0, m - k, m - k, 0, 0, false, false⟩ [⟨2, 1, 0, k⟩] (m - k) := r2
      rw [eb] at r3
      exact r3
  refine (fUnbond hP hF x.ents.length (Nat.le_refl _) (by rw [q.en]; decide) 2 1 k).mono ?_
  rintro e w' ⟨rfl, hE, hL⟩
  rw [key.1]
  exact ⟨rfl, _, hE, hL.fine, key.2⟩
theorem cBlockB {m k : Int} {i : Nat} (hc : CS S W0 w g bv vv (BQ m k i)) (hi : i < 3) (k2 : k ≤ m) :
    Calls Try.prog 17 #[.pointer (some ⟨g, 0, none⟩)] w fun e w' => e = .returned (.int .i64 0) ∧ CS S W0 w' g bv vv (BQ m k (i + 1)) := by
  obtain ⟨x, ⟨ev, hP⟩, hF, q⟩ := hc
  obtain ⟨r1, r2⟩ := q.block i hi k2
  have hel : x.ents.length ≤ 1 := by
    have : i = 0 ∨ i = 1 ∨ i = 2 := by omega
    rcases this with rfl | rfl | rfl
    · rw [QC.en (x := x) (show QC x _ _ _ _ _ _ _ from q)]; simp
    · rw [QC.en (x := x) (show QC x _ _ _ _ _ _ _ from q)]; simp
    · rw [QC.en (x := x) (show QC x _ _ _ _ _ _ _ from q)]; simp
  refine (fBlock hP hF x.ents.length (Nat.le_refl _) (by omega)).mono ?_
  rintro e w' ⟨rfl, hE, hL⟩
  rw [r1]
  exact ⟨rfl, _, hE, hL.fine, r2⟩
/-- what is seen: the balance of the third account, the entries, the second validator -/
theorem BQ.seen {m k : Int} {i : Nat} {x : EC} (hi : i ≤ 3) (h : BQ m k i x) : x.bal = [200000, 200000, if i < 3 then 199820 - m else 199820 - m + k, 200000] ∧ x.ents = (if i < 3 then [⟨2, 1, 0, k⟩] else []) ∧ ∃ b, x.vals = [⟨0, 5, 0, 0, 0, 0, false, false⟩, ⟨1, 0, m - k, m - k, 0, 0, false, b⟩] := by
  have : i = 0 ∨ i = 1 ∨ i = 2 ∨ i = 3 := by omega
  rcases this with rfl | rfl | rfl | rfl
  · have q : QC x 0 180 0 [200000, 200000, 199820 - m, 200000] ⟨1, 0, m - k, m - k, 0, 0, false, false⟩ [⟨2, 1, 0, k⟩] (m - k) := h
    exact ⟨q.bl, q.en, _, q.vs⟩
  · have q : QC x 1 0 180 [200000, 200000, 199820 - m, 200000] ⟨1, 0, m - k, m - k, 0, 0, false, decide (0 < m - k)⟩ [⟨2, 1, 0, k⟩] (m - k) := h
    exact ⟨q.bl, q.en, _, q.vs⟩
  · have q : QC x 2 0 180 [200000, 200000, 199820 - m, 200000] ⟨1, 0, m - k, m - k, 0, 0, false, decide (0 < m - k)⟩ [⟨2, 1, 0, k⟩] (m - k) := h
    exact ⟨q.bl, q.en, _, q.vs⟩
  · have q : QC x 3 0 180 [200000, 200000, 199820 - m + k, 200000] ⟨1, 0, m - k, m - k, 0, 0, false, decide (0 < m - k)⟩ [] (m - k) := h
    exact ⟨q.bl, q.en, _, q.vs⟩
end
end Go.Proofs.Ytohjjgefklhmaaa
