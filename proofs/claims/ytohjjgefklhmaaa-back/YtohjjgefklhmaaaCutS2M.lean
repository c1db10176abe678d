import Derived.Test.YtohjjgefklhmaaaCutSM
namespace Go.Proofs.Ytohjjgefklhmaaa
open Go.ChangeShapes Go.WideShapes Go.ChangeAt Go.RowKit
set_option linter.unusedVariables false

theorem x0_fine (r : Int) (r0 : 0 ≤ r) (r1 : r ≤ 100) : Fine (x0 r) := (xN_fine (good_r r r0 r1)).1
theorem peLoop_none (x : EC) (h : ∀ e, e ∈ x.ents → ¬ e.made + x.mature = x.height) (k : Nat) (hk : k ≤ x.ents.length) : peLoop x k = (x.bal, x.ents.take k) := by
  induction k with
  | zero => rfl
  | succ k ih =>
    have hlt : k < x.ents.length := by omega
    have egd : x.ents.getD k e0 = x.ents[k] := by simp [hlt]
    unfold peLoop
    rw [egd, if_neg (h _ (List.getElem_mem hlt)), ih (by omega), List.take_succ_eq_append_getElem hlt]
section
variable {x : EC} {h f P : Int} {bal : List Int} {v : VS} {ents : List ES} {s : Int}
theorem QC.wait (q : QC x h f P bal v ents s) (hw : ∀ e, e ∈ ents → ¬ e.made + 3 = h) : peLoop x ents.length = (bal, ents) := by
  have := peLoop_none x (fun e he => by rw [q.mat, q.hh]; rw [q.en] at he; exact hw e he) x.ents.length (Nat.le_refl _)
  rw [q.en, q.bl, List.take_length] at this
  exact this
theorem QC.block' {jl : Bool} {t sh : Int} (q : QC x h f P bal ⟨1, 0, t, sh, 0, 0, jl, false⟩ ents s) (t0 : 0 ≤ t) (hh : h < 1000) (hw : ∀ e, e ∈ ents → ¬ e.made + 3 = h + 1) :
    (blkR x).1 = 0 ∧ QC (blkR x).2 (h + 1) 0 (P + f) bal ⟨1, 0, t, sh, 0, 0, jl, !jl && decide (0 < t)⟩ ents s := by
  obtain ⟨b1, b2, b3⟩ := q.block t0 hh
  exact ⟨b1, b3 (q.up.wait hw)⟩
/-- a slash of all, and of what was made at the height 1 or later -/
theorem QC.slash {jl is : Bool} {t sh hgt p : Int} (q : QC x 1 f P bal ⟨1, 0, t, sh, 0, 0, jl, is⟩ [⟨2, 1, 0, 3⟩, ⟨2, 1, 1, 4⟩] s) (g0 : 0 ≤ hgt) (g1 : hgt ≤ 1) (p0 : 1 ≤ p) (p1 : p ≤ 100) :
    (slashR x 1 hgt p).1 = 0 ∧ QC (slashR x 1 hgt p).2 1 f (P + lostF t p + (if hgt ≤ 0 then lostF 3 p else 0) + lostF 4 p) bal ⟨1, 0, t - lostF t p, sh, 0, 0, true, false⟩ [⟨2, 1, 0, if hgt ≤ 0 then 3 - lostF 3 p else 3⟩, ⟨2, 1, 1, 4 - lostF 4 p⟩] s := by
  have he : slErrF x 1 hgt p = 0 := by
    unfold slErrF
    rw [q.vl, if_neg (by decide), q.hh, if_neg (by omega), if_neg (by omega)]
  have e : slashR x 1 hgt p = (0, slashF x 1 hgt p) := by
    unfold slashR
    rw [if_neg (by rw [he]; simp)]
    rfl
  rw [e]
  refine ⟨rfl, ?_⟩
  have hv1 := q.val1
  obtain ⟨c1, c2, c3, c4, c5, c6, c7, c8, c9, c10, c11, c12, c13⟩ := q
  have htk : (x.val 1).tokens = t := by rw [hv1]
  have hen : (slTokF x 1 p).ents = [⟨2, 1, 0, 3⟩, ⟨2, 1, 1, 4⟩] := c9
  have hpl : (slTokF x 1 p).pool = P + lostF t p := by
    show x.pool + lostF (x.val 1).tokens p = _
    rw [htk, c6]
  have hlp : slLoop (slTokF x 1 p) 1 hgt p 2 = (P + lostF t p + (if hgt ≤ 0 then lostF 3 p else 0) + lostF 4 p, [⟨2, 1, 0, if hgt ≤ 0 then 3 - lostF 3 p else 3⟩, ⟨2, 1, 1, 4 - lostF 4 p⟩]) := by
    have h4 : hgt ≤ (1 : Int) := g1
    simp only [slLoop, hen, hpl]
    by_cases h3 : hgt ≤ 0
    · simp [h3, h4, cutE]
    · simp [h3, h4, cutE]
  refine ⟨c1, c2, c3, c4, c5, ?_, c7, ?_, ?_, c10, c11, c12, c13⟩
  · show (slLoop (slTokF x 1 p) 1 hgt p (slTokF x 1 p).ents.length).1 = _
    rw [hen, show ([⟨2, 1, 0, 3⟩, ⟨2, 1, 1, 4⟩] : List ES).length = 2 from rfl, hlp]
  · show (((x.vals.modify 1 (fun v => { v with tokens := v.tokens - lostF (x.val 1).tokens p })).modify 1 (fun v => { v with jailed := true })).modify 1 (fun v => { v with inset := false })) = _
    rw [htk, c8]
    rfl
  · show (slLoop (slTokF x 1 p) 1 hgt p (slTokF x 1 p).ents.length).2 = _
    rw [hen, show ([⟨2, 1, 0, 3⟩, ⟨2, 1, 1, 4⟩] : List ES).length = 2 from rfl, hlp]
/-- who does not own it does not free it -/
theorem QC.free_no {jl is : Bool} {t sh : Int} (q : QC x h f P bal ⟨1, 0, t, sh, 0, 0, jl, is⟩ ents s) (hb : bal.length = 4) (hm : 90 ≤ bal.getD 2 0) :
    (freeR x 2 1).1 = 10 ∧ QC (freeR x 2 1).2 h (f + 90) P (bal.set 2 (bal.getD 2 0 - 90)) ⟨1, 0, t, sh, 0, 0, jl, is⟩ ents s := by
  have hc : chErr x ((2 : Nat) : Int) = 0 := q.paid 2 (by omega) (by omega)
  have qc := q.charge 2
  have ho : ownErrF (chargeF x 2) 2 1 = 10 := by
    unfold ownErrF
    rw [qc.vl, if_neg (by decide)]
    show (if ((chargeF x 2).val 1).owner = 2 then (0 : Int) else 10) = 10
    rw [qc.val1, if_neg (by simp)]
  have he : freeErrF (chargeF x 2) ((2 : Nat) : Int) 1 = 10 := by
    unfold freeErrF
    show (if ownErrF (chargeF x 2) 2 1 ≠ 0 then ownErrF (chargeF x 2) 2 1 else _) = 10
    rw [ho, if_pos (by decide)]
  have e : freeR x 2 1 = (freeErrF (chargeF x 2) ((2 : Nat) : Int) 1, chargeF x 2) := msgR_err (k := 2) (err := fun y k => freeErrF y k 1) (act := fun y _ => outF y (1 : Int).toNat) hc (show ¬ freeErrF (chargeF x 2) ((2 : Nat) : Int) 1 = 0 by rw [he]; decide)
  rw [e, he]
  exact ⟨rfl, qc⟩
theorem QC.free_yes {is : Bool} {t sh : Int} (q : QC x h f P bal ⟨1, 0, t, sh, 0, 0, true, is⟩ ents s) (hb : bal.length = 4) (hm : 90 ≤ bal.getD 1 0) :
    (freeR x 1 1).1 = 0 ∧ QC (freeR x 1 1).2 h (f + 90) P (bal.set 1 (bal.getD 1 0 - 90)) ⟨1, 0, t, sh, 0, 0, false, is⟩ ents s := by
  have hc : chErr x ((1 : Nat) : Int) = 0 := q.paid 1 (by omega) (by omega)
  have qc := q.charge 1
  have ho : ownErrF (chargeF x 1) 1 1 = 0 := by
    unfold ownErrF
    rw [qc.vl, if_neg (by decide)]
    show (if ((chargeF x 1).val 1).owner = 1 then (0 : Int) else 10) = 0
    rw [qc.val1, if_pos rfl]
  have he : freeErrF (chargeF x 1) ((1 : Nat) : Int) 1 = 0 := by
    unfold freeErrF
    show (if ownErrF (chargeF x 1) 1 1 ≠ 0 then ownErrF (chargeF x 1) 1 1 else if ((chargeF x 1).val 1).jailed = true then (0 : Int) else 11) = 0
    rw [ho, if_neg (by decide), qc.val1, if_pos rfl]
  have e : freeR x 1 1 = (0, outF (chargeF x 1) 1) := msgR_ok (k := 1) (err := fun y k => freeErrF y k 1) (act := fun y _ => outF y (1 : Int).toNat) hc he
  rw [e]
  refine ⟨rfl, ?_⟩
  obtain ⟨c1, c2, c3, c4, c5, c6, c7, c8, c9, c10, c11, c12, c13⟩ := qc
  refine ⟨c1, c2, c3, c4, c5, c6, c7, ?_, c9, c10, c11, c12, c13⟩
  show (chargeF x 1).vals.modify 1 (fun v => { v with jailed := false }) = _
  rw [c8]
  rfl
end

/-! ### the calls -/
/-- an engine whose numbers are these -/
def CS (S : Nat → Prop) (W0 w : World) (g : Nat) (bv vv : Value) (Q : EC → Prop) : Prop := ∃ x, Eng S W0 w g x bv vv ∧ Fine x ∧ Q x
section
variable {S : Nat → Prop} {W0 : World} {g : Nat} {bv vv : Value} {w : World} {h f P : Int} {bal : List Int} {v : VS} {ents : List ES} {s : Int}
theorem cBond {jl is : Bool} (hc : CS S W0 w g bv vv (fun x => QC x h f P bal ⟨1, 0, 0, 0, 0, 0, jl, is⟩ ents 0)) (hb : bal.length = 4) (m : Int) (m1 : 1 ≤ m) (m2 : m ≤ 1000000) (hm : m + 90 ≤ bal.getD 2 0) :
    Calls Try.prog 20 #[.pointer (some ⟨g, 0, none⟩), .int .i64 2, .int .i64 1, .int .i64 m] w fun e w' => e = .returned (.int .i64 0) ∧ CS S W0 w' g bv vv (fun x => QC x h (f + 90) P (bal.set 2 (bal.getD 2 0 - 90 - m)) ⟨1, 0, m, m, 0, 0, jl, is⟩ ents m) := by
  obtain ⟨x, ⟨ev, hP⟩, hF, q⟩ := hc
  obtain ⟨r1, r2⟩ := q.bond (t := 0) hb m m1 m2 hm
  refine (fBond hP hF x.ents.length (Nat.le_refl _) 2 1 m).mono ?_
  rintro e w' ⟨rfl, hE, hL⟩
  rw [r1]
  exact ⟨rfl, _, hE, hL.fine, r2⟩
theorem cUnb {t : Int} {jl is : Bool} (hc : CS S W0 w g bv vv (fun x => QC x h f P bal ⟨1, 0, t, t, 0, 0, jl, is⟩ ents t)) (hb : bal.length = 4) (n : Int) (n1 : 1 ≤ n) (n2 : n < t) (hm : 90 ≤ bal.getD 2 0) (hc4 : countE ents 2 1 < 4) (hl : ents.length ≤ 1000) :
    Calls Try.prog 21 #[.pointer (some ⟨g, 0, none⟩), .int .i64 2, .int .i64 1, .int .i64 n] w fun e w' => e = .returned (.int .i64 0) ∧ CS S W0 w' g bv vv (fun x => QC x h (f + 90) P (bal.set 2 (bal.getD 2 0 - 90)) ⟨1, 0, t - n, t - n, 0, 0, jl, is⟩ (ents ++ [⟨2, 1, h, n⟩]) (t - n)) := by
  obtain ⟨x, ⟨ev, hP⟩, hF, q⟩ := hc
  obtain ⟨r1, r2⟩ := q.unb hb n n1 n2 hm hc4
  refine (fUnbond hP hF x.ents.length (Nat.le_refl _) (by rw [q.en]; omega) 2 1 n).mono ?_
  rintro e w' ⟨rfl, hE, hL⟩
  rw [r1]
  exact ⟨rfl, _, hE, hL.fine, r2⟩
theorem cBlock {jl : Bool} {t sh : Int} (hc : CS S W0 w g bv vv (fun x => QC x h f P bal ⟨1, 0, t, sh, 0, 0, jl, false⟩ ents s)) (t0 : 0 ≤ t) (hh : h < 1000) (hw : ∀ e, e ∈ ents → ¬ e.made + 3 = h + 1) (hl : ents.length ≤ 1000) :
    Calls Try.prog 17 #[.pointer (some ⟨g, 0, none⟩)] w fun e w' => e = .returned (.int .i64 0) ∧ CS S W0 w' g bv vv (fun x => QC x (h + 1) 0 (P + f) bal ⟨1, 0, t, sh, 0, 0, jl, !jl && decide (0 < t)⟩ ents s) := by
  obtain ⟨x, ⟨ev, hP⟩, hF, q⟩ := hc
  obtain ⟨r1, r2⟩ := q.block' t0 hh hw
  refine (fBlock hP hF x.ents.length (Nat.le_refl _) (by rw [q.en]; omega)).mono ?_
  rintro e w' ⟨rfl, hE, hL⟩
  rw [r1]
  exact ⟨rfl, _, hE, hL.fine, r2⟩
theorem cBlock2 {jl : Bool} {t sh : Int} (hc : CS S W0 w g bv vv (fun x => QC x h f P bal ⟨1, 0, t, sh, 0, 0, jl, false⟩ ents s)) (t0 : 0 ≤ t) (hh : h < 1000) (hl : ents.length ≤ 100) (hb : bal.length = 4) :
    Calls Try.prog 17 #[.pointer (some ⟨g, 0, none⟩)] w fun e w' => e = .returned (.int .i64 0) ∧ CS S W0 w' g bv vv (fun x => x.vals = [⟨0, 5, 0, 0, 0, 0, false, false⟩, ⟨1, 0, t, sh, 0, 0, jl, !jl && decide (0 < t)⟩] ∧ x.ents.length ≤ 101) := by
  obtain ⟨x, ⟨ev, hP⟩, hF, q⟩ := hc
  obtain ⟨r1, r2, _⟩ := q.block t0 hh
  refine (fBlock hP hF x.ents.length (Nat.le_refl _) (by rw [q.en]; omega)).mono ?_
  rintro e w' ⟨rfl, hE, hL⟩
  rw [r1]
  exact ⟨rfl, _, hE, hL.fine, r2, by have := hL.el; rw [q.en] at this; omega⟩
theorem cSlash {jl is : Bool} {t sh hgt p : Int} (hc : CS S W0 w g bv vv (fun x => QC x 1 f P bal ⟨1, 0, t, sh, 0, 0, jl, is⟩ [⟨2, 1, 0, 3⟩, ⟨2, 1, 1, 4⟩] s)) (g0 : 0 ≤ hgt) (g1 : hgt ≤ 1) (p0 : 1 ≤ p) (p1 : p ≤ 100) :
    Calls Try.prog 31 #[.pointer (some ⟨g, 0, none⟩), .int .i64 1, .int .i64 hgt, .int .i64 p] w fun e w' => e = .returned (.int .i64 0) ∧ CS S W0 w' g bv vv (fun x => QC x 1 f (P + lostF t p + (if hgt ≤ 0 then lostF 3 p else 0) + lostF 4 p) bal ⟨1, 0, t - lostF t p, sh, 0, 0, true, false⟩ [⟨2, 1, 0, if hgt ≤ 0 then 3 - lostF 3 p else 3⟩, ⟨2, 1, 1, 4 - lostF 4 p⟩] s) := by
  obtain ⟨x, ⟨ev, hP⟩, hF, q⟩ := hc
  obtain ⟨r1, r2⟩ := q.slash g0 g1 p0 p1
  refine (fSlash hP hF x.ents.length (Nat.le_refl _) 1 hgt p (by rw [q.en]; decide)).mono ?_
  rintro e w' ⟨rfl, hE, hL⟩
  rw [r1]
  exact ⟨rfl, _, hE, hL.fine, r2⟩
theorem cFree2 {jl is : Bool} {t sh : Int} (hc : CS S W0 w g bv vv (fun x => QC x h f P bal ⟨1, 0, t, sh, 0, 0, jl, is⟩ ents s)) (hb : bal.length = 4) (hm : 90 ≤ bal.getD 2 0) :
    Calls Try.prog 32 #[.pointer (some ⟨g, 0, none⟩), .int .i64 2, .int .i64 1] w fun e w' => e = .returned (.int .i64 10) ∧ CS S W0 w' g bv vv (fun x => QC x h (f + 90) P (bal.set 2 (bal.getD 2 0 - 90)) ⟨1, 0, t, sh, 0, 0, jl, is⟩ ents s) := by
  obtain ⟨x, ⟨ev, hP⟩, hF, q⟩ := hc
  obtain ⟨r1, r2⟩ := q.free_no hb hm
  refine (fFree hP hF x.ents.length (Nat.le_refl _) 2 1).mono ?_
  rintro e w' ⟨rfl, hE, hL⟩
  rw [r1]
  exact ⟨rfl, _, hE, hL.fine, r2⟩
theorem cFree1 {is : Bool} {t sh : Int} (hc : CS S W0 w g bv vv (fun x => QC x h f P bal ⟨1, 0, t, sh, 0, 0, true, is⟩ ents s)) (hb : bal.length = 4) (hm : 90 ≤ bal.getD 1 0) :
    Calls Try.prog 32 #[.pointer (some ⟨g, 0, none⟩), .int .i64 1, .int .i64 1] w fun e w' => e = .returned (.int .i64 0) ∧ CS S W0 w' g bv vv (fun x => QC x h (f + 90) P (bal.set 1 (bal.getD 1 0 - 90)) ⟨1, 0, t, sh, 0, 0, false, is⟩ ents s) := by
  obtain ⟨x, ⟨ev, hP⟩, hF, q⟩ := hc
  obtain ⟨r1, r2⟩ := q.free_yes hb hm
  refine (fFree hP hF x.ents.length (Nat.le_refl _) 1 1).mono ?_
  rintro e w' ⟨rfl, hE, hL⟩
  rw [r1]
  exact ⟨rfl, _, hE, hL.fine, r2⟩
theorem CS.below {Q : EC → Prop} {w' : World} (hc : CS S W0 w g bv vv Q) (hb : Below w.heap.size w w') : CS S W0 w' g bv vv Q := by
  obtain ⟨x, ⟨ev, hP⟩, hF, q⟩ := hc
  exact ⟨x, ⟨ev, hP.below hb⟩, hF, q⟩
theorem cSee {Q : EC → Prop} (hc : CS S W0 w g bv vv Q) (hl : ∀ x, Q x → x.ents.length ≤ 1000) :
    Calls Try.prog 15 #[.pointer (some ⟨g, 0, none⟩)] w fun e w' => ∃ x, Q x ∧ SeeQ w w' e x := by
  obtain ⟨x, ⟨ev, hP⟩, hF, q⟩ := hc
  have okx : Ok x.height x := hF
  refine (kseeQ g x bv vv ev w hP okx.feeOk.vb (fun k hk => ⟨(okx.ent _ (List.getElem_mem hk)).a0, okx.bds.2.2.2.2 k hk⟩) okx.b6 okx.v5 (hl x q)).mono ?_
  intro e w' h
  exact ⟨x, q, h⟩
end
end Go.Proofs.Ytohjjgefklhmaaa
