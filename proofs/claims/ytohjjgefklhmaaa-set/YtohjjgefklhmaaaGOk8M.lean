import Derived.Test.YtohjjgefklhmaaaGSlash2M
namespace Go.Proofs.Ytohjjgefklhmaaa
open Go.ChangeShapes Go.WideShapes Go.ChangeAt Go.RowKit
set_option linter.unusedVariables false

theorem slashF_val (x : EC) (j : Nat) (hgt p : Int) (hj : j < x.vals.length) (i : Nat) : (slashF x j hgt p).val i = if i = j then { x.val j with tokens := (x.val j).tokens - lostF (x.val j).tokens p, jailed := true, inset := false } else x.val i := by
  have h1 : j < (x.vals.modify j (fun v => { v with tokens := v.tokens - lostF (x.val j).tokens p })).length := by simpa using hj
  have h2 : j < ((x.vals.modify j (fun v => { v with tokens := v.tokens - lostF (x.val j).tokens p })).modify j (fun v => { v with jailed := true })).length := by simpa using hj
  show (((x.vals.modify j (fun v => { v with tokens := v.tokens - lostF (x.val j).tokens p })).modify j (fun v => { v with jailed := true })).modify j (fun v => { v with inset := false })).getD i v0 = _
  rw [val_mod _ _ _ _ h2]
  by_cases e : i = j
  · subst e
    rw [if_pos rfl, if_pos rfl, val_mod _ _ _ _ h1, if_pos rfl, val_mod _ _ _ _ hj, if_pos rfl]
    rfl
  · rw [if_neg e, if_neg e, val_mod _ _ _ _ h1, if_neg e, val_mod _ _ _ _ hj, if_neg e]
    rfl
theorem sumV_modify_eq (f : VS → Int) (g : VS → VS) (l : List VS) (j : Nat) (h : ∀ v, f (g v) = f v) : sumV f (l.modify j g) = sumV f l := by
  by_cases hj : j < l.length
  · rw [sumV_mod f l j g hj]
    have := h (l.getD j v0)
    omega
  · have e : l.modify j g = l := by
      apply List.ext_getElem?
      intro i
      rw [List.getElem?_modify]
      by_cases ei : j = i
      · subst ei; rw [List.getElem?_eq_none (by omega)]; rfl
      · simp [ei]
    rw [e]
theorem slashF_sums (x : EC) (j : Nat) (hgt p : Int) (hj : j < x.vals.length) : sumV (·.tokens) (slashF x j hgt p).vals = sumV (·.tokens) x.vals - lostF (x.val j).tokens p ∧ sumV (·.outs) (slashF x j hgt p).vals = sumV (·.outs) x.vals := by
  have e0 : (slashF x j hgt p).vals = ((x.vals.modify j (fun v => { v with tokens := v.tokens - lostF (x.val j).tokens p })).modify j (fun v => { v with jailed := true })).modify j (fun v => { v with inset := false }) := rfl
  rw [e0]
  constructor
  · refine (sumV_modify_eq (·.tokens) _ _ _ (by intro v; rfl)).trans ((sumV_modify_eq (·.tokens) _ _ _ (by intro v; rfl)).trans ?_)
    rw [sumV_mod _ _ _ _ hj, x.val_getD j]
    show sumV (·.tokens) x.vals + ((x.val j).tokens - lostF (x.val j).tokens p) - (x.val j).tokens = _
    omega
  · exact (sumV_modify_eq (·.outs) _ _ _ (by intro v; rfl)).trans ((sumV_modify_eq (·.outs) _ _ _ (by intro v; rfl)).trans (sumV_modify_eq (·.outs) _ _ _ (by intro v; rfl)))
section
variable {H : Int} {x : EC}
theorem Ok.slOk (ok : Ok H x) {j : Nat} {hgt p : Int} (hj : j < x.vals.length) (p0 : 1 ≤ p) (p1 : p ≤ 100) (hn : x.ents.length ≤ 100000) : SlOk (slTokF x j p) j hgt p := by
  obtain ⟨b1, b2, b3, b4, b5⟩ := ok.bds
  have hb := b4 j hj
  have hv := ok.val j hj
  obtain ⟨l0, l1⟩ := lostF_bd hv.t0 (show 0 ≤ p by omega) p1
  have hp := ok.pool
  have hpt : (slTokF x j p).pool = x.pool + lostF (x.val j).tokens p := rfl
  refine ⟨hn, by omega, p1, fun k hk => ⟨(ok.ent _ (List.getElem_mem hk)).a0, b5 k hk⟩, fun k hk => ?_⟩
  obtain ⟨s1, s2⟩ := slLoop_pool (slTokF x j p) j hgt p (by omega) p1 (fun e he => (ok.ent e he).a0) k hk
  have s3 : 0 ≤ sumI ((slLoop (slTokF x j p) j hgt p k).2.map (·.amount)) := sumI_nn _ (fun i hi => by
    have hi' : i < (slLoop (slTokF x j p) j hgt p k).2.length := by simpa using hi
    have e : ((slLoop (slTokF x j p) j hgt p k).2.map (·.amount)).getD i 0 = (slLoop (slTokF x j p) j hgt p k).2[i].amount := by simp [hi']
    rw [e]
    exact (slLoop_nn (slTokF x j p) j hgt p (by omega) p1 x.bal.length x.height (fun e he => ok.ent e he) k hk _ (List.getElem_mem hi')).a0)
  have s4 : sumI ((slTokF x j p).ents.map (·.amount)) ≤ 1000000 := by
    obtain ⟨q1, q2, q3, q4⟩ := ok.parts
    have ht := ok.tot
    have hf := ok.fees
    unfold EC.tot at ht
    show sumI (x.ents.map (·.amount)) ≤ 1000000
    omega
  rw [hpt] at s1 s2
  constructor <;> omega
theorem Ok.slash (ok : Ok H x) {j : Nat} {hgt p : Int} (hj : j < x.vals.length) (p0 : 1 ≤ p) (p1 : p ≤ 100) : Ok H (slashF x j hgt p) ∧ (slashF x j hgt p).tot = x.tot ∧ (slashF x j hgt p).ents.length = x.ents.length := by
  have hv := ok.val j hj
  obtain ⟨l0, l1⟩ := lostF_bd hv.t0 (show 0 ≤ p by omega) p1
  have hval := slashF_val x j hgt p hj
  obtain ⟨su1, su2⟩ := slashF_sums x j hgt p hj
  have hvl : (slashF x j hgt p).vals.length = x.vals.length := by simp [slashF, jailF, slEntF, slTokF]
  have hel : (slashF x j hgt p).ents.length = x.ents.length := slLoop_len (slTokF x j p) j hgt p _
  obtain ⟨s1, s2⟩ := slLoop_pool (slTokF x j p) j hgt p (by omega) p1 (fun e he => (ok.ent e he).a0) x.ents.length (Nat.le_refl _)
  have hpl : (slashF x j hgt p).pool = (slLoop (slTokF x j p) j hgt p x.ents.length).1 := rfl
  have hen : (slashF x j hgt p).ents = (slLoop (slTokF x j p) j hgt p x.ents.length).2 := rfl
  have hpt : (slTokF x j p).pool = x.pool + lostF (x.val j).tokens p := rfl
  have hte : (slTokF x j p).ents = x.ents := rfl
  rw [← hpl, hpt] at s1
  rw [← hpl, ← hen, hpt, hte] at s2
  have htot : (slashF x j hgt p).tot = x.tot := by
    unfold EC.tot
    rw [su1, su2]
    have e1 : (slashF x j hgt p).bal = x.bal := rfl
    have e2 : (slashF x j hgt p).fees = x.fees := rfl
    rw [e1, e2]
    omega
  have hp := ok.pool
  refine ⟨⟨ok.b6, by rw [hvl]; exact ok.v5, ok.tl, ok.fee0, ok.fee1, ok.top0, ok.top1, ok.mat0, ok.mat1, ok.hgt0, ok.hgt1, ok.H0, ok.H1, ok.bal, ok.fees, by omega, fun i hi => ?_, ?_, by rw [htot]; exact ok.tot, ok.sh0, fun i hi => ?_, ok.per, ok.upt, fun i hi => ?_⟩, htot, hel⟩
  · rw [hvl] at hi
    rw [hval]
    split
    · exact ⟨by show 0 ≤ (x.val j).tokens - lostF (x.val j).tokens p; omega, hv.s0, hv.s1, hv.r0, hv.r1, hv.k0, hv.ko, fun ht => hv.tk (by have : 0 < (x.val j).tokens - lostF (x.val j).tokens p := ht; omega), hv.oz, fun _ => rfl⟩
    · exact ok.val i hi
  · exact slLoop_nn (slTokF x j p) j hgt p (by omega) p1 x.bal.length x.height (fun e he => ok.ent e he) x.ents.length (Nat.le_refl _)
  · rw [hvl] at hi
    rw [hval]
    have := ok.shs i hi
    split
    · rename_i e; subst e; exact this
    · exact this
  · rw [hvl] at hi
    rw [hval]
    have := ok.due i hi
    split
    · rename_i e; subst e; exact this
    · exact this
theorem outF_val (x : EC) (j : Nat) (hj : j < x.vals.length) (i : Nat) : (outF x j).val i = if i = j then { x.val j with jailed := false } else x.val i := by
  show (x.vals.modify j (fun v => { v with jailed := false })).getD i v0 = _
  rw [val_mod _ _ _ _ hj]
  rfl
theorem Ok.out (ok : Ok H x) {j : Nat} (hj : j < x.vals.length) : Ok H (outF x j) ∧ (outF x j).tot = x.tot := by
  have hv := ok.val j hj
  have hval := outF_val x j hj
  have hvl : (outF x j).vals.length = x.vals.length := by simp [outF]
  have htot : (outF x j).tot = x.tot := by
    have e0 : (outF x j).vals = x.vals.modify j (fun v => { v with jailed := false }) := rfl
    unfold EC.tot
    rw [e0]
    have t1 : sumV (·.tokens) (x.vals.modify j (fun v => { v with jailed := false })) = sumV (·.tokens) x.vals := sumV_modify_eq (·.tokens) _ _ _ (by intro v; rfl)
    have t2 : sumV (·.outs) (x.vals.modify j (fun v => { v with jailed := false })) = sumV (·.outs) x.vals := sumV_modify_eq (·.outs) _ _ _ (by intro v; rfl)
    rw [t1, t2]
    have e1 : (outF x j).bal = x.bal := rfl
    have e2 : (outF x j).fees = x.fees := rfl
    have e3 : (outF x j).pool = x.pool := rfl
    have e4 : (outF x j).ents = x.ents := rfl
    rw [e1, e2, e3, e4]
  refine ⟨⟨ok.b6, by rw [hvl]; exact ok.v5, ok.tl, ok.fee0, ok.fee1, ok.top0, ok.top1, ok.mat0, ok.mat1, ok.hgt0, ok.hgt1, ok.H0, ok.H1, ok.bal, ok.fees, ok.pool, fun i hi => ?_, ok.ent, by rw [htot]; exact ok.tot, ok.sh0, fun i hi => ?_, ok.per, ok.upt, fun i hi => ?_⟩, htot⟩
  · rw [hvl] at hi
    rw [hval]
    split
    · exact ⟨hv.t0, hv.s0, hv.s1, hv.r0, hv.r1, hv.k0, hv.ko, hv.tk, hv.oz, fun h => by cases h⟩
    · exact ok.val i hi
  · rw [hvl] at hi
    rw [hval]
    have := ok.shs i hi
    split
    · rename_i e; subst e; exact this
    · exact this
  · rw [hvl] at hi
    rw [hval]
    have := ok.due i hi
    split
    · rename_i e; subst e; exact this
    · exact this
end
end Go.Proofs.Ytohjjgefklhmaaa
