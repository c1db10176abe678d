import Derived.Test.YtohjjgefklhmaabGreatDoorGOkM
namespace Go.Proofs.YtohjjgefklhmaabGreatDoor
open Go.ChangeShapes Go.WideShapes Go.ChangeAt Go.RowKit
set_option linter.unusedVariables false

theorem tokensForF_all {v : VS} (h : 0 < v.shares) : tokensForF v v.shares = v.tokens := by
  unfold tokensForF
  rw [if_neg (by omega)]
  exact Int.mul_ediv_cancel_left _ (by omega)

section
variable {H : Int} {x : EC} (ok : Ok H x) {k j : Nat} (hk : k < x.bal.length) (hj : j < x.vals.length)
include ok hk hj
/-! ### leave -/
theorem goneF_upd (n t : Int) : Upd x (goneF (payF x k j) k j n t) k j := by
  have b6 := ok.b6
  have v5 := ok.v5
  have tl := ok.tl
  have hp := payF_upd ok hk hj
  have hpl : (payF x k j).vals.length = x.vals.length := hp.vl
  have hpt : (payF x k j).tab.length = 65 := hp.tl.trans tl
  refine ⟨hp.bl, by simp only [goneF, List.length_modify]; exact hpl, by simp only [goneF, List.length_set]; exact hp.tl, rfl, rfl, rfl, rfl, rfl, fun i hi => hp.bal i hi, fun i hi => ?_, fun a b h1 h2 h3 => ?_, fun a h1 => ?_, fun a b h1 h2 h3 => ?_⟩
  · rw [← hp.val i hi]
    show ((((payF x k j).vals.modify j _).modify j _).getD i v0) = (payF x k j).vals.getD i v0
    rw [val_mod _ _ _ _ (by simp; omega), if_neg hi, val_mod _ _ _ _ (by omega), if_neg hi]
  · rw [← hp.sh a b h1 h2 h3]
    simp only [goneF, EC.sh]; rw [tab_any _ _ _ _ (by omega), if_neg (by omega)]
  · rw [← hp.per a h1]
    simp only [goneF, EC.per]; rw [tab_any _ _ _ _ (by omega), if_neg (by omega)]
  · rw [← hp.upt a b h1 h2 h3]
    simp only [goneF, EC.upto]; rw [tab_any _ _ _ _ (by omega), if_neg (by omega)]
theorem goneF_at (n t : Int) : (goneF (payF x k j) k j n t).balAt k = x.balAt k + x.due k j ∧ (goneF (payF x k j) k j n t).val j = { x.val j with outs := (x.val j).outs - x.due k j, tokens := (x.val j).tokens - t, shares := (x.val j).shares - n } ∧ (goneF (payF x k j) k j n t).sh k j = x.sh k j - n ∧ (goneF (payF x k j) k j n t).upto k j = x.per j ∧ (goneF (payF x k j) k j n t).tot = x.tot - t ∧ (goneF (payF x k j) k j n t).vals.length = x.vals.length := by
  have b6 := ok.b6
  have v5 := ok.v5
  have tl := ok.tl
  obtain ⟨e1, e2, e3, e4, e5⟩ := payF_at ok hk hj
  have hp := payF_upd ok hk hj
  have hpl : (payF x k j).vals.length = x.vals.length := hp.vl
  have hpt : (payF x k j).tab.length = 65 := hp.tl.trans tl
  refine ⟨e1, ?_, ?_, ?_, ?_, by simp only [goneF, List.length_modify]; exact hpl⟩
  · show ((((payF x k j).vals.modify j _).modify j _).getD j v0) = _
    rw [val_mod _ _ _ _ (by simp; omega), if_pos rfl, val_mod _ _ _ _ (by omega), if_pos rfl, EC.val_getD, e2]
  · rw [← e3]; simp only [goneF, EC.sh]; rw [tab_any _ _ _ _ (by omega), if_pos rfl]
  · rw [← e4]; simp only [goneF, EC.upto]; rw [tab_any _ _ _ _ (by omega), if_neg (by omega)]
  · rw [← e5]
    unfold EC.tot goneF
    simp only
    rw [sumV_mod _ _ _ _ (by simp; omega), sumV_mod _ _ _ _ (by omega), sumV_mod _ _ _ _ (by simp; omega), sumV_mod _ _ _ _ (by omega), val_mod _ _ _ _ (by omega), if_pos rfl]
    simp only
    omega
theorem Ok.leave (n : Int) (n1 : 1 ≤ n) (n2 : n ≤ x.sh k j) : Ok H (leaveF x k j n) ∧ (leaveF x k j n).tot = x.tot - tokensForF (x.val j) n ∧ (∀ i, i ≠ j → (leaveF x k j n).val i = x.val i) ∧ (leaveF x k j n).bal.length = x.bal.length ∧ (leaveF x k j n).vals.length = x.vals.length ∧ (leaveF x k j n).ents = x.ents ∧ (leaveF x k j n).height = x.height := by
  have b6 := ok.b6
  have v5 := ok.v5
  have hv := ok.val j hj
  have hsl := ok.sh_le (k := k) (by omega) hj
  obtain ⟨q0, q1⟩ := tokensForF_bd (ok.valOk hj) (show 0 ≤ n by omega) (show n ≤ (x.val j).shares by omega)
  obtain ⟨e1, e2, e3, e4, e5, e6⟩ := goneF_at ok hk hj n (tokensForF (x.val j) n)
  have hu := goneF_upd ok hk hj n (tokensForF (x.val j) n)
  obtain ⟨d0, d1, d2⟩ := ok.due_le (k := k) (by omega) hj
  have hb := ok.bal k hk
  have hp := ok.upt k j (by omega) (by omega)
  have hpool := ok.pool
  have htot := ok.tot
  by_cases hz : (x.val j).shares - n = 0
  · have e0 : leaveF x k j n = clearF (goneF (payF x k j) k j n (tokensForF (x.val j) n)) j := by unfold leaveF; rw [if_pos hz]
    have hn : n = (x.val j).shares := by omega
    have ht : tokensForF (x.val j) n = (x.val j).tokens := by rw [hn]; exact tokensForF_all (by omega)
    rw [e0]
    have hgp : (goneF (payF x k j) k j n (tokensForF (x.val j) n)).pool = x.pool := rfl
    have hgf : (goneF (payF x k j) k j n (tokensForF (x.val j) n)).fees = x.fees := rfl
    generalize goneF (payF x k j) k j n (tokensForF (x.val j) n) = y at *
    have hj' : j < y.vals.length := by omega
    have c2 : (clearF y j).val j = { y.val j with outs := (y.val j).comm } := by
      show ((y.vals.modify j _).getD j v0) = _
      rw [val_mod _ _ _ _ hj', if_pos rfl]; rfl
    have c3 : ∀ i, i ≠ j → (clearF y j).val i = y.val i := fun i hi => by
      show ((y.vals.modify j _).getD i v0) = y.vals.getD i v0
      rw [val_mod _ _ _ _ hj', if_neg hi]
    have c5 : (clearF y j).tot = y.tot := by
      unfold EC.tot clearF
      simp only
      rw [sumV_mod _ _ _ _ hj', sumV_mod _ _ _ _ hj']
      simp only [EC.val_getD]
      omega
    have cl : (clearF y j).vals.length = y.vals.length := by simp [clearF]
    have hu' : Upd x (clearF y j) k j := ⟨hu.bl, cl.trans hu.vl, hu.tl, hu.fee, hu.top, hu.mat, hu.hgt, hu.ents, hu.bal, fun i hi => (c3 i hi).trans (hu.val i hi), hu.sh, hu.per, hu.upt⟩
    have hpo : (clearF y j).pool = x.pool + ((x.val j).outs - x.due k j - (x.val j).comm) := by
      show y.pool + ((y.val j).outs - (y.val j).comm) = _
      rw [e2, hgp]
    refine ⟨ok.upd' hu' hk hj (by show 0 ≤ y.balAt k; rw [e1]; omega) (by show 0 ≤ y.fees; rw [hgf]; exact ok.fees) (by rw [hpo]; omega) ?_ (by rw [c5, e5]; omega) (by show 0 ≤ y.sh k j; rw [e3]; omega) (by show y.sh k j - _ = _; rw [e3, c2, e2]; simp only; omega) (by show -1073741824000000 ≤ y.upto k j; rw [e4]; omega) (by show y.upto k j ≤ _; rw [e4]; exact Int.le_refl _) ?_, by rw [c5, e5], fun i hi => (c3 i hi).trans (hu.val i hi), hu.bl, cl.trans hu.vl, hu.ents, hu.hgt⟩
    · rw [c2, e2]
      exact ⟨by simp only; omega, by simp only; omega, by simp only; omega, hv.r0, hv.r1, hv.k0, Int.le_refl _, fun h => by simp only at h; omega, fun _ => rfl, hv.jl⟩
    · have hsum : sum6 (fun k => y.sh k j) = 0 := by
        rw [sum6_upd (f := fun k => x.sh k j) (f' := fun k => y.sh k j) (k := k) (by omega) (fun a ha hne => hu.sh a j ha (by omega) (fun h => hne h.1)), ok.shs j hj]
        rw [e3]; omega
      have hall := sum6_zero (f := fun k => y.sh k j) (fun i hi => by
        by_cases e : i = k
        · subst e; show 0 ≤ y.sh i j; rw [e3]; omega
        · show 0 ≤ y.sh i j; rw [hu.sh i j hi (by omega) (fun h => e h.1)]; exact ok.sh0 i j hi (by omega)) hsum
      have : sum6 (fun k => (clearF y j).sh k j * ((clearF y j).per j - (clearF y j).upto k j)) = 0 := by
        have hz0 : ∀ i, i < 6 → (clearF y j).sh i j * ((clearF y j).per j - (clearF y j).upto i j) = 0 := fun i hi => by
          show y.sh i j * _ = 0
          have h0 : y.sh i j = 0 := hall i hi
          rw [h0, Int.zero_mul]
        rw [sum6_congr (f := fun _ => 0) hz0]
        rfl
      rw [this, c2]
      simp
  · have e0 : leaveF x k j n = goneF (payF x k j) k j n (tokensForF (x.val j) n) := by unfold leaveF; rw [if_neg hz]
    rw [e0]
    have hgf : (goneF (payF x k j) k j n (tokensForF (x.val j) n)).fees = x.fees := rfl
    have hgp : (goneF (payF x k j) k j n (tokensForF (x.val j) n)).pool = x.pool := rfl
    refine ⟨ok.upd hu hk hj (by rw [e1]; omega) (by rw [hgf]; exact ok.fees) (by rw [hgp]; exact ok.pool) ?_ (by rw [e5]; omega) (by rw [e3]; omega) (by rw [e3, e2]; simp only; omega) (by rw [e4]; omega) (by rw [e4]; exact Int.le_refl _) ?_, e5, hu.val, hu.bl, hu.vl, hu.ents, hu.hgt⟩
    · rw [e2]
      have := hv.s1
      exact ⟨by simp only; omega, by simp only; omega, by simp only; omega, hv.r0, hv.r1, hv.k0, by simp only; omega, fun _ => by simp only; omega, fun h => by simp only at h; omega, hv.jl⟩
    · rw [e3, e4, e2, Int.sub_self, Int.mul_zero]; simp only; omega
/-! ### collect -/
theorem Ok.coll : Ok H (collF x k j) ∧ (collF x k j).tot = x.tot := by
  have b6 := ok.b6
  have v5 := ok.v5
  have tl := ok.tl
  have hv := ok.val j hj
  have hb := ok.bal k hk
  have hk0 := hv.k0
  have hko := hv.ko
  have c2 : (collF x k j).val j = { x.val j with outs := (x.val j).outs - (x.val j).comm, comm := 0 } := by
    show (((x.vals.modify j _).modify j _).getD j v0) = _
    rw [val_mod _ _ _ _ (by simpa using hj), if_pos rfl, val_mod _ _ _ _ hj, if_pos rfl]; rfl
  have c5 : (collF x k j).tot = x.tot := by
    unfold EC.tot collF
    simp only
    rw [sumI_set _ _ _ hk, sumV_mod _ _ _ _ (by simpa using hj), sumV_mod _ _ _ _ hj, sumV_mod _ _ _ _ (by simpa using hj), sumV_mod _ _ _ _ hj, val_mod _ _ _ _ hj, if_pos rfl]
    simp only [EC.balAt, EC.val_getD]
    omega
  have hbk : (collF x k j).balAt k = x.balAt k + (x.val j).comm := by
    simp only [collF, EC.balAt]; rw [balAt_set _ _ _ _ hk, if_pos rfl]
  have hu : Upd x (collF x k j) k j := by
    refine ⟨by simp [collF], by simp [collF], rfl, rfl, rfl, rfl, rfl, rfl, fun i hi => ?_, fun i hi => ?_, fun _ _ _ _ _ => rfl, fun _ _ => rfl, fun _ _ _ _ _ => rfl⟩
    · simp only [collF, EC.balAt]; rw [balAt_set _ _ _ _ hk, if_neg hi]
    · show (((x.vals.modify j _).modify j _).getD i v0) = x.vals.getD i v0
      rw [val_mod _ _ _ _ (by simpa using hj), if_neg hi, val_mod _ _ _ _ hj, if_neg hi]
  have hup := ok.upt k j (by omega) (by omega)
  refine ⟨ok.upd hu hk hj (by rw [hbk]; omega) ok.fees ok.pool ?_ (by rw [c5]; exact ok.tot) (ok.sh0 k j (by omega) (by omega)) (by rw [c2]; exact (by simp [collF, EC.sh])) hup.1 hup.2 ?_, c5⟩
  · rw [c2]
    refine ⟨hv.t0, hv.s0, hv.s1, hv.r0, hv.r1, Int.le_refl _, by simp only; omega, hv.tk, fun h => ?_, hv.jl⟩
    have := hv.oz h
    simp only; omega
  · rw [c2]
    show x.sh k j * (x.per j - x.upto k j) - x.sh k j * (x.per j - x.upto k j) ≤ _
    simp only; omega
end
theorem Ok.ent' {H : Int} {x : EC} (ok : Ok H x) {k j : Nat} (hk : k < x.bal.length) {t : Int} (t0 : 0 ≤ t) (ht : x.tot + t ≤ 1000000) : Ok H (entF x k j t) ∧ (entF x k j t).tot = x.tot + t ∧ (entF x k j t).ents.length ≤ x.ents.length + 1 := by
  unfold entF
  split
  · exact ⟨ok, by omega, by omega⟩
  · have ht' : ({ x with ents := x.ents ++ [⟨k, j, x.height, t⟩] } : EC).tot = x.tot + t := by
      unfold EC.tot
      simp only [List.map_append, sumI_append, List.map_cons, List.map_nil, sumI]
      omega
    refine ⟨⟨ok.b6, ok.v5, ok.tl, ok.fee0, ok.fee1, ok.top0, ok.top1, ok.mat0, ok.mat1, ok.hgt0, ok.hgt1, ok.H0, ok.H1, ok.bal, ok.fees, ok.pool, ok.val, fun e he => ?_, by rw [ht']; exact ht, ok.sh0, ok.shs, ok.per, ok.upt, ok.due⟩, ht', by simp⟩
    rcases List.mem_append.1 he with h | h
    · exact ok.ent e h
    · simp only [List.mem_singleton] at h
      subst h
      exact ⟨⟨k, rfl, hk⟩, ok.hgt0, Int.le_refl _, t0⟩
theorem Ok.unb {H : Int} {x : EC} (ok : Ok H x) {k j : Nat} (hk : k < x.bal.length) (hj : j < x.vals.length) {n : Int} (n1 : 1 ≤ n) (n2 : n ≤ x.sh k j) : Ok H (unbF x k j n) ∧ (unbF x k j n).tot = x.tot ∧ (unbF x k j n).ents.length ≤ x.ents.length + 1 := by
  obtain ⟨h1, h2, h3, h4, h5, h6, h7⟩ := ok.leave hk hj n n1 n2
  have b6 := ok.b6
  have hsl := ok.sh_le (k := k) (by omega) hj
  obtain ⟨q0, q1⟩ := tokensForF_bd (ok.valOk hj) (show 0 ≤ n by omega) (show n ≤ (x.val j).shares by omega)
  have := ok.tot
  obtain ⟨e1, e2, e3⟩ := h1.ent' (k := k) (j := j) (by rw [h4]; exact hk) q0 (by rw [h2]; omega)
  exact ⟨e1, by unfold unbF; rw [e2, h2]; omega, by rw [h6] at e3; exact e3⟩
theorem joinErrF_ok {v : VS} {a : Int} (h : joinErrF v a = 0) : 1 ≤ sharesForF v a ∧ v.shares + sharesForF v a ≤ 1000000 := by
  unfold joinErrF at h
  split at h
  · cases h
  · split at h
    · cases h
    · split at h
      · cases h
      · omega
theorem Ok.mov {H : Int} {x : EC} (ok : Ok H x) {k j t : Nat} (hk : k < x.bal.length) (hj : j < x.vals.length) (ht : t < x.vals.length) (htj : t ≠ j) {n : Int} (n1 : 1 ≤ n) (n2 : n ≤ x.sh k j) (t1 : 1 ≤ tokensForF (x.val j) n) (hje : joinErrF (x.val t) (tokensForF (x.val j) n) = 0) : Ok H (movF x k j t n) ∧ (movF x k j t n).tot = x.tot ∧ (movF x k j t n).ents = x.ents := by
  obtain ⟨h1, h2, h3, h4, h5, h6, h7⟩ := ok.leave hk hj n n1 n2
  have := ok.tot
  have ht' : t < (leaveF x k j n).vals.length := by rw [h5]; exact ht
  have hk' : k < (leaveF x k j n).bal.length := by rw [h4]; exact hk
  obtain ⟨b1, b2⟩ := joinErrF_ok hje
  have hq := h1.join hk' ht' (tokensForF (x.val j) n) t1 (by rw [h2]; omega) (by rw [h3 t htj]; exact b1) (by rw [h3 t htj]; exact b2)
  obtain ⟨_, _, _, _, e5⟩ := joinF_at h1 hk' ht' (tokensForF (x.val j) n)
  exact ⟨hq, by unfold movF; rw [e5, h2]; omega, h6⟩
theorem Ok.bond {H : Int} {x : EC} (ok : Ok H x) {k j : Nat} (hk : k < x.bal.length) (hj : j < x.vals.length) {a : Int} (a1 : 1 ≤ a) (ha : a ≤ x.balAt k) (hje : joinErrF (x.val j) a = 0) : Ok H { x with bal := x.bal.set k (x.balAt k - a) } ∧ Ok H (joinF { x with bal := x.bal.set k (x.balAt k - a) } k j a) ∧ (joinF { x with bal := x.bal.set k (x.balAt k - a) } k j a).tot = x.tot := by
  have hs : sumI (x.bal.set k (x.balAt k - a)) = sumI x.bal - a := by rw [sumI_set _ _ _ hk]; unfold EC.balAt; omega
  have htot := ok.tot
  have h1 : Ok H { x with bal := x.bal.set k (x.balAt k - a) } := by
    refine ok.acc _ x.fees x.pool (by simp) (fun i hi => ?_) ok.fees ok.pool (by rw [hs]; omega)
    rw [balAt_set _ _ _ _ hk]
    split
    · omega
    · exact ok.bal i hi
  have h2 : ({ x with bal := x.bal.set k (x.balAt k - a) } : EC).tot = x.tot - a := by unfold EC.tot; simp only; rw [hs]; omega
  obtain ⟨b1, b2⟩ := joinErrF_ok hje
  obtain ⟨_, _, _, _, e5⟩ := joinF_at h1 (k := k) (j := j) (by simpa using hk) hj a
  exact ⟨h1, h1.join (by simpa using hk) hj a a1 (by rw [h2]; omega) b1 b2, by rw [e5, h2]; omega⟩
end Go.Proofs.YtohjjgefklhmaabGreatDoor

namespace Go.Proofs.YtohjjgefklhmaabGreatDoor
open Go.ChangeShapes Go.WideShapes Go.ChangeAt Go.RowKit
set_option linter.unusedVariables false

theorem Ok.mono {H H' : Int} {x : EC} (ok : Ok H x) (h : H ≤ H') (h1 : H' ≤ 1001) : Ok H' x :=
  ⟨ok.b6, ok.v5, ok.tl, ok.fee0, ok.fee1, ok.top0, ok.top1, ok.mat0, ok.mat1, ok.hgt0, ok.hgt1, Int.le_trans ok.H0 h, h1, ok.bal, ok.fees, ok.pool, ok.val, ok.ent, ok.tot, ok.sh0, ok.shs, fun j hj => ⟨(ok.per j hj).1, by have := (ok.per j hj).2; omega⟩, ok.upt, ok.due⟩
theorem sum6_lin (s u : Nat → Int) (p q : Int) : sum6 (fun k => s k * (p + q - u k)) = sum6 (fun k => s k * (p - u k)) + sum6 s * q := by
  have h : ∀ k, s k * (p + q - u k) = s k * (p - u k) + s k * q := fun k => by
    rw [show p + q - u k = (p - u k) + q by omega, Int.mul_add]
  unfold sum6
  simp only [h, Int.add_mul]
  omega
theorem shareOutF_fees (z : EC) (j : Nat) (b f : Int) : shareOutF { z with fees := f } j b = { shareOutF z j b with fees := f } := by
  have e : ({ z with fees := f } : EC).val j = z.val j := rfl
  have e2 : ({ z with fees := f } : EC).per j = z.per j := rfl
  unfold shareOutF
  rw [e, e2]
  by_cases h : (z.val j).shares < 1
  · rw [if_pos h, if_pos h]
  · rw [if_neg h, if_neg h]
theorem takeF_fees (x : EC) (j : Nat) (a f : Int) : takeF { x with fees := f } j a = { takeF x j a with fees := f } := by
  unfold takeF
  exact shareOutF_fees { x with vals := (x.vals.modify j (fun v => { v with comm := v.comm + a * (x.val j).rate / 100 })).modify j (fun v => { v with outs := v.outs + a }) } j _ f
theorem Ok.take {H : Int} {y : EC} (ok : Ok (H + 1) y) {j : Nat} (hj : j < y.vals.length) (hper : y.per j ≤ H * 1073741824000000) {a : Int} (a0 : 0 ≤ a) (a1 : a ≤ 1000000) (hz : (y.val j).shares = 0 → a = 0) (ht : y.tot + a ≤ 1000000) : Ok (H + 1) (takeF y j a) ∧ (takeF y j a).tot = y.tot + a := by
  have v5 := ok.v5
  have tl := ok.tl
  have hv := ok.val j hj
  have hk0 := hv.k0
  have hko := hv.ko
  have hs0 := hv.s0
  have c0 : 0 ≤ a * (y.val j).rate / 100 := Int.ediv_nonneg (Int.mul_nonneg a0 hv.r0) (by decide)
  have c1 : a * (y.val j).rate / 100 ≤ a := by
    have h1 : a * (y.val j).rate ≤ a * 100 := Int.mul_le_mul_of_nonneg_left hv.r1 a0
    omega
  have hvals := takeF_vals y j a
  have hval : (takeF y j a).val j = { y.val j with comm := (y.val j).comm + a * (y.val j).rate / 100, outs := (y.val j).outs + a } := by
    unfold EC.val
    rw [hvals]
    show (((y.vals.modify j _).modify j _).getD j v0) = _
    rw [val_mod _ _ _ _ (by simpa using hj), if_pos rfl, val_mod _ _ _ _ hj, if_pos rfl]; rfl
  obtain ⟨q1, q2, q3, q4, q5, q6, q7, q8⟩ := takeF_head y j a
  have htot : (takeF y j a).tot = y.tot + a := by
    unfold EC.tot
    rw [hvals, q1, q2, q7, q8, sumV_mod _ _ _ _ (by simpa using hj), sumV_mod _ _ _ _ hj, sumV_mod _ _ _ _ (by simpa using hj), sumV_mod _ _ _ _ hj, val_mod _ _ _ _ hj, if_pos rfl]
    simp only
    omega
  have hvok : VOk ((takeF y j a).val j) := by
    rw [hval]
    refine ⟨hv.t0, hv.s0, hv.s1, hv.r0, hv.r1, by simp only; omega, by simp only; omega, hv.tk, fun h => ?_, hv.jl⟩
    have h1 := hv.oz h
    have h2 := hz h
    have h3 : a * (y.val j).rate / 100 = 0 := by rw [h2]; simp
    simp only
    rw [h3]
    omega
  refine ⟨?_, htot⟩
  have htab : ∃ q, 0 ≤ q ∧ q ≤ 1073741824000000 ∧ (y.val j).shares * q ≤ (a - a * (y.val j).rate / 100) * 1073741824 ∧ (takeF y j a).tab.length = 65 ∧ (∀ n, n ≠ 30 + j → (takeF y j a).tab.getD n 0 = y.tab.getD n 0) ∧ (takeF y j a).per j = y.per j + q := by
    have hvs : ({ y with vals := (y.vals.modify j (fun v => { v with comm := v.comm + a * (y.val j).rate / 100 })).modify j (fun v => { v with outs := v.outs + a }) } : EC).val j = { y.val j with comm := (y.val j).comm + a * (y.val j).rate / 100, outs := (y.val j).outs + a } := by
      show (((y.vals.modify j _).modify j _).getD j v0) = _
      rw [val_mod _ _ _ _ (by simpa using hj), if_pos rfl, val_mod _ _ _ _ hj, if_pos rfl]; rfl
    by_cases hs : (y.val j).shares < 1
    · have h0 := hz (by omega)
      have e : (takeF y j a).tab = y.tab := by
        unfold takeF shareOutF
        rw [if_pos (by rw [hvs]; exact hs)]
      refine ⟨0, Int.le_refl _, by decide, ?_, by rw [e]; exact tl, fun n _ => by rw [e], ?_⟩
      · rw [Int.mul_zero]; omega
      · unfold EC.per; rw [e]; omega
    · have e : (takeF y j a).tab = y.tab.set (30 + j) (y.per j + (a - a * (y.val j).rate / 100) * 1073741824 / (y.val j).shares) := by
        unfold takeF shareOutF
        rw [if_neg (by rw [hvs]; exact hs), hvs]
        rfl
      refine ⟨(a - a * (y.val j).rate / 100) * 1073741824 / (y.val j).shares, Int.ediv_nonneg (by omega) hs0, ?_, Int.mul_ediv_self_le (by omega), by rw [e, List.length_set]; exact tl, fun n hn => by rw [e, tab_any _ _ _ _ (by omega), if_neg hn], ?_⟩
      · have : (a - a * (y.val j).rate / 100) * 1073741824 / (y.val j).shares ≤ (a - a * (y.val j).rate / 100) * 1073741824 := Int.ediv_le_self _ (by omega)
        omega
      · unfold EC.per; rw [e, tab_any _ _ _ _ (by omega), if_pos rfl]; rfl
  obtain ⟨q, qq0, qq1, qs, t1, t2, t3⟩ := htab
  have hval_ne : ∀ i, i ≠ j → (takeF y j a).val i = y.val i := fun i hi => takeF_val_ne y j a i hi
  have hsh : ∀ k i, k < 6 → i < 5 → (takeF y j a).sh k i = y.sh k i := fun k i h1 h2 => by unfold EC.sh; exact t2 _ (by omega)
  have hup : ∀ k i, k < 6 → i < 5 → (takeF y j a).upto k i = y.upto k i := fun k i h1 h2 => by unfold EC.upto; exact t2 _ (by omega)
  have hpr : ∀ i, i < 5 → i ≠ j → (takeF y j a).per i = y.per i := fun i h1 h2 => by unfold EC.per; exact t2 _ (by omega)
  have hln := takeF_len y j a
  refine ⟨by rw [q7]; exact ok.b6, by rw [hln]; exact v5, t1, by rw [q6]; exact ok.fee0, by rw [q6]; exact ok.fee1, by rw [q4]; exact ok.top0, by rw [q4]; exact ok.top1, by rw [q5]; exact ok.mat0, by rw [q5]; exact ok.mat1, by rw [q3]; exact ok.hgt0, by rw [q3]; exact ok.hgt1, ok.H0, ok.H1, fun k hk => ?_, by rw [q2]; exact ok.fees, by rw [q1]; exact ok.pool, fun i hi => ?_, fun e he => ?_, by rw [htot]; exact ht, fun k i h1 h2 => by rw [hsh k i h1 h2]; exact ok.sh0 k i h1 h2, fun i hi => ?_, fun i hi => ?_, fun k i h1 h2 => ?_, fun i hi => ?_⟩
  · unfold EC.balAt; rw [q7]; rw [q7] at hk; exact ok.bal k hk
  · rw [hln] at hi
    by_cases e : i = j
    · subst e; exact hvok
    · rw [hval_ne i e]; exact ok.val i hi
  · rw [q8] at he; rw [q7, q3]; exact ok.ent e he
  · rw [hln] at hi
    rw [sum6_congr (f := fun k => y.sh k i) (f' := fun k => (takeF y j a).sh k i) (fun k hk => hsh k i hk (by omega)), ok.shs i hi]
    by_cases e : i = j
    · subst e; rw [hval]
    · rw [hval_ne i e]
  · have hp := ok.per i hi
    by_cases e : i = j
    · subst e; rw [t3]; omega
    · rw [hpr i hi e]; exact hp
  · have hu := ok.upt k i h1 h2
    rw [hup k i h1 h2]
    by_cases e : i = j
    · subst e; rw [t3]; omega
    · rw [hpr i h2 e]; exact hu
  · rw [hln] at hi
    have i5 : i < 5 := by omega
    have hd := ok.due i hi
    by_cases e : i = j
    · subst e
      rw [sum6_congr (f := fun k => y.sh k i * (y.per i + q - y.upto k i)) (f' := fun k => (takeF y i a).sh k i * ((takeF y i a).per i - (takeF y i a).upto k i)) (fun k hk => by rw [hsh k i hk i5, hup k i hk i5, t3]), sum6_lin, ok.shs i hi, hval]
      simp only
      omega
    · rw [sum6_congr (f := fun k => y.sh k i * (y.per i - y.upto k i)) (f' := fun k => (takeF y j a).sh k i * ((takeF y j a).per i - (takeF y j a).upto k i)) (fun k hk => by rw [hsh k i hk i5, hup k i hk i5, hpr i i5 e]), hval_ne i e]
      exact hd
end Go.Proofs.YtohjjgefklhmaabGreatDoor
