import Derived.Test.YtohjjgefklhmaaaGreatDoorGOkM
namespace Go.Proofs.YtohjjgefklhmaaaGreatDoor
open Go.ChangeShapes Go.WideShapes Go.ChangeAt Go.RowKit
set_option linter.unusedVariables false

theorem bondedN_mono {l : List VS} (h : VB l) (m : Nat) (hm : m ≤ l.length) : bondedN (l.take m) ≤ bondedN l := by
  have key : ∀ d m, m + d = l.length → bondedN (l.take m) ≤ bondedN l := by
    intro d
    induction d with
    | zero => intro m e; rw [List.take_of_length_le (by omega)]; exact Int.le_refl _
    | succ d ih =>
      intro m e
      have h1 := ih (m + 1) (by omega)
      rw [bondedN_snoc l m (by omega)] at h1
      have h2 := h m (by omega)
      split at h1 <;> omega
  exact key (l.length - m) m (by omega)

theorem Ok.tot0 {H : Int} {x : EC} (ok : Ok H x) : 0 ≤ x.tot := by
  obtain ⟨z1, z2, z3, z4⟩ := ok.parts
  have z5 := ok.pool
  have z6 := ok.fees
  unfold EC.tot; omega
theorem shLoop_fee (x : EC) (f b : Int) (k : Nat) : (shLoop x f b k).1.fee = x.fee := by
  induction k with
  | zero => rfl
  | succ k ih =>
    unfold shLoop
    split
    · exact (takeF_head _ _ _).2.2.2.2.2.1.trans ih
    · exact ih
structure ShOk (H : Int) (x : EC) (p : EC × Int) (k : Nat) : Prop where
  ok : Ok (H + 1) { p.1 with fees := 0 }
  tot : ({ p.1 with fees := 0 } : EC).tot + p.2 = x.tot
  l0 : 0 ≤ p.2
  lb : (x.fees - p.2) * bondedN x.vals ≤ x.fees * bondedN (x.vals.take k)
  bal : p.1.bal = x.bal
  ents : p.1.ents = x.ents
  hgt : p.1.height = x.height
  top : p.1.top = x.top
theorem shLoop_ok {H : Int} {x : EC} (ok : Ok H x) (hH : H ≤ 1000) (k : Nat) (hk : k ≤ x.vals.length) : ShOk H x (shLoop x x.fees (bondedN x.vals) k) k := by
  have hf := ok.fees
  have htot := ok.tot
  induction k with
  | zero =>
    have h0 : ({ x with fees := 0 } : EC).tot = x.tot - x.fees := by unfold EC.tot; simp only; omega
    refine ⟨?_, by show ({ x with fees := 0 } : EC).tot + x.fees = x.tot; rw [h0]; omega, hf, ?_, rfl, rfl, rfl, rfl⟩
    · exact (ok.acc x.bal 0 x.pool rfl ok.bal (Int.le_refl _) ok.pool (by unfold EC.tot at *; omega)).mono (by omega) (by omega)
    · show (x.fees - x.fees) * _ ≤ _
      rw [Int.sub_self, Int.zero_mul]
      simp [bondedN]
  | succ k ih =>
    have hi := ih (by omega)
    have hin := shLoop_inv x x.fees (bondedN x.vals) k
    have hv := hin.val k (Nat.le_refl _)
    have hp := hin.per k (Nat.le_refl _)
    have hln := hin.len
    have hkl : k < x.vals.length := by omega
    have hvk := ok.val k hkl
    have hvb : VB x.vals := ok.feeOk.vb
    have hsn := bondedN_snoc x.vals k hkl
    have hmo := bondedN_mono hvb (k + 1) hk
    rw [x.val_eq hkl] at hsn
    by_cases hc : ((shLoop x x.fees (bondedN x.vals) k).1.val k).inset = true ∧ 0 < bondedN x.vals
    · have e : shLoop x x.fees (bondedN x.vals) (k + 1) = (takeF (shLoop x x.fees (bondedN x.vals) k).1 k (partF (shLoop x x.fees (bondedN x.vals) k).1 x.fees (bondedN x.vals) k), (shLoop x x.fees (bondedN x.vals) k).2 - partF (shLoop x x.fees (bondedN x.vals) k).1 x.fees (bondedN x.vals) k) := by
        show (if _ then _ else _) = _
        rw [if_pos hc]
      rw [e]
      have hpart : partF (shLoop x x.fees (bondedN x.vals) k).1 x.fees (bondedN x.vals) k = x.fees * (x.val k).tokens / bondedN x.vals := by unfold partF; rw [hv]
      rw [hpart]
      rw [hv] at hc
      rw [if_pos hc.1] at hsn
      have hpk := ok.per k (by have := ok.v5; omega)
      generalize hsh : shLoop x x.fees (bondedN x.vals) k = p at *
      have a0 : 0 ≤ x.fees * (x.val k).tokens / bondedN x.vals := Int.ediv_nonneg (Int.mul_nonneg hf hvk.t0) (by omega)
      have aB : x.fees * (x.val k).tokens / bondedN x.vals * bondedN x.vals ≤ x.fees * (x.val k).tokens := Int.ediv_mul_le _ (by omega)
      have hz : (x.val k).shares = 0 → x.fees * (x.val k).tokens / bondedN x.vals = 0 := fun h => by
        have h1 : (x.val k).tokens = 0 := by
          have := hvk.t0
          rcases Int.lt_or_eq_of_le this with h2 | h2
          · have := hvk.tk h2; omega
          · exact h2.symm
        rw [h1, Int.mul_zero]; simp
      generalize x.fees * (x.val k).tokens / bondedN x.vals = a at *
      have hle : a ≤ p.2 := by
        have h1 : (x.fees - p.2 + a) * bondedN x.vals ≤ x.fees * bondedN x.vals := by
          rw [Int.add_mul]
          have h2 : x.fees * bondedN (x.vals.take (k + 1)) ≤ x.fees * bondedN x.vals := Int.mul_le_mul_of_nonneg_left hmo hf
          rw [hsn, Int.mul_add] at h2
          have := hi.lb
          omega
        have := Int.le_of_mul_le_mul_right h1 hc.2
        omega
      have hzt := hi.tot
      have hzk : ({ p.1 with fees := 0 } : EC).val k = x.val k := hv
      have hpt : ({ p.1 with fees := 0 } : EC).tot ≤ 1000000 := hi.ok.tot
      have hzn := hi.ok.tot0
      have hp2 : p.2 ≤ 1000000 := by omega
      obtain ⟨g1, g2⟩ := hi.ok.take (j := k) (by show k < p.1.vals.length; omega) (by show p.1.per k ≤ _; rw [hp]; exact hpk.2) a0 (by omega) (by rw [hzk]; exact hz) (by omega)
      rw [takeF_fees] at g1 g2
      obtain ⟨q1, q2, q3, q4, q5, q6, q7, q8⟩ := takeF_head p.1 k a
      refine ⟨g1, by show ({ takeF p.1 k a with fees := 0 } : EC).tot + (p.2 - a) = _; rw [g2]; omega, by show 0 ≤ p.2 - a; omega, ?_, q7.trans hi.bal, q8.trans hi.ents, q3.trans hi.hgt, q4.trans hi.top⟩
      show (x.fees - (p.2 - a)) * _ ≤ _
      rw [show x.fees - (p.2 - a) = (x.fees - p.2) + a by omega, Int.add_mul, hsn, Int.mul_add]
      have := hi.lb
      omega
    · have e : shLoop x x.fees (bondedN x.vals) (k + 1) = shLoop x x.fees (bondedN x.vals) k := by
        show (if _ then _ else _) = _
        rw [if_neg hc]
      rw [e]
      refine ⟨hi.ok, hi.tot, hi.l0, ?_, hi.bal, hi.ents, hi.hgt, hi.top⟩
      have h1 := hi.lb
      have h2 : x.fees * bondedN (x.vals.take k) ≤ x.fees * bondedN (x.vals.take (k + 1)) := by
        refine Int.mul_le_mul_of_nonneg_left ?_ hf
        rw [hsn]
        have := hvk.t0
        split <;> omega
      omega
theorem Ok.share {H : Int} {x : EC} (ok : Ok H x) (hH : H ≤ 1000) : Ok (H + 1) (shareF x) ∧ (shareF x).tot = x.tot ∧ (shareF x).bal = x.bal ∧ (shareF x).ents = x.ents ∧ (shareF x).height = x.height ∧ (shareF x).top = x.top ∧ (shareF x).vals.length = x.vals.length ∧ (shareF x).fees = 0 := by
  have h := shLoop_ok ok hH x.vals.length (Nat.le_refl _)
  have hin := shLoop_inv x x.fees (bondedN x.vals) x.vals.length
  unfold shareF
  generalize shLoop x x.fees (bondedN x.vals) x.vals.length = p at *
  have hpool : p.1.pool = x.pool := hin.pool
  have h0 := ok.pool
  have hl := h.l0
  have ht := h.tot
  have htot := ok.tot
  refine ⟨?_, ?_, h.bal, h.ents, h.hgt, h.top, hin.len, rfl⟩
  · have := h.ok.acc p.1.bal 0 (x.pool + p.2) rfl h.ok.bal (Int.le_refl _) (by omega) (by
      unfold EC.tot at *
      simp only at *
      rw [hpool] at *
      omega)
    exact this
  · unfold EC.tot at *
    simp only at *
    rw [hpool] at ht
    omega

/-! ### the entries -/
theorem getD_mapE (l : List ES) (m : Nat) (h : m < l.length) : (l.map (·.amount)).getD m 0 = l[m].amount := by simp [h]
theorem peLoop_ok {x : EC} (hb : ∀ i, i < x.bal.length → 0 ≤ x.bal.getD i 0) (he : ∀ e, e ∈ x.ents → (∃ i : Nat, e.who = i ∧ i < x.bal.length) ∧ 0 ≤ e.amount) (k : Nat) (hk : k ≤ x.ents.length) :
    (∀ i, i < x.bal.length → 0 ≤ (peLoop x k).1.getD i 0) ∧ sumI (peLoop x k).1 + sumI ((peLoop x k).2.map (·.amount)) = sumI x.bal + sumI ((x.ents.take k).map (·.amount)) ∧ ∀ e, e ∈ (peLoop x k).2 → e ∈ x.ents := by
  induction k with
  | zero => exact ⟨hb, by simp [peLoop, sumI], fun e h => by simp [peLoop] at h⟩
  | succ k ih =>
    obtain ⟨h1, h2, h3⟩ := ih (by omega)
    have hkl : k < x.ents.length := by omega
    have hg : x.ents.getD k e0 = x.ents[k] := by simp [hkl]
    obtain ⟨⟨i, hi, hil⟩, ha⟩ := he _ (List.getElem_mem hkl)
    have hl := peLoop_len x k
    have htk : sumI ((x.ents.take (k + 1)).map (·.amount)) = sumI ((x.ents.take k).map (·.amount)) + x.ents[k].amount := by
      rw [List.take_succ_eq_append_getElem hkl, List.map_append, sumI_append]
      simp [sumI]
    unfold peLoop
    rw [hg]
    split
    · rw [hi, Int.toNat_natCast]
      refine ⟨fun m hm => ?_, ?_, h3⟩
      · simp only
        rw [balAt_set _ _ _ _ (by omega)]
        have := h1 i hil
        split
        · omega
        · exact h1 m hm
      · simp only
        rw [sumI_set _ _ _ (by omega), htk]
        omega
    · refine ⟨h1, ?_, fun e h => ?_⟩
      · simp only
        rw [htk, List.map_append, sumI_append]
        simp only [List.map_cons, List.map_nil, sumI]
        omega
      · simp only at h
        rcases List.mem_append.1 h with h | h
        · exact h3 e h
        · simp only [List.mem_singleton] at h
          subst h
          exact List.getElem_mem hkl
theorem Ok.peOk {H : Int} {x : EC} (ok : Ok H x) (hl : x.ents.length ≤ 100000) : EntOk x := by
  have he : ∀ e, e ∈ x.ents → (∃ i : Nat, e.who = i ∧ i < x.bal.length) ∧ 0 ≤ e.amount := fun e h => ⟨(ok.ent e h).w, (ok.ent e h).a0⟩
  obtain ⟨p1, p2, p3, p4⟩ := ok.parts
  have htot := ok.tot
  have hf := ok.fees
  have hp := ok.pool
  refine ⟨hl, ok.hgt0, by have := ok.hgt1; omega, by have := ok.mat0; omega, by have := ok.mat1; omega, fun k hk => ?_, fun k hk i hi => ?_⟩
  · have h := ok.ent _ (List.getElem_mem hk)
    exact ⟨h.w, h.m0, by have := h.m1; have := ok.hgt1; omega, h.a0, ok.bds.2.2.2.2 k hk⟩
  · obtain ⟨h1, h2, h3⟩ := peLoop_ok ok.bal he k hk
    refine ⟨h1 i hi, ?_⟩
    have hl := peLoop_len x k
    have h4 := sumI_le (peLoop x k).1 (fun m hm => h1 m (by omega)) i (by omega)
    have h5 : 0 ≤ sumI ((peLoop x k).2.map (·.amount)) := sumI_nn _ (fun m hm => by
      have hm' : m < (peLoop x k).2.length := by simpa using hm
      have : ((peLoop x k).2.map (·.amount)).getD m 0 = (peLoop x k).2[m].amount := by simp [hm']
      rw [this]
      exact (he _ (h3 _ (List.getElem_mem hm'))).2)
    have h6 : sumI ((x.ents.take k).map (·.amount)) ≤ sumI (x.ents.map (·.amount)) := by
      have e : x.ents.map (·.amount) = (x.ents.take k).map (·.amount) ++ (x.ents.drop k).map (·.amount) := by rw [← List.map_append, List.take_append_drop]
      rw [e, sumI_append]
      have : 0 ≤ sumI ((x.ents.drop k).map (·.amount)) := sumI_nn _ (fun m hm => by
        have hm' : m < (x.ents.drop k).length := by simpa using hm
        rw [getD_mapE _ m hm']
        exact (he _ (List.mem_of_mem_drop (List.getElem_mem hm'))).2)
      omega
    unfold EC.tot at htot
    omega
theorem Ok.payE {H : Int} {x : EC} (ok : Ok H x) : Ok H (payEF x) ∧ (payEF x).tot = x.tot ∧ (payEF x).ents.length ≤ x.ents.length := by
  have he : ∀ e, e ∈ x.ents → (∃ i : Nat, e.who = i ∧ i < x.bal.length) ∧ 0 ≤ e.amount := fun e h => ⟨(ok.ent e h).w, (ok.ent e h).a0⟩
  obtain ⟨h1, h2, h3⟩ := peLoop_ok ok.bal he x.ents.length (Nat.le_refl _)
  have hl := peLoop_len x x.ents.length
  rw [List.take_length] at h2
  have ht : (payEF x).tot = x.tot := by unfold EC.tot payEF; simp only; omega
  refine ⟨⟨by show (peLoop x x.ents.length).1.length ≤ 6; rw [hl]; exact ok.b6, ok.v5, ok.tl, ok.fee0, ok.fee1, ok.top0, ok.top1, ok.mat0, ok.mat1, ok.hgt0, ok.hgt1, ok.H0, ok.H1, fun k hk => h1 k (by have : k < (peLoop x x.ents.length).1.length := hk; omega), ok.fees, ok.pool, ok.val, fun e hm => by show EOkE (peLoop x x.ents.length).1.length x.height e; rw [hl]; exact ok.ent e (h3 e hm), by rw [ht]; exact ok.tot, ok.sh0, ok.shs, ok.per, ok.upt, ok.due⟩, ht, peLoop_wait x _⟩
end Go.Proofs.YtohjjgefklhmaaaGreatDoor

namespace Go.Proofs.YtohjjgefklhmaaaGreatDoor
open Go.ChangeShapes Go.WideShapes Go.ChangeAt Go.RowKit
set_option linter.unusedVariables false

/-- the same validators but for the set; who is in jail is not in it -/
structure SetOf (l l' : List VS) : Prop where
  len : l'.length = l.length
  at' : ∀ j, j < l.length → ∃ b, l'.getD j v0 = { l.getD j v0 with inset := b } ∧ ((l.getD j v0).jailed = true → b = false)
theorem SetOf.sum {l l' : List VS} (h : SetOf l l') (f : VS → Int) (hf : ∀ v b, f { v with inset := b } = f v) : sumV f l' = sumV f l := by
  unfold sumV
  congr 1
  apply List.ext_getElem?
  intro i
  simp only [List.getElem?_map]
  by_cases hi : i < l.length
  · obtain ⟨b, e, _⟩ := h.at' i hi
    have hi' : i < l'.length := by rw [h.len]; exact hi
    have e1 : l'[i] = l'.getD i v0 := by simp [hi']
    have e2 : l[i] = l.getD i v0 := by simp [hi]
    rw [List.getElem?_eq_getElem hi, List.getElem?_eq_getElem hi', Option.map_some, Option.map_some, e1, e2, e, hf]
  · have hl := h.len
    rw [List.getElem?_eq_none (by omega), List.getElem?_eq_none (by omega)]
theorem offL_at (l : List VS) (k : Nat) (j : Nat) (hj : j < l.length) : (offL l k).getD j v0 = if j < k then { l.getD j v0 with inset := false } else l.getD j v0 := by
  induction k with
  | zero => simp [offL]
  | succ k ih =>
    unfold offL
    by_cases hk : k < l.length
    · rw [val_mod _ _ _ _ (by rw [offL_len]; exact hk)]
      by_cases e : j = k
      · subst e
        rw [if_pos rfl, if_pos (by omega), ih, if_neg (by omega)]
      · rw [if_neg e, ih]
        by_cases h1 : j < k
        · rw [if_pos h1, if_pos (by omega)]
        · rw [if_neg h1, if_neg (by omega)]
    · have hmod : (offL l k).modify k (fun v => { v with inset := false }) = offL l k := by
        apply List.ext_getElem?
        intro i
        rw [List.getElem?_modify]
        by_cases e : k = i
        · subst e
          rw [List.getElem?_eq_none (by rw [offL_len]; omega)]; rfl
        · simp [e]
      rw [hmod, ih, if_pos (by omega), if_pos (by omega)]
theorem offL_set (l : List VS) : SetOf l (offL l l.length) := ⟨offL_len l _, fun j hj => ⟨false, by rw [offL_at l _ j hj, if_pos hj], fun _ => rfl⟩⟩
/-- what the best is -/
theorem bestL_at (l : List VS) (n : Nat) : (bestL l n).1 = -1 ∨ ∃ i : Nat, (bestL l n).1 = i ∧ i < n ∧ (l.getD i v0).inset = false ∧ (l.getD i v0).jailed = false ∧ (l.getD i v0).tokens = (bestL l n).2 ∧ 0 < (bestL l n).2 := by
  induction n with
  | zero => exact .inl rfl
  | succ n ih =>
    unfold bestL
    split
    · rename_i h
      have := bestL_pos l n
      exact .inr ⟨n, rfl, by omega, h.1, h.2.1, rfl, by simp only; omega⟩
    · rcases ih with h | ⟨i, h1, h2, h3⟩
      · exact .inl h
      · exact .inr ⟨i, h1, by omega, h3⟩
theorem chooseL_set (l : List VS) (n : Nat) (m : List VS) (h : SetOf l m) : SetOf l (chooseL n m) := by
  induction n generalizing m with
  | zero => exact h
  | succ n ih =>
    unfold chooseL
    split
    · exact h
    · rename_i hb
      rcases bestL_at m m.length with hm | ⟨i, h1, h2, h3, h4, h5, h6⟩
      · rw [hm] at hb; omega
      · rw [h1, Int.toNat_natCast]
        refine ih _ ⟨by rw [List.length_modify]; exact h.len, fun j hj => ?_⟩
        rw [val_mod _ _ _ _ h2]
        obtain ⟨b, e, hjl⟩ := h.at' j hj
        by_cases hij : j = i
        · subst hij
          rw [if_pos rfl]
          refine ⟨true, by rw [e], fun hj' => ?_⟩
          rw [e] at h4
          simp only at h4
          rw [h4] at hj'
          cases hj'
        · rw [if_neg hij]
          exact ⟨b, e, hjl⟩
theorem chooseF_set (l : List VS) (top : Int) : SetOf l (chooseF l top) := chooseL_set l _ _ (offL_set l)
theorem Ok.set {H : Int} {x : EC} (ok : Ok H x) : Ok H (setF x) ∧ (setF x).tot = x.tot := by
  have hs := chooseF_set x.vals x.top
  have ht : (setF x).tot = x.tot := by
    unfold EC.tot setF
    simp only
    rw [hs.sum (·.tokens) (fun _ _ => rfl), hs.sum (·.outs) (fun _ _ => rfl)]
  have hv : ∀ j, j < x.vals.length → ∃ b, (setF x).val j = { x.val j with inset := b } ∧ ((x.val j).jailed = true → b = false) := hs.at'
  have hl : (setF x).vals.length = x.vals.length := hs.len
  refine ⟨⟨ok.b6, by rw [hl]; exact ok.v5, ok.tl, ok.fee0, ok.fee1, ok.top0, ok.top1, ok.mat0, ok.mat1, ok.hgt0, ok.hgt1, ok.H0, ok.H1, ok.bal, ok.fees, ok.pool, fun j hj => ?_, ok.ent, by rw [ht]; exact ok.tot, ok.sh0, fun j hj => ?_, ok.per, ok.upt, fun j hj => ?_⟩, ht⟩
  · rw [hl] at hj
    obtain ⟨b, e, hjl⟩ := hv j hj
    have h := ok.val j hj
    rw [e]
    exact ⟨h.t0, h.s0, h.s1, h.r0, h.r1, h.k0, h.ko, h.tk, h.oz, hjl⟩
  · rw [hl] at hj
    obtain ⟨b, e, hjl⟩ := hv j hj
    rw [e]; exact ok.shs j hj
  · rw [hl] at hj
    obtain ⟨b, e, hjl⟩ := hv j hj
    rw [e]; exact ok.due j hj
theorem Ok.up {H : Int} {x : EC} (ok : Ok H x) (hH : x.height = H) (h1 : x.height < 1000) : Ok (H + 1) (upF x) ∧ (upF x).tot = x.tot ∧ (upF x).height = x.height + 1 ∧ (upF x).ents = x.ents ∧ (upF x).bal = x.bal ∧ (upF x).vals.length = x.vals.length ∧ (upF x).top = x.top := by
  obtain ⟨s1, s2, s3, s4, s5, s6, s7, s8⟩ := ok.share (by omega)
  refine ⟨⟨s1.b6, s1.v5, s1.tl, s1.fee0, s1.fee1, s1.top0, s1.top1, s1.mat0, s1.mat1, by show 0 ≤ x.height + 1; have := ok.hgt0; omega, by show x.height + 1 ≤ 1000; omega, s1.H0, s1.H1, s1.bal, s1.fees, s1.pool, s1.val, fun e he => ?_, s1.tot, s1.sh0, s1.shs, s1.per, s1.upt, s1.due⟩, s2, rfl, s4, s3, s7, s6⟩
  have h := s1.ent e he
  exact ⟨h.w, h.m0, by have := h.m1; rw [s5] at this; show e.made ≤ x.height + 1; omega, h.a0⟩
/-- the engine at rest -/
def Fine (x : EC) : Prop := Ok x.height x
theorem Fine.block {x : EC} (ok : Fine x) : Fine (blkR x).2 ∧ (blkR x).2.tot = x.tot ∧ (blkR x).2.ents.length ≤ x.ents.length ∧ (blkR x).2.bal.length = x.bal.length ∧ (blkR x).2.vals.length = x.vals.length ∧ (blkR x).2.height ≤ x.height + 1 := by
  unfold blkR
  split
  · exact ⟨ok, rfl, Nat.le_refl _, rfl, rfl, by simp only; omega⟩
  · obtain ⟨u1, u2, u3, u4, u5, u6, u7⟩ := Ok.up ok rfl (by omega)
    obtain ⟨p1, p2, p3⟩ := u1.payE
    obtain ⟨q1, q2⟩ := p1.set
    have hh : (setF (payEF (upF x))).height = x.height + 1 := u3
    refine ⟨by unfold Fine; rw [hh]; exact q1, by rw [q2, p2, u2], by rw [← u4]; exact p3, ?_, ?_, by rw [hh]; omega⟩
    · show (payEF (upF x)).bal.length = _
      rw [← u5]; exact peLoop_len _ _
    · show (chooseF (payEF (upF x)).vals _).length = _
      rw [(chooseF_set _ _).len]; exact u6
end Go.Proofs.YtohjjgefklhmaaaGreatDoor
