import Derived.Test.YtohjjgefklhmaabGreatDoorGSharesM
namespace Go.Proofs.YtohjjgefklhmaabGreatDoor
open Go.ChangeShapes Go.WideShapes Go.ChangeAt Go.RowKit
set_option linter.unusedVariables false

theorem shares_any {S : Nat → Prop} {W0 : World} {g : Nat} {x : EC} {bv vv ev : Value} {w : World} (h : PE S W0 w g x bv vv ev) (ok : Fine x) (ib : InvB x) (ht fe po bo lo : Int) {sb sv sd se : Value}
    (hba : ∃ a n c, sb = .slice a n c) (hva : ∃ a n c, sv = .slice a n c) (hea : ∃ a n c, se = .slice a n c) (h5 : Rd w sd (dels x).length 3 (drow (dels x))) {j : Nat} (hj : j < x.vals.length) :
    Calls Tryz.prog 45 #[.pointer (some ⟨g, 0, none⟩), .agg #[.int .i64 ht, sb, .int .i64 fe, .int .i64 po, .int .i64 bo, .int .i64 lo, sv, sd, se], .int .i64 j] w fun e w' => e = .returned (.tuple #[.int .i64 (x.val j).shares, .int .i64 (dueAt x j)]) ∧ Below w.heap.size w w' := by
  have okx : Ok x.height x := ok
  have v5 := okx.v5
  have b6 := okx.b6
  have hmem : ∀ q (hq : q < (dels x).length), ∃ k i : Nat, k < x.bal.length ∧ i < x.vals.length ∧ (dels x)[q] = ⟨k, i, x.sh k i⟩ ∧ 0 < x.sh k i := fun q hq => dAll_mem _ _ _ _ (List.getElem_mem hq)
  obtain ⟨t1, t2⟩ := okx.terms j
  have hs := okx.sharesAt ib hj
  have hd := okx.dueAt_le hj
  have hvj := okx.val j hj
  have hbj := okx.bds.2.2.2.1 j hj
  have key := shares_walk g (dels x) (dueD x) j ht fe po bo lo sb sv sd se w hba hva hea h5 (Nat.le_trans (dAll_len0 _ _ _) (Nat.mul_le_mul b6 v5))
    (fun wr q hq hv hb => by
      obtain ⟨k, i, hk, hi, e, hp⟩ := hmem q hq
      rw [e]
      unfold dueD
      simp only
      rw [Int.toNat_natCast, Int.toNat_natCast]
      exact eDue g x bv vv ev wr (h.below hb) k i b6 hk v5 hi (by omega) (okx.dueOk (by omega) hi))
    (fun q hq hv => by
      obtain ⟨k, i, hk, hi, e, hp⟩ := hmem q hq
      rw [e]
      unfold dueD
      simp only
      rw [Int.toNat_natCast, Int.toNat_natCast]
      have h1 := okx.due_le (k := k) (by omega) hi
      have h2 := okx.bds.2.2.2.1 i hi
      have h3 := (okx.val i hi).k0
      omega)
    (fun q hq hv => by
      obtain ⟨k, i, hk, hi, e, hp⟩ := hmem q hq
      rw [e]
      simp only
      have h1 := okx.sh_le (k := k) (by omega) hi
      have h2 := (okx.val i hi).s1
      omega)
    (fun k hk => by
      have h1 := sumT_bd (shT j) (dels x) t1 k
      rw [hs] at h1
      have h2 := hvj.s1
      omega)
    (fun k hk => by
      have h1 := sumT_bd (duT x j) (dels x) t2 k
      have h2 : sumI ((dels x).map (duT x j)) = dueAt x j := rfl
      rw [h2] at h1
      have h3 := hvj.k0
      have h4 : sumI (((dels x).take k).map (uT (dueD x) j)) = sumI (((dels x).take k).map (duT x j)) := rfl
      rw [h4]
      omega)
  rw [hs] at key
  exact key

set_option maxHeartbeats 4000000 in
set_option maxRecDepth 100000 in
theorem booked_any {S : Nat → Prop} {W0 : World} {g : Nat} {x : EC} {bv vv : Value} {w : World} (h : Eng S W0 w g x bv vv) (ok : Fine x) (ib : InvB x) (hel : x.ents.length ≤ 1000) (top : Int) (htop : x.top ≤ top) :
    Calls Tryz.prog 15 #[.pointer (some ⟨g, 0, none⟩), .int .i64 top] w fun e w' => e = .returned (.bool true) ∧ Below w.heap.size w w' := by
  obtain ⟨ev, hP⟩ := h
  have okx : Ok x.height x := ok
  have hEB : EB x.ents := fun k hk => ⟨(okx.ent _ (List.getElem_mem hk)).a0, okx.bds.2.2.2.2 k hk⟩
  have hVB : VB x.vals := okx.feeOk.vb
  have HS : Hid (Calls Tryz.prog 11 #[.pointer (some ⟨g, 0, none⟩)] w fun e w' => SeeR w w' e x) := kseeR g x bv vv ev w hP hVB hEB okx.b6 okx.v5 hel
  have HP : Hid (PE S W0 w g x bv vv ev) := hP
  have HO : Hid (Fine x) := ok
  have HI : Hid (InvB x) := ib
  have v5 := okx.v5
  have b6 := okx.b6
  have dl : (dels x).length ≤ 30 := Nat.le_trans (dAll_len0 _ _ _) (Nat.mul_le_mul b6 v5)
  have HVB : Hid (VB x.vals) := hVB
  have HEB : Hid (EB x.ents) := hEB
  have HTop : Hid (sumV inI x.vals ≤ top) := Int.le_trans ib.ins htop
  clear hP okx hEB hVB ok ib htop
  go_enter Tryz.func15, Tryz.ntmps15
  go_wp2_with fail
  refine HS.out.mono ?_
  rintro e w1 ⟨sb, sv, sd, se, rfl, hsb, hsv, hse, hsd, hb1⟩
  obtain ⟨ba, bc, rfl⟩ := ownsRow_slice hsb
  obtain ⟨va, vc, rfl⟩ := ownsRow_slice hsv
  obtain ⟨ea, ec, rfl⟩ := ownsRow_slice hse
  rw [show dAll x.sh x.vals.length x.bal.length = dels x from rfl] at hsd
  obtain ⟨da, dc, rfl⟩ := ownsRow_slice hsd
  clear HS
  have hX : Has (w1.alloc (.cells #[.int .i64 x.height, .slice ba x.bal.length bc, .int .i64 x.fees, .int .i64 x.pool, .int .i64 (bondedN x.vals), .int .i64 (looseV x.vals + sumE x.ents), .slice va x.vals.length vc, .slice da (dels x).length dc, .slice ea x.ents.length ec] 41)) w1.heap.size 41 [.int .i64 x.height, .slice ba x.bal.length bc, .int .i64 x.fees, .int .i64 x.pool, .int .i64 (bondedN x.vals), .int .i64 (looseV x.vals + sumE x.ents), .slice va x.vals.length vc, .slice da (dels x).length dc, .slice ea x.ents.length ec] := Has.newA w1 _ _
  have hA : Below w1.heap.size w1 (w1.alloc (.cells #[.int .i64 x.height, .slice ba x.bal.length bc, .int .i64 x.fees, .int .i64 x.pool, .int .i64 (bondedN x.vals), .int .i64 (looseV x.vals + sumE x.ents), .slice va x.vals.length vc, .slice da (dels x).length dc, .slice ea x.ents.length ec] 41)) := (Below.refl _ _).alloc (Nat.le_refl _) _
  have hA0 : Below w.heap.size w (w1.alloc (.cells #[.int .i64 x.height, .slice ba x.bal.length bc, .int .i64 x.fees, .int .i64 x.pool, .int .i64 (bondedN x.vals), .int .i64 (looseV x.vals + sumE x.ents), .slice va x.vals.length vc, .slice da (dels x).length dc, .slice ea x.ents.length ec] 41)) := hb1.trans (hA.mono hb1.size)
  have hRb := (Rd.of_owns hsb).ints.below hA (Nat.le_refl _)
  have hRv := (Rd.of_owns hsv).below hA (Nat.le_refl _)
  have hRe := (Rd.of_owns hse).below hA (Nat.le_refl _)
  have hRd0 : Rd w1 (.slice da (dels x).length dc) (dels x).length 3 (drow (dels x)) := Rd.of_owns hsd
  have hRd := hRd0.below hA (Nat.le_refl _)
  clear hsb hsv hse hsd hb1 hA hRd0
  go_wp2_with fail
  generalize (w1.alloc (.cells #[.int .i64 x.height, .slice ba x.bal.length bc, .int .i64 x.fees, .int .i64 x.pool, .int .i64 (bondedN x.vals), .int .i64 (looseV x.vals + sumE x.ents), .slice va x.vals.length vc, .slice da (dels x).length dc, .slice ea x.ents.length ec] 41)) = wA at hX hA0 hRb hRv hRe hRd ⊢
  have HX : Hid (∀ wr, Below wA.heap.size wA wr → Has wr w1.heap.size 41 [.int .i64 x.height, .slice ba x.bal.length bc, .int .i64 x.fees, .int .i64 x.pool, .int .i64 (bondedN x.vals), .int .i64 (looseV x.vals + sumE x.ents), .slice va x.vals.length vc, .slice da (dels x).length dc, .slice ea x.ents.length ec]) := fun wr hb => hX.below hb hX.lt
  have HW : Hid (∀ wr, Below wA.heap.size wA wr → Below w.heap.size w wr) := fun wr hb => hA0.trans (hb.mono hA0.size)
  have HSh : Hid (∀ wr (j : Nat), Below wA.heap.size wA wr → j < x.vals.length → Calls Tryz.prog 45 #[.pointer (some ⟨g, 0, none⟩), .agg #[.int .i64 x.height, .slice ba x.bal.length bc, .int .i64 x.fees, .int .i64 x.pool, .int .i64 (bondedN x.vals), .int .i64 (looseV x.vals + sumE x.ents), .slice va x.vals.length vc, .slice da (dels x).length dc, .slice ea x.ents.length ec], .int .i64 j] wr fun e w' => e = .returned (.tuple #[.int .i64 (x.val j).shares, .int .i64 (dueAt x j)]) ∧ Below wr.heap.size wr w') := fun wr j hb hj => shares_any (HP.out.below (HW.out wr hb)) HO.out HI.out _ _ _ _ _ ⟨_, _, _, rfl⟩ ⟨_, _, _, rfl⟩ ⟨_, _, _, rfl⟩ (hRd.below hb (Nat.le_refl _)) hj
  have HNg : Hid (∀ wr, Below wA.heap.size wA wr → Calls Tryz.prog 46 #[.agg #[.int .i64 x.height, .slice ba x.bal.length bc, .int .i64 x.fees, .int .i64 x.pool, .int .i64 (bondedN x.vals), .int .i64 (looseV x.vals + sumE x.ents), .slice va x.vals.length vc, .slice da (dels x).length dc, .slice ea x.ents.length ec]] wr fun e w' => e = .returned (.bool false) ∧ Below wr.heap.size wr w') := fun wr hb => by
    have okx : Ok x.height x := HO.out
    have q1 := bondedN_bd HVB.out x.vals.length (Nat.le_refl _)
    have q2 := looseV_bd HVB.out x.vals.length (Nat.le_refl _)
    have q3 := sumE_bd HEB.out x.ents.length (Nat.le_refl _)
    rw [List.take_length] at q1 q2 q3
    refine negative_any _ _ _ _ _ x.bal x.vals (dels x) x.ents _ _ _ _ wr (hRb.below hb (Nat.le_refl _)) (hRv.below hb (Nat.le_refl _)) (hRd.below hb (Nat.le_refl _)) (hRe.below hb (Nat.le_refl _)) b6 v5 dl hel okx.hgt0 okx.fees okx.pool q1.1 (by omega) okx.bal (fun k hk => ?_) (fun k hk => ?_) (fun k hk => (okx.ent _ (List.getElem_mem hk)).a0)
    · have hv := okx.val k hk
      rw [x.val_eq hk]
      exact ⟨hv.t0, hv.s0, hv.k0, Int.le_trans hv.k0 hv.ko, hv.s1⟩
    · obtain ⟨k', i, _, _, e, hp⟩ := dAll_mem _ _ _ _ (List.getElem_mem hk)
      have e' : (dels x)[k] = ⟨k', i, x.sh k' i⟩ := e
      rw [e']; simp only; omega
  have HVo : Hid (∀ j (hj : j < x.vals.length), VOk x.vals[j] ∧ x.vals[j].outs ≤ 1000000 ∧ x.vals[j].tokens ≤ 1000000 ∧ 0 ≤ dueAt x j ∧ dueAt x j ≤ x.vals[j].outs - x.vals[j].comm ∧ (x.val j).shares = x.vals[j].shares) := fun j hj => by
    have okx : Ok x.height x := HO.out
    rw [x.val_eq hj]
    exact ⟨okx.val j hj, (okx.bds.2.2.2.1 j hj).2, (okx.bds.2.2.2.1 j hj).1, (okx.dueAt_le hj).1, (okx.dueAt_le hj).2, rfl⟩
  have HEo : Hid (∀ j (hj : j < x.ents.length), x.ents[j].made ≤ x.height ∧ 0 ≤ x.ents[j].amount ∧ x.ents[j].amount ≤ 1000000) := fun j hj => by
    have okx : Ok x.height x := HO.out
    exact ⟨(okx.ent _ (List.getElem_mem hj)).m1, (okx.ent _ (List.getElem_mem hj)).a0, okx.bds.2.2.2.2 j hj⟩
  clear hX hA0 hRb hRd HP HO HI
  go_loopw [6, 7, 8, 9] (fun b l n i wr => ∃ k : Nat, k ≤ x.vals.length ∧ i = .int .i64 k ∧ b = .int .i64 (bondedN (x.vals.take k)) ∧ l = .int .i64 (looseV (x.vals.take k)) ∧ n = .int .i64 (sumV inI (x.vals.take k)) ∧ Below wA.heap.size wA wr) (fun _ _ _ i _ => x.vals.length - (intOf i).toNat)
  case atStart => exact ⟨0, Nat.zero_le _, rfl, rfl, rfl, rfl, Below.refl _ _⟩
  case round =>
    obtain ⟨q, hq, rfl, rfl, rfl, rfl, hbw⟩ := hrel
    have a6 : wr.cell? ⟨w1.heap.size, 6, none⟩ = some (.slice va x.vals.length vc) := (HX.out wr hbw).cell 6
    have a8 : wr.cell? ⟨w1.heap.size, 8, none⟩ = some (.slice ea x.ents.length ec) := (HX.out wr hbw).cell 8
    obtain ⟨b0, b1⟩ := bondedN_bd HVB.out q hq
    obtain ⟨l0, l1⟩ := looseV_bd HVB.out q hq
    obtain ⟨n0, n1⟩ := ind_bd inI inI_bd x.vals q hq
    by_cases hlt : q < x.vals.length
    · have hRvq := hRv.below hbw (Nat.le_refl _)
      obtain ⟨gv, rfl, hc1⟩ := hRvq.get (by omega)
      have y0 := hc1 _ _ (vrow_at x.vals q hlt 0 (by omega))
      have y1 := hc1 _ _ (vrow_at x.vals q hlt 1 (by omega))
      have y2 := hc1 _ _ (vrow_at x.vals q hlt 2 (by omega))
      have y3 := hc1 _ _ (vrow_at x.vals q hlt 3 (by omega))
      have y4 := hc1 _ _ (vrow_at x.vals q hlt 4 (by omega))
      have y5 := hc1 _ _ (vrow_at x.vals q hlt 5 (by omega))
      have y6 := hc1 _ _ (vrow_at x.vals q hlt 6 (by omega))
      have y7 := hc1 _ _ (vrow_at x.vals q hlt 7 (by omega))
      rw [Nat.add_zero] at y0
      have HXq := HX.out wr hbw
      have a0 : wr.cell? ⟨w1.heap.size, 0, none⟩ = some (.int .i64 x.height) := HXq.cell 0
      have a1 : wr.cell? ⟨w1.heap.size, 1, none⟩ = some (.slice ba x.bal.length bc) := HXq.cell 1
      have a2 : wr.cell? ⟨w1.heap.size, 2, none⟩ = some (.int .i64 x.fees) := HXq.cell 2
      have a3 : wr.cell? ⟨w1.heap.size, 3, none⟩ = some (.int .i64 x.pool) := HXq.cell 3
      have a4 : wr.cell? ⟨w1.heap.size, 4, none⟩ = some (.int .i64 (bondedN x.vals)) := HXq.cell 4
      have a5 : wr.cell? ⟨w1.heap.size, 5, none⟩ = some (.int .i64 (looseV x.vals + sumE x.ents)) := HXq.cell 5
      have a7 : wr.cell? ⟨w1.heap.size, 7, none⟩ = some (.slice da (dels x).length dc) := HXq.cell 7
      have gl := HXq.lt
      obtain ⟨hvo, o1, t1, d0, d1, es⟩ := HVo.out q hlt
      have HS1 : Hid (∀ o, Calls Tryz.prog 45 #[.pointer (some ⟨g, 0, none⟩), .agg #[.int .i64 x.height, .slice ba x.bal.length bc, .int .i64 x.fees, .int .i64 x.pool, .int .i64 (bondedN x.vals), .int .i64 (looseV x.vals + sumE x.ents), .slice (some ⟨gv, 0, none⟩) x.vals.length vc, .slice da (dels x).length dc, .slice ea x.ents.length ec], .int .i64 q] (wr.alloc o) fun e w' => e = .returned (.tuple #[.int .i64 x.vals[q].shares, .int .i64 (dueAt x q)]) ∧ Below (wr.alloc o).heap.size (wr.alloc o) w') := fun o => by rw [← es]; exact HSh.out (wr.alloc o) q (hbw.alloc hbw.size o) hlt
      have HB1 : Hid (∀ o w2, Below (wr.alloc o).heap.size (wr.alloc o) w2 → Below wA.heap.size wA w2 ∧ Has w2 wr.heap.size 76 [.int .i64 0] ∨ True) := fun _ _ _ => .inr trivial
      have HB2 : Hid (∀ o w2, Below (wr.alloc o).heap.size (wr.alloc o) w2 → Below wA.heap.size wA w2) := fun o w2 h2 => (hbw.alloc hbw.size o).trans (h2.mono (hbw.alloc hbw.size o).size)
      have HNb : Hid (bondedN (x.vals.take (q + 1)) = if x.vals[q].inset = true then bondedN (x.vals.take q) + x.vals[q].tokens else bondedN (x.vals.take q)) := bondedN_snoc x.vals q hlt
      have HNl : Hid (looseV (x.vals.take (q + 1)) = if x.vals[q].inset = true then looseV (x.vals.take q) else looseV (x.vals.take q) + x.vals[q].tokens) := looseV_snoc x.vals q hlt
      have HNn : Hid (sumV inI (x.vals.take (q + 1)) = sumV inI (x.vals.take q) + inI x.vals[q]) := sumV_take inI x.vals q hlt
      clear hRvq hc1 hbw HXq hRv hRe es HB1
      generalize bondedN (x.vals.take q) = bq at *
      generalize looseV (x.vals.take q) = lq at *
      generalize sumV inI (x.vals.take q) = nq at *
      generalize dueAt x q = dq at *
      generalize x.vals[q] = v at *
      obtain ⟨xo, xr, xt, xs, xc, xou, xj, xi⟩ := v
      obtain ⟨t0, s0, s1, r0, r1, k0, ko, tk, oz, jl⟩ := hvo
      dsimp only at *
      have c2 : ¬ xou < xc + dq := by omega
      clear HSh HNg HVo HEo HTop HVB HEB HX HW
      go_wp2_with fail
      refine (HS1.out _).mono ?_
      rintro e w2 ⟨rfl, hb2⟩
      have hN : Has (wr.alloc (.cells #[.int .i64 xo, .int .i64 xr, .int .i64 xt, .int .i64 xs, .int .i64 xc, .int .i64 xou, .bool xj, .bool xi] 76)) wr.heap.size 76 [.int .i64 xo, .int .i64 xr, .int .i64 xt, .int .i64 xs, .int .i64 xc, .int .i64 xou, .bool xj, .bool xi] := Has.newA wr _ _
      have hN2 := hN.below hb2 hN.lt
      have z2 : w2.cell? ⟨wr.heap.size, 2, none⟩ = some (.int .i64 xt) := hN2.cell 2
      have z3 : w2.cell? ⟨wr.heap.size, 3, none⟩ = some (.int .i64 xs) := hN2.cell 3
      have z4 : w2.cell? ⟨wr.heap.size, 4, none⟩ = some (.int .i64 xc) := hN2.cell 4
      have z5 : w2.cell? ⟨wr.heap.size, 5, none⟩ = some (.int .i64 xou) := hN2.cell 5
      have z6 : w2.cell? ⟨wr.heap.size, 6, none⟩ = some (.bool xj) := hN2.cell 6
      have z7 : w2.cell? ⟨wr.heap.size, 7, none⟩ = some (.bool xi) := hN2.cell 7
      have HBw : Hid (Below wA.heap.size wA w2) := HB2.out _ w2 hb2
      clear hN hN2 hb2 HS1 HB2 y0 y1 y2 y3 y4 y5 y6 y7 a0 a1 a2 a3 a4 a5 a6 a7 a8
      have hsp : (xs = 0 ∧ ¬ xt > 0 ∧ xou = xc) ∨ (¬ xs = 0 ∧ xt > 0) ∨ (¬ xs = 0 ∧ ¬ xt > 0) := by
        by_cases e : xs = 0
        · exact .inl ⟨e, fun h => by have := tk h; omega, oz e⟩
        · by_cases e2 : xt > 0
          · exact .inr (.inl ⟨e, e2⟩)
          · exact .inr (.inr ⟨e, e2⟩)
      have hji : (xj = true ∧ xi = false) ∨ (xj = false ∧ xi = true) ∨ (xj = false ∧ xi = false) := by
        cases xj <;> cases xi
        · exact .inr (.inr ⟨rfl, rfl⟩)
        · exact .inr (.inl ⟨rfl, rfl⟩)
        · exact .inl ⟨rfl, rfl⟩
        · exact absurd (jl rfl) (by simp)
      clear tk oz jl
      rcases hji with ⟨rfl, rfl⟩ | ⟨rfl, rfl⟩ | ⟨rfl, rfl⟩
      · have HNb' : Hid (bondedN (x.vals.take (q + 1)) = bq) := by rw [HNb.out, if_neg (by simp)]; exact rfl
        have HNl' : Hid (looseV (x.vals.take (q + 1)) = lq + xt) := by rw [HNl.out, if_neg (by simp)]; exact rfl
        have HNn' : Hid (sumV inI (x.vals.take (q + 1)) = nq) := by
          rw [HNn.out, show inI _ = (0 : Int) from rfl]; rw [Int.add_zero]; exact rfl
        clear HNb HNl HNn
        rcases hsp with ⟨rfl, e2, rfl⟩ | ⟨e1, e2⟩ | ⟨e1, e2⟩
        · go_wp2
          all_goals try go_region
          all_goals try go_wp2
          all_goals try go_region
          all_goals try go_wp2
          all_goals
            refine And.intro ?_ ?_
            · first | exact ⟨q + 1, by omega, by go_num, by rw [HNb'.out], by rw [HNl'.out], by rw [HNn'.out], HBw.out⟩ | exact ⟨q + 1, by omega, by go_num, by rw [HNb'.out], by rw [HNl'.out], by rw [HNn'.out], HBw.out.drew⟩ | exact ⟨q + 1, by omega, by go_num, by rw [HNb'.out], by rw [HNl'.out], by rw [HNn'.out], HBw.out.drew.drew⟩ | exact ⟨q + 1, by omega, by go_num, by rw [HNb'.out], by rw [HNl'.out], by rw [HNn'.out], HBw.out.drew.drew.drew⟩ | ((repeat apply Exists.intro); first | exact ⟨⟨q + 1, by omega, by go_num, by rw [HNb'.out], by rw [HNl'.out], by rw [HNn'.out], HBw.out⟩, rfl⟩ | exact ⟨⟨q + 1, by omega, by go_num, by rw [HNb'.out], by rw [HNl'.out], by rw [HNn'.out], HBw.out.drew⟩, rfl⟩ | exact ⟨⟨q + 1, by omega, by go_num, by rw [HNb'.out], by rw [HNl'.out], by rw [HNn'.out], HBw.out.drew.drew⟩, rfl⟩ | exact ⟨⟨q + 1, by omega, by go_num, by rw [HNb'.out], by rw [HNl'.out], by rw [HNn'.out], HBw.out.drew.drew.drew⟩, rfl⟩)
            · simp [intOf]; omega
        · have e3 : (xs == 0) = false := by simp [e1]
          go_wp2
          all_goals try go_region
          all_goals try go_wp2
          all_goals try go_region
          all_goals try go_wp2
          all_goals
            refine And.intro ?_ ?_
            · first | exact ⟨q + 1, by omega, by go_num, by rw [HNb'.out], by rw [HNl'.out], by rw [HNn'.out], HBw.out⟩ | exact ⟨q + 1, by omega, by go_num, by rw [HNb'.out], by rw [HNl'.out], by rw [HNn'.out], HBw.out.drew⟩ | exact ⟨q + 1, by omega, by go_num, by rw [HNb'.out], by rw [HNl'.out], by rw [HNn'.out], HBw.out.drew.drew⟩ | exact ⟨q + 1, by omega, by go_num, by rw [HNb'.out], by rw [HNl'.out], by rw [HNn'.out], HBw.out.drew.drew.drew⟩ | ((repeat apply Exists.intro); first | exact ⟨⟨q + 1, by omega, by go_num, by rw [HNb'.out], by rw [HNl'.out], by rw [HNn'.out], HBw.out⟩, rfl⟩ | exact ⟨⟨q + 1, by omega, by go_num, by rw [HNb'.out], by rw [HNl'.out], by rw [HNn'.out], HBw.out.drew⟩, rfl⟩ | exact ⟨⟨q + 1, by omega, by go_num, by rw [HNb'.out], by rw [HNl'.out], by rw [HNn'.out], HBw.out.drew.drew⟩, rfl⟩ | exact ⟨⟨q + 1, by omega, by go_num, by rw [HNb'.out], by rw [HNl'.out], by rw [HNn'.out], HBw.out.drew.drew.drew⟩, rfl⟩)
            · simp [intOf]; omega
        · have e3 : (xs == 0) = false := by simp [e1]
          go_wp2
          all_goals try go_region
          all_goals try go_wp2
          all_goals try go_region
          all_goals try go_wp2
          all_goals
            refine And.intro ?_ ?_
            · first | exact ⟨q + 1, by omega, by go_num, by rw [HNb'.out], by rw [HNl'.out], by rw [HNn'.out], HBw.out⟩ | exact ⟨q + 1, by omega, by go_num, by rw [HNb'.out], by rw [HNl'.out], by rw [HNn'.out], HBw.out.drew⟩ | exact ⟨q + 1, by omega, by go_num, by rw [HNb'.out], by rw [HNl'.out], by rw [HNn'.out], HBw.out.drew.drew⟩ | exact ⟨q + 1, by omega, by go_num, by rw [HNb'.out], by rw [HNl'.out], by rw [HNn'.out], HBw.out.drew.drew.drew⟩ | ((repeat apply Exists.intro); first | exact ⟨⟨q + 1, by omega, by go_num, by rw [HNb'.out], by rw [HNl'.out], by rw [HNn'.out], HBw.out⟩, rfl⟩ | exact ⟨⟨q + 1, by omega, by go_num, by rw [HNb'.out], by rw [HNl'.out], by rw [HNn'.out], HBw.out.drew⟩, rfl⟩ | exact ⟨⟨q + 1, by omega, by go_num, by rw [HNb'.out], by rw [HNl'.out], by rw [HNn'.out], HBw.out.drew.drew⟩, rfl⟩ | exact ⟨⟨q + 1, by omega, by go_num, by rw [HNb'.out], by rw [HNl'.out], by rw [HNn'.out], HBw.out.drew.drew.drew⟩, rfl⟩)
            · simp [intOf]; omega
      · have HNb' : Hid (bondedN (x.vals.take (q + 1)) = bq + xt) := by rw [HNb.out, if_pos rfl]; exact rfl
        have HNl' : Hid (looseV (x.vals.take (q + 1)) = lq) := by rw [HNl.out, if_pos rfl]; exact rfl
        have HNn' : Hid (sumV inI (x.vals.take (q + 1)) = nq + 1) := by
          rw [HNn.out, show inI _ = (1 : Int) from rfl]; exact rfl
        clear HNb HNl HNn
        rcases hsp with ⟨rfl, e2, rfl⟩ | ⟨e1, e2⟩ | ⟨e1, e2⟩
        · go_wp2
          all_goals try go_region
          all_goals try go_wp2
          all_goals try go_region
          all_goals try go_wp2
          all_goals
            refine And.intro ?_ ?_
            · first | exact ⟨q + 1, by omega, by go_num, by rw [HNb'.out], by rw [HNl'.out], by rw [HNn'.out], HBw.out⟩ | exact ⟨q + 1, by omega, by go_num, by rw [HNb'.out], by rw [HNl'.out], by rw [HNn'.out], HBw.out.drew⟩ | exact ⟨q + 1, by omega, by go_num, by rw [HNb'.out], by rw [HNl'.out], by rw [HNn'.out], HBw.out.drew.drew⟩ | exact ⟨q + 1, by omega, by go_num, by rw [HNb'.out], by rw [HNl'.out], by rw [HNn'.out], HBw.out.drew.drew.drew⟩ | ((repeat apply Exists.intro); first | exact ⟨⟨q + 1, by omega, by go_num, by rw [HNb'.out], by rw [HNl'.out], by rw [HNn'.out], HBw.out⟩, rfl⟩ | exact ⟨⟨q + 1, by omega, by go_num, by rw [HNb'.out], by rw [HNl'.out], by rw [HNn'.out], HBw.out.drew⟩, rfl⟩ | exact ⟨⟨q + 1, by omega, by go_num, by rw [HNb'.out], by rw [HNl'.out], by rw [HNn'.out], HBw.out.drew.drew⟩, rfl⟩ | exact ⟨⟨q + 1, by omega, by go_num, by rw [HNb'.out], by rw [HNl'.out], by rw [HNn'.out], HBw.out.drew.drew.drew⟩, rfl⟩)
            · simp [intOf]; omega
        · have e3 : (xs == 0) = false := by simp [e1]
          go_wp2
          all_goals try go_region
          all_goals try go_wp2
          all_goals try go_region
          all_goals try go_wp2
          all_goals
            refine And.intro ?_ ?_
            · first | exact ⟨q + 1, by omega, by go_num, by rw [HNb'.out], by rw [HNl'.out], by rw [HNn'.out], HBw.out⟩ | exact ⟨q + 1, by omega, by go_num, by rw [HNb'.out], by rw [HNl'.out], by rw [HNn'.out], HBw.out.drew⟩ | exact ⟨q + 1, by omega, by go_num, by rw [HNb'.out], by rw [HNl'.out], by rw [HNn'.out], HBw.out.drew.drew⟩ | exact ⟨q + 1, by omega, by go_num, by rw [HNb'.out], by rw [HNl'.out], by rw [HNn'.out], HBw.out.drew.drew.drew⟩ | ((repeat apply Exists.intro); first | exact ⟨⟨q + 1, by omega, by go_num, by rw [HNb'.out], by rw [HNl'.out], by rw [HNn'.out], HBw.out⟩, rfl⟩ | exact ⟨⟨q + 1, by omega, by go_num, by rw [HNb'.out], by rw [HNl'.out], by rw [HNn'.out], HBw.out.drew⟩, rfl⟩ | exact ⟨⟨q + 1, by omega, by go_num, by rw [HNb'.out], by rw [HNl'.out], by rw [HNn'.out], HBw.out.drew.drew⟩, rfl⟩ | exact ⟨⟨q + 1, by omega, by go_num, by rw [HNb'.out], by rw [HNl'.out], by rw [HNn'.out], HBw.out.drew.drew.drew⟩, rfl⟩)
            · simp [intOf]; omega
        · have e3 : (xs == 0) = false := by simp [e1]
          go_wp2
          all_goals try go_region
          all_goals try go_wp2
          all_goals try go_region
          all_goals try go_wp2
          all_goals
            refine And.intro ?_ ?_
            · first | exact ⟨q + 1, by omega, by go_num, by rw [HNb'.out], by rw [HNl'.out], by rw [HNn'.out], HBw.out⟩ | exact ⟨q + 1, by omega, by go_num, by rw [HNb'.out], by rw [HNl'.out], by rw [HNn'.out], HBw.out.drew⟩ | exact ⟨q + 1, by omega, by go_num, by rw [HNb'.out], by rw [HNl'.out], by rw [HNn'.out], HBw.out.drew.drew⟩ | exact ⟨q + 1, by omega, by go_num, by rw [HNb'.out], by rw [HNl'.out], by rw [HNn'.out], HBw.out.drew.drew.drew⟩ | ((repeat apply Exists.intro); first | exact ⟨⟨q + 1, by omega, by go_num, by rw [HNb'.out], by rw [HNl'.out], by rw [HNn'.out], HBw.out⟩, rfl⟩ | exact ⟨⟨q + 1, by omega, by go_num, by rw [HNb'.out], by rw [HNl'.out], by rw [HNn'.out], HBw.out.drew⟩, rfl⟩ | exact ⟨⟨q + 1, by omega, by go_num, by rw [HNb'.out], by rw [HNl'.out], by rw [HNn'.out], HBw.out.drew.drew⟩, rfl⟩ | exact ⟨⟨q + 1, by omega, by go_num, by rw [HNb'.out], by rw [HNl'.out], by rw [HNn'.out], HBw.out.drew.drew.drew⟩, rfl⟩)
            · simp [intOf]; omega
      · have HNb' : Hid (bondedN (x.vals.take (q + 1)) = bq) := by rw [HNb.out, if_neg (by simp)]; exact rfl
        have HNl' : Hid (looseV (x.vals.take (q + 1)) = lq + xt) := by rw [HNl.out, if_neg (by simp)]; exact rfl
        have HNn' : Hid (sumV inI (x.vals.take (q + 1)) = nq) := by
          rw [HNn.out, show inI _ = (0 : Int) from rfl]; rw [Int.add_zero]; exact rfl
        clear HNb HNl HNn
        rcases hsp with ⟨rfl, e2, rfl⟩ | ⟨e1, e2⟩ | ⟨e1, e2⟩
        · go_wp2
          all_goals try go_region
          all_goals try go_wp2
          all_goals try go_region
          all_goals try go_wp2
          all_goals
            refine And.intro ?_ ?_
            · first | exact ⟨q + 1, by omega, by go_num, by rw [HNb'.out], by rw [HNl'.out], by rw [HNn'.out], HBw.out⟩ | exact ⟨q + 1, by omega, by go_num, by rw [HNb'.out], by rw [HNl'.out], by rw [HNn'.out], HBw.out.drew⟩ | exact ⟨q + 1, by omega, by go_num, by rw [HNb'.out], by rw [HNl'.out], by rw [HNn'.out], HBw.out.drew.drew⟩ | exact ⟨q + 1, by omega, by go_num, by rw [HNb'.out], by rw [HNl'.out], by rw [HNn'.out], HBw.out.drew.drew.drew⟩ | ((repeat apply Exists.intro); first | exact ⟨⟨q + 1, by omega, by go_num, by rw [HNb'.out], by rw [HNl'.out], by rw [HNn'.out], HBw.out⟩, rfl⟩ | exact ⟨⟨q + 1, by omega, by go_num, by rw [HNb'.out], by rw [HNl'.out], by rw [HNn'.out], HBw.out.drew⟩, rfl⟩ | exact ⟨⟨q + 1, by omega, by go_num, by rw [HNb'.out], by rw [HNl'.out], by rw [HNn'.out], HBw.out.drew.drew⟩, rfl⟩ | exact ⟨⟨q + 1, by omega, by go_num, by rw [HNb'.out], by rw [HNl'.out], by rw [HNn'.out], HBw.out.drew.drew.drew⟩, rfl⟩)
            · simp [intOf]; omega
        · have e3 : (xs == 0) = false := by simp [e1]
          go_wp2
          all_goals try go_region
          all_goals try go_wp2
          all_goals try go_region
          all_goals try go_wp2
          all_goals
            refine And.intro ?_ ?_
            · first | exact ⟨q + 1, by omega, by go_num, by rw [HNb'.out], by rw [HNl'.out], by rw [HNn'.out], HBw.out⟩ | exact ⟨q + 1, by omega, by go_num, by rw [HNb'.out], by rw [HNl'.out], by rw [HNn'.out], HBw.out.drew⟩ | exact ⟨q + 1, by omega, by go_num, by rw [HNb'.out], by rw [HNl'.out], by rw [HNn'.out], HBw.out.drew.drew⟩ | exact ⟨q + 1, by omega, by go_num, by rw [HNb'.out], by rw [HNl'.out], by rw [HNn'.out], HBw.out.drew.drew.drew⟩ | ((repeat apply Exists.intro); first | exact ⟨⟨q + 1, by omega, by go_num, by rw [HNb'.out], by rw [HNl'.out], by rw [HNn'.out], HBw.out⟩, rfl⟩ | exact ⟨⟨q + 1, by omega, by go_num, by rw [HNb'.out], by rw [HNl'.out], by rw [HNn'.out], HBw.out.drew⟩, rfl⟩ | exact ⟨⟨q + 1, by omega, by go_num, by rw [HNb'.out], by rw [HNl'.out], by rw [HNn'.out], HBw.out.drew.drew⟩, rfl⟩ | exact ⟨⟨q + 1, by omega, by go_num, by rw [HNb'.out], by rw [HNl'.out], by rw [HNn'.out], HBw.out.drew.drew.drew⟩, rfl⟩)
            · simp [intOf]; omega
        · have e3 : (xs == 0) = false := by simp [e1]
          go_wp2
          all_goals try go_region
          all_goals try go_wp2
          all_goals try go_region
          all_goals try go_wp2
          all_goals
            refine And.intro ?_ ?_
            · first | exact ⟨q + 1, by omega, by go_num, by rw [HNb'.out], by rw [HNl'.out], by rw [HNn'.out], HBw.out⟩ | exact ⟨q + 1, by omega, by go_num, by rw [HNb'.out], by rw [HNl'.out], by rw [HNn'.out], HBw.out.drew⟩ | exact ⟨q + 1, by omega, by go_num, by rw [HNb'.out], by rw [HNl'.out], by rw [HNn'.out], HBw.out.drew.drew⟩ | exact ⟨q + 1, by omega, by go_num, by rw [HNb'.out], by rw [HNl'.out], by rw [HNn'.out], HBw.out.drew.drew.drew⟩ | ((repeat apply Exists.intro); first | exact ⟨⟨q + 1, by omega, by go_num, by rw [HNb'.out], by rw [HNl'.out], by rw [HNn'.out], HBw.out⟩, rfl⟩ | exact ⟨⟨q + 1, by omega, by go_num, by rw [HNb'.out], by rw [HNl'.out], by rw [HNn'.out], HBw.out.drew⟩, rfl⟩ | exact ⟨⟨q + 1, by omega, by go_num, by rw [HNb'.out], by rw [HNl'.out], by rw [HNn'.out], HBw.out.drew.drew⟩, rfl⟩ | exact ⟨⟨q + 1, by omega, by go_num, by rw [HNb'.out], by rw [HNl'.out], by rw [HNn'.out], HBw.out.drew.drew.drew⟩, rfl⟩)
            · simp [intOf]; omega
    · have eq : q = x.vals.length := by omega
      subst eq
      have HBw : Hid (Below wA.heap.size wA wr) := hbw
      rw [List.take_length] at b0 b1 l0 l1 n0 n1
      clear hbw HSh HVo hRv
      rw [List.take_length]
      go_wp2
      obtain ⟨wo, rfl⟩ : ∃ wo : World, wo = wr := ⟨_, rfl⟩
      go_loopw [7, 13] (fun l i wr => ∃ k : Nat, k ≤ x.ents.length ∧ i = .int .i64 k ∧ l = .int .i64 (looseV x.vals + sumE (x.ents.take k)) ∧ Below wA.heap.size wA wr) (fun _ i _ => x.ents.length - (intOf i).toNat)
      case atStart => exact ⟨0, Nat.zero_le _, rfl, by rw [show sumE (x.ents.take 0) = 0 from rfl, Int.add_zero], HBw.out⟩
      case round =>
        clear HBw a6 a8
        obtain ⟨q, hq2, rfl, rfl, hbw⟩ := hrel
        have HBw : Hid (Below wA.heap.size wA wr) := hbw
        have a0 : wr.cell? ⟨w1.heap.size, 0, none⟩ = some (.int .i64 x.height) := (HX.out wr hbw).cell 0
        have a8 : wr.cell? ⟨w1.heap.size, 8, none⟩ = some (.slice ea x.ents.length ec) := (HX.out wr hbw).cell 8
        obtain ⟨e0, e1⟩ := sumE_bd HEB.out q hq2
        by_cases hlt2 : q < x.ents.length
        · obtain ⟨ge, rfl, hc1⟩ := (hRe.below hbw (Nat.le_refl _)).get (by omega)
          have y0 := hc1 _ _ (erow_at x.ents q hlt2 0 (by omega))
          have y1 := hc1 _ _ (erow_at x.ents q hlt2 1 (by omega))
          have y2 := hc1 _ _ (erow_at x.ents q hlt2 2 (by omega))
          have y3 := hc1 _ _ (erow_at x.ents q hlt2 3 (by omega))
          rw [Nat.add_zero] at y0
          obtain ⟨m1, m2, m3⟩ := HEo.out q hlt2
          have HNe : Hid (looseV x.vals + sumE (x.ents.take (q + 1)) = looseV x.vals + sumE (x.ents.take q) + x.ents[q].amount) := by rw [sumE_snoc x.ents q hlt2, Int.add_assoc]; exact rfl
          clear hc1 hbw hRe HNg HEo HX HW HTop
          generalize sumE (x.ents.take q) = sq at *
          generalize looseV x.vals = lv at *
          generalize x.ents[q] = en at *
          obtain ⟨ew, evl, em, ea2⟩ := en
          dsimp only at *
          have m1' : ¬ em > x.height := by omega
          go_wp2
          all_goals try go_region
          all_goals try go_wp2
          all_goals
            refine And.intro ?_ ?_
            · first | exact ⟨q + 1, by omega, by go_num, by rw [HNe.out], HBw.out⟩ | exact ⟨q + 1, by omega, by go_num, by rw [HNe.out], HBw.out.drew⟩ | ((repeat apply Exists.intro); first | exact ⟨⟨q + 1, by omega, by go_num, by rw [HNe.out], HBw.out⟩, rfl⟩ | exact ⟨⟨q + 1, by omega, by go_num, by rw [HNe.out], HBw.out.drew⟩, rfl⟩)
            · simp [intOf]; omega
        · have eq : q = x.ents.length := by omega
          subst eq
          have HXq := HX.out wr hbw
          have a1 : wr.cell? ⟨w1.heap.size, 1, none⟩ = some (.slice ba x.bal.length bc) := HXq.cell 1
          have a2 : wr.cell? ⟨w1.heap.size, 2, none⟩ = some (.int .i64 x.fees) := HXq.cell 2
          have a3 : wr.cell? ⟨w1.heap.size, 3, none⟩ = some (.int .i64 x.pool) := HXq.cell 3
          have a4 : wr.cell? ⟨w1.heap.size, 4, none⟩ = some (.int .i64 (bondedN x.vals)) := HXq.cell 4
          have a5 : wr.cell? ⟨w1.heap.size, 5, none⟩ = some (.int .i64 (looseV x.vals + sumE x.ents)) := HXq.cell 5
          have a6 : wr.cell? ⟨w1.heap.size, 6, none⟩ = some (.slice va x.vals.length vc) := HXq.cell 6
          have a7 : wr.cell? ⟨w1.heap.size, 7, none⟩ = some (.slice da (dels x).length dc) := HXq.cell 7
          have HN1 := HNg.out wr hbw
          have HB2 : Hid (∀ w2, Below wr.heap.size wr w2 → Below wA.heap.size wA w2) := fun w2 h2 => hbw.trans (h2.mono hbw.size)
          have hgl := HXq.lt
          have tp : sumV inI x.vals ≤ top := HTop.out
          rw [List.take_length]
          clear hbw HXq hRe HNg HEo
          go_wp2_with fail
          refine HN1.mono ?_
          rintro e w2 ⟨rfl, hb2⟩
          have HBf := HB2.out w2 hb2
          have HX2 := HX.out w2 HBf
          have b4 : w2.cell? ⟨w1.heap.size, 4, none⟩ = some (.int .i64 (bondedN x.vals)) := HX2.cell 4
          have b5 : w2.cell? ⟨w1.heap.size, 5, none⟩ = some (.int .i64 (looseV x.vals + sumE x.ents)) := HX2.cell 5
          have HF : Hid (Below w.heap.size w w2) := HW.out w2 HBf
          clear HBf HX2 HX HW HB2 hb2 HN1 a0 a1 a2 a3 a4 a5 a6 a7 a8
          generalize sumV inI x.vals = si at *
          generalize bondedN x.vals = bo at *
          generalize looseV x.vals + sumE x.ents = lo at *
          go_wp2
          all_goals try go_region
          all_goals try go_wp2
          all_goals go_ret
          all_goals first | exact ⟨rfl, HF.out⟩ | exact ⟨rfl, HF.out.drew⟩ | (refine ⟨?_, ?_⟩; (first | rfl | simp [tp]); first | exact HF.out | exact HF.out.drew)
end Go.Proofs.YtohjjgefklhmaabGreatDoor
