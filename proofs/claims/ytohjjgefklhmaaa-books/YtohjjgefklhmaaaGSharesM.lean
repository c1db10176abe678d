import Derived.Test.YtohjjgefklhmaaaGDelM
namespace Go.Proofs.Ytohjjgefklhmaaa
open Go.ChangeShapes Go.WideShapes Go.ChangeAt Go.RowKit
set_option linter.unusedVariables false

set_option maxHeartbeats 4000000 in
set_option maxRecDepth 100000 in
theorem shares_walk (g : Nat) (L : List DS) (T : DS → Int) (val : Int) (ht fe po bo lo : Int) (ba va da ea : Value) (w : World)
    (hba : ∃ a n c, ba = .slice a n c) (hva : ∃ a n c, va = .slice a n c) (hea : ∃ a n c, ea = .slice a n c) (h5 : Rd w da L.length 3 (drow L)) (l3 : L.length ≤ 30)
    (hDue : ∀ wr q (hq : q < L.length), L[q].val = val → Below w.heap.size w wr → Calls Try.prog 22 #[.pointer (some ⟨g, 0, none⟩), .int .i64 L[q].who, .int .i64 L[q].val] wr fun e w' => e = .returned (.tuple #[.int .i64 (T L[q]), .int .i64 0]) ∧ w' = wr.drew)
    (hT : ∀ q (hq : q < L.length), L[q].val = val → 0 ≤ T L[q] ∧ T L[q] ≤ 1000000)
    (hS : ∀ q (hq : q < L.length), L[q].val = val → 0 ≤ L[q].shares ∧ L[q].shares ≤ 1000000)
    (b1 : ∀ k, k ≤ L.length → 0 ≤ sumI ((L.take k).map (shT val)) ∧ sumI ((L.take k).map (shT val)) ≤ 1000000)
    (b2 : ∀ k, k ≤ L.length → 0 ≤ sumI ((L.take k).map (uT T val)) ∧ sumI ((L.take k).map (uT T val)) ≤ 1000000) :
    Calls Try.prog 34 #[.pointer (some ⟨g, 0, none⟩), .agg #[.int .i64 ht, ba, .int .i64 fe, .int .i64 po, .int .i64 bo, .int .i64 lo, va, da, ea], .int .i64 val] w fun e w' => e = .returned (.tuple #[.int .i64 (sumI (L.map (shT val))), .int .i64 (sumI (L.map (uT T val)))]) ∧ Below w.heap.size w w' := by
  obtain ⟨ba0, ba1, ba2, rfl⟩ := hba
  obtain ⟨va0, va1, va2, rfl⟩ := hva
  obtain ⟨ea0, ea1, ea2, rfl⟩ := hea
  obtain ⟨da1, da2, rfl⟩ := h5.form
  have hX : Has (w.alloc (.cells #[.int .i64 ht, .slice ba0 ba1 ba2, .int .i64 fe, .int .i64 po, .int .i64 bo, .int .i64 lo, .slice va0 va1 va2, .slice da1 L.length da2, .slice ea0 ea1 ea2] 42)) w.heap.size 42 [.int .i64 ht, .slice ba0 ba1 ba2, .int .i64 fe, .int .i64 po, .int .i64 bo, .int .i64 lo, .slice va0 va1 va2, .slice da1 L.length da2, .slice ea0 ea1 ea2] := Has.newA w _ _
  have hA : Below w.heap.size w (w.alloc (.cells #[.int .i64 ht, .slice ba0 ba1 ba2, .int .i64 fe, .int .i64 po, .int .i64 bo, .int .i64 lo, .slice va0 va1 va2, .slice da1 L.length da2, .slice ea0 ea1 ea2] 42)) := (Below.refl _ _).alloc (Nat.le_refl _) _
  have k5 := h5.below hA (Nat.le_refl _)
  have HD : Hid (∀ wr q (hq : q < L.length), L[q].val = val → Below w.heap.size w wr → Calls Try.prog 22 #[.pointer (some ⟨g, 0, none⟩), .int .i64 L[q].who, .int .i64 L[q].val] wr fun e w' => e = .returned (.tuple #[.int .i64 (T L[q]), .int .i64 0]) ∧ w' = wr.drew) := hDue
  have HT : Hid (∀ q (hq : q < L.length), L[q].val = val → 0 ≤ T L[q] ∧ T L[q] ≤ 1000000) := hT
  have HS : Hid (∀ q (hq : q < L.length), L[q].val = val → 0 ≤ L[q].shares ∧ L[q].shares ≤ 1000000) := hS
  have B1 : Hid (∀ k, k ≤ L.length → 0 ≤ sumI ((L.take k).map (shT val)) ∧ sumI ((L.take k).map (shT val)) ≤ 1000000) := b1
  have B2 : Hid (∀ k, k ≤ L.length → 0 ≤ sumI ((L.take k).map (uT T val)) ∧ sumI ((L.take k).map (uT T val)) ≤ 1000000) := b2
  clear hDue hT hS b1 b2 h5
  go_enter Try.func34, Try.ntmps34
  go_wp2
  generalize (w.alloc (.cells #[.int .i64 ht, .slice ba0 ba1 ba2, .int .i64 fe, .int .i64 po, .int .i64 bo, .int .i64 lo, .slice va0 va1 va2, .slice da1 L.length da2, .slice ea0 ea1 ea2] 42)) = wA at hX hA k5 ⊢
  have HX : Hid (∀ wr, Below wA.heap.size wA wr → Has wr w.heap.size 42 [.int .i64 ht, .slice ba0 ba1 ba2, .int .i64 fe, .int .i64 po, .int .i64 bo, .int .i64 lo, .slice va0 va1 va2, .slice da1 L.length da2, .slice ea0 ea1 ea2]) := fun wr hb => hX.below hb hX.lt
  have HA : Hid (∀ wr, Below wA.heap.size wA wr → Below w.heap.size w wr) := fun wr hb => hA.trans (hb.mono hA.size)
  clear hX hA
  go_loopw [8, 9, 10] (fun n d i wr => ∃ k : Nat, k ≤ L.length ∧ i = .int .i64 k ∧ n = .int .i64 (sumI ((L.take k).map (shT val))) ∧ d = .int .i64 (sumI ((L.take k).map (uT T val))) ∧ Below wA.heap.size wA wr) (fun _ _ i _ => L.length - (intOf i).toNat)
  case atStart => exact ⟨0, Nat.zero_le _, rfl, rfl, rfl, Below.refl _ _⟩
  case round =>
    obtain ⟨q, hq, rfl, rfl, rfl, hbw⟩ := hrel
    have a7 : wr.cell? ⟨w.heap.size, 7, none⟩ = some (.slice da1 L.length da2) := (HX.out wr hbw).cell 7
    obtain ⟨s0, s1⟩ := B1.out q hq
    obtain ⟨u0, u1⟩ := B2.out q hq
    by_cases hlt : q < L.length
    · obtain ⟨ga, rfl, hc1⟩ := (k5.below hbw (Nat.le_refl _)).get (by omega)
      have y0 := hc1 _ _ (drow_at L q hlt 0 (by omega))
      have y1 := hc1 _ _ (drow_at L q hlt 1 (by omega))
      have y2 := hc1 _ _ (drow_at L q hlt 2 (by omega))
      rw [Nat.add_zero] at y0
      have HN1 : Hid (sumI ((L.take (q + 1)).map (shT val)) = sumI ((L.take q).map (shT val)) + shT val L[q]) := sumT_snoc _ L q hlt
      have HN2 : Hid (sumI ((L.take (q + 1)).map (uT T val)) = sumI ((L.take q).map (uT T val)) + uT T val L[q]) := sumT_snoc _ L q hlt
      have HDq : Hid (L[q].val = val → ∀ o, Calls Try.prog 22 #[.pointer (some ⟨g, 0, none⟩), .int .i64 L[q].who, .int .i64 L[q].val] (wr.alloc o) fun e w' => e = .returned (.tuple #[.int .i64 (T L[q]), .int .i64 0]) ∧ w' = (wr.alloc o).drew) := fun hv o => HD.out (wr.alloc o) q hlt hv (HA.out _ (hbw.alloc hbw.size o))
      have HBw : Hid (∀ o, Below wA.heap.size wA (wr.alloc o)) := fun o => hbw.alloc hbw.size o
      by_cases hv : L[q].val = val
      · obtain ⟨t0, t1⟩ := HT.out q hlt hv
        obtain ⟨z0, z1⟩ := HS.out q hlt hv
        have HN1' : Hid (sumI ((L.take (q + 1)).map (shT val)) = sumI ((L.take q).map (shT val)) + L[q].shares) := by rw [HN1.out]; unfold shT; rw [if_pos hv]; exact rfl
        have HN2' : Hid (sumI ((L.take (q + 1)).map (uT T val)) = sumI ((L.take q).map (uT T val)) + T L[q]) := by rw [HN2.out]; unfold uT; rw [if_pos hv]; exact rfl
        have HDq' := HDq.out hv
        have HC : Hid (∀ o, Calls Try.prog 22 #[.pointer (some ⟨g, 0, none⟩), .int .i64 L[q].who, .int .i64 val] (wr.alloc o) fun e w' => e = .returned (.tuple #[.int .i64 (T L[q]), .int .i64 0]) ∧ w' = (wr.alloc o).drew) := by
          intro o; have := HDq' o; rw [hv] at this; exact this
        rw [hv] at y1
        clear hc1 hbw k5 HD HT HS B1 B2 HN1 HN2 HDq HDq' hv HX HA
        generalize sumI ((L.take q).map (shT val)) = sn at *
        generalize sumI ((L.take q).map (uT T val)) = un at *
        generalize T L[q] = tq at *
        generalize L[q].shares = sq at *
        generalize L[q].who = wq at *
        have t0' : ¬ tq < 0 := by omega
        go_wp2_with fail
        all_goals try go_region
        all_goals try go_wp2_with fail
        refine (HC.out _).mono ?_
        rintro e w2 ⟨rfl, rfl⟩
        clear HC
        go_wp2
        all_goals try go_region
        all_goals try go_wp2
        all_goals
          refine And.intro ?_ ?_
          · first | exact ⟨q + 1, by omega, by go_num, by rw [HN1'.out], by rw [HN2'.out], (HBw.out _).drew⟩ | exact ⟨q + 1, by omega, by go_num, by rw [HN1'.out], by rw [HN2'.out], (HBw.out _).drew.drew⟩ | ((repeat apply Exists.intro); first | exact ⟨⟨q + 1, by omega, by go_num, by rw [HN1'.out], by rw [HN2'.out], (HBw.out _).drew⟩, rfl⟩ | exact ⟨⟨q + 1, by omega, by go_num, by rw [HN1'.out], by rw [HN2'.out], (HBw.out _).drew.drew⟩, rfl⟩)
          · simp [intOf]; omega
      · have hv' : (L[q].val == val) = false := by simp [hv]
        have HN1' : Hid (sumI ((L.take (q + 1)).map (shT val)) = sumI ((L.take q).map (shT val))) := by rw [HN1.out]; unfold shT; rw [if_neg hv, Int.add_zero]; exact rfl
        have HN2' : Hid (sumI ((L.take (q + 1)).map (uT T val)) = sumI ((L.take q).map (uT T val))) := by rw [HN2.out]; unfold uT; rw [if_neg hv, Int.add_zero]; exact rfl
        clear hc1 hbw k5 HD HT HS B1 B2 HN1 HN2 HDq hv HX HA
        generalize L[q].shares = sq at *
        generalize L[q].who = wq at *
        generalize L[q].val = vq at *
        go_wp2
        all_goals try go_region
        all_goals try go_wp2
        refine And.intro ?_ ?_
        · first | exact ⟨q + 1, by omega, by go_num, by rw [HN1'.out], by rw [HN2'.out], HBw.out _⟩ | exact ⟨q + 1, by omega, by go_num, by rw [HN1'.out], by rw [HN2'.out], (HBw.out _).drew⟩ | ((repeat apply Exists.intro); first | exact ⟨⟨q + 1, by omega, by go_num, by rw [HN1'.out], by rw [HN2'.out], HBw.out _⟩, rfl⟩ | exact ⟨⟨q + 1, by omega, by go_num, by rw [HN1'.out], by rw [HN2'.out], (HBw.out _).drew⟩, rfl⟩)
        · simp [intOf]; omega
    · have HF : Hid (Below w.heap.size w wr) := HA.out wr hbw
      have eq : q = L.length := by omega
      subst eq
      have HE1 : Hid (sumI ((L.take L.length).map (shT val)) = sumI (L.map (shT val))) := by rw [List.take_length]; exact rfl
      have HE2 : Hid (sumI ((L.take L.length).map (uT T val)) = sumI (L.map (uT T val))) := by rw [List.take_length]; exact rfl
      clear hbw
      go_wp2
      go_ret2
      rw [HE1.out, HE2.out]
      exact ⟨rfl, HF.out⟩
end Go.Proofs.Ytohjjgefklhmaaa
