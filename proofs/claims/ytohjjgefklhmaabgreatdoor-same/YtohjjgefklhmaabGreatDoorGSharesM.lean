import Derived.Test.YtohjjgefklhmaabGreatDoorGKeepM
namespace Go.Proofs.YtohjjgefklhmaabGreatDoor
open Go.ChangeShapes Go.WideShapes Go.ChangeAt Go.RowKit
set_option linter.unusedVariables false

set_option maxHeartbeats 4000000 in
set_option maxRecDepth 100000 in
theorem shares_walk (g : Nat) (L : List DS) (T : DS → Int) (val : Int) (ht fe po bo lo : Int) (ba va da ea : Value) (w : World)
    (hba : ∃ a n c, ba = .slice a n c) (hva : ∃ a n c, va = .slice a n c) (hea : ∃ a n c, ea = .slice a n c) (h5 : Rd w da L.length 3 (drow L)) (l3 : L.length ≤ 30)
    (hDue : ∀ wr q (hq : q < L.length), L[q].val = val → Below w.heap.size w wr → Calls Tryz.prog 21 #[.pointer (some ⟨g, 0, none⟩), .int .i64 L[q].who, .int .i64 L[q].val] wr fun e w' => e = .returned (.tuple #[.int .i64 (T L[q]), .int .i64 0]) ∧ w' = wr.drew)
    (hT : ∀ q (hq : q < L.length), L[q].val = val → 0 ≤ T L[q] ∧ T L[q] ≤ 1000000)
    (hS : ∀ q (hq : q < L.length), L[q].val = val → 0 ≤ L[q].shares ∧ L[q].shares ≤ 1000000)
    (b1 : ∀ k, k ≤ L.length → 0 ≤ sumI ((L.take k).map (shT val)) ∧ sumI ((L.take k).map (shT val)) ≤ 1000000)
    (b2 : ∀ k, k ≤ L.length → 0 ≤ sumI ((L.take k).map (uT T val)) ∧ sumI ((L.take k).map (uT T val)) ≤ 1000000) :
    Calls Tryz.prog 45 #[.pointer (some ⟨g, 0, none⟩), .agg #[.int .i64 ht, ba, .int .i64 fe, .int .i64 po, .int .i64 bo, .int .i64 lo, va, da, ea], .int .i64 val] w fun e w' => e = .returned (.tuple #[.int .i64 (sumI (L.map (shT val))), .int .i64 (sumI (L.map (uT T val)))]) ∧ Below w.heap.size w w' := by
  obtain ⟨ba0, ba1, ba2, rfl⟩ := hba
  obtain ⟨va0, va1, va2, rfl⟩ := hva
  obtain ⟨ea0, ea1, ea2, rfl⟩ := hea
  obtain ⟨da1, da2, rfl⟩ := h5.form
  have hX : Has (w.alloc (.cells #[.int .i64 ht, .slice ba0 ba1 ba2, .int .i64 fe, .int .i64 po, .int .i64 bo, .int .i64 lo, .slice va0 va1 va2, .slice da1 L.length da2, .slice ea0 ea1 ea2] 41)) w.heap.size 41 [.int .i64 ht, .slice ba0 ba1 ba2, .int .i64 fe, .int .i64 po, .int .i64 bo, .int .i64 lo, .slice va0 va1 va2, .slice da1 L.length da2, .slice ea0 ea1 ea2] := Has.newA w _ _
  have hA : Below w.heap.size w (w.alloc (.cells #[.int .i64 ht, .slice ba0 ba1 ba2, .int .i64 fe, .int .i64 po, .int .i64 bo, .int .i64 lo, .slice va0 va1 va2, .slice da1 L.length da2, .slice ea0 ea1 ea2] 41)) := (Below.refl _ _).alloc (Nat.le_refl _) _
  have k5 := h5.below hA (Nat.le_refl _)
  have HD : Hid (∀ wr q (hq : q < L.length), L[q].val = val → Below w.heap.size w wr → Calls Tryz.prog 21 #[.pointer (some ⟨g, 0, none⟩), .int .i64 L[q].who, .int .i64 L[q].val] wr fun e w' => e = .returned (.tuple #[.int .i64 (T L[q]), .int .i64 0]) ∧ w' = wr.drew) := hDue
  have HT : Hid (∀ q (hq : q < L.length), L[q].val = val → 0 ≤ T L[q] ∧ T L[q] ≤ 1000000) := hT
  have HS : Hid (∀ q (hq : q < L.length), L[q].val = val → 0 ≤ L[q].shares ∧ L[q].shares ≤ 1000000) := hS
  have B1 : Hid (∀ k, k ≤ L.length → 0 ≤ sumI ((L.take k).map (shT val)) ∧ sumI ((L.take k).map (shT val)) ≤ 1000000) := b1
  have B2 : Hid (∀ k, k ≤ L.length → 0 ≤ sumI ((L.take k).map (uT T val)) ∧ sumI ((L.take k).map (uT T val)) ≤ 1000000) := b2
  clear hDue hT hS b1 b2 h5
  go_enter Tryz.func45, Tryz.ntmps45
  go_wp2
  generalize (w.alloc (.cells #[.int .i64 ht, .slice ba0 ba1 ba2, .int .i64 fe, .int .i64 po, .int .i64 bo, .int .i64 lo, .slice va0 va1 va2, .slice da1 L.length da2, .slice ea0 ea1 ea2] 41)) = wA at hX hA k5 ⊢
  have HX : Hid (∀ wr, Below wA.heap.size wA wr → Has wr w.heap.size 41 [.int .i64 ht, .slice ba0 ba1 ba2, .int .i64 fe, .int .i64 po, .int .i64 bo, .int .i64 lo, .slice va0 va1 va2, .slice da1 L.length da2, .slice ea0 ea1 ea2]) := fun wr hb => hX.below hb hX.lt
  have HA : Hid (∀ wr, Below wA.heap.size wA wr → Below w.heap.size w wr) := fun wr hb => hA.trans (hb.mono hA.size)
  clear hX hA
  go_loopw [8, 9, 10] (fun n d i wr => ∃ k : Nat, k ≤ L.length ∧ i = .int .i64 k ∧ n = .int .i64 (sumI ((L.take k).map (shT val))) ∧ d = .int .i64 (sumI ((L.take k).map (uT T val))) ∧ Below wA.heap.size wA wr) (fun _ _ i _ => L.length - (intOf i).toNat)
  case atStart => exact ⟨0, Nat.zero_le _, rfl, rfl, rfl, Below.refl _ _⟩
  case round =>
    obtain ⟨q, hq, rfl, rfl, rfl, hbw⟩ := hrel
    have a7 : wr.cell? ⟨w.heap.size, 7, none⟩ = some (.slice da1 L.length da2) := (HX.out wr hbw).cell 7
    obtain ⟨s0, s1⟩ := B1.out q hq
    obtain ⟨u0, u1⟩ := B2.out q hq
    by_cases hlt : q < L.length
    · obtain ⟨ga, rfl, hc1⟩ := (k5.below hbw (Nat.le_refl _)).get (by omega)
      have y0 := hc1 _ _ (drow_at L q hlt 0 (by omega))
      have y1 := hc1 _ _ (drow_at L q hlt 1 (by omega))
      have y2 := hc1 _ _ (drow_at L q hlt 2 (by omega))
      rw [Nat.add_zero] at y0
      have HN1 : Hid (sumI ((L.take (q + 1)).map (shT val)) = sumI ((L.take q).map (shT val)) + shT val L[q]) := sumT_snoc _ L q hlt
      have HN2 : Hid (sumI ((L.take (q + 1)).map (uT T val)) = sumI ((L.take q).map (uT T val)) + uT T val L[q]) := sumT_snoc _ L q hlt
      have HDq : Hid (L[q].val = val → ∀ o, Calls Tryz.prog 21 #[.pointer (some ⟨g, 0, none⟩), .int .i64 L[q].who, .int .i64 L[q].val] (wr.alloc o) fun e w' => e = .returned (.tuple #[.int .i64 (T L[q]), .int .i64 0]) ∧ w' = (wr.alloc o).drew) := fun hv o => HD.out (wr.alloc o) q hlt hv (HA.out _ (hbw.alloc hbw.size o))
      have HBw : Hid (∀ o, Below wA.heap.size wA (wr.alloc o)) := fun o => hbw.alloc hbw.size o
      by_cases hv : L[q].val = val
      · obtain ⟨t0, t1⟩ := HT.out q hlt hv
        obtain ⟨z0, z1⟩ := HS.out q hlt hv
        have HN1' : Hid (sumI ((L.take (q + 1)).map (shT val)) = sumI ((L.take q).map (shT val)) + L[q].shares) := by rw [HN1.out]; unfold shT; rw [if_pos hv]; exact rfl
        have HN2' : Hid (sumI ((L.take (q + 1)).map (uT T val)) = sumI ((L.take q).map (uT T val)) + T L[q]) := by rw [HN2.out]; unfold uT; rw [if_pos hv]; exact rfl
        have HDq' := HDq.out hv
        have HC : Hid (∀ o, Calls Tryz.prog 21 #[.pointer (some ⟨g, 0, none⟩), .int .i64 L[q].who, .int .i64 val] (wr.alloc o) fun e w' => e = .returned (.tuple #[.int .i64 (T L[q]), .int .i64 0]) ∧ w' = (wr.alloc o).drew) := by
          intro o; have := HDq' o; rw [hv] at this; exact this
        rw [hv] at y1
        clear hc1 hbw k5 HD HT HS B1 B2 HN1 HN2 HDq HDq' hv HX HA
        generalize sumI ((L.take q).map (shT val)) = sn at *
        generalize sumI ((L.take q).map (uT T val)) = un at *
        generalize T L[q] = tq at *
        generalize L[q].shares = sq at *
        generalize L[q].who = wq at *
        have t0' : ¬ tq < 0 := by omega
        go_wp2_with fail
        all_goals try go_region
        all_goals try go_wp2_with fail
        refine (HC.out _).mono ?_
        rintro e w2 ⟨rfl, rfl⟩
        clear HC
        go_wp2
        all_goals try go_region
        all_goals try go_wp2
        all_goals
          refine And.intro ?_ ?_
          · first | exact ⟨q + 1, by omega, by go_num, by rw [HN1'.out], by rw [HN2'.out], (HBw.out _).drew⟩ | exact ⟨q + 1, by omega, by go_num, by rw [HN1'.out], by rw [HN2'.out], (HBw.out _).drew.drew⟩ | ((repeat apply Exists.intro); first | exact ⟨⟨q + 1, by omega, by go_num, by rw [HN1'.out], by rw [HN2'.out], (HBw.out _).drew⟩, rfl⟩ | exact ⟨⟨q + 1, by omega, by go_num, by rw [HN1'.out], by rw [HN2'.out], (HBw.out _).drew.drew⟩, rfl⟩)
          · simp [intOf]; omega
      · have hv' : (L[q].val == val) = false := by simp [hv]
        have HN1' : Hid (sumI ((L.take (q + 1)).map (shT val)) = sumI ((L.take q).map (shT val))) := by rw [HN1.out]; unfold shT; rw [if_neg hv, Int.add_zero]; exact rfl
        have HN2' : Hid (sumI ((L.take (q + 1)).map (uT T val)) = sumI ((L.take q).map (uT T val))) := by rw [HN2.out]; unfold uT; rw [if_neg hv, Int.add_zero]; exact rfl
        clear hc1 hbw k5 HD HT HS B1 B2 HN1 HN2 HDq hv HX HA
        generalize L[q].shares = sq at *
        generalize L[q].who = wq at *
        generalize L[q].val = vq at *
        go_wp2
        all_goals try go_region
        all_goals try go_wp2
        refine And.intro ?_ ?_
        · first | exact ⟨q + 1, by omega, by go_num, by rw [HN1'.out], by rw [HN2'.out], HBw.out _⟩ | exact ⟨q + 1, by omega, by go_num, by rw [HN1'.out], by rw [HN2'.out], (HBw.out _).drew⟩ | ((repeat apply Exists.intro); first | exact ⟨⟨q + 1, by omega, by go_num, by rw [HN1'.out], by rw [HN2'.out], HBw.out _⟩, rfl⟩ | exact ⟨⟨q + 1, by omega, by go_num, by rw [HN1'.out], by rw [HN2'.out], (HBw.out _).drew⟩, rfl⟩)
        · simp [intOf]; omega
    · have HF : Hid (Below w.heap.size w wr) := HA.out wr hbw
      have eq : q = L.length := by omega
      subst eq
      have HE1 : Hid (sumI ((L.take L.length).map (shT val)) = sumI (L.map (shT val))) := by rw [List.take_length]; exact rfl
      have HE2 : Hid (sumI ((L.take L.length).map (uT T val)) = sumI (L.map (uT T val))) := by rw [List.take_length]; exact rfl
      clear hbw
      go_wp2
      go_ret2
      rw [HE1.out, HE2.out]
      exact ⟨rfl, HF.out⟩
end Go.Proofs.YtohjjgefklhmaabGreatDoor

namespace Go.Proofs.YtohjjgefklhmaabGreatDoor
open Go.ChangeShapes Go.WideShapes Go.ChangeAt Go.RowKit
set_option linter.unusedVariables false

set_option maxHeartbeats 4000000 in
set_option maxRecDepth 100000 in
theorem negative_any (ht fe po bo lo : Int) (bal : List Int) (vals : List VS) (dels : List DS) (ents : List ES) (ba va da ea : Value) (w : World)
    (h1 : IntSl w ba bal) (h3 : Rd w va vals.length 8 (vrow vals)) (h5 : Rd w da dels.length 3 (drow dels)) (h7 : Rd w ea ents.length 4 (erow ents))
    (l1 : bal.length ≤ 6) (l2 : vals.length ≤ 5) (l3 : dels.length ≤ 30) (l4 : ents.length ≤ 1000)
    (p1 : 0 ≤ ht) (p2 : 0 ≤ fe) (p3 : 0 ≤ po) (p4 : 0 ≤ bo) (p5 : 0 ≤ lo)
    (hb : ∀ k, k < bal.length → 0 ≤ bal.getD k 0) (hv : ∀ k (h : k < vals.length), 0 ≤ vals[k].tokens ∧ 0 ≤ vals[k].shares ∧ 0 ≤ vals[k].comm ∧ 0 ≤ vals[k].outs ∧ vals[k].shares ≤ 1000000)
    (hd : ∀ k (h : k < dels.length), 1 ≤ dels[k].shares) (he : ∀ k (h : k < ents.length), 0 ≤ ents[k].amount) :
    Calls Tryz.prog 46 #[.agg #[.int .i64 ht, ba, .int .i64 fe, .int .i64 po, .int .i64 bo, .int .i64 lo, va, da, ea]] w fun e w' => e = .returned (.bool false) ∧ Below w.heap.size w w' := by
  obtain ⟨ba1, ba2, rfl, hbx⟩ := id h1
  obtain ⟨va1, va2, rfl⟩ := h3.form
  obtain ⟨da1, da2, rfl⟩ := h5.form
  obtain ⟨ea1, ea2, rfl⟩ := h7.form
  have hX : Has (w.alloc (.cells #[.int .i64 ht, .slice ba1 bal.length ba2, .int .i64 fe, .int .i64 po, .int .i64 bo, .int .i64 lo, .slice va1 vals.length va2, .slice da1 dels.length da2, .slice ea1 ents.length ea2] 41)) w.heap.size 41 [.int .i64 ht, .slice ba1 bal.length ba2, .int .i64 fe, .int .i64 po, .int .i64 bo, .int .i64 lo, .slice va1 vals.length va2, .slice da1 dels.length da2, .slice ea1 ents.length ea2] := Has.newA w _ _
  have hA : Below w.heap.size w (w.alloc (.cells #[.int .i64 ht, .slice ba1 bal.length ba2, .int .i64 fe, .int .i64 po, .int .i64 bo, .int .i64 lo, .slice va1 vals.length va2, .slice da1 dels.length da2, .slice ea1 ents.length ea2] 41)) := (Below.refl _ _).alloc (Nat.le_refl _) _
  have k1 := h1.below hA (Nat.le_refl _)
  have k3 := h3.below hA (Nat.le_refl _)
  have k5 := h5.below hA (Nat.le_refl _)
  have k7 := h7.below hA (Nat.le_refl _)
  have HWA : Hid (∀ u, Below (w.alloc (.cells #[.int .i64 ht, .slice ba1 bal.length ba2, .int .i64 fe, .int .i64 po, .int .i64 bo, .int .i64 lo, .slice va1 vals.length va2, .slice da1 dels.length da2, .slice ea1 ents.length ea2] 41)).heap.size (w.alloc (.cells #[.int .i64 ht, .slice ba1 bal.length ba2, .int .i64 fe, .int .i64 po, .int .i64 bo, .int .i64 lo, .slice va1 vals.length va2, .slice da1 dels.length da2, .slice ea1 ents.length ea2] 41)) u → Below w.heap.size w u) := fun u h => hA.trans (h.mono hA.size)
  have Hb : Hid (∀ k, k < bal.length → 0 ≤ bal.getD k 0) := hb
  have Hv : Hid (∀ k (h : k < vals.length), 0 ≤ vals[k].tokens ∧ 0 ≤ vals[k].shares ∧ 0 ≤ vals[k].comm ∧ 0 ≤ vals[k].outs ∧ vals[k].shares ≤ 1000000) := hv
  have Hd : Hid (∀ k (h : k < dels.length), 1 ≤ dels[k].shares) := hd
  have He : Hid (∀ k (h : k < ents.length), 0 ≤ ents[k].amount) := he
  clear h1 h3 h5 h7 hbx hA hb hv hd he
  go_enter Tryz.func46, Tryz.ntmps46
  go_wp2
  all_goals try go_region
  all_goals try go_wp2
  have HN0 : (decide (fe < 0) || decide (po < 0) || decide (bo < 0) || decide (lo < 0) || decide (ht < 0)) = false := by
    have e1 : ¬ fe < 0 := by omega
    have e2 : ¬ po < 0 := by omega
    have e3 : ¬ bo < 0 := by omega
    have e4 : ¬ lo < 0 := by omega
    have e5 : ¬ ht < 0 := by omega
    simp [e1, e2, e3, e4, e5]
  rw [HN0]
  clear HN0
  generalize (w.alloc (.cells #[.int .i64 ht, .slice ba1 bal.length ba2, .int .i64 fe, .int .i64 po, .int .i64 bo, .int .i64 lo, .slice va1 vals.length va2, .slice da1 dels.length da2, .slice ea1 ents.length ea2] 41)) = wA at hX k1 k3 k5 k7 HWA ⊢
  have HX : Hid (∀ wr, Below wA.heap.size wA wr → Has wr w.heap.size 41 [.int .i64 ht, .slice ba1 bal.length ba2, .int .i64 fe, .int .i64 po, .int .i64 bo, .int .i64 lo, .slice va1 vals.length va2, .slice da1 dels.length da2, .slice ea1 ents.length ea2]) := fun wr hb => hX.below hb hX.lt
  clear hX
  have HB0 : Hid (Below wA.heap.size wA wA) := Below.refl _ _
  go_loopw [3, 4] (fun o i wr => ∃ k : Nat, k ≤ bal.length ∧ i = .int .i64 k ∧ o = .bool false ∧ Below wA.heap.size wA wr) (fun _ i _ => bal.length - (intOf i).toNat)
  case atStart => first | exact ⟨0, Nat.zero_le _, rfl, rfl, HB0.out⟩ | exact ⟨0, Nat.zero_le _, rfl, rfl, HB0.out.drew⟩
  case round =>
    clear HB0
    obtain ⟨q, hq, rfl, rfl, hbw⟩ := hrel
    have HBw : Hid (Below wA.heap.size wA wr) := hbw
    have a1 : wr.cell? ⟨w.heap.size, 1, none⟩ = some (.slice ba1 bal.length ba2) := (HX.out wr hbw).cell 1
    have a6 : wr.cell? ⟨w.heap.size, 6, none⟩ = some (.slice va1 vals.length va2) := (HX.out wr hbw).cell 6
    by_cases hlt0 : q < bal.length
    · obtain ⟨_, _, e1, hc1⟩ := k1.below hbw (Nat.le_refl _)
      simp only [Value.slice.injEq, true_and] at e1
      obtain ⟨rfl, rfl⟩ := e1
      obtain ⟨ga, rfl, hd1⟩ := hc1 (by omega)
      have y1 : wr.cell? ⟨ga, q, none⟩ = some (.int .i64 (bal.getD q 0)) := hd1 q _ (by simp [List.getD, hlt0])
      have hbk := Hb.out q hlt0
      clear hc1 hd1 hbw k1 k3 k5 k7 a6
      generalize bal.getD q 0 = u at *
      have hbk' : ¬ u < 0 := by omega
      go_wp2
      all_goals try go_region
      all_goals try go_wp2
      refine And.intro ?_ ?_
      · first | exact ⟨q + 1, by omega, by go_num, by first | rfl | (simp; done) | (simp; omega), HBw.out⟩ | exact ⟨q + 1, by omega, by go_num, by first | rfl | (simp; done) | (simp; omega), HBw.out.drew⟩ | exact ⟨q + 1, by omega, by go_num, by first | rfl | (simp; done) | (simp; omega), (HBw.out.alloc HBw.out.size _)⟩ | exact ⟨q + 1, by omega, by go_num, by first | rfl | (simp; done) | (simp; omega), (HBw.out.alloc HBw.out.size _).drew⟩ | exact ⟨q + 1, by omega, by go_num, by first | rfl | (simp; done) | (simp; omega), (HBw.out.drew.alloc HBw.out.size _)⟩ | exact ⟨q + 1, by omega, by go_num, by first | rfl | (simp; done) | (simp; omega), (HBw.out.drew.alloc HBw.out.size _).drew⟩ | ((repeat apply Exists.intro); first | exact ⟨⟨q + 1, by omega, by go_num, by first | rfl | (simp; done) | (simp; omega), HBw.out⟩, rfl⟩ | exact ⟨⟨q + 1, by omega, by go_num, by first | rfl | (simp; done) | (simp; omega), HBw.out.drew⟩, rfl⟩ | exact ⟨⟨q + 1, by omega, by go_num, by first | rfl | (simp; done) | (simp; omega), (HBw.out.alloc HBw.out.size _)⟩, rfl⟩ | exact ⟨⟨q + 1, by omega, by go_num, by first | rfl | (simp; done) | (simp; omega), (HBw.out.alloc HBw.out.size _).drew⟩, rfl⟩ | exact ⟨⟨q + 1, by omega, by go_num, by first | rfl | (simp; done) | (simp; omega), (HBw.out.drew.alloc HBw.out.size _)⟩, rfl⟩ | exact ⟨⟨q + 1, by omega, by go_num, by first | rfl | (simp; done) | (simp; omega), (HBw.out.drew.alloc HBw.out.size _).drew⟩, rfl⟩)
      · simp [intOf]; omega
    · go_wp2
      obtain ⟨wo, rfl⟩ : ∃ wo : World, wo = wr := ⟨_, rfl⟩
      clear hbw a1
      go_loopw [3, 5] (fun o i wr => ∃ k : Nat, k ≤ vals.length ∧ i = .int .i64 k ∧ o = .bool false ∧ Below wA.heap.size wA wr) (fun _ i _ => vals.length - (intOf i).toNat)
      case atStart => exact ⟨0, Nat.zero_le _, rfl, rfl, HBw.out⟩
      case round =>
        clear HBw a6
        obtain ⟨q2, hq2, rfl, rfl, hbw⟩ := hrel
        have HBw : Hid (Below wA.heap.size wA wr) := hbw
        have a6 : wr.cell? ⟨w.heap.size, 6, none⟩ = some (.slice va1 vals.length va2) := (HX.out wr hbw).cell 6
        have a7 : wr.cell? ⟨w.heap.size, 7, none⟩ = some (.slice da1 dels.length da2) := (HX.out wr hbw).cell 7
        by_cases hlt1 : q2 < vals.length
        · obtain ⟨ga, rfl, hc1⟩ := (k3.below hbw (Nat.le_refl _)).get (by omega)
          have y0 := hc1 _ _ (vrow_at vals q2 hlt1 0 (by omega))
          have y1 := hc1 _ _ (vrow_at vals q2 hlt1 1 (by omega))
          have y2 := hc1 _ _ (vrow_at vals q2 hlt1 2 (by omega))
          have y3 := hc1 _ _ (vrow_at vals q2 hlt1 3 (by omega))
          have y4 := hc1 _ _ (vrow_at vals q2 hlt1 4 (by omega))
          have y5 := hc1 _ _ (vrow_at vals q2 hlt1 5 (by omega))
          have y6 := hc1 _ _ (vrow_at vals q2 hlt1 6 (by omega))
          have y7 := hc1 _ _ (vrow_at vals q2 hlt1 7 (by omega))
          rw [Nat.add_zero] at y0
          obtain ⟨v1, v2, v3, v4, v5⟩ := Hv.out q2 hlt1
          clear hc1 hbw k1 k3 k5 k7 a7
          generalize vals[q2] = x at *
          obtain ⟨xo, xr, xt, xs, xc, xou, xj, xi⟩ := x
          dsimp only at y0 y1 y2 y3 y4 y5 y6 y7 v1 v2 v3 v4 v5
          have v1' : ¬ xt < 0 := by omega
          have v2' : ¬ xs < 0 := by omega
          have v3' : ¬ xc < 0 := by omega
          have v4' : ¬ xou < 0 := by omega
          have v5' : ¬ xs > 1000000 := by omega
          go_wp2
          all_goals try go_region
          all_goals try go_wp2
          refine And.intro ?_ ?_
          · first | exact ⟨q2 + 1, by omega, by go_num, by first | rfl | (simp; done) | (simp; omega), HBw.out⟩ | exact ⟨q2 + 1, by omega, by go_num, by first | rfl | (simp; done) | (simp; omega), HBw.out.drew⟩ | exact ⟨q2 + 1, by omega, by go_num, by first | rfl | (simp; done) | (simp; omega), (HBw.out.alloc HBw.out.size _)⟩ | exact ⟨q2 + 1, by omega, by go_num, by first | rfl | (simp; done) | (simp; omega), (HBw.out.alloc HBw.out.size _).drew⟩ | exact ⟨q2 + 1, by omega, by go_num, by first | rfl | (simp; done) | (simp; omega), (HBw.out.drew.alloc HBw.out.size _)⟩ | exact ⟨q2 + 1, by omega, by go_num, by first | rfl | (simp; done) | (simp; omega), (HBw.out.drew.alloc HBw.out.size _).drew⟩ | ((repeat apply Exists.intro); first | exact ⟨⟨q2 + 1, by omega, by go_num, by first | rfl | (simp; done) | (simp; omega), HBw.out⟩, rfl⟩ | exact ⟨⟨q2 + 1, by omega, by go_num, by first | rfl | (simp; done) | (simp; omega), HBw.out.drew⟩, rfl⟩ | exact ⟨⟨q2 + 1, by omega, by go_num, by first | rfl | (simp; done) | (simp; omega), (HBw.out.alloc HBw.out.size _)⟩, rfl⟩ | exact ⟨⟨q2 + 1, by omega, by go_num, by first | rfl | (simp; done) | (simp; omega), (HBw.out.alloc HBw.out.size _).drew⟩, rfl⟩ | exact ⟨⟨q2 + 1, by omega, by go_num, by first | rfl | (simp; done) | (simp; omega), (HBw.out.drew.alloc HBw.out.size _)⟩, rfl⟩ | exact ⟨⟨q2 + 1, by omega, by go_num, by first | rfl | (simp; done) | (simp; omega), (HBw.out.drew.alloc HBw.out.size _).drew⟩, rfl⟩)
          · simp [intOf]; omega
        · go_wp2
          obtain ⟨wo, rfl⟩ : ∃ wo : World, wo = wr := ⟨_, rfl⟩
          clear hbw a6
          go_loopw [3, 7] (fun o i wr => ∃ k : Nat, k ≤ dels.length ∧ i = .int .i64 k ∧ o = .bool false ∧ Below wA.heap.size wA wr) (fun _ i _ => dels.length - (intOf i).toNat)
          case atStart => exact ⟨0, Nat.zero_le _, rfl, rfl, HBw.out⟩
          case round =>
            clear HBw a7
            obtain ⟨q3, hq3, rfl, rfl, hbw⟩ := hrel
            have HBw : Hid (Below wA.heap.size wA wr) := hbw
            have a7 : wr.cell? ⟨w.heap.size, 7, none⟩ = some (.slice da1 dels.length da2) := (HX.out wr hbw).cell 7
            have a8 : wr.cell? ⟨w.heap.size, 8, none⟩ = some (.slice ea1 ents.length ea2) := (HX.out wr hbw).cell 8
            by_cases hlt2 : q3 < dels.length
            · obtain ⟨ga, rfl, hc1⟩ := (k5.below hbw (Nat.le_refl _)).get (by omega)
              have y0 := hc1 _ _ (drow_at dels q3 hlt2 0 (by omega))
              have y1 := hc1 _ _ (drow_at dels q3 hlt2 1 (by omega))
              have y2 := hc1 _ _ (drow_at dels q3 hlt2 2 (by omega))
              rw [Nat.add_zero] at y0
              have v1 := Hd.out q3 hlt2
              clear hc1 hbw k1 k3 k5 k7 a8
              generalize dels[q3] = x at *
              obtain ⟨xo, xr, xt⟩ := x
              dsimp only at y0 y1 y2 v1
              have v1' : ¬ xt < 1 := by omega
              go_wp2
              all_goals try go_region
              all_goals try go_wp2
              refine And.intro ?_ ?_
              · first | exact ⟨q3 + 1, by omega, by go_num, by first | rfl | (simp; done) | (simp; omega), HBw.out⟩ | exact ⟨q3 + 1, by omega, by go_num, by first | rfl | (simp; done) | (simp; omega), HBw.out.drew⟩ | exact ⟨q3 + 1, by omega, by go_num, by first | rfl | (simp; done) | (simp; omega), (HBw.out.alloc HBw.out.size _)⟩ | exact ⟨q3 + 1, by omega, by go_num, by first | rfl | (simp; done) | (simp; omega), (HBw.out.alloc HBw.out.size _).drew⟩ | exact ⟨q3 + 1, by omega, by go_num, by first | rfl | (simp; done) | (simp; omega), (HBw.out.drew.alloc HBw.out.size _)⟩ | exact ⟨q3 + 1, by omega, by go_num, by first | rfl | (simp; done) | (simp; omega), (HBw.out.drew.alloc HBw.out.size _).drew⟩ | ((repeat apply Exists.intro); first | exact ⟨⟨q3 + 1, by omega, by go_num, by first | rfl | (simp; done) | (simp; omega), HBw.out⟩, rfl⟩ | exact ⟨⟨q3 + 1, by omega, by go_num, by first | rfl | (simp; done) | (simp; omega), HBw.out.drew⟩, rfl⟩ | exact ⟨⟨q3 + 1, by omega, by go_num, by first | rfl | (simp; done) | (simp; omega), (HBw.out.alloc HBw.out.size _)⟩, rfl⟩ | exact ⟨⟨q3 + 1, by omega, by go_num, by first | rfl | (simp; done) | (simp; omega), (HBw.out.alloc HBw.out.size _).drew⟩, rfl⟩ | exact ⟨⟨q3 + 1, by omega, by go_num, by first | rfl | (simp; done) | (simp; omega), (HBw.out.drew.alloc HBw.out.size _)⟩, rfl⟩ | exact ⟨⟨q3 + 1, by omega, by go_num, by first | rfl | (simp; done) | (simp; omega), (HBw.out.drew.alloc HBw.out.size _).drew⟩, rfl⟩)
              · simp [intOf]; omega
            · go_wp2
              obtain ⟨wo, rfl⟩ : ∃ wo : World, wo = wr := ⟨_, rfl⟩
              clear hbw a7
              go_loopw [3, 8] (fun o i wr => ∃ k : Nat, k ≤ ents.length ∧ i = .int .i64 k ∧ o = .bool false ∧ Below wA.heap.size wA wr) (fun _ i _ => ents.length - (intOf i).toNat)
              case atStart => exact ⟨0, Nat.zero_le _, rfl, rfl, HBw.out⟩
              case round =>
                clear HBw a8
                obtain ⟨q4, hq4, rfl, rfl, hbw⟩ := hrel
                have HBw : Hid (Below wA.heap.size wA wr) := hbw
                have a8 : wr.cell? ⟨w.heap.size, 8, none⟩ = some (.slice ea1 ents.length ea2) := (HX.out wr hbw).cell 8
                by_cases hlt3 : q4 < ents.length
                · obtain ⟨ga, rfl, hc1⟩ := (k7.below hbw (Nat.le_refl _)).get (by omega)
                  have y0 := hc1 _ _ (erow_at ents q4 hlt3 0 (by omega))
                  have y1 := hc1 _ _ (erow_at ents q4 hlt3 1 (by omega))
                  have y2 := hc1 _ _ (erow_at ents q4 hlt3 2 (by omega))
                  have y3 := hc1 _ _ (erow_at ents q4 hlt3 3 (by omega))
                  rw [Nat.add_zero] at y0
                  have v1 := He.out q4 hlt3
                  clear hc1 hbw k1 k3 k5 k7
                  generalize ents[q4] = x at *
                  obtain ⟨xo, xr, xt, xs⟩ := x
                  dsimp only at y0 y1 y2 y3 v1
                  have v1' : ¬ xs < 0 := by omega
                  go_wp2
                  all_goals try go_region
                  all_goals try go_wp2
                  refine And.intro ?_ ?_
                  · first | exact ⟨q4 + 1, by omega, by go_num, by first | rfl | (simp; done) | (simp; omega), HBw.out⟩ | exact ⟨q4 + 1, by omega, by go_num, by first | rfl | (simp; done) | (simp; omega), HBw.out.drew⟩ | exact ⟨q4 + 1, by omega, by go_num, by first | rfl | (simp; done) | (simp; omega), (HBw.out.alloc HBw.out.size _)⟩ | exact ⟨q4 + 1, by omega, by go_num, by first | rfl | (simp; done) | (simp; omega), (HBw.out.alloc HBw.out.size _).drew⟩ | exact ⟨q4 + 1, by omega, by go_num, by first | rfl | (simp; done) | (simp; omega), (HBw.out.drew.alloc HBw.out.size _)⟩ | exact ⟨q4 + 1, by omega, by go_num, by first | rfl | (simp; done) | (simp; omega), (HBw.out.drew.alloc HBw.out.size _).drew⟩ | ((repeat apply Exists.intro); first | exact ⟨⟨q4 + 1, by omega, by go_num, by first | rfl | (simp; done) | (simp; omega), HBw.out⟩, rfl⟩ | exact ⟨⟨q4 + 1, by omega, by go_num, by first | rfl | (simp; done) | (simp; omega), HBw.out.drew⟩, rfl⟩ | exact ⟨⟨q4 + 1, by omega, by go_num, by first | rfl | (simp; done) | (simp; omega), (HBw.out.alloc HBw.out.size _)⟩, rfl⟩ | exact ⟨⟨q4 + 1, by omega, by go_num, by first | rfl | (simp; done) | (simp; omega), (HBw.out.alloc HBw.out.size _).drew⟩, rfl⟩ | exact ⟨⟨q4 + 1, by omega, by go_num, by first | rfl | (simp; done) | (simp; omega), (HBw.out.drew.alloc HBw.out.size _)⟩, rfl⟩ | exact ⟨⟨q4 + 1, by omega, by go_num, by first | rfl | (simp; done) | (simp; omega), (HBw.out.drew.alloc HBw.out.size _).drew⟩, rfl⟩)
                  · simp [intOf]; omega
                · have HF : Hid (Below w.heap.size w wr) := HWA.out wr hbw
                  clear hbw
                  go_wp2
                  go_ret
                  exact ⟨rfl, HF.out⟩
end Go.Proofs.YtohjjgefklhmaabGreatDoor
