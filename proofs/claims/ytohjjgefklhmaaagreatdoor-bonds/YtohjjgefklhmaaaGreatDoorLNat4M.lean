import Derived.Test.YtohjjgefklhmaaaGreatDoorLWithM
namespace Go.Proofs.YtohjjgefklhmaaaGreatDoor
open Go.ChangeShapes Go.WideShapes Go.ChangeAt Go.RowKit
set_option linter.unusedVariables false

theorem dval_takeD (l : List Int) (k : Nat) : dval (l.take (k + 1)) = dval (l.take k) + P k * l.getD k 0 := by
  by_cases h : k < l.length
  · rw [dval_take l k h]; simp [List.getD, h]
  · rw [List.take_of_length_le (by omega), List.take_of_length_le (by omega)]
    simp [List.getD, show l.length ≤ k by omega]
theorem Dg.getD {l : List Int} (h : Dg l) (k : Nat) : 0 ≤ l.getD k 0 ∧ l.getD k 0 < 10000 := by
  by_cases hk : k < l.length
  · have := h.get hk; simpa [List.getD, hk] using this
  · simp [List.getD, show l.length ≤ k by omega]
theorem getD_of {l : List Int} {k : Nat} (h : k < l.length) : l.getD k 0 = l[k] := by simp [List.getD, h]
theorem getD_no {l : List Int} {k : Nat} (h : ¬ k < l.length) : l.getD k 0 = 0 := by simp [List.getD, show l.length ≤ k by omega]
theorem Nm.top {l : List Int} (h : Nm l) (hd : Dg l) {k : Nat} (hk : k < l.length) (hk2 : l.length ≤ k + 1) : 1 ≤ l.getD k 0 := by
  have h1 := h (by omega)
  have h2 := hd.get hk
  have e : l[l.length - 1] = l[k] := by congr 1; omega
  rw [e] at h1
  rw [getD_of hk]; omega

/-- what holds ahead of digit k of a sum -/
structure PlusI (a b : List Int) (k : Nat) (c : Int) (l : List Int) : Prop where
  len : l.length = k
  dg : Dg l
  c0 : 0 ≤ c
  c1 : c ≤ 1
  v : dval l + P k * c = dval (a.take k) + dval (b.take k)
  nm : a.length ≤ k → b.length ≤ k → c = 0 → Nm l
theorem PlusI.step {a b : List Int} {k : Nat} {c : Int} {l : List Int} (h : PlusI a b k c l) (da : Dg a) (db : Dg b) (na : Nm a) (nb : Nm b) (hgo : k < a.length ∨ k < b.length ∨ 0 < c) (s : Int) (hs : s = c + a.getD k 0 + b.getD k 0) :
    PlusI a b (k + 1) (s / 10000) (l ++ [s % 10000]) := by
  have h1 := da.getD k
  have h2 := db.getD k
  have h3 := h.c0
  have h4 := h.c1
  refine ⟨by simp [h.len], h.dg.snoc (by omega) (by omega), by omega, by omega, ?_, fun l1 l2 h0 => Nm.snoc ?_⟩
  · have hv := h.v
    rw [dval_snoc, h.len, dval_takeD a, dval_takeD b, P_succ]
    have e : P k * s = P k * (s % 10000) + P k * 10000 * (s / 10000) := by
      rw [Int.mul_assoc, ← Int.mul_add]
      congr 1
      omega
    rw [hs, Int.mul_add, Int.mul_add, ← hs] at e
    omega
  · rcases hgo with hg | hg | hg
    · have := na.top da hg l1; omega
    · have := nb.top db hg l2; omega
    · omega

theorem PlusI.lim {a b : List Int} {k : Nat} {c : Int} {l : List Int} (h : PlusI a b k c l) (da : Dg a) (db : Dg b) (hgo : k < a.length ∨ k < b.length ∨ 0 < c) : k ≤ a.length + b.length := by
  by_cases hk : k ≤ a.length + b.length
  · exact hk
  · have hc : 1 ≤ c := by omega
    have hv := h.v
    rw [List.take_of_length_le (by omega), List.take_of_length_le (by omega)] at hv
    have h1 := dval_lt da
    have h2 := dval_lt db
    have h3 := P_mono (show a.length ≤ a.length + b.length by omega)
    have h4 := P_mono (show b.length ≤ a.length + b.length by omega)
    have h5 := P_mono (show a.length + b.length + 1 ≤ k by omega)
    rw [P_succ] at h5
    have h6 : P k * 1 ≤ P k * c := Int.mul_le_mul_of_nonneg_left hc (by have := P_pos k; omega)
    have h7 := dval_nonneg h.dg
    have h8 := P_pos (a.length + b.length)
    omega

set_option maxHeartbeats 4000000 in
set_option maxRecDepth 100000 in
theorem plus_any (va vb : Value) (a b : List Int) (w : World) (ha : IntSl w va a) (hb : IntSl w vb b) (da : Dg a) (db : Dg b) (na : Nm a) (nb : Nm b) (la : a.length ≤ 100000000) (lb : b.length ≤ 100000000) :
    Calls Tryz.prog 103 #[va, vb] w fun e w' => ∃ v l, e = .returned v ∧ Big w.heap.size w' v l ∧ dval l = dval a + dval b ∧ l.length ≤ a.length + b.length + 1 ∧ Below w.heap.size w w' := by
  obtain ⟨i0, hi, hz0, hz1, hz2⟩ := info_parts info_int
  obtain ⟨aa, ac, rfl, hxa⟩ := id ha
  obtain ⟨ba, bc, rfl, hxb⟩ := id hb
  have HA : Hid (IntSl w (.slice aa a.length ac) a) := ha
  have HBs : Hid (IntSl w (.slice ba b.length bc) b) := hb
  clear hxa hxb ha hb
  go_enter Tryz.func103, Tryz.ntmps103
  go_wp2
  go_loopw [5, 6, 7] (fun out c i wr => ∃ (k : Nat) (q : Int) (l : List Int), i = .int .i64 k ∧ c = .int .i64 q ∧ PlusI a b k q l ∧ wr.ownsRow w.heap.size 3 1 out l.length (ints l) ∧ k ≤ a.length + b.length + 1 ∧ Below w.heap.size w wr) (fun _ _ i _ => a.length + b.length + 1 - (intOf i).toNat)
  case atStart => exact ⟨0, 0, [], rfl, rfl, ⟨rfl, Dg.nil, Int.le_refl _, by omega, by simp [dval], fun _ _ _ => Nm.nil⟩, World.ownsRow_nil _ _ _ _, Nat.zero_le _, Below.refl _ _⟩
  case round =>
    obtain ⟨k, q, l, rfl, rfl, hI, hrow, hkl, hb⟩ := hrel
    have hll := hI.len
    subst hll
    obtain ⟨oa, oc, rfl⟩ := ownsRow_slice hrow
    have HB : Hid (Below w.heap.size w wr) := hb
    have HR : Hid (wr.ownsRow w.heap.size 3 1 (.slice oa l.length oc) l.length (ints l)) := hrow
    have HI : Hid (PlusI a b l.length q l) := hI
    have hA := HA.out.below hb (Nat.le_refl _)
    have hBb := HBs.out.below hb (Nat.le_refl _)
    have q0 := hI.c0
    have q1 := hI.c1
    have hsz := hb.size
    by_cases hgo : l.length < a.length ∨ l.length < b.length ∨ 0 < q
    · have hkm := hI.lim da db hgo
      have HG : Hid (l.length < a.length ∨ l.length < b.length ∨ 0 < q) := hgo
      have HS : Hid (∀ s, s = q + a.getD l.length 0 + b.getD l.length 0 → PlusI a b (l.length + 1) (s / 10000) (l ++ [s % 10000])) := fun s hs => HI.out.step da db na nb HG.out s hs
      clear hb hrow hI hgo
      by_cases hka : l.length < a.length
      · obtain ⟨aa', ac', hae, hxa⟩ := hA
        simp only [Value.slice.injEq, true_and] at hae
        obtain ⟨rfl, rfl⟩ := hae
        obtain ⟨ga, rfl, hca⟩ := hxa (by omega)
        have y1 := hca l.length a[l.length] (by simp [hka])
        have x1 := da.get hka
        have Ea : Hid (a.getD l.length 0 = a[l.length]) := getD_of hka
        generalize a[l.length] = xa at *
        clear hca hxa
        by_cases hkb : l.length < b.length
        · obtain ⟨ba', bc', hbe, hxb⟩ := hBb
          simp only [Value.slice.injEq, true_and] at hbe
          obtain ⟨rfl, rfl⟩ := hbe
          obtain ⟨gb, rfl, hcb⟩ := hxb (by omega)
          have y2 := hcb l.length b[l.length] (by simp [hkb])
          have x2 := db.get hkb
          have Eb : Hid (b.getD l.length 0 = b[l.length]) := getD_of hkb
          generalize b[l.length] = xb at *
          clear hcb hxb
          have HF : Hid (PlusI a b (l.length + 1) ((q + xa + xb) / 10000) (l ++ [(q + xa + xb) % 10000])) := HS.out _ (by rw [Ea.out, Eb.out])
          clear HS Ea Eb
          go_wp2_with (at_builtin; go_loud (refine wpList_append_sl2 rfl (.tmp 44) (.tmp 47) 24 rfl 3 i0 _ 1 8 Tryz.underlying24 hi hz0 hz1 hz2 rfl (by decide) w.heap.size _ l.length (ints l) rfl (HR.out.alloc _) (by simp; omega) ⟨_, 0, none⟩ 1 1 [.int .i64 ((q + xa + xb) % 10000)] rfl (by rfl) (cell_newAt _ [.int .i64 ((q + xa + xb) % 10000)] _ _ rfl) (by simp [Value.oneCell']) (by decide) (by simp [maxLen]; omega) (by omega) ?_))
          intro g5 cap5 v5 hown5 hgrow5 hor5 hold5
          have HB5 : Hid (Below w.heap.size w v5) := (HB.out.alloc HB.out.size _).grown hgrow5 (by simp; omega) (fun j hj => (HR.out.lt j hj).1)
          have HR5 : Hid (v5.ownsRow w.heap.size 3 1 (.slice (some ⟨g5, 0, none⟩) (l.length + 1) cap5) (l ++ [(q + xa + xb) % 10000]).length (ints (l ++ [(q + xa + xb) % 10000]))) := by
            have e1 : ints (l ++ [(q + xa + xb) % 10000]) = ints l ++ [.int .i64 ((q + xa + xb) % 10000)] := by simp [ints]
            have e2 : (l ++ [(q + xa + xb) % 10000]).length = l.length + 1 := by simp
            rw [e1, e2]; exact hown5
          clear hown5 hgrow5 hor5 hold5 HB HR HI
          go_wp2
          refine And.intro ?_ ?_
          · first | exact ⟨l.length + 1, (q + xa + xb) / 10000, l ++ [(q + xa + xb) % 10000], by go_num, rfl, HF.out, HR5.out, by omega, HB5.out⟩ | ((repeat apply Exists.intro); exact ⟨⟨l.length + 1, (q + xa + xb) / 10000, l ++ [(q + xa + xb) % 10000], by go_num, rfl, HF.out, HR5.out, by omega, HB5.out⟩, rfl⟩)
          · simp [intOf]; omega
        · have Eb : Hid (b.getD l.length 0 = 0) := getD_no hkb
          have HF : Hid (PlusI a b (l.length + 1) ((q + xa) / 10000) (l ++ [(q + xa) % 10000])) := HS.out _ (by rw [Ea.out, Eb.out, Int.add_zero])
          clear HS Ea Eb hBb
          go_wp2_with (at_builtin; go_loud (refine wpList_append_sl2 rfl (.tmp 44) (.tmp 47) 24 rfl 3 i0 _ 1 8 Tryz.underlying24 hi hz0 hz1 hz2 rfl (by decide) w.heap.size _ l.length (ints l) rfl (HR.out.alloc _) (by simp; omega) ⟨_, 0, none⟩ 1 1 [.int .i64 ((q + xa) % 10000)] rfl (by rfl) (cell_newAt _ [.int .i64 ((q + xa) % 10000)] _ _ rfl) (by simp [Value.oneCell']) (by decide) (by simp [maxLen]; omega) (by omega) ?_))
          intro g5 cap5 v5 hown5 hgrow5 hor5 hold5
          have HB5 : Hid (Below w.heap.size w v5) := (HB.out.alloc HB.out.size _).grown hgrow5 (by simp; omega) (fun j hj => (HR.out.lt j hj).1)
          have HR5 : Hid (v5.ownsRow w.heap.size 3 1 (.slice (some ⟨g5, 0, none⟩) (l.length + 1) cap5) (l ++ [(q + xa) % 10000]).length (ints (l ++ [(q + xa) % 10000]))) := by
            have e1 : ints (l ++ [(q + xa) % 10000]) = ints l ++ [.int .i64 ((q + xa) % 10000)] := by simp [ints]
            have e2 : (l ++ [(q + xa) % 10000]).length = l.length + 1 := by simp
            rw [e1, e2]; exact hown5
          clear hown5 hgrow5 hor5 hold5 HB HR HI
          go_wp2
          refine And.intro ?_ ?_
          · first | exact ⟨l.length + 1, (q + xa) / 10000, l ++ [(q + xa) % 10000], by go_num, rfl, HF.out, HR5.out, by omega, HB5.out⟩ | ((repeat apply Exists.intro); exact ⟨⟨l.length + 1, (q + xa) / 10000, l ++ [(q + xa) % 10000], by go_num, rfl, HF.out, HR5.out, by omega, HB5.out⟩, rfl⟩)
          · simp [intOf]; omega
      · have Ea : Hid (a.getD l.length 0 = 0) := getD_no hka
        clear hA
        by_cases hkb : l.length < b.length
        · obtain ⟨ba', bc', hbe, hxb⟩ := hBb
          simp only [Value.slice.injEq, true_and] at hbe
          obtain ⟨rfl, rfl⟩ := hbe
          obtain ⟨gb, rfl, hcb⟩ := hxb (by omega)
          have y2 := hcb l.length b[l.length] (by simp [hkb])
          have x2 := db.get hkb
          have Eb : Hid (b.getD l.length 0 = b[l.length]) := getD_of hkb
          generalize b[l.length] = xb at *
          clear hcb hxb
          have HF : Hid (PlusI a b (l.length + 1) ((q + xb) / 10000) (l ++ [(q + xb) % 10000])) := HS.out _ (by rw [Ea.out, Eb.out, Int.add_zero])
          clear HS Ea Eb
          go_wp2_with (at_builtin; go_loud (refine wpList_append_sl2 rfl (.tmp 44) (.tmp 47) 24 rfl 3 i0 _ 1 8 Tryz.underlying24 hi hz0 hz1 hz2 rfl (by decide) w.heap.size _ l.length (ints l) rfl (HR.out.alloc _) (by simp; omega) ⟨_, 0, none⟩ 1 1 [.int .i64 ((q + xb) % 10000)] rfl (by rfl) (cell_newAt _ [.int .i64 ((q + xb) % 10000)] _ _ rfl) (by simp [Value.oneCell']) (by decide) (by simp [maxLen]; omega) (by omega) ?_))
          intro g5 cap5 v5 hown5 hgrow5 hor5 hold5
          have HB5 : Hid (Below w.heap.size w v5) := (HB.out.alloc HB.out.size _).grown hgrow5 (by simp; omega) (fun j hj => (HR.out.lt j hj).1)
          have HR5 : Hid (v5.ownsRow w.heap.size 3 1 (.slice (some ⟨g5, 0, none⟩) (l.length + 1) cap5) (l ++ [(q + xb) % 10000]).length (ints (l ++ [(q + xb) % 10000]))) := by
            have e1 : ints (l ++ [(q + xb) % 10000]) = ints l ++ [.int .i64 ((q + xb) % 10000)] := by simp [ints]
            have e2 : (l ++ [(q + xb) % 10000]).length = l.length + 1 := by simp
            rw [e1, e2]; exact hown5
          clear hown5 hgrow5 hor5 hold5 HB HR HI
          go_wp2
          refine And.intro ?_ ?_
          · first | exact ⟨l.length + 1, (q + xb) / 10000, l ++ [(q + xb) % 10000], by go_num, rfl, HF.out, HR5.out, by omega, HB5.out⟩ | ((repeat apply Exists.intro); exact ⟨⟨l.length + 1, (q + xb) / 10000, l ++ [(q + xb) % 10000], by go_num, rfl, HF.out, HR5.out, by omega, HB5.out⟩, rfl⟩)
          · simp [intOf]; omega
        · have Eb : Hid (b.getD l.length 0 = 0) := getD_no hkb
          have hq : 0 < q := by rcases HG.out with h | h | h <;> omega
          have HF : Hid (PlusI a b (l.length + 1) (q / 10000) (l ++ [q % 10000])) := HS.out _ (by rw [Ea.out, Eb.out, Int.add_zero, Int.add_zero])
          clear HS Ea Eb hBb
          go_wp2_with (at_builtin; go_loud (refine wpList_append_sl2 rfl (.tmp 44) (.tmp 47) 24 rfl 3 i0 _ 1 8 Tryz.underlying24 hi hz0 hz1 hz2 rfl (by decide) w.heap.size _ l.length (ints l) rfl (HR.out.alloc _) (by simp; omega) ⟨_, 0, none⟩ 1 1 [.int .i64 ((q) % 10000)] rfl (by rfl) (cell_newAt _ [.int .i64 ((q) % 10000)] _ _ rfl) (by simp [Value.oneCell']) (by decide) (by simp [maxLen]; omega) (by omega) ?_))
          intro g5 cap5 v5 hown5 hgrow5 hor5 hold5
          have HB5 : Hid (Below w.heap.size w v5) := (HB.out.alloc HB.out.size _).grown hgrow5 (by simp; omega) (fun j hj => (HR.out.lt j hj).1)
          have HR5 : Hid (v5.ownsRow w.heap.size 3 1 (.slice (some ⟨g5, 0, none⟩) (l.length + 1) cap5) (l ++ [(q) % 10000]).length (ints (l ++ [(q) % 10000]))) := by
            have e1 : ints (l ++ [(q) % 10000]) = ints l ++ [.int .i64 ((q) % 10000)] := by simp [ints]
            have e2 : (l ++ [(q) % 10000]).length = l.length + 1 := by simp
            rw [e1, e2]; exact hown5
          clear hown5 hgrow5 hor5 hold5 HB HR HI
          go_wp2
          refine And.intro ?_ ?_
          · first | exact ⟨l.length + 1, (q) / 10000, l ++ [(q) % 10000], by go_num, rfl, HF.out, HR5.out, by omega, HB5.out⟩ | ((repeat apply Exists.intro); exact ⟨⟨l.length + 1, (q) / 10000, l ++ [(q) % 10000], by go_num, rfl, HF.out, HR5.out, by omega, HB5.out⟩, rfl⟩)
          · simp [intOf]; omega
    · have ha' : ¬ l.length < a.length := fun h => hgo (.inl h)
      have hb' : ¬ l.length < b.length := fun h => hgo (.inr (.inl h))
      have hq' : q = 0 := by omega
      subst hq'
      have HF : Hid (Big w.heap.size wr (.slice oa l.length oc) l ∧ dval l = dval a + dval b ∧ l.length ≤ a.length + b.length + 1 ∧ Below w.heap.size w wr) := by
        refine ⟨⟨hrow, hI.dg, hI.nm (by omega) (by omega) rfl⟩, ?_, hkl, hb⟩
        have := hI.v
        rw [List.take_of_length_le (by omega), List.take_of_length_le (by omega)] at this
        simpa using this
      clear hb hrow hI hgo hA hBb
      go_wp2
      go_ret
      first | exact ⟨_, l, rfl, HF.out⟩ | exact ⟨_, rfl, l, HF.out⟩
end Go.Proofs.YtohjjgefklhmaaaGreatDoor

namespace Go.Proofs.YtohjjgefklhmaaaGreatDoor
open Go.ChangeShapes Go.WideShapes Go.ChangeAt Go.RowKit
set_option linter.unusedVariables false

/-! ### a product -/
structure TimesI (a b : List Int) (i k : Nat) (x c : Int) (L : List Int) : Prop where
  len : L.length = a.length + b.length + 1
  dg : Dg L
  c0 : 0 ≤ c
  c1 : c ≤ 9999
  v : dval L + P (i + k) * c = dval (a.take i) * dval b + P i * (x * dval (b.take k))
theorem mul_bd {x y X Y : Int} (h0 : 0 ≤ x) (h1 : x ≤ X) (h2 : 0 ≤ y) (h3 : y ≤ Y) : 0 ≤ x * y ∧ x * y ≤ X * Y := by
  refine ⟨Int.mul_nonneg h0 h2, ?_⟩
  have h4 := Int.mul_le_mul_of_nonneg_left h3 h0
  have h5 := Int.mul_le_mul_of_nonneg_right h1 (show 0 ≤ Y by omega)
  omega
theorem TimesI.step {a b : List Int} {i k : Nat} {x c : Int} {L : List Int} (h : TimesI a b i k x c L) (db : Dg b) (hx0 : 0 ≤ x) (hx1 : x < 10000) (hj : i + k < L.length) (s : Int) (hs : s = c + x * b.getD k 0 + L[i + k]) :
    TimesI a b i (k + 1) x (s / 10000) (L.set (i + k) (s % 10000)) := by
  have h1 := db.getD k
  obtain ⟨m0, m1⟩ := mul_bd hx0 (show x ≤ 9999 by omega) h1.1 (show b.getD k 0 ≤ 9999 by omega)
  have h2 := h.dg.get hj
  have h3 := h.c0
  have h4 := h.c1
  have hs0 : 0 ≤ s := by omega
  have hs1 : s ≤ 99999999 := by omega
  refine ⟨by rw [List.length_set]; exact h.len, h.dg.set _ (by omega) (by omega), by omega, by omega, ?_⟩
  have hv := h.v
  rw [dval_set L (i + k) hj, dval_takeD b k, ← Nat.add_assoc, P_succ, Int.mul_sub]
  have e1 : P (i + k) * s = P (i + k) * (s % 10000) + P (i + k) * 10000 * (s / 10000) := by
    rw [Int.mul_assoc, ← Int.mul_add]
    congr 1
    omega
  rw [hs, Int.mul_add, Int.mul_add, ← hs] at e1
  have e3 : P (i + k) * (x * b.getD k 0) = P i * (x * (P k * b.getD k 0)) := by rw [P_add]; ac_rfl
  rw [Int.mul_add x, Int.mul_add (P i)]
  omega
theorem TimesI.lim {a b : List Int} {i k : Nat} {x c : Int} {L : List Int} (h : TimesI a b i k x c L) (da : Dg a) (db : Dg b) (hi : i < a.length) (hx : x = a[i]) (hgo : k < b.length ∨ 0 < c) : i + k < a.length + b.length + 1 := by
  by_cases hk : k < b.length
  · omega
  · have hc : 1 ≤ c := by omega
    have hv := h.v
    rw [List.take_of_length_le (show b.length ≤ k by omega)] at hv
    have e1 := dval_take a i hi
    rw [← hx] at e1
    have e2 : dval (a.take i) * dval b + P i * (x * dval b) = dval (a.take (i + 1)) * dval b := by
      rw [e1, Int.add_mul, Int.mul_assoc]
    rw [e2] at hv
    have h1 := dval_lt (da.take (i + 1))
    rw [List.length_take, Nat.min_eq_left (by omega)] at h1
    have h2 := dval_lt db
    have h3 := dval_nonneg (da.take (i + 1))
    have h4 := dval_nonneg db
    have h5 := P_pos b.length
    have h6 : dval (a.take (i + 1)) * dval b ≤ dval (a.take (i + 1)) * P b.length := Int.mul_le_mul_of_nonneg_left (by omega) h3
    have h7 : dval (a.take (i + 1)) * P b.length < P (i + 1) * P b.length := Int.mul_lt_mul_of_pos_right h1 (by omega)
    rw [← P_add] at h7
    have h8 := dval_nonneg h.dg
    have h9 : P (i + k) * 1 ≤ P (i + k) * c := Int.mul_le_mul_of_nonneg_left hc (by have := P_pos (i + k); omega)
    by_cases hlt : i + k < i + 1 + b.length
    · omega
    · have := P_mono (show i + 1 + b.length ≤ i + k by omega)
      omega
theorem TimesI.next {a b : List Int} {i k : Nat} {x : Int} {L : List Int} (h : TimesI a b i k x 0 L) (hi : i < a.length) (hx : x = a[i]) (hk : b.length ≤ k) : dval L = dval (a.take (i + 1)) * dval b := by
  have hv := h.v
  rw [List.take_of_length_le hk, Int.mul_zero, Int.add_zero] at hv
  rw [hv, dval_take a i hi, Int.add_mul, Int.mul_assoc, hx]

/-- what is left of a list whose noughts at the end are cut -/
theorem dval_cut (l : List Int) (n : Nat) (h : n ≤ l.length) (hz : ∀ j (hj : j < l.length), n ≤ j → l[j] = 0) : dval (l.take n) = dval l := by
  obtain ⟨d, hd⟩ : ∃ d, n + d = l.length := ⟨l.length - n, by omega⟩
  induction d generalizing n with
  | zero => rw [List.take_of_length_le (by omega)]
  | succ d ih =>
    have h1 := ih (n + 1) (by omega) (fun j hj hn => hz j hj (by omega)) (by omega)
    rw [dval_take l n (by omega), hz n (by omega) (Nat.le_refl _), Int.mul_zero, Int.add_zero] at h1
    exact h1

set_option maxHeartbeats 2000000 in
set_option maxRecDepth 100000 in
theorem trim_any (B : Nat) (g cap : Nat) (l : List Int) (w : World) (hr : w.ownsRow B 3 1 (.slice (some ⟨g, 0, none⟩) l.length cap) l.length (ints l)) (hd : Dg l) (hl : l.length ≤ 1000000000) :
    Calls Tryz.prog 145 #[.slice (some ⟨g, 0, none⟩) l.length cap] w fun e w' => ∃ v l', e = .returned v ∧ Big B w' v l' ∧ dval l' = dval l ∧ l'.length ≤ l.length ∧ w' = w := by
  have HR : Hid (w.ownsRow B 3 1 (.slice (some ⟨g, 0, none⟩) l.length cap) l.length (ints l)) := hr
  go_enter Tryz.func145, Tryz.ntmps145
  go_wp2
  go_loop [3] (fun i => ∃ n : Nat, n ≤ l.length ∧ i = .int .i64 n ∧ ∀ j (hj : j < l.length), n ≤ j → l[j] = 0) (fun i => (intOf i).toNat)
  case atStart => exact ⟨l.length, Nat.le_refl _, rfl, fun j hj h => by omega⟩
  case round =>
    obtain ⟨n, hn, rfl, hz⟩ := hrel
    have HZ : Hid (∀ j (hj : j < l.length), n ≤ j → l[j] = 0) := hz
    have hcap : l.length ≤ cap := by
      rcases hr.2 with ⟨h0, _⟩ | ⟨g', cap', cur, h1, h2, h3, h4, h5, h6, h7⟩
      · simp at h0
      · simp only [Value.slice.injEq, Option.some.injEq, Addr.mk.injEq, and_true, true_and] at h1
        omega
    have hcm : cap ≤ maxLen := by
      rcases hr.2 with ⟨h0, _⟩ | ⟨g', cap', cur, h1, h2, h3, h4, h5, h6, h7⟩
      · simp at h0
      · simp only [Value.slice.injEq, Option.some.injEq, Addr.mk.injEq, and_true, true_and] at h1
        omega
    have hcap2 : n ≤ cap := by omega
    have HS : Hid (w.ownsRow B 3 1 (.slice (some ⟨g, 0, none⟩) n cap) n (ints (l.take n))) := by
      have e1 : l.length = n + (l.length - n) := by omega
      have e2 : ints l = ints (l.take n) ++ ints (l.drop n) := by
        unfold ints; rw [← List.map_append, List.take_append_drop]
      have h := hr
      rw [e2, e1] at h
      exact ownsRow_short h (by simp [ints]; omega) hcap2
    have HV : Hid (dval (l.take n) = dval l) := dval_cut l n hn hz
    have HT : Hid ((l.take n).length = n) := by
      show (l.take n).length = n
      rw [List.length_take, Nat.min_eq_left hn]
    clear hz
    cases n with
    | zero =>
      clear hr
      go_wp2
      go_ret
      have hb : Big B w (.slice (some ⟨g, 0, none⟩) 0 cap) [] := ⟨HS.out, Dg.nil, Nm.nil⟩
      have hv : dval ([] : List Int) = dval l := HV.out
      first | exact ⟨_, [], rfl, hb, hv, Nat.zero_le _, rfl⟩ | exact ⟨_, rfl, [], hb, hv, Nat.zero_le _, rfl⟩
    | succ n =>
      have hnl : n < l.length := by omega
      have y : w.cell? ⟨g, n, none⟩ = some (.int .i64 l[n]) := by
        rw [hr.cellAt n (by omega)]; simp [ints, hnl]
      have Hn : Hid (∀ h : n < l.length, l[n] ≠ 0 → Nm (l.take (n + 1))) := fun h h1 h2 => by
        have e : (l.take (n + 1))[(l.take (n + 1)).length - 1] = l[n] := by
          simp only [List.getElem_take]
          congr 1
          rw [List.length_take, Nat.min_eq_left (by omega)]; omega
        rw [e]; exact h1
      have Hz2 : Hid (l[n] = 0 → ∀ j (hj : j < l.length), n ≤ j → l[j] = 0) := fun h j hj hj2 => by
        by_cases e : j = n
        · subst e; exact h
        · exact HZ.out j hj (by omega)
      have Hnn := (show Hid _ from Hn.out hnl)
      clear hr Hn HZ
      generalize l[n] = x at *
      by_cases hx : x = 0
      · subst hx
        go_wp2
        refine And.intro ?_ ?_
        · first | exact ⟨n, by omega, by go_num, Hz2.out rfl⟩ | ((repeat apply Exists.intro); exact ⟨⟨n, by omega, by go_num, Hz2.out rfl⟩, rfl⟩)
        · simp [intOf]
      · have ex : (x == 0) = false := by simpa using hx
        have HB : Hid (Big B w (.slice (some ⟨g, 0, none⟩) (n + 1) cap) (l.take (n + 1))) := by
          refine ⟨?_, hd.take _, Hnn.out hx⟩
          rw [HT.out]; exact HS.out
        have HL : Hid ((l.take (n + 1)).length ≤ l.length) := by
          show (l.take (n + 1)).length ≤ l.length
          rw [List.length_take]; omega
        clear hx HS HT Hnn Hz2
        go_wp2
        go_ret
        first | exact ⟨_, l.take (n + 1), rfl, HB.out, HV.out, HL.out, rfl⟩ | exact ⟨_, rfl, l.take (n + 1), HB.out, HV.out, HL.out, rfl⟩
end Go.Proofs.YtohjjgefklhmaaaGreatDoor

namespace Go.Proofs.YtohjjgefklhmaaaGreatDoor
open Go.ChangeShapes Go.WideShapes Go.ChangeAt Go.RowKit
set_option linter.unusedVariables false

theorem made_ints (n : Nat) : madeCells #[.int .i64 0] n = (ints (List.replicate n 0)).toArray := by
  have h := toList_madeCells_one (.int .i64 0) n
  have e : madeCells #[.int .i64 0] n = ((madeCells #[.int .i64 0] n).toList).toArray := by rw [Array.toArray_toList]
  rw [e, h]
  simp [ints]

set_option maxHeartbeats 4000000 in
set_option maxRecDepth 100000 in
theorem times_any (va vb : Value) (a b : List Int) (w : World) (ha : IntSl w va a) (hb : IntSl w vb b) (da : Dg a) (db : Dg b) (la : a.length ≤ 100000000) (lb : b.length ≤ 100000000) :
    Calls Tryz.prog 102 #[va, vb] w fun e w' => ∃ v l, e = .returned v ∧ Big w.heap.size w' v l ∧ dval l = dval a * dval b ∧ l.length ≤ a.length + b.length + 1 ∧ Below w.heap.size w w' := by
  obtain ⟨i0, hi, hz0, hz1, hz2⟩ := info_parts info_int
  obtain ⟨aa, ac, rfl, hxa⟩ := id ha
  obtain ⟨ba, bc, rfl, hxb⟩ := id hb
  have HA : Hid (IntSl w (.slice aa a.length ac) a) := ha
  have HBs : Hid (IntSl w (.slice ba b.length bc) b) := hb
  clear hxa hxb ha hb
  have hmk : (Instr.makeSlice 24 (.int .i64 ((a.length : Int) + (b.length : Int) + 1)) (.int .i64 ((a.length : Int) + (b.length : Int) + 1))).run Tryz.prog w =
      .ok (.slice (some ⟨w.heap.size, 0, none⟩) (a.length + b.length + 1) (a.length + b.length + 1)) (w.alloc (.cells (ints (List.replicate (a.length + b.length + 1) 0)).toArray 3)) := by
    have h := run_make (P := Tryz.prog) w 24 3 i0 (.int .i64 0) Tryz.underlying24 hi hz0 .i64 .i64 ((a.length : Int) + (b.length : Int) + 1) ((a.length : Int) + (b.length : Int) + 1) (by omega) (Int.le_refl _) (by rw [hz2]; omega) (by omega)
    have e : ((a.length : Int) + (b.length : Int) + 1).toNat = a.length + b.length + 1 := by omega
    rw [e] at h
    rw [← made_ints]
    simpa [hz1, Value.cells] using h
  have HR0 : Hid ((w.alloc (.cells (ints (List.replicate (a.length + b.length + 1) 0)).toArray 3)).ownsRow w.heap.size 3 1 (.slice (some ⟨w.heap.size, 0, none⟩) (a.length + b.length + 1) (a.length + b.length + 1)) (a.length + b.length + 1) (ints (List.replicate (a.length + b.length + 1) 0))) :=
    ownsRow_new w 3 1 _ _ (by simp [ints]) (by simp [maxLen]; omega)
  have HB0 : Hid (Below w.heap.size w (w.alloc (.cells (ints (List.replicate (a.length + b.length + 1) 0)).toArray 3))) := (Below.refl _ _).alloc (Nat.le_refl _) _
  go_enter Tryz.func102, Tryz.ntmps102
  go_wp2
  clear hmk
  generalize w.alloc (.cells (ints (List.replicate (a.length + b.length + 1) 0)).toArray 3) = wA at HR0 HB0 ⊢
  go_loopw [6] (fun i wr => ∃ (n : Nat) (L : List Int), i = .int .i64 n ∧ n ≤ a.length ∧ L.length = a.length + b.length + 1 ∧ Dg L ∧ dval L = dval (a.take n) * dval b ∧ wr.ownsRow w.heap.size 3 1 (.slice (some ⟨w.heap.size, 0, none⟩) (a.length + b.length + 1) (a.length + b.length + 1)) (a.length + b.length + 1) (ints L) ∧ Below w.heap.size w wr) (fun i _ => a.length - (intOf i).toNat)
  case atStart => exact ⟨0, _, rfl, Nat.zero_le _, by simp, fun d hd => by rw [List.eq_of_mem_replicate hd]; omega, by rw [dval_rep]; simp [dval], HR0.out, HB0.out⟩
  case round =>
    clear HR0 HB0
    obtain ⟨n, L, rfl, hn, hL, dL, vL, hrow, hbw⟩ := hrel
    by_cases hlt : n < a.length
    · have HI : Hid (TimesI a b n 0 a[n] 0 L) := ⟨hL, dL, Int.le_refl _, by omega, by rw [vL]; simp [dval]⟩
      have HR : Hid (wr.ownsRow w.heap.size 3 1 (.slice (some ⟨w.heap.size, 0, none⟩) (a.length + b.length + 1) (a.length + b.length + 1)) (a.length + b.length + 1) (ints L)) := hrow
      have HB : Hid (Below w.heap.size w wr) := hbw
      have x1 := da.get hlt
      obtain ⟨x, hx⟩ : ∃ x, x = a[n] := ⟨_, rfl⟩
      rw [← hx] at HI x1
      have HX : Hid (x = a[n]) := hx
      clear hL dL vL hrow hbw hx
      go_wp2
      obtain ⟨wo, rfl⟩ : ∃ wo : World, wo = wr := ⟨_, rfl⟩
      go_loopw [7, 8] (fun c k wr => ∃ (k2 : Nat) (q : Int) (L : List Int), c = .int .i64 q ∧ k = .int .i64 k2 ∧ TimesI a b n k2 x q L ∧ wr.ownsRow w.heap.size 3 1 (.slice (some ⟨w.heap.size, 0, none⟩) (a.length + b.length + 1) (a.length + b.length + 1)) (a.length + b.length + 1) (ints L) ∧ n + k2 ≤ a.length + b.length + 1 ∧ Below w.heap.size w wr) (fun _ k _ => a.length + b.length + 1 - (intOf k).toNat)
      case atStart => exact ⟨0, 0, L, rfl, rfl, HI.out, HR.out, by omega, HB.out⟩
      case round =>
        clear HI HR HB
        obtain ⟨k2, q, L2, rfl, rfl, hI, hrow, hkl, hbw⟩ := hrel
        have q0 := hI.c0
        have q1 := hI.c1
        by_cases hgo : k2 < b.length ∨ 0 < q
        · have hlim := hI.lim da db hlt HX.out hgo
          have hj : n + k2 < L2.length := by rw [hI.len]; exact hlim
          have HI : Hid (TimesI a b n k2 x q L2) := hI
          have HS : Hid (∀ s, s = q + x * b.getD k2 0 + L2[n + k2] → TimesI a b n (k2 + 1) x (s / 10000) (L2.set (n + k2) (s % 10000))) := fun s hs => HI.out.step db x1.1 x1.2 hj s hs
          have z1 : wr.cell? ⟨w.heap.size, n + k2, none⟩ = some (.int .i64 L2[n + k2]) := by
            rw [hrow.cellAt (n + k2) (by omega)]; simp [ints, hj]
          have fz := hrow.frozenAt (n + k2)
          have zd := hI.dg.get hj
          have HRS : Hid (∀ y, (wr.setCell ⟨w.heap.size, n + k2, none⟩ (.int .i64 y)).ownsRow w.heap.size 3 1 (.slice (some ⟨w.heap.size, 0, none⟩) (a.length + b.length + 1) (a.length + b.length + 1)) (a.length + b.length + 1) (ints (L2.set (n + k2) y))) := fun y => by
            have := (hrow.stored (n + k2) (.int .i64 y)).1
            rwa [show (ints L2).set (n + k2) (.int .i64 y) = ints (L2.set (n + k2) y) by simp [ints]] at this
          have HBS : Hid (∀ y, Below w.heap.size w (wr.setCell ⟨w.heap.size, n + k2, none⟩ (.int .i64 y))) := fun y => hbw.setCell (Nat.le_refl _) _
          have hA := HA.out.below hbw (Nat.le_refl _)
          have hBb := HBs.out.below hbw (Nat.le_refl _)
          obtain ⟨aa', ac', hae, hxa⟩ := hA
          simp only [Value.slice.injEq, true_and] at hae
          obtain ⟨rfl, rfl⟩ := hae
          obtain ⟨ga, hga, hca⟩ := hxa (by omega)
          subst hga
          have y1 := hca n x (by rw [HX.out]; simp [hlt])
          generalize L2[n + k2] = z at *
          clear hca hxa hrow hbw hI
          by_cases hkb : k2 < b.length
          · obtain ⟨ba', bc', hbe, hxb⟩ := hBb
            simp only [Value.slice.injEq, true_and] at hbe
            obtain ⟨rfl, rfl⟩ := hbe
            obtain ⟨gb, hgb, hcb⟩ := hxb (by omega)
            subst hgb
            have y2 := hcb k2 b[k2] (by simp [hkb])
            have x2 := db.get hkb
            have Eb : Hid (b.getD k2 0 = b[k2]) := getD_of hkb
            generalize b[k2] = xb at *
            obtain ⟨m0, m1⟩ := mul_bd x1.1 (show x ≤ 9999 by omega) x2.1 (show xb ≤ 9999 by omega)
            have HF : Hid (TimesI a b n (k2 + 1) x ((q + x * xb + z) / 10000) (L2.set (n + k2) ((q + x * xb + z) % 10000))) := HS.out _ (by rw [Eb.out])
            clear HS Eb hcb hxb hgo
            go_wp2
            go_quiet (fail)
            go_wp2
            refine And.intro ?_ ?_
            · refine ⟨k2 + 1, (q + x * xb + z) / 10000, L2.set (n + k2) ((q + x * xb + z) % 10000), rfl, by go_num, HF.out, ?_, by omega, ?_⟩
              · exact HRS.out _
              · have hq := HBS.out ((q + x * xb + z) % 10000)
                exact ⟨hq.os, hq.tape, hq.output, hq.size, hq.block⟩
            · simp [intOf]; omega
          · have Eb : Hid (b.getD k2 0 = 0) := getD_no hkb
            have hq : 0 < q := by omega
            have HF : Hid (TimesI a b n (k2 + 1) x ((q + z) / 10000) (L2.set (n + k2) ((q + z) % 10000))) := HS.out _ (by rw [Eb.out, Int.mul_zero, Int.add_zero])
            clear HS Eb hBb hgo
            go_wp2
            refine And.intro ?_ ?_
            · first | exact ⟨k2 + 1, (q + z) / 10000, L2.set (n + k2) ((q + z) % 10000), rfl, by go_num, HF.out, HRS.out _, by omega, HBS.out _⟩ | ((repeat apply Exists.intro); exact ⟨⟨k2 + 1, (q + z) / 10000, L2.set (n + k2) ((q + z) % 10000), rfl, by go_num, HF.out, HRS.out _, by omega, HBS.out _⟩, rfl⟩)
            · simp [intOf]; omega
        · have hkb : ¬ k2 < b.length := fun h => hgo (.inl h)
          have hq : q = 0 := by omega
          subst hq
          have HF : Hid (dval L2 = dval (a.take (n + 1)) * dval b) := hI.next hlt HX.out (by omega)
          have HG : Hid (L2.length = a.length + b.length + 1 ∧ Dg L2 ∧ wr.ownsRow w.heap.size 3 1 (.slice (some ⟨w.heap.size, 0, none⟩) (a.length + b.length + 1) (a.length + b.length + 1)) (a.length + b.length + 1) (ints L2) ∧ Below w.heap.size w wr) := ⟨hI.len, hI.dg, hrow, hbw⟩
          clear hI hrow hbw hgo
          go_wp2
          refine And.intro ?_ ?_
          · first | exact ⟨n + 1, L2, by go_num, by omega, HG.out.1, HG.out.2.1, HF.out, HG.out.2.2.1, HG.out.2.2.2⟩ | ((repeat apply Exists.intro); exact ⟨⟨n + 1, L2, by go_num, by omega, HG.out.1, HG.out.2.1, HF.out, HG.out.2.2.1, HG.out.2.2.2⟩, rfl⟩)
          · simp [intOf]; omega
    · have HV : Hid (dval L = dval a * dval b) := by
        show dval L = dval a * dval b
        rw [vL, List.take_of_length_le (by omega)]
      have HL : Hid (L.length = a.length + b.length + 1) := hL
      have HT : Hid (Calls Tryz.prog 145 #[.slice (some ⟨w.heap.size, 0, none⟩) (a.length + b.length + 1) (a.length + b.length + 1)] wr fun e w' => ∃ v l', e = .returned v ∧ Big w.heap.size w' v l' ∧ dval l' = dval L ∧ l'.length ≤ a.length + b.length + 1 ∧ w' = wr) := by
        have h := trim_any w.heap.size w.heap.size (a.length + b.length + 1) L wr (by rw [hL]; exact hrow) dL (by omega)
        rwa [hL] at h
      have HB : Hid (Below w.heap.size w wr) := hbw
      clear hL dL vL hrow hbw
      go_wp2_with fail
      refine HT.out.mono ?_
      rintro e w2 ⟨v, l', rfl, hbig, hv, hl, rfl⟩
      have HF : Hid (Big w.heap.size w2 v l' ∧ dval l' = dval a * dval b ∧ l'.length ≤ a.length + b.length + 1 ∧ Below w.heap.size w w2) := ⟨hbig, hv.trans HV.out, hl, HB.out⟩
      clear hbig hv hl HT HV HB HL
      go_wp2
      go_ret
      first | exact ⟨_, l', rfl, HF.out⟩ | exact ⟨_, rfl, l', HF.out⟩
end Go.Proofs.YtohjjgefklhmaaaGreatDoor
