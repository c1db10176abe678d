import Derived.Test.YtenjjneobkodbaaKBond
namespace Go.Proofs.Ytenjjneobkodbaa
open Go.ChangeShapes Go.WideShapes Go.ChangeAt Go.RowKit
set_option linter.unusedVariables false

set_option maxHeartbeats 2000000 in
set_option maxRecDepth 100000 in
theorem kbondError {B0 : Nat} {W0 : World} (g : Nat) (c : LC) (sh : List Int) (bv vv ev : Value) (vals : List VS) (ents : List ES) (k j : Nat) (amount : Int) (w : World) (h : PE B0 W0 w g c sh bv vv ev vals ents) (hl : c.bal.length ≤ 1000) (hk : k < c.bal.length) (x : Int) (hx : c.bal.getD k 0 = x) (hv : vals.length ≤ 1000) (hj : j < vals.length) (h0 : vals[j].shares = 0) (h1 : 1 ≤ amount) (h2 : amount ≤ 1000000) (h3 : amount ≤ x) :
    Calls Try.prog 16 #[.pointer (some ⟨g, 0, none⟩), .int .i64 k, .int .i64 j, .int .i64 amount] w fun e w' => e = .returned (.int .i64 0) ∧ Below w.heap.size w w' := by
  obtain ⟨ba, bc, rfl⟩ := ownsRow_slice h.b
  obtain ⟨gb, rfl, _⟩ := ownsRow_some h.b (by omega)
  obtain ⟨va, vc, rfl⟩ := ownsRow_slice h.v
  obtain ⟨gv, rfl, hcell, hfr⟩ := h.val8 rfl hj
  have c4 : w.cell? ⟨g, 4, none⟩ = some (.slice (some ⟨gb, 0, none⟩) c.bal.length bc) := h.L.cell 4
  have c7 : w.cell? ⟨g, 7, none⟩ = some (.slice (some ⟨gv, 0, none⟩) vals.length vc) := h.L.cell 7
  have cb : w.cell? ⟨gb, k, none⟩ = some (.int .i64 x) := by
    rw [h.b.cellAt k (by omega), ← hx]; simp [ints, hk]
  have y0 := hcell 0 (by omega)
  have y1 := hcell 1 (by omega)
  have y2 := hcell 2 (by omega)
  have y3 := hcell 3 (by omega)
  have y4 := hcell 4 (by omega)
  have y5 := hcell 5 (by omega)
  have y6 := hcell 6 (by omega)
  have y7 := hcell 7 (by omega)
  obtain ⟨v, hvj⟩ : ∃ v, vals[j] = v := ⟨_, rfl⟩
  rw [hvj] at y0 y1 y2 y3 y4 y5 y6 y7 h0
  obtain ⟨vo, vr, vt, vs, vcm, vou, vj, vi⟩ := v
  simp only at h0
  subst h0
  simp only [VS.cells, List.getElem?_cons_succ, List.getElem?_cons_zero, Nat.add_zero] at y0 y1 y2 y3 y4 y5 y6 y7
  have HJ : Hid (∀ u, Calls Try.prog 35 #[.agg #[.int .i64 vo, .int .i64 vr, .int .i64 vt, .int .i64 0, .int .i64 vcm, .int .i64 vou, .bool vj, .bool vi], .int .i64 amount] u fun e w' => e = .returned (.int .i64 0) ∧ Below u.heap.size u w') := fun u => joinError_0 ⟨vo, vr, vt, 0, vcm, vou, vj, vi⟩ amount u rfl h1 h2
  clear h hcell hfr hvj hx
  go_enter Try.func16, Try.ntmps16
  go_wp2_with (first | (go_at_call 34; refine (kval_any g vals.length j _ _ _ c7 hj hv).mono ?_; rintro e w' ⟨rfl, rfl⟩) | fail)
  refine (HJ.out _).mono ?_
  rintro e w2 ⟨rfl, hb2⟩
  have HF : Hid (Below w.heap.size w w2) := hb2
  clear hb2 HJ
  go_wp2
  go_ret
  exact ⟨rfl, HF.out⟩

set_option maxHeartbeats 2000000 in
set_option maxRecDepth 100000 in
theorem kjoin {B0 : Nat} {W0 : World} (g : Nat) (c : LC) (sh : List Int) (bv vv ev : Value) (vals : List VS) (ents : List ES) (k j : Nat) (amount : Int) (w : World) (h : PE B0 W0 w g c sh bv vv ev vals ents) (hv : vals.length ≤ 5) (hk : k < 6) (hj : j < vals.length) (h0 : vals[j].shares = 0) (t0 : vals[j].tokens = 0) (s0 : sh.getD (k * 5 + j) 0 = 0) (h1 : 1 ≤ amount) (h2 : amount ≤ 1000000) :
    Calls Try.prog 17 #[.pointer (some ⟨g, 0, none⟩), .int .i64 k, .int .i64 j, .int .i64 amount] w fun e w' => e = .returned (.tuple #[]) ∧ PE B0 W0 w' g c (sh.set (k * 5 + j) amount) bv vv ev (vals.set j { vals[j] with tokens := amount, shares := amount }) ents := by
  obtain ⟨va, vc, rfl⟩ := ownsRow_slice h.v
  obtain ⟨gv, rfl, hcell, hfr⟩ := h.val8 rfl hj
  have c7 : w.cell? ⟨g, 7, none⟩ = some (.slice (some ⟨gv, 0, none⟩) vals.length vc) := h.L.cell 7
  have y0 := hcell 0 (by omega)
  have y1 := hcell 1 (by omega)
  have y2 := hcell 2 (by omega)
  have y3 := hcell 3 (by omega)
  have y4 := hcell 4 (by omega)
  have y5 := hcell 5 (by omega)
  have y6 := hcell 6 (by omega)
  have y7 := hcell 7 (by omega)
  have HP : Hid (PE B0 W0 w g c sh bv (.slice (some ⟨gv, 0, none⟩) vals.length vc) ev vals ents) := h
  obtain ⟨v, hvj⟩ : ∃ v, vals[j] = v := ⟨_, rfl⟩
  have Hvj : Hid (vals[j] = v) := hvj
  rw [hvj] at y0 y1 y2 y3 y4 y5 y6 y7 h0 t0
  obtain ⟨vo, vr, vt, vs, vcm, vou, vj, vi⟩ := v
  simp only at h0 t0
  subst h0 t0
  simp only [VS.cells, List.getElem?_cons_succ, List.getElem?_cons_zero, Nat.add_zero] at y0 y1 y2 y3 y4 y5 y6 y7
  have HJ : Hid (∀ u, Calls Try.prog 36 #[.agg #[.int .i64 vo, .int .i64 vr, .int .i64 0, .int .i64 0, .int .i64 vcm, .int .i64 vou, .bool vj, .bool vi], .int .i64 amount] u fun e w' => e = .returned (.int .i64 amount) ∧ Below u.heap.size u w') := fun u => sharesFor_0 ⟨vo, vr, 0, 0, vcm, vou, vj, vi⟩ amount u rfl
  have Hs0 : Hid (sh.getD (k * 5 + j) 0 = 0) := s0
  clear h hcell hfr hvj s0
  go_enter Try.func17, Try.ntmps17
  go_wp2_with fail
  refine (HJ.out _).mono ?_
  rintro e w1 ⟨rfl, hb1⟩
  have hP1 := HP.out.below hb1
  clear HP HJ hb1 y0 y1 y2 y3 y4 y5 y6 y7 c7
  obtain ⟨gv', he, hcell, hfr⟩ := hP1.val8 rfl hj
  simp only [Option.some.injEq, Addr.mk.injEq, and_true] at he
  subst he
  have c7 : w1.cell? ⟨g, 7, none⟩ = some (.slice (some ⟨gv, 0, none⟩) vals.length vc) := hP1.L.cell 7
  have hgne : g ≠ gv := fun e => Has.apart hP1.L hP1.v (by decide) (by rw [e]; rfl)
  have hgne' : gv ≠ g := fun e => hgne e.symm
  have y2 := hcell 2 (by omega)
  have y3 := hcell 3 (by omega)
  have f2 := hfr (j * 8 + 2)
  have f3 := hfr (j * 8 + 3)
  rw [Hvj.out] at y2 y3
  simp only [VS.cells, List.getElem?_cons_succ, List.getElem?_cons_zero] at y2 y3
  have hkj : k * 5 + j < 30 := by omega
  have s1 : w1.cell? ⟨g, 8 + k * 5 + j, none⟩ = some (.int .i64 0) := by
    have := (hP1.L.cell (8 + (k * 5 + j))).trans (eL_sh _ _ _ _ _ _ (by rw [hP1.hs]; exact hkj))
    rw [Hs0.out, ← Nat.add_assoc] at this
    exact this
  have fs := hP1.L.frozen (8 + k * 5 + j)
  have hP2 := hP1.setVal rfl (j * 8 + 2) (.int .i64 amount) (vals' := vals.set j ⟨vo, vr, amount, 0, vcm, vou, vj, vi⟩) (vrow_set vals j hj 2 _ _ (by rw [Hvj.out]; rfl) (by omega)) (by simp)
  have hj2 : j < (vals.set j ⟨vo, vr, amount, 0, vcm, vou, vj, vi⟩).length := by simpa using hj
  have hP3 := hP2.setVal (by simp) (j * 8 + 3) (.int .i64 amount) (vals' := vals.set j ⟨vo, vr, amount, amount, vcm, vou, vj, vi⟩) (by rw [vrow_set _ j hj2 3 (.int .i64 amount) ⟨vo, vr, amount, amount, vcm, vou, vj, vi⟩ (by simp [VS.cells]) (by omega), List.set_set]) (by simp)
  have hP4 := hP3.setSh (k * 5 + j) amount hkj
  rw [← Nat.add_assoc] at hP4
  have e0 : ({ vals[j] with tokens := amount, shares := amount } : VS) = ⟨vo, vr, amount, amount, vcm, vou, vj, vi⟩ := by rw [Hvj.out]
  have HF : Hid (PE B0 W0 (((w1.setCell ⟨gv, j * 8 + 2, none⟩ (.int .i64 amount)).setCell ⟨gv, j * 8 + 3, none⟩ (.int .i64 amount)).setCell ⟨g, 8 + k * 5 + j, none⟩ (.int .i64 amount)) g c (sh.set (k * 5 + j) amount) bv (.slice (some ⟨gv, 0, none⟩) vals.length vc) ev (vals.set j { vals[j] with tokens := amount, shares := amount }) ents) := by
    rw [e0]; exact hP4
  clear hP1 hP2 hP3 hP4 hcell hfr e0 Hs0 Hvj hj2
  go_wp2
  go_region
  go_wp2
  go_end0
  exact ⟨rfl, HF.out.eta rfl rfl rfl rfl⟩

set_option maxHeartbeats 2000000 in
set_option maxRecDepth 100000 in
theorem kbond {B0 : Nat} {W0 : World} (g : Nat) (c : LC) (sh : List Int) (bv vv ev : Value) (vals : List VS) (ents : List ES) (k j : Nat) (amount : Int) (w : World) (h : PE B0 W0 w g c sh bv vv ev vals ents) (hl : c.bal.length ≤ 6) (hk : k < c.bal.length) (x : Int) (hx : c.bal.getD k 0 = x) (hx1 : x ≤ 1000000000) (hf0 : 0 ≤ c.fee) (hs0 : 0 ≤ c.fees) (hs1 : c.fees ≤ 1000000000) (hv : vals.length ≤ 5) (hj : j < vals.length) (h0 : vals[j].shares = 0) (t0 : vals[j].tokens = 0) (s0 : sh.getD (k * 5 + j) 0 = 0) (h1 : 1 ≤ amount) (h2 : amount ≤ 1000000) (h3 : amount + c.fee ≤ x) :
    Calls Try.prog 7 #[.pointer (some ⟨g, 0, none⟩), .int .i64 k, .int .i64 j, .int .i64 amount] w fun e w' => e = .returned (.int .i64 0) ∧ PE B0 W0 w' g (setB { c with fees := c.fees + c.fee } k (x - c.fee - amount)) (sh.set (k * 5 + j) amount) bv vv ev (vals.set j { vals[j] with tokens := amount, shares := amount }) ents := by
  have HCh : Hid (Calls Try.prog 15 #[.pointer (some ⟨g, 0, none⟩), .int .i64 k] w fun e w' => e = .returned (.int .i64 0) ∧ PE B0 W0 w' g { setB c k (x - c.fee) with fees := c.fees + c.fee } sh bv vv ev vals ents) := kcharge g c sh bv vv ev vals ents k w h (by omega) hk x hx (by omega) hx1 hf0 hs0 hs1
  clear h
  go_enter Try.func7, Try.ntmps7
  go_wp2_with fail
  refine HCh.out.mono ?_
  rintro e w1 ⟨rfl, hP1⟩
  clear HCh
  have hb1 : (setB c k (x - c.fee)).bal.length = c.bal.length := by simp [setB]
  have hg1 : (setB c k (x - c.fee)).bal.getD k 0 = x - c.fee := by simp [setB, List.getD, hk]
  go_wp2_with fail
  refine (kbondError g _ sh bv vv ev vals ents k j amount _ hP1 (by simp only; omega) (by simp only; omega) (x - c.fee) hg1 (by omega) hj h0 h1 h2 (by omega)).mono ?_
  rintro e w2 ⟨rfl, hb2⟩
  have hP2 := hP1.below hb2
  clear hP1 hb2
  obtain ⟨ba, bc, (hbs : bv = .slice ba (setB c k (x - c.fee)).bal.length bc)⟩ := ownsRow_slice hP2.b
  rw [hb1] at hbs
  subst hbs
  have hbrow := hP2.b
  simp only at hbrow
  rw [hb1] at hbrow
  obtain ⟨gb, rfl, _⟩ := ownsRow_some hbrow (by omega)
  have c4 : w2.cell? ⟨g, 4, none⟩ = some (.slice (some ⟨gb, 0, none⟩) c.bal.length bc) := hP2.L.cell 4
  have cb : w2.cell? ⟨gb, k, none⟩ = some (.int .i64 (x - c.fee)) := by
    rw [hbrow.cellAt k (by omega)]; simp [ints, setB, hk]
  have fb := hbrow.frozenAt k
  have hP3 := hP2.setBal hb1.symm k (x - c.fee - amount)
  have e0 : setB { setB c k (x - c.fee) with fees := c.fees + c.fee } k (x - c.fee - amount) = setB { c with fees := c.fees + c.fee } k (x - c.fee - amount) := by simp [setB]
  rw [e0] at hP3
  have HP3 : Hid (PE B0 W0 (w2.setCell ⟨gb, k, none⟩ (.int .i64 (x - c.fee - amount))) g (setB { c with fees := c.fees + c.fee } k (x - c.fee - amount)) sh (.slice (some ⟨gb, 0, none⟩) c.bal.length bc) vv ev vals ents) := hP3
  have HS : Hid (sh.getD (k * 5 + j) 0 = 0) := s0
  have H0 : Hid (vals[j].shares = 0 ∧ vals[j].tokens = 0) := ⟨h0, t0⟩
  clear hP2 hP3 e0 hbrow s0 h0 t0 hg1 hb1 hx
  go_wp2_with fail
  refine (kjoin g _ sh _ vv ev vals ents k j amount _ HP3.out hv (by omega) hj H0.out.1 H0.out.2 HS.out h1 h2).mono ?_
  rintro e w3 ⟨rfl, hP4⟩
  have HF : Hid (PE B0 W0 w3 g (setB { c with fees := c.fees + c.fee } k (x - c.fee - amount)) (sh.set (k * 5 + j) amount) (.slice (some ⟨gb, 0, none⟩) c.bal.length bc) vv ev (vals.set j { vals[j] with tokens := amount, shares := amount }) ents) := hP4
  clear hP4 HP3
  go_wp2
  go_ret
  exact ⟨rfl, HF.out⟩
end Go.Proofs.Ytenjjneobkodbaa
