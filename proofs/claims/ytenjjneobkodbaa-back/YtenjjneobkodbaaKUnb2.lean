import Derived.Test.YtenjjneobkodbaaKUnb
namespace Go.Proofs.Ytenjjneobkodbaa
open Go.ChangeShapes Go.WideShapes Go.ChangeAt Go.RowKit
set_option linter.unusedVariables false

theorem PE.shAt {B0 : Nat} {W0 : World} {w : World} {g : Nat} {c : LC} {sh : List Int} {bv vv ev : Value} {vals : List VS} {ents : List ES} (h : PE B0 W0 w g c sh bv vv ev vals ents) {k j : Nat} (hk : k < 6) (hj : j < 5) (s : Int) (hs : sh.getD (k * 5 + j) 0 = s) : w.cell? ⟨g, 8 + k * 5 + j, none⟩ = some (.int .i64 s) := by
  have := (h.L.cell (8 + (k * 5 + j))).trans (eL_sh _ _ _ _ _ _ (by rw [h.hs]; omega))
  rw [hs, ← Nat.add_assoc] at this
  exact this

set_option maxHeartbeats 2000000 in
set_option maxRecDepth 100000 in
theorem kunbondError {B0 : Nat} {W0 : World} (g : Nat) (c : LC) (sh : List Int) (bv vv ev : Value) (vals : List VS) (k j : Nat) (n s : Int) (w : World) (h : PE B0 W0 w g c sh bv vv ev vals []) (hk : k < 6) (hv : vals.length ≤ 5) (hj : j < vals.length) (hs : sh.getD (k * 5 + j) 0 = s) (h1 : 1 ≤ n) (h2 : n ≤ s) :
    Calls Try.prog 18 #[.pointer (some ⟨g, 0, none⟩), .int .i64 k, .int .i64 j, .int .i64 n] w fun e w' => e = .returned (.int .i64 0) ∧ w = w' := by
  obtain ⟨va, vc, rfl⟩ := ownsRow_slice h.v
  obtain ⟨ea, ec, (he : ev = .slice ea 0 ec)⟩ := ownsRow_slice h.e
  subst he
  have c7 : w.cell? ⟨g, 7, none⟩ = some (.slice va vals.length vc) := h.L.cell 7
  have c38 : w.cell? ⟨g, 38, none⟩ = some (.slice ea 0 ec) := (h.L.cell 38).trans (eL_ev _ _ _ _ _ h.hs)
  have y := h.shAt hk (by omega) s hs
  clear h hs
  go_enter Try.func18, Try.ntmps18
  go_wp2_with (first | (go_at_call 34; refine (kval_any g vals.length j _ _ _ c7 hj (by omega)).mono ?_; rintro e w' ⟨rfl, rfl⟩) | (go_at_call 37; refine (kcount_any g _ _ _ _ _ c38).mono ?_; rintro e w' ⟨rfl, rfl⟩))
  go_ret
  exact ⟨rfl, rfl⟩

set_option maxHeartbeats 2000000 in
set_option maxRecDepth 100000 in
theorem kleave {B0 : Nat} {W0 : World} (g : Nat) (c : LC) (sh : List Int) (bv vv ev : Value) (vals : List VS) (ents : List ES) (k j : Nat) (n m : Int) (w : World) (h : PE B0 W0 w g c sh bv vv ev vals ents) (hv : vals.length ≤ 5) (hk : k < 6) (hj : j < vals.length) (h0 : vals[j].shares = m) (t0 : vals[j].tokens = m) (s0 : sh.getD (k * 5 + j) 0 = m) (h1 : 1 ≤ n) (h2 : n ≤ m) (h3 : m ≤ 1000000) :
    Calls Try.prog 19 #[.pointer (some ⟨g, 0, none⟩), .int .i64 k, .int .i64 j, .int .i64 n] w fun e w' => e = .returned (.int .i64 n) ∧ PE B0 W0 w' g c (sh.set (k * 5 + j) (m - n)) bv vv ev (vals.set j { vals[j] with tokens := m - n, shares := m - n }) ents := by
  obtain ⟨va, vc, rfl⟩ := ownsRow_slice h.v
  obtain ⟨gv, rfl, hcell, hfr⟩ := h.val8 rfl hj
  have c7 : w.cell? ⟨g, 7, none⟩ = some (.slice (some ⟨gv, 0, none⟩) vals.length vc) := h.L.cell 7
  have y0 := hcell 0 (by omega)
  have y1 := hcell 1 (by omega)
  have y2 := hcell 2 (by omega)
  have y3 := hcell 3 (by omega)
  have y4 := hcell 4 (by omega)
  have y5 := hcell 5 (by omega)
  have y6 := hcell 6 (by omega)
  have y7 := hcell 7 (by omega)
  have HP : Hid (PE B0 W0 w g c sh bv (.slice (some ⟨gv, 0, none⟩) vals.length vc) ev vals ents) := h
  obtain ⟨v, hvj⟩ : ∃ v, vals[j] = v := ⟨_, rfl⟩
  have Hvj : Hid (vals[j] = v) := hvj
  rw [hvj] at y0 y1 y2 y3 y4 y5 y6 y7 h0 t0
  obtain ⟨vo, vr, vt, vs, vcm, vou, vj, vi⟩ := v
  simp only at h0 t0
  subst h0 t0
  simp only [VS.cells, List.getElem?_cons_succ, List.getElem?_cons_zero, Nat.add_zero] at y0 y1 y2 y3 y4 y5 y6 y7
  have hnm0 : 0 ≤ n * vt := Int.mul_nonneg (by omega) (by omega)
  have hnm1 : n * vt ≤ 1000000000000 := by
    have := Int.mul_le_mul (show n ≤ 1000000 by omega) h3 (by omega) (by omega)
    omega
  have HJ : Hid (∀ u, Calls Try.prog 38 #[.agg #[.int .i64 vo, .int .i64 vr, .int .i64 vt, .int .i64 vt, .int .i64 vcm, .int .i64 vou, .bool vj, .bool vi], .int .i64 n] u fun e w' => e = .returned (.int .i64 n) ∧ Below u.heap.size u w') := fun u => tokensFor_m vo vr vt vcm vou vj vi n u (by omega) hnm0 hnm1
  have Hs0 : Hid (sh.getD (k * 5 + j) 0 = vt) := s0
  clear h hcell hfr hvj s0 hnm0 hnm1
  go_enter Try.func19, Try.ntmps19
  go_wp2_with fail
  refine (HJ.out _).mono ?_
  rintro e w1 ⟨rfl, hb1⟩
  have hP1 := HP.out.below hb1
  clear HP HJ hb1 y0 y1 y2 y3 y4 y5 y6 y7 c7
  obtain ⟨gv', he, hcell, hfr⟩ := hP1.val8 rfl hj
  simp only [Option.some.injEq, Addr.mk.injEq, and_true] at he
  subst he
  have c7 : w1.cell? ⟨g, 7, none⟩ = some (.slice (some ⟨gv, 0, none⟩) vals.length vc) := hP1.L.cell 7
  have hgne : g ≠ gv := fun e => Has.apart hP1.L hP1.v (by decide) (by rw [e]; rfl)
  have hgne' : gv ≠ g := fun e => hgne e.symm
  have y2 := hcell 2 (by omega)
  have y3 := hcell 3 (by omega)
  have f2 := hfr (j * 8 + 2)
  have f3 := hfr (j * 8 + 3)
  rw [Hvj.out] at y2 y3
  simp only [VS.cells, List.getElem?_cons_succ, List.getElem?_cons_zero] at y2 y3
  have hkj : k * 5 + j < 30 := by omega
  have s1 := hP1.shAt hk (by omega) vt Hs0.out
  have fs := hP1.L.frozen (8 + k * 5 + j)
  have hP2 := hP1.setVal rfl (j * 8 + 2) (.int .i64 (vt - n)) (vals' := vals.set j ⟨vo, vr, vt - n, vt, vcm, vou, vj, vi⟩) (vrow_set vals j hj 2 _ _ (by rw [Hvj.out]; rfl) (by omega)) (by simp)
  have hj2 : j < (vals.set j ⟨vo, vr, vt - n, vt, vcm, vou, vj, vi⟩).length := by simpa using hj
  have hP3 := hP2.setVal (by simp) (j * 8 + 3) (.int .i64 (vt - n)) (vals' := vals.set j ⟨vo, vr, vt - n, vt - n, vcm, vou, vj, vi⟩) (by rw [vrow_set _ j hj2 3 (.int .i64 (vt - n)) ⟨vo, vr, vt - n, vt - n, vcm, vou, vj, vi⟩ (by simp [VS.cells]) (by omega), List.set_set]) (by simp)
  have hP4 := hP3.setSh (k * 5 + j) (vt - n) hkj
  rw [← Nat.add_assoc] at hP4
  have e0 : ({ vals[j] with tokens := vt - n, shares := vt - n } : VS) = ⟨vo, vr, vt - n, vt - n, vcm, vou, vj, vi⟩ := by rw [Hvj.out]
  have HF : Hid (PE B0 W0 (((w1.setCell ⟨gv, j * 8 + 2, none⟩ (.int .i64 (vt - n))).setCell ⟨gv, j * 8 + 3, none⟩ (.int .i64 (vt - n))).setCell ⟨g, 8 + k * 5 + j, none⟩ (.int .i64 (vt - n))) g c (sh.set (k * 5 + j) (vt - n)) bv (.slice (some ⟨gv, 0, none⟩) vals.length vc) ev (vals.set j { vals[j] with tokens := vt - n, shares := vt - n }) ents) := by
    rw [e0]; exact hP4
  clear hP1 hP2 hP3 hP4 hcell hfr e0 Hs0 Hvj hj2
  go_wp2
  go_region
  go_wp2
  go_ret
  exact ⟨rfl, HF.out.eta rfl rfl rfl rfl⟩

set_option maxHeartbeats 2000000 in
set_option maxRecDepth 100000 in
theorem kunbond {B0 : Nat} {W0 : World} (g : Nat) (c : LC) (sh : List Int) (bv vv ev : Value) (vals : List VS) (k j : Nat) (n m : Int) (w : World) (h : PE B0 W0 w g c sh bv vv ev vals []) (hl : c.bal.length ≤ 6) (hk : k < c.bal.length) (x : Int) (hx : c.bal.getD k 0 = x) (hx0 : c.fee ≤ x) (hx1 : x ≤ 1000000000) (hf0 : 0 ≤ c.fee) (hs0 : 0 ≤ c.fees) (hs1 : c.fees ≤ 1000000000) (hv : vals.length ≤ 5) (hj : j < vals.length) (h0 : vals[j].shares = m) (t0 : vals[j].tokens = m) (s0 : sh.getD (k * 5 + j) 0 = m) (h1 : 1 ≤ n) (h2 : n ≤ m) (h3 : m ≤ 1000000) :
    Calls Try.prog 8 #[.pointer (some ⟨g, 0, none⟩), .int .i64 k, .int .i64 j, .int .i64 n] w fun e w' => e = .returned (.int .i64 0) ∧ ∃ ev', PE B0 W0 w' g { setB c k (x - c.fee) with fees := c.fees + c.fee } (sh.set (k * 5 + j) (m - n)) bv vv ev' (vals.set j { vals[j] with tokens := m - n, shares := m - n }) [⟨k, j, c.height, n⟩] := by
  have HCh : Hid (Calls Try.prog 15 #[.pointer (some ⟨g, 0, none⟩), .int .i64 k] w fun e w' => e = .returned (.int .i64 0) ∧ PE B0 W0 w' g { setB c k (x - c.fee) with fees := c.fees + c.fee } sh bv vv ev vals []) := kcharge g c sh bv vv ev vals [] k w h (by omega) hk x hx hx0 hx1 hf0 hs0 hs1
  have HS : Hid (sh.getD (k * 5 + j) 0 = m) := s0
  have H0 : Hid (vals[j].shares = m ∧ vals[j].tokens = m) := ⟨h0, t0⟩
  clear h h0 t0 s0 hx
  go_enter Try.func8, Try.ntmps8
  go_wp2_with fail
  refine HCh.out.mono ?_
  rintro e w1 ⟨rfl, hP1⟩
  have HP1 : Hid (PE B0 W0 w1 g { setB c k (x - c.fee) with fees := c.fees + c.fee } sh bv vv ev vals []) := hP1
  clear HCh hP1
  go_wp2_with fail
  refine (kunbondError g _ sh bv vv ev vals k j n m _ HP1.out (by omega) hv hj HS.out h1 h2).mono ?_
  rintro e w2 ⟨rfl, rfl⟩
  go_wp2_with fail
  refine (kleave g _ sh bv vv ev vals [] k j n m _ HP1.out hv (by omega) hj H0.out.1 H0.out.2 HS.out h1 h2 h3).mono ?_
  rintro e w3 ⟨rfl, hP3⟩
  have HP3 : Hid _ := hP3
  clear hP3 HP1
  go_wp2_with fail
  refine (kaddEntry g _ _ bv vv ev _ [] k j n _ HP3.out h1 (by simp)).mono ?_
  rintro e w4 ⟨rfl, ev', hP4⟩
  have HP4 : Hid (PE B0 W0 w4 g { setB c k (x - c.fee) with fees := c.fees + c.fee } (sh.set (k * 5 + j) (m - n)) bv vv ev' (vals.set j { vals[j] with tokens := m - n, shares := m - n }) [⟨k, j, c.height, n⟩]) := hP4
  clear hP4 HP3
  go_wp2
  go_ret
  exact ⟨rfl, _, HP4.out⟩
end Go.Proofs.Ytenjjneobkodbaa
