import Derived.Test.YtohjjgefklhmaaaGreatDoorEEngM
namespace Go.Proofs.YtohjjgefklhmaaaGreatDoor
open Go.ChangeShapes Go.WideShapes Go.ChangeAt Go.RowKit
set_option linter.unusedVariables false

def sharesForF (v : VS) (amount : Int) : Int := if v.shares = 0 then amount else if v.tokens = 0 then 0 else amount * v.shares / v.tokens
def tokensForF (v : VS) (shares : Int) : Int := if v.shares = 0 then 0 else shares * v.tokens / v.shares
def joinErrF (v : VS) (amount : Int) : Int := if 0 < v.shares ∧ v.tokens = 0 then 7 else if sharesForF v amount < 1 then 8 else if 1000000 < v.shares + sharesForF v amount then 9 else 0
/-- the struct of a validator, as a value -/
def VS.agg (v : VS) : Value := .agg #[.int .i64 v.owner, .int .i64 v.rate, .int .i64 v.tokens, .int .i64 v.shares, .int .i64 v.comm, .int .i64 v.outs, .bool v.jailed, .bool v.inset]
/-- numbers that do not wrap -/
structure ValOk (v : VS) : Prop where
  t0 : 0 ≤ v.tokens
  t1 : v.tokens ≤ 1000000
  s0 : 0 ≤ v.shares
  s1 : v.shares ≤ 1000000
theorem mul_bdE {a b : Int} (a0 : 0 ≤ a) (a1 : a ≤ 1000000) (b0 : 0 ≤ b) (b1 : b ≤ 1000000) : 0 ≤ a * b ∧ a * b ≤ 1000000000000 := by
  have h1 := Int.mul_nonneg a0 b0
  have h2 := Int.mul_le_mul a1 b1 b0 (by omega)
  omega
theorem sharesForF_bd {v : VS} (hv : ValOk v) {amount : Int} (a0 : 0 ≤ amount) (a1 : amount ≤ 1000000) : 0 ≤ sharesForF v amount ∧ sharesForF v amount ≤ 1000000000000 := by
  obtain ⟨h1, h2⟩ := mul_bdE a0 a1 hv.s0 hv.s1
  have ht := hv.t0
  unfold sharesForF
  split
  · omega
  · split
    · omega
    · refine ⟨Int.ediv_nonneg h1 ht, ?_⟩
      have : amount * v.shares / v.tokens ≤ amount * v.shares := Int.ediv_le_self _ h1
      omega

set_option maxHeartbeats 1000000 in
set_option maxRecDepth 100000 in
theorem sharesFor_any (v : VS) (amount : Int) (w : World) (hv : ValOk v) (a0 : 0 ≤ amount) (a1 : amount ≤ 1000000) :
    Calls Tryz.prog 149 #[.agg #[.int .i64 v.owner, .int .i64 v.rate, .int .i64 v.tokens, .int .i64 v.shares, .int .i64 v.comm, .int .i64 v.outs, .bool v.jailed, .bool v.inset], .int .i64 amount] w fun e w' => e = .returned (.int .i64 (sharesForF v amount)) ∧ Below w.heap.size w w' := by
  have HB : Hid (∀ o, Below w.heap.size w (w.alloc o)) := fun o => (Below.refl _ _).alloc (Nat.le_refl _) o
  obtain ⟨h1, h2⟩ := mul_bdE a0 a1 hv.s0 hv.s1
  obtain ⟨t0, t1, s0, s1⟩ := hv
  obtain ⟨R, hR⟩ : ∃ R, sharesForF v amount = R := ⟨_, rfl⟩
  rw [hR]
  unfold sharesForF at hR
  obtain ⟨vo, vr, vt, vs, vc, vou, vj, vi⟩ := v
  simp only at *
  by_cases e1 : vs = 0
  · subst e1
    have HR : Hid (amount = R) := by rw [← hR, if_pos rfl]; exact rfl
    clear hR
    go_enter Tryz.func149, Tryz.ntmps149
    go_wp2
    go_ret
    exact ⟨ret_int HR.out, HB.out _⟩
  · by_cases e2 : vt = 0
    · subst e2
      have e3 : (vs == 0) = false := by simp [e1]
      have HR : Hid ((0 : Int) = R) := by rw [← hR, if_neg e1, if_pos rfl]; exact rfl
      clear e1 hR
      go_enter Tryz.func149, Tryz.ntmps149
      go_wp2
      go_ret
      exact ⟨ret_int HR.out, HB.out _⟩
    · have e3 : (vs == 0) = false := by simp [e1]
      have e4 : (vt == 0) = false := by simp [e2]
      have e5 : 0 < vt := by omega
      have HR : Hid (amount * vs / vt = R) := by rw [← hR, if_neg e1, if_neg e2]; exact rfl
      clear e1 e2 hR
      go_enter Tryz.func149, Tryz.ntmps149
      go_wp2
      go_ret
      exact ⟨ret_int HR.out, HB.out _⟩

set_option maxHeartbeats 2000000 in
set_option maxRecDepth 100000 in
theorem joinError_any (v : VS) (amount : Int) (w : World) (hv : ValOk v) (a0 : 0 ≤ amount) (a1 : amount ≤ 1000000) :
    Calls Tryz.prog 148 #[.agg #[.int .i64 v.owner, .int .i64 v.rate, .int .i64 v.tokens, .int .i64 v.shares, .int .i64 v.comm, .int .i64 v.outs, .bool v.jailed, .bool v.inset], .int .i64 amount] w fun e w' => e = .returned (.int .i64 (joinErrF v amount)) ∧ Below w.heap.size w w' := by
  have HB : Hid (∀ o, Below w.heap.size w (w.alloc o)) := fun o => (Below.refl _ _).alloc (Nat.le_refl _) o
  have HS : Hid (∀ u, Calls Tryz.prog 149 #[.agg #[.int .i64 v.owner, .int .i64 v.rate, .int .i64 v.tokens, .int .i64 v.shares, .int .i64 v.comm, .int .i64 v.outs, .bool v.jailed, .bool v.inset], .int .i64 amount] u fun e w' => e = .returned (.int .i64 (sharesForF v amount)) ∧ Below u.heap.size u w') := fun u => sharesFor_any v amount u hv a0 a1
  obtain ⟨b0, b1⟩ := sharesForF_bd hv a0 a1
  obtain ⟨t0, t1, s0, s1⟩ := hv
  obtain ⟨R, hR⟩ : ∃ R, joinErrF v amount = R := ⟨_, rfl⟩
  rw [hR]
  unfold joinErrF at hR
  generalize sharesForF v amount = b at *
  obtain ⟨vo, vr, vt, vs, vc, vou, vj, vi⟩ := v
  simp only at *
  have HX : Hid (Has (w.alloc (.cells #[.int .i64 vo, .int .i64 vr, .int .i64 vt, .int .i64 vs, .int .i64 vc, .int .i64 vou, .bool vj, .bool vi] 122)) w.heap.size 122 [.int .i64 vo, .int .i64 vr, .int .i64 vt, .int .i64 vs, .int .i64 vc, .int .i64 vou, .bool vj, .bool vi]) := Has.newA w _ _
  by_cases e1 : 0 < vs ∧ vt = 0
  · have HR : Hid ((7 : Int) = R) := by rw [← hR, if_pos e1]; exact rfl
    clear hR
    obtain ⟨e2, rfl⟩ := e1
    go_enter Tryz.func148, Tryz.ntmps148
    go_wp2
    go_ret
    exact ⟨ret_int HR.out, HB.out _⟩
  · rw [if_neg e1] at hR
    have HR0 : Hid ((if b < 1 then 8 else if 1000000 < vs + b then 9 else 0) = R) := hR
    clear hR
    have e3 : vs = 0 ∨ (vs > 0 ∧ (vt == 0) = false) := by
      by_cases h : vs = 0
      · exact .inl h
      · refine .inr ⟨by omega, ?_⟩
        simp; intro h2; exact e1 ⟨by omega, h2⟩
    clear e1
    have key : ∀ w2, Below (w.heap.size + 1) (w.alloc (.cells #[.int .i64 vo, .int .i64 vr, .int .i64 vt, .int .i64 vs, .int .i64 vc, .int .i64 vou, .bool vj, .bool vi] 122)) w2 → w2.cell? ⟨w.heap.size, 3, none⟩ = some (.int .i64 vs) ∧ Below w.heap.size w w2 := by
      intro w2 hb2
      exact ⟨(HX.out.below hb2 (by omega)).cell 3, (HB.out _).trans (hb2.mono (by omega))⟩
    have HK : Hid _ := key
    clear key HX
    rcases e3 with rfl | ⟨e3, e4⟩
    · go_enter Tryz.func148, Tryz.ntmps148
      go_wp2_with fail
      refine (HS.out _).mono ?_
      rintro e w2 ⟨rfl, hb2⟩
      rw [World.size_alloc] at hb2
      obtain ⟨y3, hF⟩ := HK.out w2 hb2
      have HF : Hid (Below w.heap.size w w2) := hF
      clear hb2 hF HK HS
      by_cases q1 : b < 1
      · have HR : Hid ((8 : Int) = R) := by rw [← HR0.out, if_pos q1]; exact rfl
        clear HR0
        go_wp2
        go_ret
        have := HR.out
        exact ⟨ret_int this, HF.out⟩
      · by_cases q2 : 1000000 < 0 + b
        · have HR : Hid ((9 : Int) = R) := by rw [← HR0.out, if_neg q1, if_pos q2]; exact rfl
          clear HR0
          go_wp2
          go_ret
          have := HR.out
          exact ⟨ret_int this, HF.out⟩
        · have HR : Hid ((0 : Int) = R) := by rw [← HR0.out, if_neg q1, if_neg q2]; exact rfl
          clear HR0
          go_wp2
          go_ret
          have := HR.out
          exact ⟨ret_int this, HF.out⟩
    · go_enter Tryz.func148, Tryz.ntmps148
      go_wp2_with fail
      refine (HS.out _).mono ?_
      rintro e w2 ⟨rfl, hb2⟩
      rw [World.size_alloc] at hb2
      obtain ⟨y3, hF⟩ := HK.out w2 hb2
      have HF : Hid (Below w.heap.size w w2) := hF
      clear hb2 hF HK HS
      by_cases q1 : b < 1
      · have HR : Hid ((8 : Int) = R) := by rw [← HR0.out, if_pos q1]; exact rfl
        clear HR0
        go_wp2
        go_ret
        have := HR.out
        exact ⟨ret_int this, HF.out⟩
      · by_cases q2 : 1000000 < vs + b
        · have HR : Hid ((9 : Int) = R) := by rw [← HR0.out, if_neg q1, if_pos q2]; exact rfl
          clear HR0
          go_wp2
          go_ret
          have := HR.out
          exact ⟨ret_int this, HF.out⟩
        · have HR : Hid ((0 : Int) = R) := by rw [← HR0.out, if_neg q1, if_neg q2]; exact rfl
          clear HR0
          go_wp2
          go_ret
          have := HR.out
          exact ⟨ret_int this, HF.out⟩
end Go.Proofs.YtohjjgefklhmaaaGreatDoor

namespace Go.Proofs.YtohjjgefklhmaaaGreatDoor
open Go.ChangeShapes Go.WideShapes Go.ChangeAt Go.RowKit
set_option linter.unusedVariables false

section
variable {S : Nat → Prop} {W0 : World} (g : Nat) (x : EC) (bv vv ev : Value) (w : World) (h : PE S W0 w g x bv vv ev)
include h

set_option maxHeartbeats 1000000 in
set_option maxRecDepth 100000 in
theorem edueError (k j : Nat) (hk : k < 6) (hv : x.vals.length ≤ 5) (hj : j < x.vals.length) (hs : 1 ≤ x.sh k j) :
    Calls Tryz.prog 97 #[.pointer (some ⟨g, 0, none⟩), .int .i64 k, .int .i64 j] w fun e w' => e = .returned (.int .i64 0) ∧ w = w' := by
  obtain ⟨va, vc, rfl⟩ := ownsRow_slice h.v
  have c7 : w.cell? ⟨g, 7, none⟩ = some (.slice va x.vals.length vc) := h.L.cell 7
  have y := h.shAt hk (j := j) (by omega)
  clear h
  generalize x.sh k j = s at *
  go_enter Tryz.func97, Tryz.ntmps97
  go_wp2_with (go_at_call 144; refine (kval_any g x.vals.length j _ _ _ c7 hj (by omega)).mono ?_; rintro e w' ⟨rfl, rfl⟩)
  go_ret
  exact ⟨rfl, rfl⟩

set_option maxHeartbeats 1000000 in
set_option maxRecDepth 100000 in
theorem eDue (k j : Nat) (hl : x.bal.length ≤ 6) (hk : k < x.bal.length) (hv : x.vals.length ≤ 5) (hj : j < x.vals.length) (hs : 1 ≤ x.sh k j) (hd : DueOk x k j) :
    Calls Tryz.prog 49 #[.pointer (some ⟨g, 0, none⟩), .int .i64 k, .int .i64 j] w fun e w' => e = .returned (.tuple #[.int .i64 (x.due k j), .int .i64 0]) ∧ w' = w.drew := by
  obtain ⟨ba, bc, rfl⟩ := ownsRow_slice h.b
  have c4 : w.cell? ⟨g, 4, none⟩ = some (.slice ba x.bal.length bc) := h.L.cell 4
  have H1 : Hid (Calls Tryz.prog 97 #[.pointer (some ⟨g, 0, none⟩), .int .i64 k, .int .i64 j] w fun e w' => e = .returned (.int .i64 0) ∧ w = w') := edueError g x _ _ _ w h k j (by omega) hv hj hs
  have H2 : Hid (Calls Tryz.prog 98 #[.pointer (some ⟨g, 0, none⟩), .int .i64 k, .int .i64 j] w fun e w' => e = .returned (.int .i64 (x.due k j)) ∧ w' = w.drew) := edue g x _ _ _ w h k j (by omega) (by omega) hd
  clear h hd
  generalize x.due k j = d at *
  go_enter Tryz.func49, Tryz.ntmps49
  go_wp2_with (first | (go_at_call 96; refine (kacc_any g x.bal.length k _ _ _ c4 hk (by omega)).mono ?_; rintro e w' ⟨rfl, rfl⟩) | (go_at_call 97; refine H1.out.mono ?_; rintro e w' ⟨rfl, rfl⟩) | (go_at_call 98; refine H2.out.mono ?_; rintro e w' ⟨rfl, rfl⟩))
  go_ret2
  exact ⟨rfl, rfl⟩

end
end Go.Proofs.YtohjjgefklhmaaaGreatDoor

namespace Go.Proofs.YtohjjgefklhmaaaGreatDoor
open Go.ChangeShapes Go.WideShapes Go.ChangeAt Go.RowKit
set_option linter.unusedVariables false

section
variable {S : Nat → Prop} {W0 : World} (g : Nat) (x : EC) (bv vv ev : Value) (w : World) (h : PE S W0 w g x bv vv ev)
include h
set_option maxHeartbeats 1000000 in
set_option maxRecDepth 100000 in
theorem eWithdraw (k j : Nat) (hl : x.bal.length ≤ 6) (hk : k < x.bal.length) (hv : x.vals.length ≤ 5) (hj : j < x.vals.length) (hs : 1 ≤ x.sh k j) (hd : DueOk x k j) (o0 : 0 ≤ x.vals[j].outs) (o1 : x.vals[j].outs ≤ 1000000000)
    (hx0 : x.fee ≤ x.balAt k) (hx1 : x.balAt k ≤ 1000000000) (hf0 : 0 ≤ x.fee) (hs0 : 0 ≤ x.fees) (hs1 : x.fees ≤ 1000000000) :
    Calls Tryz.prog 59 #[.pointer (some ⟨g, 0, none⟩), .int .i64 k, .int .i64 j] w fun e w' => e = .returned (.int .i64 0) ∧ PE S W0 w' g (payF (chargeFE x k) k j) bv vv ev := by
  have HCh : Hid (Calls Tryz.prog 105 #[.pointer (some ⟨g, 0, none⟩), .int .i64 k] w fun e w' => e = .returned (.int .i64 0) ∧ PE S W0 w' g (chargeFE x k) bv vv ev) := echarge g x bv vv ev w h k (by omega) hk hx0 hx1 hf0 hs0 hs1
  have e1 : (chargeFE x k).bal.length = x.bal.length := by simp [chargeFE]
  have e2 : (chargeFE x k).balAt k = x.balAt k - x.fee := by simp [chargeFE, EC.balAt, hk]
  have hd' : DueOk (chargeFE x k) k j := ⟨hd.u0, hd.up, hd.p1, hd.d0, hd.d1⟩
  have H1 : Hid (∀ w, PE S W0 w g (chargeFE x k) bv vv ev → Calls Tryz.prog 97 #[.pointer (some ⟨g, 0, none⟩), .int .i64 k, .int .i64 j] w fun e w' => e = .returned (.int .i64 0) ∧ w = w') := fun w h => edueError g (chargeFE x k) _ _ _ w h k j (by omega) hv hj hs
  have H2 : Hid (∀ w, PE S W0 w g (chargeFE x k) bv vv ev → Calls Tryz.prog 116 #[.pointer (some ⟨g, 0, none⟩), .int .i64 k, .int .i64 j] w fun e w' => e = .returned (.tuple #[]) ∧ PE S W0 w' g (payF (chargeFE x k) k j) bv vv ev) := fun w h => epay g (chargeFE x k) _ _ _ w h k j (by omega) (by omega) hv hj hd' o0 o1 (by rw [e2]; omega) (by rw [e2]; omega)
  clear h hd hd' e1 e2
  go_enter Tryz.func59, Tryz.ntmps59
  go_wp2_with fail
  refine HCh.out.mono ?_
  rintro e w1 ⟨rfl, hP1⟩
  have HP1 : Hid (PE S W0 w1 g (chargeFE x k) bv vv ev) := hP1
  clear HCh hP1
  go_wp2_with fail
  refine (H1.out _ HP1.out).mono ?_
  rintro e w2 ⟨rfl, rfl⟩
  go_wp2_with fail
  refine (H2.out _ HP1.out).mono ?_
  rintro e w2 ⟨rfl, hP2⟩
  have HP2 : Hid (PE S W0 w2 g (payF (chargeFE x k) k j) bv vv ev) := hP2
  clear hP2 HP1 H1 H2
  go_wp2
  go_ret
  exact ⟨rfl, HP2.out⟩
end
end Go.Proofs.YtohjjgefklhmaaaGreatDoor

namespace Go.Proofs.YtohjjgefklhmaaaGreatDoor
open Go.ChangeShapes Go.WideShapes Go.ChangeAt Go.RowKit
set_option linter.unusedVariables false

/-- the validator's number -/
def EC.val (x : EC) (j : Nat) : VS := x.vals.getD j ⟨0, 0, 0, 0, 0, 0, false, false⟩
theorem EC.val_eq (x : EC) {j : Nat} (hj : j < x.vals.length) : x.vals[j] = x.val j := by simp [EC.val, hj]
def joinFE (x : EC) (k j : Nat) (t : Int) : EC :=
  { payF x k j with
    vals := ((payF x k j).vals.modify j (fun v => { v with tokens := v.tokens + t })).modify j (fun v => { v with shares := v.shares + sharesForF (x.val j) t }),
    tab := (payF x k j).tab.set (k * 5 + j) (x.sh k j + sharesForF (x.val j) t) }
def bondFE (x : EC) (k j : Nat) (t : Int) : EC := joinFE { chargeFE x k with bal := x.bal.set k (x.balAt k - x.fee - t) } k j t

section
variable {S : Nat → Prop} {W0 : World} (g : Nat) (x : EC) (bv vv ev : Value) (w : World) (h : PE S W0 w g x bv vv ev)
include h

set_option maxHeartbeats 2000000 in
set_option maxRecDepth 100000 in
theorem ebondError (k j : Nat) (amount : Int) (hl : x.bal.length ≤ 1000) (hk : k < x.bal.length) (hv : x.vals.length ≤ 1000) (hj : j < x.vals.length) (hV : ValOk (x.val j)) (h1 : 1 ≤ amount) (h2 : amount ≤ 1000000) (h3 : amount ≤ x.balAt k) (h4 : joinErrF (x.val j) amount = 0) :
    Calls Tryz.prog 110 #[.pointer (some ⟨g, 0, none⟩), .int .i64 k, .int .i64 j, .int .i64 amount] w fun e w' => e = .returned (.int .i64 0) ∧ Below w.heap.size w w' := by
  obtain ⟨ba, bc, rfl⟩ := ownsRow_slice h.b
  obtain ⟨gb, rfl, _⟩ := ownsRow_some h.b (by omega)
  obtain ⟨va, vc, rfl⟩ := ownsRow_slice h.v
  obtain ⟨gv, rfl, hcell, hfr⟩ := h.val8 rfl hj
  have c4 : w.cell? ⟨g, 4, none⟩ = some (.slice (some ⟨gb, 0, none⟩) x.bal.length bc) := h.L.cell 4
  have c7 : w.cell? ⟨g, 7, none⟩ = some (.slice (some ⟨gv, 0, none⟩) x.vals.length vc) := h.L.cell 7
  have cb := h.balAt' hk
  have y0 := hcell 0 (by omega)
  have y1 := hcell 1 (by omega)
  have y2 := hcell 2 (by omega)
  have y3 := hcell 3 (by omega)
  have y4 := hcell 4 (by omega)
  have y5 := hcell 5 (by omega)
  have y6 := hcell 6 (by omega)
  have y7 := hcell 7 (by omega)
  rw [x.val_eq hj] at y0 y1 y2 y3 y4 y5 y6 y7
  have HJ : Hid (∀ u, Calls Tryz.prog 148 #[.agg #[.int .i64 (x.val j).owner, .int .i64 (x.val j).rate, .int .i64 (x.val j).tokens, .int .i64 (x.val j).shares, .int .i64 (x.val j).comm, .int .i64 (x.val j).outs, .bool (x.val j).jailed, .bool (x.val j).inset], .int .i64 amount] u fun e w' => e = .returned (.int .i64 0) ∧ Below u.heap.size u w') := fun u => by
    have := joinError_any (x.val j) amount u hV (by omega) h2
    rw [h4] at this
    exact this
  clear h hcell hfr h4 hV
  generalize x.val j = v at *
  generalize x.balAt k = y at *
  obtain ⟨vo, vr, vt, vs, vcm, vou, vj, vi⟩ := v
  simp only [VS.cells, List.getElem?_cons_succ, List.getElem?_cons_zero, Nat.add_zero] at y0 y1 y2 y3 y4 y5 y6 y7
  go_enter Tryz.func110, Tryz.ntmps110
  go_wp2_with (first | (go_at_call 144; refine (kval_any g x.vals.length j _ _ _ c7 hj hv).mono ?_; rintro e w' ⟨rfl, rfl⟩) | fail)
  refine (HJ.out _).mono ?_
  rintro e w2 ⟨rfl, hb2⟩
  have HF : Hid (Below w.heap.size w w2) := hb2
  clear hb2 HJ
  go_wp2
  go_ret
  exact ⟨rfl, HF.out⟩
end
end Go.Proofs.YtohjjgefklhmaaaGreatDoor

namespace Go.Proofs.YtohjjgefklhmaaaGreatDoor
open Go.ChangeShapes Go.WideShapes Go.ChangeAt Go.RowKit
set_option linter.unusedVariables false

theorem payF_val (x : EC) (k j : Nat) : (payF x k j).val j = { x.val j with outs := (x.val j).outs - x.due k j } ∨ x.vals.length ≤ j := by
  by_cases hj : j < x.vals.length
  · left
    simp [payF, EC.val, hj, List.getD]
  · right; omega
theorem payF_sh (x : EC) (k j : Nat) (hj : j < 5) (hk : k < 6) : (payF x k j).sh k j = x.sh k j := by
  simp only [payF, EC.sh, List.getD]
  rw [List.getElem?_set_ne (by omega)]

set_option maxHeartbeats 2000000 in
set_option maxRecDepth 100000 in
theorem ejoin {S : Nat → Prop} {W0 : World} (g : Nat) (x : EC) (bv vv ev : Value) (w : World) (h : PE S W0 w g x bv vv ev) (k j : Nat) (amount : Int) (hl : x.bal.length ≤ 6) (hk : k < x.bal.length) (hv : x.vals.length ≤ 5) (hj : j < x.vals.length) (hV : ValOk (x.val j)) (hd : DueOk x k j) (o0 : 0 ≤ (x.val j).outs) (o1 : (x.val j).outs ≤ 1000000000) (b0 : 0 ≤ x.balAt k) (b1 : x.balAt k ≤ 1000000000) (s0 : 0 ≤ x.sh k j) (s1 : x.sh k j ≤ 1000000) (h1 : 1 ≤ amount) (h2 : amount ≤ 1000000) :
    Calls Tryz.prog 111 #[.pointer (some ⟨g, 0, none⟩), .int .i64 k, .int .i64 j, .int .i64 amount] w fun e w' => e = .returned (.tuple #[]) ∧ PE S W0 w' g (joinFE x k j amount) bv vv ev := by
  have HPay : Hid (Calls Tryz.prog 116 #[.pointer (some ⟨g, 0, none⟩), .int .i64 k, .int .i64 j] w fun e w' => e = .returned (.tuple #[]) ∧ PE S W0 w' g (payF x k j) bv vv ev) := epay g x bv vv ev w h k j hl hk hv hj hd (by rw [x.val_eq hj]; exact o0) (by rw [x.val_eq hj]; exact o1) b0 b1
  have e1 := (payF_val x k j).resolve_right (by omega)
  have e2 := payF_sh x k j (by omega) (by omega)
  have e3 : (payF x k j).vals.length = x.vals.length := by simp [payF]
  have hq : sharesForF ((payF x k j).val j) amount = sharesForF (x.val j) amount := by rw [e1]; rfl
  have hV1 : ValOk ((payF x k j).val j) := by rw [e1]; exact ⟨hV.t0, hV.t1, hV.s0, hV.s1⟩
  obtain ⟨q0, q1⟩ := sharesForF_bd hV (show 0 ≤ amount by omega) h2
  have HJ : Hid (joinFE x k j amount = { payF x k j with
    vals := ((payF x k j).vals.modify j (fun v => { v with tokens := v.tokens + amount })).modify j (fun v => { v with shares := v.shares + sharesForF (x.val j) amount }),
    tab := (payF x k j).tab.set (k * 5 + j) (x.sh k j + sharesForF (x.val j) amount) }) := rfl
  clear h hd o0 o1 b0 b1 e1 hV
  generalize joinFE x k j amount = xF at *
  generalize payF x k j = x1 at *
  rw [← hq] at q0 q1 HJ
  rw [← e2] at s0 s1 HJ
  clear hq e2
  obtain ⟨t0, t1, u0, u1⟩ := id hV1
  go_enter Tryz.func111, Tryz.ntmps111
  go_wp2_with fail
  refine HPay.out.mono ?_
  rintro e w1 ⟨rfl, hP⟩
  clear HPay
  obtain ⟨va, vc, rfl⟩ := ownsRow_slice hP.v
  have hj1 : j < x1.vals.length := by omega
  obtain ⟨gv, rfl, hcell, hfr⟩ := hP.val8 rfl hj1
  have c7 : w1.cell? ⟨g, 7, none⟩ = some (.slice (some ⟨gv, 0, none⟩) x1.vals.length vc) := hP.L.cell 7
  have y0 := hcell 0 (by omega)
  have y1 := hcell 1 (by omega)
  have y2 := hcell 2 (by omega)
  have y3 := hcell 3 (by omega)
  have y4 := hcell 4 (by omega)
  have y5 := hcell 5 (by omega)
  have y6 := hcell 6 (by omega)
  have y7 := hcell 7 (by omega)
  rw [x1.val_eq hj1] at y0 y1 y2 y3 y4 y5 y6 y7
  simp only [VS.cells, List.getElem?_cons_succ, List.getElem?_cons_zero, Nat.add_zero] at y0 y1 y2 y3 y4 y5 y6 y7
  have HS : Hid (∀ u, Calls Tryz.prog 149 #[.agg #[.int .i64 (x1.val j).owner, .int .i64 (x1.val j).rate, .int .i64 (x1.val j).tokens, .int .i64 (x1.val j).shares, .int .i64 (x1.val j).comm, .int .i64 (x1.val j).outs, .bool (x1.val j).jailed, .bool (x1.val j).inset], .int .i64 amount] u fun e w' => e = .returned (.int .i64 (sharesForF (x1.val j) amount)) ∧ Below u.heap.size u w') := fun u => sharesFor_any (x1.val j) amount u hV1 (by omega) h2
  have HP : Hid (PE S W0 w1 g x1 bv (.slice (some ⟨gv, 0, none⟩) x1.vals.length vc) ev) := hP
  have HV : Hid (x1.vals[j] = x1.val j) := x1.val_eq hj1
  clear hP hcell hfr hV1
  generalize sharesForF (x1.val j) amount = b at *
  generalize x1.val j = v at *
  go_wp2_with fail
  refine (HS.out _).mono ?_
  rintro e w2 ⟨rfl, hb2⟩
  have hP := HP.out.below hb2
  clear HP HS hb2 y0 y1 y2 y3 y4 y5 y6 y7 c7
  obtain ⟨gv', he, hcell, hfr⟩ := hP.val8 rfl hj1
  simp only [Option.some.injEq, Addr.mk.injEq, and_true] at he
  subst he
  have c7 : w2.cell? ⟨g, 7, none⟩ = some (.slice (some ⟨gv, 0, none⟩) x1.vals.length vc) := hP.L.cell 7
  have hgne : g ≠ gv := fun e => Has.apart hP.L hP.v (by decide) (by rw [e]; rfl)
  have hgne' : gv ≠ g := fun e => hgne e.symm
  have y2 := hcell 2 (by omega)
  have y3 := hcell 3 (by omega)
  have f2 := hfr (j * 8 + 2)
  have f3 := hfr (j * 8 + 3)
  rw [HV.out] at y2 y3
  simp only [VS.cells, List.getElem?_cons_succ, List.getElem?_cons_zero] at y2 y3
  have hkj : k * 5 + j < 65 := by omega
  have sc := hP.shAt (k := k) (j := j) (by omega) (by omega)
  have fs := hP.L.frozen (8 + k * 5 + j)
  have hP2 := hP.setVal rfl (j * 8 + 2) (.int .i64 (v.tokens + amount)) (vals' := x1.vals.modify j (fun v => { v with tokens := v.tokens + amount })) (vrow_mod x1.vals j hj1 2 _ _ (by rw [HV.out]; rfl) (by omega)) (by simp)
  have hj2 : j < (x1.vals.modify j (fun v => { v with tokens := v.tokens + amount })).length := by simpa using hj1
  have hP3 := hP2.setVal (by simp) (j * 8 + 3) (.int .i64 (v.shares + b)) (vals' := (x1.vals.modify j (fun v => { v with tokens := v.tokens + amount })).modify j (fun v => { v with shares := v.shares + b })) (vrow_mod _ j hj2 3 _ _ (by simp [HV.out, VS.cells]) (by omega)) (by simp)
  have hP4 := hP3.setTab (k * 5 + j) (x1.sh k j + b) hkj
  rw [← Nat.add_assoc] at hP4
  have HF : Hid (PE S W0 (((w2.setCell ⟨gv, j * 8 + 2, none⟩ (.int .i64 (v.tokens + amount))).setCell ⟨gv, j * 8 + 3, none⟩ (.int .i64 (v.shares + b))).setCell ⟨g, 8 + k * 5 + j, none⟩ (.int .i64 (x1.sh k j + b))) g xF bv (.slice (some ⟨gv, 0, none⟩) x1.vals.length vc) ev) := by
    rw [HJ.out]; exact hP4
  clear hP hP2 hP3 hP4 hcell hfr HV HJ hj2
  generalize x1.sh k j = s at *
  go_wp2
  go_region
  go_wp2
  go_end0
  exact ⟨rfl, HF.out.eta rfl rfl rfl rfl⟩

set_option maxHeartbeats 2000000 in
set_option maxRecDepth 100000 in
theorem eBond {S : Nat → Prop} {W0 : World} (g : Nat) (x : EC) (bv vv ev : Value) (w : World) (h : PE S W0 w g x bv vv ev) (k j : Nat) (amount : Int) (hl : x.bal.length ≤ 6) (hk : k < x.bal.length) (hv : x.vals.length ≤ 5) (hj : j < x.vals.length) (hV : ValOk (x.val j)) (hd : DueOk x k j) (o0 : 0 ≤ (x.val j).outs) (o1 : (x.val j).outs ≤ 1000000000) (s0 : 0 ≤ x.sh k j) (s1 : x.sh k j ≤ 1000000) (h1 : 1 ≤ amount) (h2 : amount ≤ 1000000) (h3 : amount + x.fee ≤ x.balAt k)
    (hx1 : x.balAt k ≤ 1000000000) (hf0 : 0 ≤ x.fee) (hs0 : 0 ≤ x.fees) (hs1 : x.fees ≤ 1000000000) (h4 : joinErrF (x.val j) amount = 0) :
    Calls Tryz.prog 56 #[.pointer (some ⟨g, 0, none⟩), .int .i64 k, .int .i64 j, .int .i64 amount] w fun e w' => e = .returned (.int .i64 0) ∧ PE S W0 w' g (bondFE x k j amount) bv vv ev := by
  have HCh : Hid (Calls Tryz.prog 105 #[.pointer (some ⟨g, 0, none⟩), .int .i64 k] w fun e w' => e = .returned (.int .i64 0) ∧ PE S W0 w' g (chargeFE x k) bv vv ev) := echarge g x bv vv ev w h k (by omega) hk (by omega) hx1 hf0 hs0 hs1
  have e1 : (chargeFE x k).bal.length = x.bal.length := by simp [chargeFE]
  have e2 : (chargeFE x k).balAt k = x.balAt k - x.fee := by simp [chargeFE, EC.balAt, hk]
  have e4 : ({ chargeFE x k with bal := x.bal.set k (x.balAt k - x.fee - amount) } : EC).balAt k = x.balAt k - x.fee - amount := by simp [EC.balAt, hk]
  have H1 : Hid (∀ w, PE S W0 w g (chargeFE x k) bv vv ev → Calls Tryz.prog 110 #[.pointer (some ⟨g, 0, none⟩), .int .i64 k, .int .i64 j, .int .i64 amount] w fun e w' => e = .returned (.int .i64 0) ∧ Below w.heap.size w w') := fun w h => ebondError g (chargeFE x k) _ _ _ w h k j amount (by omega) (by omega) (by simp only [chargeFE]; omega) hj hV h1 h2 (by rw [e2]; omega) h4
  have H2 : Hid (∀ bv w, PE S W0 w g { chargeFE x k with bal := x.bal.set k (x.balAt k - x.fee - amount) } bv vv ev → Calls Tryz.prog 111 #[.pointer (some ⟨g, 0, none⟩), .int .i64 k, .int .i64 j, .int .i64 amount] w fun e w' => e = .returned (.tuple #[]) ∧ PE S W0 w' g (bondFE x k j amount) bv vv ev) := fun bv w h => ejoin g _ _ _ _ w h k j amount (by simp; omega) (by simp; omega) hv hj hV ⟨hd.u0, hd.up, hd.p1, hd.d0, hd.d1⟩ o0 o1 (by rw [e4]; omega) (by rw [e4]; omega) s0 s1 h1 h2
  clear h hd hV o0 o1 s0 s1 h4 e4
  have HA : Hid (x.balAt k - x.fee = (chargeFE x k).balAt k ∧ (chargeFE x k).bal.set k (x.balAt k - x.fee - amount) = x.bal.set k (x.balAt k - x.fee - amount)) := ⟨e2.symm, by simp [chargeFE]⟩
  go_enter Tryz.func56, Tryz.ntmps56
  go_wp2_with fail
  refine HCh.out.mono ?_
  rintro e w1 ⟨rfl, hP1⟩
  have HP1 : Hid (PE S W0 w1 g (chargeFE x k) bv vv ev) := hP1
  clear HCh hP1 e2
  go_wp2_with fail
  refine (H1.out _ HP1.out).mono ?_
  rintro e w2 ⟨rfl, hb2⟩
  have hP2 := HP1.out.below hb2
  clear HP1 hb2 H1
  obtain ⟨ba, bc, rfl⟩ := ownsRow_slice hP2.b
  obtain ⟨gb, rfl, _⟩ := ownsRow_some hP2.b (by omega)
  have c4 : w2.cell? ⟨g, 4, none⟩ = some (.slice (some ⟨gb, 0, none⟩) (chargeFE x k).bal.length bc) := hP2.L.cell 4
  have cb := hP2.balAt' (k := k) (by omega)
  rw [← HA.out.1] at cb
  have fb := hP2.b.frozenAt k
  have hP3 := hP2.setBal rfl k (x.balAt k - x.fee - amount)
  rw [HA.out.2] at hP3
  have HP3 : Hid (PE S W0 (w2.setCell ⟨gb, k, none⟩ (.int .i64 (x.balAt k - x.fee - amount))) g { chargeFE x k with bal := x.bal.set k (x.balAt k - x.fee - amount) } (.slice (some ⟨gb, 0, none⟩) (chargeFE x k).bal.length bc) vv ev) := hP3
  have hk1 : k < (chargeFE x k).bal.length := by omega
  have hl1 : (chargeFE x k).bal.length ≤ 6 := by omega
  clear hP2 hP3 HA e1
  go_wp2_with fail
  refine (H2.out _ _ HP3.out).mono ?_
  rintro e w3 ⟨rfl, hP4⟩
  have HF : Hid (PE S W0 w3 g (bondFE x k j amount) (.slice (some ⟨gb, 0, none⟩) (chargeFE x k).bal.length bc) vv ev) := hP4
  clear hP4 HP3 H2
  go_wp2
  go_ret
  exact ⟨rfl, HF.out⟩
end Go.Proofs.YtohjjgefklhmaaaGreatDoor

namespace Go.Proofs.YtohjjgefklhmaaaGreatDoor
open Go.ChangeShapes Go.WideShapes Go.ChangeAt Go.RowKit
set_option linter.unusedVariables false

set_option maxHeartbeats 1000000 in
set_option maxRecDepth 100000 in
theorem tokensFor_any (v : VS) (n : Int) (w : World) (hv : ValOk v) (a0 : 0 ≤ n) (a1 : n ≤ 1000000) :
    Calls Tryz.prog 150 #[.agg #[.int .i64 v.owner, .int .i64 v.rate, .int .i64 v.tokens, .int .i64 v.shares, .int .i64 v.comm, .int .i64 v.outs, .bool v.jailed, .bool v.inset], .int .i64 n] w fun e w' => e = .returned (.int .i64 (tokensForF v n)) ∧ Below w.heap.size w w' := by
  have HB : Hid (∀ o, Below w.heap.size w (w.alloc o)) := fun o => (Below.refl _ _).alloc (Nat.le_refl _) o
  obtain ⟨h1, h2⟩ := mul_bdE a0 a1 hv.t0 hv.t1
  obtain ⟨t0, t1, s0, s1⟩ := hv
  obtain ⟨R, hR⟩ : ∃ R, tokensForF v n = R := ⟨_, rfl⟩
  rw [hR]
  unfold tokensForF at hR
  obtain ⟨vo, vr, vt, vs, vc, vou, vj, vi⟩ := v
  simp only at *
  by_cases e1 : vs = 0
  · subst e1
    have HR : Hid ((0 : Int) = R) := by rw [← hR, if_pos rfl]; exact rfl
    clear hR
    go_enter Tryz.func150, Tryz.ntmps150
    go_wp2
    go_ret
    exact ⟨ret_int HR.out, HB.out _⟩
  · have e3 : (vs == 0) = false := by simp [e1]
    have e5 : 0 < vs := by omega
    have HR : Hid (n * vt / vs = R) := by rw [← hR, if_neg e1]; exact rfl
    clear e1 hR
    go_enter Tryz.func150, Tryz.ntmps150
    go_wp2
    go_ret
    exact ⟨ret_int HR.out, HB.out _⟩

end Go.Proofs.YtohjjgefklhmaaaGreatDoor
