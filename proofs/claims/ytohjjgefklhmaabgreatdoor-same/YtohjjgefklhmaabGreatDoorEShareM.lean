import Derived.Test.YtohjjgefklhmaabGreatDoorEPayM
namespace Go.Proofs.YtohjjgefklhmaabGreatDoor
open Go.ChangeShapes Go.WideShapes Go.ChangeAt Go.RowKit
set_option linter.unusedVariables false

def sharesForF (v : VS) (amount : Int) : Int := if v.shares = 0 then amount else if v.tokens = 0 then 0 else amount * v.shares / v.tokens
def tokensForF (v : VS) (shares : Int) : Int := if v.shares = 0 then 0 else shares * v.tokens / v.shares
def joinErrF (v : VS) (amount : Int) : Int := if 0 < v.shares ∧ v.tokens = 0 then 7 else if sharesForF v amount < 1 then 8 else if 1000000 < v.shares + sharesForF v amount then 9 else 0
/-- the struct of a validator, as a value -/
def VS.agg (v : VS) : Value := .agg #[.int .i64 v.owner, .int .i64 v.rate, .int .i64 v.tokens, .int .i64 v.shares, .int .i64 v.comm, .int .i64 v.outs, .bool v.jailed, .bool v.inset]
/-- numbers that do not wrap -/
structure ValOk (v : VS) : Prop where
  t0 : 0 ≤ v.tokens
  t1 : v.tokens ≤ 1000000
  s0 : 0 ≤ v.shares
  s1 : v.shares ≤ 1000000
theorem mul_bd {a b : Int} (a0 : 0 ≤ a) (a1 : a ≤ 1000000) (b0 : 0 ≤ b) (b1 : b ≤ 1000000) : 0 ≤ a * b ∧ a * b ≤ 1000000000000 := by
  have h1 := Int.mul_nonneg a0 b0
  have h2 := Int.mul_le_mul a1 b1 b0 (by omega)
  omega
theorem sharesForF_bd {v : VS} (hv : ValOk v) {amount : Int} (a0 : 0 ≤ amount) (a1 : amount ≤ 1000000) : 0 ≤ sharesForF v amount ∧ sharesForF v amount ≤ 1000000000000 := by
  obtain ⟨h1, h2⟩ := mul_bd a0 a1 hv.s0 hv.s1
  have ht := hv.t0
  unfold sharesForF
  split
  · omega
  · split
    · omega
    · refine ⟨Int.ediv_nonneg h1 ht, ?_⟩
      have : amount * v.shares / v.tokens ≤ amount * v.shares := Int.ediv_le_self _ h1
      omega

set_option maxHeartbeats 1000000 in
set_option maxRecDepth 100000 in
theorem sharesFor_any (v : VS) (amount : Int) (w : World) (hv : ValOk v) (a0 : 0 ≤ amount) (a1 : amount ≤ 1000000) :
    Calls Tryz.prog 86 #[.agg #[.int .i64 v.owner, .int .i64 v.rate, .int .i64 v.tokens, .int .i64 v.shares, .int .i64 v.comm, .int .i64 v.outs, .bool v.jailed, .bool v.inset], .int .i64 amount] w fun e w' => e = .returned (.int .i64 (sharesForF v amount)) ∧ Below w.heap.size w w' := by
  have HB : Hid (∀ o, Below w.heap.size w (w.alloc o)) := fun o => (Below.refl _ _).alloc (Nat.le_refl _) o
  obtain ⟨h1, h2⟩ := mul_bd a0 a1 hv.s0 hv.s1
  obtain ⟨t0, t1, s0, s1⟩ := hv
  obtain ⟨R, hR⟩ : ∃ R, sharesForF v amount = R := ⟨_, rfl⟩
  rw [hR]
  unfold sharesForF at hR
  obtain ⟨vo, vr, vt, vs, vc, vou, vj, vi⟩ := v
  simp only at *
  by_cases e1 : vs = 0
  · subst e1
    have HR : Hid (amount = R) := by rw [← hR, if_pos rfl]; exact rfl
    clear hR
    go_enter Tryz.func86, Tryz.ntmps86
    go_wp2
    go_ret
    exact ⟨ret_int HR.out, HB.out _⟩
  · by_cases e2 : vt = 0
    · subst e2
      have e3 : (vs == 0) = false := by simp [e1]
      have HR : Hid ((0 : Int) = R) := by rw [← hR, if_neg e1, if_pos rfl]; exact rfl
      clear e1 hR
      go_enter Tryz.func86, Tryz.ntmps86
      go_wp2
      go_ret
      exact ⟨ret_int HR.out, HB.out _⟩
    · have e3 : (vs == 0) = false := by simp [e1]
      have e4 : (vt == 0) = false := by simp [e2]
      have e5 : 0 < vt := by omega
      have HR : Hid (amount * vs / vt = R) := by rw [← hR, if_neg e1, if_neg e2]; exact rfl
      clear e1 e2 hR
      go_enter Tryz.func86, Tryz.ntmps86
      go_wp2
      go_ret
      exact ⟨ret_int HR.out, HB.out _⟩

set_option maxHeartbeats 2000000 in
set_option maxRecDepth 100000 in
theorem joinError_any (v : VS) (amount : Int) (w : World) (hv : ValOk v) (a0 : 0 ≤ amount) (a1 : amount ≤ 1000000) :
    Calls Tryz.prog 85 #[.agg #[.int .i64 v.owner, .int .i64 v.rate, .int .i64 v.tokens, .int .i64 v.shares, .int .i64 v.comm, .int .i64 v.outs, .bool v.jailed, .bool v.inset], .int .i64 amount] w fun e w' => e = .returned (.int .i64 (joinErrF v amount)) ∧ Below w.heap.size w w' := by
  have HB : Hid (∀ o, Below w.heap.size w (w.alloc o)) := fun o => (Below.refl _ _).alloc (Nat.le_refl _) o
  have HS : Hid (∀ u, Calls Tryz.prog 86 #[.agg #[.int .i64 v.owner, .int .i64 v.rate, .int .i64 v.tokens, .int .i64 v.shares, .int .i64 v.comm, .int .i64 v.outs, .bool v.jailed, .bool v.inset], .int .i64 amount] u fun e w' => e = .returned (.int .i64 (sharesForF v amount)) ∧ Below u.heap.size u w') := fun u => sharesFor_any v amount u hv a0 a1
  obtain ⟨b0, b1⟩ := sharesForF_bd hv a0 a1
  obtain ⟨t0, t1, s0, s1⟩ := hv
  obtain ⟨R, hR⟩ : ∃ R, joinErrF v amount = R := ⟨_, rfl⟩
  rw [hR]
  unfold joinErrF at hR
  generalize sharesForF v amount = b at *
  obtain ⟨vo, vr, vt, vs, vc, vou, vj, vi⟩ := v
  simp only at *
  have HX : Hid (Has (w.alloc (.cells #[.int .i64 vo, .int .i64 vr, .int .i64 vt, .int .i64 vs, .int .i64 vc, .int .i64 vou, .bool vj, .bool vi] 76)) w.heap.size 76 [.int .i64 vo, .int .i64 vr, .int .i64 vt, .int .i64 vs, .int .i64 vc, .int .i64 vou, .bool vj, .bool vi]) := Has.newA w _ _
  by_cases e1 : 0 < vs ∧ vt = 0
  · have HR : Hid ((7 : Int) = R) := by rw [← hR, if_pos e1]; exact rfl
    clear hR
    obtain ⟨e2, rfl⟩ := e1
    go_enter Tryz.func85, Tryz.ntmps85
    go_wp2
    go_ret
    exact ⟨ret_int HR.out, HB.out _⟩
  · rw [if_neg e1] at hR
    have HR0 : Hid ((if b < 1 then 8 else if 1000000 < vs + b then 9 else 0) = R) := hR
    clear hR
    have e3 : vs = 0 ∨ (vs > 0 ∧ (vt == 0) = false) := by
      by_cases h : vs = 0
      · exact .inl h
      · refine .inr ⟨by omega, ?_⟩
        simp; intro h2; exact e1 ⟨by omega, h2⟩
    clear e1
    have key : ∀ w2, Below (w.heap.size + 1) (w.alloc (.cells #[.int .i64 vo, .int .i64 vr, .int .i64 vt, .int .i64 vs, .int .i64 vc, .int .i64 vou, .bool vj, .bool vi] 76)) w2 → w2.cell? ⟨w.heap.size, 3, none⟩ = some (.int .i64 vs) ∧ Below w.heap.size w w2 := by
      intro w2 hb2
      exact ⟨(HX.out.below hb2 (by omega)).cell 3, (HB.out _).trans (hb2.mono (by omega))⟩
    have HK : Hid _ := key
    clear key HX
    rcases e3 with rfl | ⟨e3, e4⟩
    · go_enter Tryz.func85, Tryz.ntmps85
      go_wp2_with fail
      refine (HS.out _).mono ?_
      rintro e w2 ⟨rfl, hb2⟩
      rw [World.size_alloc] at hb2
      obtain ⟨y3, hF⟩ := HK.out w2 hb2
      have HF : Hid (Below w.heap.size w w2) := hF
      clear hb2 hF HK HS
      by_cases q1 : b < 1
      · have HR : Hid ((8 : Int) = R) := by rw [← HR0.out, if_pos q1]; exact rfl
        clear HR0
        go_wp2
        go_ret
        have := HR.out
        exact ⟨ret_int this, HF.out⟩
      · by_cases q2 : 1000000 < 0 + b
        · have HR : Hid ((9 : Int) = R) := by rw [← HR0.out, if_neg q1, if_pos q2]; exact rfl
          clear HR0
          go_wp2
          go_ret
          have := HR.out
          exact ⟨ret_int this, HF.out⟩
        · have HR : Hid ((0 : Int) = R) := by rw [← HR0.out, if_neg q1, if_neg q2]; exact rfl
          clear HR0
          go_wp2
          go_ret
          have := HR.out
          exact ⟨ret_int this, HF.out⟩
    · go_enter Tryz.func85, Tryz.ntmps85
      go_wp2_with fail
      refine (HS.out _).mono ?_
      rintro e w2 ⟨rfl, hb2⟩
      rw [World.size_alloc] at hb2
      obtain ⟨y3, hF⟩ := HK.out w2 hb2
      have HF : Hid (Below w.heap.size w w2) := hF
      clear hb2 hF HK HS
      by_cases q1 : b < 1
      · have HR : Hid ((8 : Int) = R) := by rw [← HR0.out, if_pos q1]; exact rfl
        clear HR0
        go_wp2
        go_ret
        have := HR.out
        exact ⟨ret_int this, HF.out⟩
      · by_cases q2 : 1000000 < vs + b
        · have HR : Hid ((9 : Int) = R) := by rw [← HR0.out, if_neg q1, if_pos q2]; exact rfl
          clear HR0
          go_wp2
          go_ret
          have := HR.out
          exact ⟨ret_int this, HF.out⟩
        · have HR : Hid ((0 : Int) = R) := by rw [← HR0.out, if_neg q1, if_neg q2]; exact rfl
          clear HR0
          go_wp2
          go_ret
          have := HR.out
          exact ⟨ret_int this, HF.out⟩
end Go.Proofs.YtohjjgefklhmaabGreatDoor

namespace Go.Proofs.YtohjjgefklhmaabGreatDoor
open Go.ChangeShapes Go.WideShapes Go.ChangeAt Go.RowKit
set_option linter.unusedVariables false

section
variable {S : Nat → Prop} {W0 : World} (g : Nat) (x : EC) (bv vv ev : Value) (w : World) (h : PE S W0 w g x bv vv ev)
include h

set_option maxHeartbeats 1000000 in
set_option maxRecDepth 100000 in
theorem edueError (k j : Nat) (hk : k < 6) (hv : x.vals.length ≤ 5) (hj : j < x.vals.length) (hs : 1 ≤ x.sh k j) :
    Calls Tryz.prog 55 #[.pointer (some ⟨g, 0, none⟩), .int .i64 k, .int .i64 j] w fun e w' => e = .returned (.int .i64 0) ∧ w = w' := by
  obtain ⟨va, vc, rfl⟩ := ownsRow_slice h.v
  have c7 : w.cell? ⟨g, 7, none⟩ = some (.slice va x.vals.length vc) := h.L.cell 7
  have y := h.shAt hk (j := j) (by omega)
  clear h
  generalize x.sh k j = s at *
  go_enter Tryz.func55, Tryz.ntmps55
  go_wp2_with (go_at_call 84; refine (kval_any g x.vals.length j _ _ _ c7 hj (by omega)).mono ?_; rintro e w' ⟨rfl, rfl⟩)
  go_ret
  exact ⟨rfl, rfl⟩

set_option maxHeartbeats 1000000 in
set_option maxRecDepth 100000 in
theorem eDue (k j : Nat) (hl : x.bal.length ≤ 6) (hk : k < x.bal.length) (hv : x.vals.length ≤ 5) (hj : j < x.vals.length) (hs : 1 ≤ x.sh k j) (hd : DueOk x k j) :
    Calls Tryz.prog 21 #[.pointer (some ⟨g, 0, none⟩), .int .i64 k, .int .i64 j] w fun e w' => e = .returned (.tuple #[.int .i64 (x.due k j), .int .i64 0]) ∧ w' = w.drew := by
  obtain ⟨ba, bc, rfl⟩ := ownsRow_slice h.b
  have c4 : w.cell? ⟨g, 4, none⟩ = some (.slice ba x.bal.length bc) := h.L.cell 4
  have H1 : Hid (Calls Tryz.prog 55 #[.pointer (some ⟨g, 0, none⟩), .int .i64 k, .int .i64 j] w fun e w' => e = .returned (.int .i64 0) ∧ w = w') := edueError g x _ _ _ w h k j (by omega) hv hj hs
  have H2 : Hid (Calls Tryz.prog 56 #[.pointer (some ⟨g, 0, none⟩), .int .i64 k, .int .i64 j] w fun e w' => e = .returned (.int .i64 (x.due k j)) ∧ w' = w.drew) := edue g x _ _ _ w h k j (by omega) (by omega) hd
  clear h hd
  generalize x.due k j = d at *
  go_enter Tryz.func21, Tryz.ntmps21
  go_wp2_with (first | (go_at_call 54; refine (kacc_any g x.bal.length k _ _ _ c4 hk (by omega)).mono ?_; rintro e w' ⟨rfl, rfl⟩) | (go_at_call 55; refine H1.out.mono ?_; rintro e w' ⟨rfl, rfl⟩) | (go_at_call 56; refine H2.out.mono ?_; rintro e w' ⟨rfl, rfl⟩))
  go_ret2
  exact ⟨rfl, rfl⟩

end
end Go.Proofs.YtohjjgefklhmaabGreatDoor

namespace Go.Proofs.YtohjjgefklhmaabGreatDoor
open Go.ChangeShapes Go.WideShapes Go.ChangeAt Go.RowKit
set_option linter.unusedVariables false

section
variable {S : Nat → Prop} {W0 : World} (g : Nat) (x : EC) (bv vv ev : Value) (w : World) (h : PE S W0 w g x bv vv ev)
include h
set_option maxHeartbeats 1000000 in
set_option maxRecDepth 100000 in
theorem eWithdraw (k j : Nat) (hl : x.bal.length ≤ 6) (hk : k < x.bal.length) (hv : x.vals.length ≤ 5) (hj : j < x.vals.length) (hs : 1 ≤ x.sh k j) (hd : DueOk x k j) (o0 : 0 ≤ x.vals[j].outs) (o1 : x.vals[j].outs ≤ 1000000000)
    (hx0 : x.fee ≤ x.balAt k) (hx1 : x.balAt k ≤ 1000000000) (hf0 : 0 ≤ x.fee) (hs0 : 0 ≤ x.fees) (hs1 : x.fees ≤ 1000000000) :
    Calls Tryz.prog 28 #[.pointer (some ⟨g, 0, none⟩), .int .i64 k, .int .i64 j] w fun e w' => e = .returned (.int .i64 0) ∧ PE S W0 w' g (payF (chargeF x k) k j) bv vv ev := by
  have HCh : Hid (Calls Tryz.prog 47 #[.pointer (some ⟨g, 0, none⟩), .int .i64 k] w fun e w' => e = .returned (.int .i64 0) ∧ PE S W0 w' g (chargeF x k) bv vv ev) := echarge g x bv vv ev w h k (by omega) hk hx0 hx1 hf0 hs0 hs1
  have e1 : (chargeF x k).bal.length = x.bal.length := by simp [chargeF]
  have e2 : (chargeF x k).balAt k = x.balAt k - x.fee := by simp [chargeF, EC.balAt, hk]
  have hd' : DueOk (chargeF x k) k j := ⟨hd.u0, hd.up, hd.p1, hd.d0, hd.d1⟩
  have H1 : Hid (∀ w, PE S W0 w g (chargeF x k) bv vv ev → Calls Tryz.prog 55 #[.pointer (some ⟨g, 0, none⟩), .int .i64 k, .int .i64 j] w fun e w' => e = .returned (.int .i64 0) ∧ w = w') := fun w h => edueError g (chargeF x k) _ _ _ w h k j (by omega) hv hj hs
  have H2 : Hid (∀ w, PE S W0 w g (chargeF x k) bv vv ev → Calls Tryz.prog 64 #[.pointer (some ⟨g, 0, none⟩), .int .i64 k, .int .i64 j] w fun e w' => e = .returned (.tuple #[]) ∧ PE S W0 w' g (payF (chargeF x k) k j) bv vv ev) := fun w h => epay g (chargeF x k) _ _ _ w h k j (by omega) (by omega) hv hj hd' o0 o1 (by rw [e2]; omega) (by rw [e2]; omega)
  clear h hd hd' e1 e2
  go_enter Tryz.func28, Tryz.ntmps28
  go_wp2_with fail
  refine HCh.out.mono ?_
  rintro e w1 ⟨rfl, hP1⟩
  have HP1 : Hid (PE S W0 w1 g (chargeF x k) bv vv ev) := hP1
  clear HCh hP1
  go_wp2_with fail
  refine (H1.out _ HP1.out).mono ?_
  rintro e w2 ⟨rfl, rfl⟩
  go_wp2_with fail
  refine (H2.out _ HP1.out).mono ?_
  rintro e w2 ⟨rfl, hP2⟩
  have HP2 : Hid (PE S W0 w2 g (payF (chargeF x k) k j) bv vv ev) := hP2
  clear hP2 HP1 H1 H2
  go_wp2
  go_ret
  exact ⟨rfl, HP2.out⟩
end
end Go.Proofs.YtohjjgefklhmaabGreatDoor
