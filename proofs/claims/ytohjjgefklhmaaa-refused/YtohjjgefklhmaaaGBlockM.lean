import Derived.Test.YtohjjgefklhmaaaGPayEM
namespace Go.Proofs.Ytohjjgefklhmaaa
open Go.ChangeShapes Go.WideShapes Go.ChangeAt Go.RowKit
set_option linter.unusedVariables false

def blkR (x : EC) : Int × EC := if 1000 ≤ x.height then (14, x) else (0, setF (payEF (upF x)))

section
variable {S : Nat → Prop} {W0 : World} (g : Nat) (x : EC) (bv vv ev : Value) (w : World) (h : PE S W0 w g x bv vv ev)
include h
set_option maxHeartbeats 2000000 in
set_option maxRecDepth 100000 in
theorem gBlock (hv : x.vals.length ≤ 5) (hF : FeeOk x) (hh0 : 0 ≤ x.height) (ht0 : 0 ≤ (payEF (upF x)).top) (ht1 : (payEF (upF x)).top ≤ 1000) (hv3 : (payEF (upF x)).vals.length ≤ 1000) (hhs : (shareF x).height = x.height) (hE : x.height < 1000 → EntOk (upF x)) :
    Calls Try.prog 17 #[.pointer (some ⟨g, 0, none⟩)] w fun e w' => e = .returned (.int .i64 (blkR x).1) ∧ ∃ ev', PE S W0 w' g (blkR x).2 bv vv ev' := by
  by_cases hh : 1000 ≤ x.height
  · have e1 : blkR x = (14, x) := by unfold blkR; rw [if_pos hh]
    rw [e1]
    have c3 : w.cell? ⟨g, 3, none⟩ = some (.int .i64 x.height) := h.L.cell 3
    have HP : Hid (PE S W0 w g x bv vv ev) := h
    clear h e1
    go_enter Try.func17, Try.ntmps17
    go_wp2
    go_ret
    exact ⟨rfl, ev, HP.out⟩
  · have e1 : blkR x = (0, setF (payEF (upF x))) := by unfold blkR; rw [if_neg hh]
    rw [e1]
    refine (eBlock g x (payEF (upF x)) bv vv ev w h hv hF hh0 (by omega) ht0 ht1 hv3 hhs (fun _ => True) (fun w1 h1 => (gpayEntries g (upF x) bv vv ev w1 h1 (hE (by omega))).mono ?_)).mono ?_
    · rintro e w2 ⟨rfl, ev', h2⟩
      exact ⟨rfl, ev', trivial, h2⟩
    · rintro e w2 ⟨rfl, ev', _, h2⟩
      exact ⟨rfl, ev', h2⟩

set_option maxHeartbeats 2000000 in
set_option maxRecDepth 100000 in
theorem eCollect (k j : Nat) (ha : AccOk x) (hc : chErr x k = 0) (he : ownErrF (chargeF x k) k j = 0) (hl : x.bal.length ≤ 6) (hk : k < x.bal.length) (hv : x.vals.length ≤ 5) (hj : j < x.vals.length) (k0 : 0 ≤ (x.val j).comm) (k1 : (x.val j).comm ≤ 1000000000) (o0 : 0 ≤ (x.val j).outs) (o1 : (x.val j).outs ≤ 1000000000) (b0 : 0 ≤ (chargeF x k).balAt k) (b1 : (chargeF x k).balAt k ≤ 1000000000) :
    Calls Try.prog 30 #[.pointer (some ⟨g, 0, none⟩), .int .i64 k, .int .i64 j] w fun e w' => e = .returned (.int .i64 0) ∧ PE S W0 w' g (collF (chargeF x k) k j) bv vv ev := by
  have HC : Hid (Calls Try.prog 44 #[.pointer (some ⟨g, 0, none⟩), .int .i64 k] w fun e w' => e = .returned (.int .i64 0) ∧ PE S W0 w' g (chargeF x k) bv vv ev) := gcharge_yes g x bv vv ev w h k ha hc
  have HE : Hid (∀ w, PE S W0 w g (chargeF x k) bv vv ev → Calls Try.prog 59 #[.pointer (some ⟨g, 0, none⟩), .int .i64 k, .int .i64 j] w fun e w' => e = .returned (.int .i64 0) ∧ w = w') := fun w hw => by
    have := gownerError g (chargeF x k) bv vv ev w hw k j hv
    rw [he] at this
    exact this
  have HA : Hid (∀ w, PE S W0 w g (chargeF x k) bv vv ev → Calls Try.prog 60 #[.pointer (some ⟨g, 0, none⟩), .int .i64 k, .int .i64 j] w fun e w' => e = .returned (.tuple #[]) ∧ PE S W0 w' g (collF (chargeF x k) k j) bv vv ev) := fun w hw => gpayComm g _ _ _ _ w hw k j (by simp only [chargeF, List.length_set]; exact hl) (by simp only [chargeF, List.length_set]; exact hk) hv hj k0 k1 o0 o1 b0 b1
  clear h he
  go_enter Try.func30, Try.ntmps30
  go_wp2_with fail
  refine HC.out.mono ?_
  rintro e w1 ⟨rfl, hP⟩
  have HP : Hid (PE S W0 w1 g (chargeF x k) bv vv ev) := hP
  clear hP HC
  go_wp2_with fail
  refine (HE.out _ HP.out).mono ?_
  rintro e w2 ⟨rfl, rfl⟩
  clear HE
  go_wp2_with fail
  refine (HA.out _ HP.out).mono ?_
  rintro e w3 ⟨rfl, hP3⟩
  have HP3 : Hid (PE S W0 w3 g (collF (chargeF x k) k j) bv vv ev) := hP3
  clear hP3 HP HA
  go_wp2
  go_ret
  exact ⟨rfl, HP3.out⟩

set_option maxHeartbeats 2000000 in
set_option maxRecDepth 100000 in
theorem gSpend (dst a : Int) (ha : AccOk x) :
    Calls Try.prog 28 #[.pointer (some ⟨g, 0, none⟩), .int .i64 dst, .int .i64 a] w fun e w' => e = .returned (.int .i64 (spendR x dst a).1) ∧ PE S W0 w' g (spendR x dst a).2 bv vv ev := by
  have hl := ha.l1
  have p0 := ha.p0
  have p1 := ha.p1
  have c6 : w.cell? ⟨g, 6, none⟩ = some (.int .i64 x.pool) := h.L.cell 6
  have f6 := h.L.frozen 6
  obtain ⟨ba, bc, rfl⟩ := ownsRow_slice h.b
  have c4 : w.cell? ⟨g, 4, none⟩ = some (.slice ba x.bal.length bc) := h.L.cell 4
  have HT : Hid (Calls Try.prog 54 #[.pointer (some ⟨g, 0, none⟩), .int .i64 x.pool, .int .i64 dst, .int .i64 a] w fun e w' => e = .returned (.int .i64 (transR x.bal.length x.pool dst a)) ∧ w = w') := gtransfer g _ _ dst a _ _ w c4 (by omega)
  by_cases ht : transR x.bal.length x.pool dst a = 0
  case neg =>
    have e1 : spendR x dst a = (transR x.bal.length x.pool dst a, x) := by unfold spendR; rw [if_pos ht]
    rw [e1]
    have ht' : (transR x.bal.length x.pool dst a == 0) = false := by simp [ht]
    have HP : Hid (PE S W0 w g x (.slice ba x.bal.length bc) vv ev) := h
    clear h e1 ht
    generalize transR x.bal.length x.pool dst a = te at *
    go_enter Try.func28, Try.ntmps28
    go_wp2_with (go_at_call 54; refine HT.out.mono ?_; rintro e w' ⟨rfl, rfl⟩)
    go_ret
    exact ⟨rfl, HP.out⟩
  have e1 : spendR x dst a = (0, { x with pool := x.pool - a, bal := x.bal.set dst.toNat (x.balAt dst.toNat + a) }) := by unfold spendR; rw [if_neg (by simp [ht])]
  rw [e1]
  rw [ht] at HT
  obtain ⟨t, rfl, htl, a1, a2⟩ := transR_ok ht
  rw [Int.toNat_natCast]
  obtain ⟨gb, rfl, _⟩ := ownsRow_some h.b (by omega)
  have cb := h.balAt' htl
  have fb := h.b.frozenAt t
  have n1 : g ≠ gb := fun e => Has.apart h.L h.b (by decide) (by rw [e]; rfl)
  have n2 : gb ≠ g := fun e => n1 e.symm
  obtain ⟨b0, b1⟩ := ha.b t htl
  have hP1 := h.setHead (x' := { x with pool := x.pool - a }) 6 (.int .i64 (x.pool - a)) rfl rfl rfl rfl rfl
  have hP2 := hP1.setBal rfl t (x.balAt t + a)
  have HF : Hid (PE S W0 ((w.setCell ⟨g, 6, none⟩ (.int .i64 (x.pool - a))).setCell ⟨gb, t, none⟩ (.int .i64 (x.balAt t + a))) g { x with pool := x.pool - a, bal := x.bal.set t (x.balAt t + a) } (.slice (some ⟨gb, 0, none⟩) x.bal.length bc) vv ev) := hP2
  clear h hP1 hP2 e1 ht ha
  generalize hby : x.balAt t = y at *
  clear hby
  go_enter Try.func28, Try.ntmps28
  go_wp2_with (go_at_call 54; refine HT.out.mono ?_; rintro e w' ⟨rfl, rfl⟩)
  all_goals try go_region
  all_goals try go_wp2
  all_goals try go_region
  all_goals try go_wp2
  go_ret
  exact ⟨rfl, HF.out.eta rfl rfl rfl rfl⟩
end
end Go.Proofs.Ytohjjgefklhmaaa
