import Derived.Test.YtenjjneobkodbaaGreatLSend
namespace Go.Proofs.YtenjjneobkodbaaGreat
open Go.ChangeShapes Go.WideShapes Go.ChangeAt Go.RowKit
set_option linter.unusedVariables false

/-- the program's engine and its balances in memory, where nobody has shares (dv: nothing; ev: the entries) -/
structure PCore (w : World) (g : Nat) (c : LC) (bv vv dv ev : Value) : Prop where
  L : Has w g 105 [.int .i64 c.top, .int .i64 c.mature, .int .i64 c.fee, .int .i64 c.height, bv, .int .i64 c.fees, .int .i64 c.pool, vv, .int .i64 0, .int .i64 0, .int .i64 0, .int .i64 0, .int .i64 0, .int .i64 0, .int .i64 0, .int .i64 0, .int .i64 0, .int .i64 0, .int .i64 0, .int .i64 0, .int .i64 0, .int .i64 0, .int .i64 0, .int .i64 0, .int .i64 0, .int .i64 0, .int .i64 0, .int .i64 0, .int .i64 0, .int .i64 0, .int .i64 0, .int .i64 0, .int .i64 0, .int .i64 0, .int .i64 0, .int .i64 0, .int .i64 0, .int .i64 0, ev]
  b : w.ownsRow 0 3 1 bv c.bal.length (ints c.bal)
theorem PCore.setBal {w : World} {g gb n cap : Nat} {c : LC} {vv dv ev : Value} (h : PCore w g c (.slice (some ⟨gb, 0, none⟩) n cap) vv dv ev) (hn : n = c.bal.length) (k : Nat) (x : Int) :
    PCore (w.setCell ⟨gb, k, none⟩ (.int .i64 x)) g (setB c k x) (.slice (some ⟨gb, 0, none⟩) n cap) vv dv ev := by
  subst hn
  have hne : g ≠ gb := fun e => Has.apart h.L h.b (by decide) (by rw [e]; rfl)
  refine ⟨h.L.other _ _ hne, ?_⟩
  have := (h.b.stored k (.int .i64 x)).1
  rw [ints_set] at this
  simpa [setB] using this
theorem PCore.drewN {w : World} {g : Nat} {c : LC} {bv vv dv ev : Value} (h : PCore w g c bv vv dv ev) (n : Nat) : PCore (w.drewN n) g c bv vv dv ev := ⟨h.L, h.b⟩
theorem PCore.drew {w : World} {g : Nat} {c : LC} {bv vv dv ev : Value} (h : PCore w g c bv vv dv ev) : PCore w.drew g c bv vv dv ev := ⟨h.L, h.b⟩
theorem PCore.setFees {w : World} {g : Nat} {c : LC} {bv vv dv ev : Value} (h : PCore w g c bv vv dv ev) (x : Int) : PCore (w.setCell ⟨g, 5, none⟩ (.int .i64 x)) g { c with fees := x } bv vv dv ev :=
  ⟨h.L.set 5 _, ownsRow_setCell h.b _ _ (fun e => Has.apart h.L h.b (by decide) e.symm)⟩
theorem PCore.setPool {w : World} {g : Nat} {c : LC} {bv vv dv ev : Value} (h : PCore w g c bv vv dv ev) (x : Int) : PCore (w.setCell ⟨g, 6, none⟩ (.int .i64 x)) g { c with pool := x } bv vv dv ev :=
  ⟨h.L.set 6 _, ownsRow_setCell h.b _ _ (fun e => Has.apart h.L h.b (by decide) e.symm)⟩


set_option maxHeartbeats 1000000 in
set_option maxRecDepth 100000 in
theorem hasAcc_any (g : Nat) (c : LC) (bv vv dv ev : Value) (a : Int) (w : World) (h : PCore w g c bv vv dv ev) (hl : c.bal.length ≤ 1000) :
    Calls Tryz.prog 108 #[.pointer (some ⟨g, 0, none⟩), .int .i64 a] w fun e w' => e = .returned (.bool (inN a 0 ((c.bal.length : Int) - 1))) ∧ w = w' := by
  obtain ⟨ba, bc, rfl⟩ := ownsRow_slice h.b
  have c4 : w.cell? ⟨g, 4, none⟩ = some (.slice ba c.bal.length bc) := h.L.cell 4
  clear h
  by_cases h0 : 0 ≤ a
  case neg =>
    rw [inN_lo h0]
    go_enter Tryz.func108, Tryz.ntmps108
    go_wp2
    go_ret
    exact ⟨rfl, rfl⟩
  by_cases h1 : a < (c.bal.length : Int)
  case neg =>
    rw [inN_hi (by omega)]
    go_enter Tryz.func108, Tryz.ntmps108
    go_wp2
    go_ret
    exact ⟨rfl, rfl⟩
  rw [inN_tt h0 (by omega)]
  go_enter Tryz.func108, Tryz.ntmps108
  go_wp2
  go_ret
  exact ⟨rfl, rfl⟩

set_option maxHeartbeats 4000000 in
set_option maxRecDepth 100000 in
theorem pcharge_any (g : Nat) (c : LC) (bv vv dv ev : Value) (who : Int) (w : World) (h : PCore w g c bv vv dv ev) (hb : LBd c) :
    Calls Tryz.prog 82 #[.pointer (some ⟨g, 0, none⟩), .int .i64 who] w fun e w' => e = .returned (.int .i64 (chargeF c who).1) ∧ PCore w' g (chargeF c who).2 bv vv dv ev ∧ Kp (LS g bv) w w' := by
  have HC : Hid (PCore w g c bv vv dv ev) := h
  have hlen := hb.len
  by_cases hin : inN who 0 ((c.bal.length : Int) - 1) = true
  case neg =>
    have hin' : inN who 0 ((c.bal.length : Int) - 1) = false := by simpa using hin
    rw [chargeF_no hin']
    clear h hb hin
    go_enter Tryz.func82, Tryz.ntmps82
    go_wp2_with (go_at_call 108; refine (hasAcc_any g c bv vv dv ev _ _ HC.out hlen).mono ?_; rintro e w' ⟨rfl, rfl⟩)
    go_ret
    exact ⟨rfl, HC.out, Kp.refl _ _⟩
  obtain ⟨q1, q2⟩ := inN_iff.1 hin
  obtain ⟨k, rfl⟩ := Int.eq_ofNat_of_zero_le q1
  have hk : k < c.bal.length := by omega
  obtain ⟨ba, bc, rfl⟩ := ownsRow_slice h.b
  obtain ⟨gb, rfl, _⟩ := ownsRow_some h.b (by omega)
  have c4 : w.cell? ⟨g, 4, none⟩ = some (.slice (some ⟨gb, 0, none⟩) c.bal.length bc) := h.L.cell 4
  have c2 : w.cell? ⟨g, 2, none⟩ = some (.int .i64 c.fee) := h.L.cell 2
  have c5 : w.cell? ⟨g, 5, none⟩ = some (.int .i64 c.fees) := h.L.cell 5
  have f5 := h.L.frozen 5
  have hgne : g ≠ gb := fun e => Has.apart h.L h.b (by decide) (by rw [e]; rfl)
  have hgne' : gb ≠ g := fun e => hgne e.symm
  have hgd : c.bal.getD k 0 = c.bal[k] := by simp [List.getD, hk]
  have cb : w.cell? ⟨gb, k, none⟩ = some (.int .i64 (c.bal.getD k 0)) := by
    rw [h.b.cellAt k (by omega)]; simp [ints, hk]
  have fb := h.b.frozenAt k
  have hbk := hb.bal k hk
  rw [← hgd] at hbk
  obtain ⟨hb0, hb1⟩ := hbk
  have hf0 := hb.fee0
  have hf1 := hb.fee1
  have hs0 := hb.fees0
  have hs1 := hb.fees1
  clear hgd
  by_cases hpoor : c.bal.getD k 0 < c.fee
  · rw [chargeF_poor hin hpoor]
    generalize c.bal.getD k 0 = x at *
    clear h hb
    go_enter Tryz.func82, Tryz.ntmps82
    go_wp2_with (go_at_call 108; refine (hasAcc_any g c _ vv dv ev _ _ HC.out hlen).mono ?_; rintro e w' ⟨rfl, rfl⟩)
    go_quiet (fail)
    go_wp2
    go_ret
    exact ⟨rfl, HC.out.drewN _, (Kp.refl _ _).drewN _⟩
  · rw [chargeF_yes hin hpoor]
    have HF : Hid (PCore ((w.setCell ⟨gb, k, none⟩ (.int .i64 (c.bal.getD k 0 - c.fee))).setCell ⟨g, 5, none⟩ (.int .i64 (c.fees + c.fee))) g { setB c k (c.bal.getD k 0 - c.fee) with fees := c.fees + c.fee } (.slice (some ⟨gb, 0, none⟩) c.bal.length bc) vv dv ev) :=
      (h.setBal rfl k _).setFees _
    have HK : Hid (Kp (LS g (.slice (some ⟨gb, 0, none⟩) c.bal.length bc)) w ((w.setCell ⟨gb, k, none⟩ (.int .i64 (c.bal.getD k 0 - c.fee))).setCell ⟨g, 5, none⟩ (.int .i64 (c.fees + c.fee)))) :=
      ((Kp.refl _ w).setCell (p := ⟨gb, k, none⟩) (.inr rfl) _).setCell (p := ⟨g, 5, none⟩) (.inl rfl) _
    generalize c.bal.getD k 0 = x at *
    clear h hb
    go_enter Tryz.func82, Tryz.ntmps82
    go_wp2_with (go_at_call 108; refine (hasAcc_any g c _ vv dv ev _ _ HC.out hlen).mono ?_; rintro e w' ⟨rfl, rfl⟩)
    go_quiet (fail)
    go_wp2
    go_region
    go_wp2
    go_region
    go_wp2
    go_ret
    exact ⟨rfl, ⟨HF.out.L, HF.out.b⟩, ⟨HK.out.os, HK.out.tape, HK.out.output, HK.out.size, HK.out.block⟩⟩
end Go.Proofs.YtenjjneobkodbaaGreat
