import Derived.Test.YtohjjgefklhmaaaELaw3M
namespace Go.Proofs.Ytohjjgefklhmaaa
open Go.ChangeShapes Go.WideShapes Go.ChangeAt Go.RowKit
set_option linter.unusedVariables false

/-- two engines side by side -/
structure Two (W0 w : World) (gx : Nat) (x : EC) (bx vx ex : Value) (gy : Nat) (y : EC) (by' vy ey : Value) : Prop where
  px : PE (fun k => W0.heap.size ≤ k) W0 w gx x bx vx ex
  py : PE (fun k => W0.heap.size ≤ k) W0 w gy y by' vy ey
  ap : ∀ k, Own gx bx vx ex k → ¬ Own gy by' vy ey k
theorem Two.symm {W0 w : World} {gx : Nat} {x : EC} {bx vx ex : Value} {gy : Nat} {y : EC} {by' vy ey : Value} (h : Two W0 w gx x bx vx ex gy y by' vy ey) : Two W0 w gy y by' vy ey gx x bx vx ex :=
  ⟨h.py, h.px, fun k h1 h2 => h.ap k h2 h1⟩
theorem Two.onX {W0 w : World} {gx : Nat} {x x' : EC} {bx vx ex ex' : Value} {gy : Nat} {y : EC} {by' vy ey : Value} (h : Two W0 w gx x bx vx ex gy y by' vy ey) {fn : FuncId} {args : Array Value} {Q : Ending → Prop}
    (hc : ∀ S W, PE S W w gx x bx vx ex → Calls Try.prog fn args w fun e w' => Q e ∧ PE S W w' gx x' bx vx ex') :
    Calls Try.prog fn args w fun e w' => Q e ∧ Two W0 w' gx x' bx vx ex' gy y by' vy ey := by
  refine (hc _ _ h.px.rest).mono ?_
  rintro e w' ⟨hq, hp⟩
  have hin : ∀ k, Own gx bx vx ex k ∨ w.heap.size ≤ k → W0.heap.size ≤ k := by
    rintro k (hk | hk)
    · exact h.px.own k hk
    · exact Nat.le_trans h.px.fr.size hk
  refine ⟨hq, hp.rebase (h.px.fr.trans (hp.fr.mono (fun k _ hs => hin k hs))) (fun k hk => hk) (fun k hk => hin k (hp.own k hk)), h.py.kp hp.fr (fun b hb ho hs => ?_) (fun b hb hs => hin b hs), fun k hk hy => ?_⟩
  · rcases hs with hs | hs
    · exact h.ap b hs ho
    · omega
  · rcases hp.own k hk with hs | hs
    · exact h.ap k hs hy
    · have := h.py.ownlt k hy; omega
theorem Two.onY {W0 w : World} {gx : Nat} {x : EC} {bx vx ex : Value} {gy : Nat} {y y' : EC} {by' vy ey ey' : Value} (h : Two W0 w gx x bx vx ex gy y by' vy ey) {fn : FuncId} {args : Array Value} {Q : Ending → Prop}
    (hc : ∀ S W, PE S W w gy y by' vy ey → Calls Try.prog fn args w fun e w' => Q e ∧ PE S W w' gy y' by' vy ey') :
    Calls Try.prog fn args w fun e w' => Q e ∧ Two W0 w' gx x bx vx ex gy y' by' vy ey' :=
  (h.symm.onX hc).mono fun e w' ⟨h1, h2⟩ => ⟨h1, h2.symm⟩
theorem Two.begin {W0 w1 w2 : World} {gx : Nat} {x : EC} {bx vx ex : Value} {gy : Nat} {y : EC} {by' vy ey : Value} (hx : PE (fun k => W0.heap.size ≤ k) W0 w1 gx x bx vx ex) (hy : PE (fun k => w1.heap.size ≤ k) w1 w2 gy y by' vy ey) : Two W0 w2 gx x bx vx ex gy y by' vy ey := by
  have hs := hx.fr.size
  refine ⟨hx.kp hy.fr (fun b hb _ h => by omega) (fun b hb h => by omega), hy.rebase (hx.fr.trans (hy.fr.mono (fun k hk h => by omega))) (fun k hk => hk) (fun k hk => ?_), fun k h1 h2 => ?_⟩
  · have := hy.own k hk; omega
  · have := hx.ownlt k h1
    have := hy.own k h2
    omega

section
variable {S : Nat → Prop} {W0 w : World} {g : Nat} {bv vv ev : Value} {x : EC} {h f P r t c o : Int} {ins : Bool} {p : Int}
theorem lwith (H : PE S W0 w g x bv vv ev) (q : EQ x h f P r t c o ins p) {k : Nat} (hk : k < 4) {b s u : Int} (ha : acct x k = (b, s, u)) (s0 : 1 ≤ s) (u0 : 0 ≤ u) (up : u ≤ p) (p1 : p ≤ 4000000000000000000) (d1 : s * (p - u) ≤ 4611686018427387904) (o0 : 0 ≤ o) (o1 : o ≤ 1000000) (b0 : 90 ≤ b) (b1 : b ≤ 1000000) (f0 : 0 ≤ f) (f1 : f ≤ 1000000) :
    Calls Try.prog 23 #[.pointer (some ⟨g, 0, none⟩), .int .i64 k, .int .i64 (0 : Nat)] w fun e w' => e = .returned (.int .i64 0) ∧ PE S W0 w' g (payF (chargeF x k) k 0) bv vv ev := by
  obtain ⟨e1, e2, e3⟩ := acct_parts ha
  refine eWithdraw g x bv vv ev w H k 0 (by rw [q.bl]; omega) (by rw [q.bl]; exact hk) (by rw [q.len]; omega) (by rw [q.len]; omega) (by rw [e2]; exact s0) ⟨by rw [e3]; omega, by rw [e3, q.per]; exact up, by rw [q.per]; omega, ?_, ?_⟩ (by rw [x.val_eq (by rw [q.len]; omega), q.val0]; exact o0) (by rw [x.val_eq (by rw [q.len]; omega), q.val0]; show o ≤ _; omega) (by rw [q.fee, e1]; exact b0) (by rw [e1]; omega) (by rw [q.fee]; omega) (by rw [q.ff]; exact f0) (by rw [q.ff]; omega)
  · rw [e2, e3, q.per]; exact Int.mul_nonneg (by omega) (by omega)
  · rw [e2, e3, q.per]; exact d1
theorem EQ.with (q : EQ x h f P r t c o ins p) {k : Nat} (hk : k < 4) {b s u : Int} (ha : acct x k = (b, s, u)) : EQ (payF (chargeF x k) k 0) h (f + 90) P r t c (o - s * (p - u) / 1073741824) ins p ∧ acct (payF (chargeF x k) k 0) k = (b - 90 + s * (p - u) / 1073741824, s, p) := by
  obtain ⟨e1, e2, e3⟩ := acct_parts ha
  have hd : (chargeF x k).due k 0 = s * (p - u) / 1073741824 := by
    show x.due k 0 = _
    unfold EC.due; rw [e2, e3, q.per]
  have h1 := (q.charge k).pay hk
  have h2 := (q.charge k).pay_at hk (q.charge_at hk ha)
  rw [hd] at h1 h2
  exact ⟨h1, h2⟩
end
end Go.Proofs.Ytohjjgefklhmaaa
