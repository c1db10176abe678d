import Derived.Test.YtohjjgefklhmaabGreatDoorXDuesM
namespace Go.Proofs.YtohjjgefklhmaabGreatDoor
open Go.ChangeShapes Go.WideShapes Go.ChangeAt Go.RowKit
set_option linter.unusedVariables false

/-- two engines side by side -/
structure Two (W0 w : World) (gx : Nat) (x : EC) (bx vx ex : Value) (gy : Nat) (y : EC) (by' vy ey : Value) : Prop where
  px : PE (fun k => W0.heap.size ≤ k) W0 w gx x bx vx ex
  py : PE (fun k => W0.heap.size ≤ k) W0 w gy y by' vy ey
  ap : ∀ k, Own gx bx vx ex k → ¬ Own gy by' vy ey k
section
variable {W0 w w1 w2 : World} {gx : Nat} {x x' : EC} {bx vx ex ex' : Value} {gy : Nat} {y y' : EC} {by' vy ey : Value}
theorem Two.symm (h : Two W0 w gx x bx vx ex gy y by' vy ey) : Two W0 w gy y by' vy ey gx x bx vx ex :=
  ⟨h.py, h.px, fun k h1 h2 => h.ap k h2 h1⟩
theorem Two.below (h : Two W0 w gx x bx vx ex gy y by' vy ey) (hb : Below w.heap.size w w1) : Two W0 w1 gx x bx vx ex gy y by' vy ey := ⟨h.px.below hb, h.py.below hb, h.ap⟩
theorem Two.fr (h : Two W0 w gx x bx vx ex gy y by' vy ey) : Below W0.heap.size W0 w := h.px.fr.toBelow (Nat.le_refl _) (fun k hk h => by omega)
/-- one of them is called; the other stands -/
theorem Two.left (h : Two W0 w gx x bx vx ex gy y by' vy ey) (hp : PE (fun k => Own gx bx vx ex k ∨ w.heap.size ≤ k) w w1 gx x' bx vx ex') : Two W0 w1 gx x' bx vx ex' gy y by' vy ey := by
  have hin : ∀ k, Own gx bx vx ex k ∨ w.heap.size ≤ k → W0.heap.size ≤ k := by
    rintro k (hk | hk)
    · exact h.px.own k hk
    · exact Nat.le_trans h.px.fr.size hk
  refine ⟨hp.rebase (h.px.fr.trans (hp.fr.mono (fun k _ hs => hin k hs))) (fun k hk => hk) (fun k hk => hin k (hp.own k hk)), h.py.kp hp.fr (fun b hb ho hs => ?_) (fun b hb hs => hin b hs), fun k hk hy => ?_⟩
  · rcases hs with hs | hs
    · exact h.ap b hs ho
    · omega
  · rcases hp.own k hk with hs | hs
    · exact h.ap k hs hy
    · have := h.py.ownlt k hy; omega
theorem Two.begin (hx : PE (fun k => W0.heap.size ≤ k) W0 w1 gx x bx vx ex) (hy : PE (fun k => w1.heap.size ≤ k) w1 w2 gy y by' vy ey) : Two W0 w2 gx x bx vx ex gy y by' vy ey := by
  have hs := hx.fr.size
  refine ⟨hx.kp hy.fr (fun b hb _ h => by omega) (fun b hb h => by omega), hy.rebase (hx.fr.trans (hy.fr.mono (fun k hk h => by omega))) (fun k hk => hk) (fun k hk => ?_), fun k h1 h2 => ?_⟩
  · have := hy.own k hk; omega
  · have := hx.ownlt k h1
    have := hy.own k h2
    omega
end
theorem InvB.sim {x y : EC} (h : Sim x y) (b : InvB x) (b6 : x.bal.length ≤ 6) : InvB y := by
  obtain ⟨eb, ev, ee, eh, ef, ep, et, em, efe⟩ := h.refl'
  exact ⟨by rw [ev, et]; exact b.ins, fun k j hk h6 h5 => by rw [h.sh h6 h5]; rw [eb] at hk; exact b.sh k j hk h6 h5⟩
theorem InvE.sim {x y : EC} (h : Sim x y) (b : InvE x) : InvE y := by
  obtain ⟨eb, ev, ee, eh, ef, ep, et, em, efe⟩ := h.refl'
  exact ⟨by rw [eb]; exact b.b1, by rw [ev]; exact b.v1, by rw [ev, eb]; exact b.ow, fun k j hj h6 h5 => by rw [h.sh h6 h5]; rw [ev] at hj; exact b.sv k j hj h6 h5, by rw [ev, eh, em, ee]; exact b.en⟩
theorem xN_invE {bs os rs : List Int} {top mature fee : Int} (hg : GoodGen bs os rs top mature fee) : InvE (xN bs os rs top mature fee) := by
  obtain ⟨⟨g1, g2, g3, g4⟩, ⟨g5, g6, g7, g8, g9⟩, _⟩ := hg
  have hl : (vs0 os rs).length = os.length := vs0_len' os rs g7
  refine ⟨g1, by show 1 ≤ (vs0 os rs).length; omega, fun o ho => ?_, fun k j _ _ _ => rep0 65 _, ⟨fun e he => by simp [xN] at he, by simp [xN], fun e he => by simp [xN] at he, fun e he => by simp [xN] at he, fun a b => by simp [xN, countE]⟩⟩
  obtain ⟨v, hv, rfl⟩ := List.mem_map.1 ho
  obtain ⟨j, hj, rfl⟩ := List.getElem_of_mem hv
  have hj' : j < os.length := by have : j < (vs0 os rs).length := hj; omega
  have e := vs0_at' os rs j g7 hj'
  have e2 : (vs0 os rs).getD j v0 = (xN bs os rs top mature fee).vals[j] := by
    have hj2 : j < (vs0 os rs).length := hj
    show (vs0 os rs).getD j v0 = (vs0 os rs)[j]'hj2
    rw [List.getD_eq_getElem?_getD, List.getElem?_eq_getElem hj2]; rfl
  rw [← e2, e]
  have e3 : os.getD j 0 = os[j] := by simp [hj']
  simp only [e3]
  have := g8 j os[j] hj' (List.getElem?_eq_getElem hj')
  exact ⟨os[j].toNat, by omega, by show os[j].toNat < bs.length; omega⟩
theorem dRow_congr {s s' : Nat → Nat → Int} (k n : Nat) (h : ∀ j, j < n → s' k j = s k j) : dRow s' k n = dRow s k n := by
  induction n with
  | zero => rfl
  | succ n ih => simp only [dRow]; rw [ih (fun j hj => h j (by omega)), h n (by omega)]
theorem dAll_congr {s s' : Nat → Nat → Int} (nv n : Nat) (h : ∀ k j, k < n → j < nv → s' k j = s k j) : dAll s' nv n = dAll s nv n := by
  induction n with
  | zero => rfl
  | succ n ih => simp only [dAll]; rw [ih (fun k j hk hj => h k j (by omega) hj), dRow_congr n nv (fun j hj => h n j (by omega) hj)]
theorem SeeR.sim {w w' : World} {e : Ending} {x y : EC} (h : Sim x y) (b6 : x.bal.length ≤ 6) (v5 : x.vals.length ≤ 5) (hs : SeeR w w' e y) : SeeR w w' e x := by
  have hd : dAll y.sh x.vals.length x.bal.length = dAll x.sh x.vals.length x.bal.length := dAll_congr _ _ (fun k j hk hj => h.sh (by omega) (by omega))
  obtain ⟨eb, ev, ee, eh, ef, ep, et, em, efe⟩ := h.refl'
  unfold SeeR at hs ⊢
  rw [eb, ev, ee, eh, ef, ep, hd] at hs
  exact hs
end Go.Proofs.YtohjjgefklhmaabGreatDoor
