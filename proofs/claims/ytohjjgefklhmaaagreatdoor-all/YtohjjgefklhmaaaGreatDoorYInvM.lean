import Derived.Test.YtohjjgefklhmaaaGreatDoorTChooseM
import Derived.Test.YtohjjgefklhmaaaGreatDoorReadsM
import Derived.Test.YtohjjgefklhmaaaGreatDoorXAddM
namespace Go.Proofs.YtohjjgefklhmaaaGreatDoor
open Go.ChangeShapes Go.WideShapes Go.ChangeAt Go.RowKit
set_option linter.unusedVariables false
set_option linter.unusedSimpArgs false
set_option maxHeartbeats 40000000
set_option maxRecDepth 100000
variable {x cx cy cl : EC} {F F' S : Nat -> Prop} {w w' : World} {g nh i ge gx gy gl n k : Nat} {bv vv ev b v d e hv hv' : Value} {mk : Int} {lab lab' : Nat -> Nat × Nat} {t : Nat × Nat} {hcs : List Value}
structure AB (x : EC) : Prop where
 fine : Bl x
 ib : DK x
 ie : CP x
theorem AB.el (h : AB x) : x.ents.length <= 120 := Kh h.fine h.ie
theorem AB.okx (h : AB x) : Ok x.height x := h.fine
theorem AB.vb (h : AB x) : VB x.vals := h.okx.feeOk.vb
theorem AB.eb (h : AB x) : EB x.ents := fun k hk => ⟨(h.okx.ent _ (List.getElem_mem hk)).a0, h.okx.bds.2.2.2.2 k hk⟩
def Bh (F : Nat -> Prop) (w : World) (g : Nat) (x : EC) : Prop :=
 ∃ bv vv ev, PE (fun k => Own g bv vv ev k ∨ w.heap.size <= k) w w g x bv vv ev ∧ ∀ k, Own g bv vv ev k -> F k
theorem Bh.move (h : Bh F w g x) (k : Kp S w w') (hF : ∀ b, b < w.heap.size -> F b -> ¬ S b ∧ F' b) : Bh F' w' g x := by
 obtain ⟨bv, vv, ev, hP, hO⟩ := h
 have hG : ∀ b, Own g bv vv ev b -> ¬ S b ∧ F' b := fun b hb => hF b (hP.ownlt b hb) (hO b hb)
 refine ⟨bv, vv, ev, ⟨Kp.refl _ _, fun k hk => .inr hk, .inl (.inl rfl), hP.L.kp k (hG g (.inl rfl)).1, hP.ht, Al hP.b k (fun b hb => (hG b (.inr (.inl hb))).1), Al hP.v k (fun b hb => (hG b (.inr (.inr (.inl hb)))).1), Al hP.e k (fun b hb => (hG b (.inr (.inr (.inr hb)))).1), fun k hk => .inl (.inr (.inl hk)), fun k hk => .inl (.inr (.inr (.inl hk))), fun k hk => .inl (.inr (.inr (.inr hk)))⟩, fun b hb => (hG b hb).2⟩
theorem Bh.back {bv' vv' : Value} (hO : ∀ k, Own g bv vv ev k -> F k) (h : Eng (fun k => Own g bv vv ev k ∨ w.heap.size <= k) w w' g x bv' vv') : Bh (fun k => F k ∨ w.heap.size <= k) w' g x ∧ Kp F w w' := by
 obtain ⟨ev', h⟩ := h
 exact ⟨⟨bv', vv', ev', h.rest, fun k hk => (h.own k hk).imp_left (hO k)⟩, h.fr.mono (fun k hk hs => hs.elim (hO k) (fun h => absurd h (by omega)))⟩
def Bj (F : Nat -> Prop) (w : World) (g : Nat) (x : EC) : Prop := ∃ bv vv dv ev ds, LF F w w g (Ay x) bv vv dv ev x.vals ds x.ents ∧ A8 x ds
theorem Bj.move (h : Bj F w g x) (k : Kp S w w') (hF : ∀ b, b < w.heap.size -> F b -> ¬ S b ∧ F' b) : Bj F' w' g x := by
 obtain ⟨bv, vv, dv, ev, ds, hL, t⟩ := h
 have hl : ∀ b, b < w.heap.size -> LB F w b -> ¬ S b ∧ F' b := fun b hb h => hF b hb (h.elim id (fun h => absurd h (by omega)))
 have gb := fun b hb => hl b (hL.C.b.lt b hb).2 (hL.fb b hb)
 have gv := fun b hb => hl b (hL.v.lt b hb).2 (hL.fv b hb)
 have gd := fun b hb => hl b (hL.d.lt b hb).2 (hL.fd b hb)
 have gE := fun b hb => hl b (hL.e.lt b hb).2 (hL.fe b hb)
 have gp := fun i (hi : i < ds.length) b hb => hl b ((hL.p i hi).lt b hb).2 (hL.fp i hi b hb)
 have gg := hl g hL.C.L.lt hL.fg
 exact ⟨bv, vv, dv, ev, ds, ⟨Kp.refl _ _, .inl gg.2, fun b hb => .inl (gb b hb).2, fun b hb => .inl (gv b hb).2, fun b hb => .inl (gd b hb).2, fun b hb => .inl (gE b hb).2, fun i hi b hb => .inl (gp i hi b hb).2,
  ⟨hL.C.L.kp k gg.1, Al hL.C.b k (fun b hb => (gb b hb).1)⟩, Al hL.v k (fun b hb => (gv b hb).1), Al hL.d k (fun b hb => (gd b hb).1), fun i hi => Al (hL.p i hi) k (fun b hb => (gp i hi b hb).1), Al hL.e k (fun b hb => (gE b hb).1)⟩, t⟩
theorem Bj.back {dv : Value} {ds : List (DA × Value)} (h : LF F w w' g (Ay x) bv vv dv ev x.vals ds x.ents) (t : A8 x ds) : Bj (fun k => F k ∨ w.heap.size <= k) w' g x ∧ Kp F w w' :=
 ⟨⟨bv, vv, dv, ev, ds, ⟨Kp.refl _ _, .inl h.fg, fun b hb => .inl (h.fb b hb), fun b hb => .inl (h.fv b hb), fun b hb => .inl (h.fd b hb), fun b hb => .inl (h.fe b hb), fun i hi b hb => .inl (h.fp i hi b hb), h.C, h.v, h.d, h.p, h.e⟩, t⟩, h.fr.mono (fun k hk hs => hs.elim id (fun h => absurd h (by omega)))⟩
def VwX (x : EC) : ViewS := { height := x.height, bal := x.bal, fees := x.fees, pool := x.pool, bonded := Ad x.vals, loose := AI x.vals + B2 x.ents, vals := x.vals, dels := Bz x.sh x.vals.length x.bal.length, ents := x.ents }
theorem Bj.rd (h : Bj F w g x) (hx : AB x) : EO w g (VwX x) := by
 obtain ⟨bv, vv, dv, ev, ds, hL, t⟩ := h
 exact hL.rd _ rfl rfl rfl rfl rfl (t.see hx.okx.v5) rfl
theorem Qq (h : Bh F w g x) (hx : AB x) :
  Calls Tryz.prog 42 #[.pointer (some ⟨g, 0, none⟩)] w fun e w' => JS w w' e (VwX x) := by
 obtain ⟨bv, vv, ev, hP, hO⟩ := h
 refine (SJ g x bv vv _ w hP hx.vb hx.eb hx.okx.b6 hx.okx.v5 (by have := hx.el; omega)).mono ?_
 rintro e w' ⟨sb, sv, sd, se, rfl, h1, h2, h3, h4, h5⟩
 exact ⟨sb, sv, sd, se, rfl, h1, h2, h4, h3, h5⟩
def FG (w : World) (lab : Nat -> Nat × Nat) (t : Nat × Nat) (nh : Nat) (hcs : List Value) : Prop :=
 ∀ j, j < nh -> ∃ b v d e mk bh, hcs[j * 6]? = some b ∧ hcs[j * 6 + 1]? = some v ∧ hcs[j * 6 + 2]? = some d ∧ hcs[j * 6 + 3]? = some e ∧ hcs[j * 6 + 4]? = some (.int .i64 mk) ∧ hcs[j * 6 + 5]? = some (.int .i64 bh) ∧
  VOk w b v d e mk bh ∧ ∀ k, b.ownBlock = some k ∨ v.ownBlock = some k ∨ d.ownBlock = some k ∨ e.ownBlock = some k -> k < w.heap.size ∧ lab k = t
theorem VOk.kp {bh : Int} (h : VOk w b v d e mk bh) (k : Kp S w w') (ho : ∀ x, b.ownBlock = some x ∨ v.ownBlock = some x ∨ d.ownBlock = some x ∨ e.ownBlock = some x -> ¬ S x) : VOk w' b v d e mk bh := by
 obtain ⟨h1, h2, h3, h4, n1, n2, n3, n4, q1, q2, q3, q4⟩ := h
 exact ⟨h1, h2, h3, h4, n1, n2, n3, n4, q1.kp k (fun a n c e => ho _ (.inl (by rw [e]; rfl))), q2.kp k (fun a n c e => ho _ (.inr (.inl (by rw [e]; rfl)))), q3.kp k (fun a n c e => ho _ (.inr (.inr (.inl (by rw [e]; rfl))))), q4.kp k (fun a n c e => ho _ (.inr (.inr (.inr (by rw [e]; rfl)))))⟩
theorem FG.move (h : FG w lab t nh hcs) (k : Kp S w w') (hF : ∀ b, b < w.heap.size -> lab b = t -> ¬ S b ∧ lab' b = t) : FG w' lab' t nh hcs := by
 intro j hj
 obtain ⟨b, v, d, e, mk, bh, q0, q1, q2, q3, q4, q5, hV, hL⟩ := h j hj
 exact ⟨b, v, d, e, mk, bh, q0, q1, q2, q3, q4, q5, hV.kp k (fun x hx => (hF x (hL x hx).1 (hL x hx).2).1), fun x hx => ⟨Nat.lt_of_lt_of_le (hL x hx).1 k.size, (hF x (hL x hx).1 (hL x hx).2).2⟩⟩
structure EI (w : World) (lab : Nat -> Nat × Nat) (i ge gx gy gl : Nat) (hv : Value) (nh : Nat) (hcs : List Value) (mk : Int) (cx cy cl : EC) : Prop where
 E : Has w ge 54 [.pointer (some ⟨gx, 0, none⟩), .pointer (some ⟨gy, 0, none⟩), .pointer (some ⟨gl, 0, none⟩), hv, .int .i64 mk]
 le : lab ge = (i, 4)
 X : Bh (fun k => lab k = (i, 1)) w gx cx
 Y : Bh (fun k => lab k = (i, 2)) w gy cy
 L : Bj (fun k => lab k = (i, 3)) w gl cl
 rh : w.ownsRow 0 96 6 hv nh hcs
 lh : ∀ k, hv.ownBlock = some k -> lab k = (i, 4)
 held : FG w lab (i, 5) nh hcs
theorem EI.move (h : EI w lab i ge gx gy gl hv nh hcs mk cx cy cl) (k : Kp S w w') (hF : ∀ b, b < w.heap.size -> (lab b).1 = i -> ¬ S b ∧ lab' b = lab b) : EI w' lab' i ge gx gy gl hv nh hcs mk cx cy cl := by
 have hG : ∀ (p : Nat) (b : Nat), b < w.heap.size -> lab b = (i, p) -> ¬ S b ∧ lab' b = (i, p) := fun p b hb hl => by
  have := hF b hb (by rw [hl]); rw [hl] at this; exact this
 exact ⟨h.E.kp k (hG 4 ge h.E.lt h.le).1, (hG 4 ge h.E.lt h.le).2, h.X.move k (hG 1), h.Y.move k (hG 2), h.L.move k (hG 3), Al h.rh k (fun b hb => (hG 4 b (h.rh.lt b hb).2 (h.lh b hb)).1), fun b hb => (hG 4 b (h.rh.lt b hb).2 (h.lh b hb)).2, h.held.move k (hG 5)⟩
theorem EI.kp0 (h : EI w lab i ge gx gy gl hv nh hcs mk cx cy cl) (k : Kp (fun _ => False) w w') : EI w' lab i ge gx gy gl hv nh hcs mk cx cy cl :=
 h.move k (fun b _ _ => ⟨fun h => h, rfl⟩)
def Cu (lab : Nat -> Nat × Nat) (n : Nat) (t : Nat × Nat) : Nat -> Nat × Nat := fun k => if k < n then lab k else t
theorem A0 (h : k < n) : Cu lab n t k = lab k := if_pos h
theorem B4 (h : n <= k) : Cu lab n t k = t := if_neg (by omega)
theorem EI.setX {cx' : EC} (h : EI w lab i ge gx gy gl hv nh hcs mk cx cy cl) (k : Kp (fun k => lab k = (i, 1)) w w') (hN : Bh (fun k => lab k = (i, 1) ∨ w.heap.size <= k) w' gx cx') : EI w' (Cu lab w.heap.size (i, 1)) i ge gx gy gl hv nh hcs mk cx' cy cl := by
 have hG : ∀ (p : Nat) (hp : p ≠ 1) (b : Nat), b < w.heap.size -> lab b = (i, p) -> ¬ lab b = (i, 1) ∧ Cu lab w.heap.size (i, 1) b = (i, p) := fun p hp b hb hl => ⟨fun e => by rw [hl] at e; exact hp (congrArg Prod.snd e), (A0 hb).trans hl⟩
 have hR : ∀ b, lab b = (i, 1) ∨ w.heap.size <= b -> Cu lab w.heap.size (i, 1) b = (i, 1) := fun b hl => by
  rcases hl with hl | hl
  ·by_cases hb' : b < w.heap.size
   ·exact (A0 hb').trans hl
   ·exact B4 (by omega)
  ·exact B4 hl
 exact ⟨h.E.kp k (hG 4 (by decide) ge h.E.lt h.le).1, (hG 4 (by decide) ge h.E.lt h.le).2, hN.move (Kp.refl (fun _ => False) w') (fun b hb hl => ⟨fun h => h, hR b hl⟩), h.Y.move k (hG 2 (by decide)), h.L.move k (hG 3 (by decide)), Al h.rh k (fun b hb => (hG 4 (by decide) b (h.rh.lt b hb).2 (h.lh b hb)).1), fun b hb => (hG 4 (by decide) b (h.rh.lt b hb).2 (h.lh b hb)).2, h.held.move k (hG 5 (by decide))⟩
theorem EI.setY {cy' : EC} (h : EI w lab i ge gx gy gl hv nh hcs mk cx cy cl) (k : Kp (fun k => lab k = (i, 2)) w w') (hN : Bh (fun k => lab k = (i, 2) ∨ w.heap.size <= k) w' gy cy') : EI w' (Cu lab w.heap.size (i, 2)) i ge gx gy gl hv nh hcs mk cx cy' cl := by
 have hG : ∀ (p : Nat) (hp : p ≠ 2) (b : Nat), b < w.heap.size -> lab b = (i, p) -> ¬ lab b = (i, 2) ∧ Cu lab w.heap.size (i, 2) b = (i, p) := fun p hp b hb hl => ⟨fun e => by rw [hl] at e; exact hp (congrArg Prod.snd e), (A0 hb).trans hl⟩
 have hR : ∀ b, lab b = (i, 2) ∨ w.heap.size <= b -> Cu lab w.heap.size (i, 2) b = (i, 2) := fun b hl => by
  rcases hl with hl | hl
  ·by_cases hb' : b < w.heap.size
   ·exact (A0 hb').trans hl
   ·exact B4 (by omega)
  ·exact B4 hl
 exact ⟨h.E.kp k (hG 4 (by decide) ge h.E.lt h.le).1, (hG 4 (by decide) ge h.E.lt h.le).2, h.X.move k (hG 1 (by decide)), hN.move (Kp.refl (fun _ => False) w') (fun b hb hl => ⟨fun h => h, hR b hl⟩), h.L.move k (hG 3 (by decide)), Al h.rh k (fun b hb => (hG 4 (by decide) b (h.rh.lt b hb).2 (h.lh b hb)).1), fun b hb => (hG 4 (by decide) b (h.rh.lt b hb).2 (h.lh b hb)).2, h.held.move k (hG 5 (by decide))⟩
theorem EI.setL {cl' : EC} (h : EI w lab i ge gx gy gl hv nh hcs mk cx cy cl) (k : Kp (fun k => lab k = (i, 3)) w w') (hN : Bj (fun k => lab k = (i, 3) ∨ w.heap.size <= k) w' gl cl') : EI w' (Cu lab w.heap.size (i, 3)) i ge gx gy gl hv nh hcs mk cx cy cl' := by
 have hG : ∀ (p : Nat) (hp : p ≠ 3) (b : Nat), b < w.heap.size -> lab b = (i, p) -> ¬ lab b = (i, 3) ∧ Cu lab w.heap.size (i, 3) b = (i, p) := fun p hp b hb hl => ⟨fun e => by rw [hl] at e; exact hp (congrArg Prod.snd e), (A0 hb).trans hl⟩
 have hR : ∀ b, lab b = (i, 3) ∨ w.heap.size <= b -> Cu lab w.heap.size (i, 3) b = (i, 3) := fun b hl => by
  rcases hl with hl | hl
  ·by_cases hb' : b < w.heap.size
   ·exact (A0 hb').trans hl
   ·exact B4 (by omega)
  ·exact B4 hl
 exact ⟨h.E.kp k (hG 4 (by decide) ge h.E.lt h.le).1, (hG 4 (by decide) ge h.E.lt h.le).2, h.X.move k (hG 1 (by decide)), h.Y.move k (hG 2 (by decide)), hN.move (Kp.refl (fun _ => False) w') (fun b hb hl => ⟨fun h => h, hR b hl⟩), Al h.rh k (fun b hb => (hG 4 (by decide) b (h.rh.lt b hb).2 (h.lh b hb)).1), fun b hb => (hG 4 (by decide) b (h.rh.lt b hb).2 (h.lh b hb)).2, h.held.move k (hG 5 (by decide))⟩
def Gg (lab : Nat -> Nat × Nat) (n i : Nat) (hv' : Value) : Nat -> Nat × Nat := fun k => if k < n then lab k else if hv'.ownBlock = some k then (i, 4) else (i, 5)
theorem Et (h : k < n) : Gg lab n i hv' k = lab k := if_pos h
theorem Oe (h : n <= k) (h2 : hv'.ownBlock = some k) : Gg lab n i hv' k = (i, 4) := by unfold Gg; rw [if_neg (by omega), if_pos h2]
theorem I4 (h : n <= k) (h2 : ¬ hv'.ownBlock = some k) : Gg lab n i hv' k = (i, 5) := by unfold Gg; rw [if_neg (by omega), if_neg h2]
theorem FG.ok (h : FG w lab (i, 5) nh hcs) (le : lab ge = (i, 4)) (lh : ∀ k, hv.ownBlock = some k -> lab k = (i, 4)) : Lr w ge hv nh hcs := by
 intro j hj
 obtain ⟨b, v, d, e, mk, bh, q0, q1, q2, q3, q4, q5, hV, hL⟩ := h j hj
 refine ⟨b, v, d, e, mk, bh, q0, q1, q2, q3, q4, q5, fun w' hk => hV.kp hk (fun x hx => ?_)⟩
 obtain ⟨h1, h2⟩ := hL x hx
 rintro (h | h | h)
 ·subst h; rw [le] at h2; cases h2
 ·omega
 ·rw [lh x h] at h2; cases h2
theorem FG.more {b' v' d' e' : Value} (h : FG w lab (i, 5) nh hcs) (hlen : hcs.length = nh * 6) (le : lab ge = (i, 4)) (lh : ∀ k, hv.ownBlock = some k -> lab k = (i, 4))
  (hk : Kp (fun k => k = ge ∨ w.heap.size <= k ∨ hv.ownBlock = some k) w w') (h1 : VOk w' b v d e mk 0) (h2 : VOk w' b' v' d' e' mk (mk + 1000)) (h3 : VIn w.heap.size w'.heap.size b v d e) (h4 : VIn w.heap.size w'.heap.size b' v' d' e') (h5 : ∀ k, hv'.ownBlock = some k -> ∀ u ∈ [b, v, d, e, b', v', d', e'], u.ownBlock ≠ some k) :
  FG w' (Gg lab w.heap.size i hv') (i, 5) (nh + 2) (hcs ++ [b, v, d, e, .int .i64 mk, .int .i64 0, b', v', d', e', .int .i64 mk, .int .i64 (mk + 1000)]) := by
 have hm : FG w' (Gg lab w.heap.size i hv') (i, 5) nh hcs := h.move hk (fun x hx hl => by
  refine ⟨?_, (Et hx).trans hl⟩
  rintro (h | h | h)
  ·subst h; rw [le] at hl; cases hl
  ·omega
  ·rw [lh x h] at hl; cases hl)
 intro j hj
 by_cases hlt : j < nh
 ·obtain ⟨b0, v0, d0, e0, mk0, bh0, q0, q1, q2, q3, q4, q5, hV, hL⟩ := hm j hlt
  refine ⟨b0, v0, d0, e0, mk0, bh0, ?_, ?_, ?_, ?_, ?_, ?_, hV, hL⟩ <;> (rw [List.getElem?_append_left (by omega)]; assumption)
 ·by_cases h' : j = nh
  ·subst h'
   refine ⟨b, v, d, e, mk, 0, ?_, ?_, ?_, ?_, ?_, ?_, h1, fun k hk => ⟨(h3 k hk).2, I4 (h3 k hk).1 (fun hh => ?_)⟩⟩
   iterate 6 (rw [List.getElem?_append_right (by omega), hlen]; simp [Nat.add_sub_cancel_left])
   have := h5 k hh
   simp only [List.mem_cons, List.not_mem_nil, or_false, forall_eq_or_imp, forall_eq] at this
   obtain ⟨t1, t2, t3, t4, _⟩ := this
   rcases hk with hk | hk | hk | hk
   ·exact t1 hk
   ·exact t2 hk
   ·exact t3 hk
   ·exact t4 hk
  ·have h'' : j = nh + 1 := by omega
   subst h''
   refine ⟨b', v', d', e', mk, mk + 1000, ?_, ?_, ?_, ?_, ?_, ?_, h2, fun k hk => ⟨(h4 k hk).2, I4 (h4 k hk).1 (fun hh => ?_)⟩⟩
   ·rw [List.getElem?_append_right (by omega), hlen, show (nh + 1) * 6 - nh * 6 = 6 by omega]; rfl
   ·rw [List.getElem?_append_right (by omega), hlen, show (nh + 1) * 6 + 1 - nh * 6 = 7 by omega]; rfl
   ·rw [List.getElem?_append_right (by omega), hlen, show (nh + 1) * 6 + 2 - nh * 6 = 8 by omega]; rfl
   ·rw [List.getElem?_append_right (by omega), hlen, show (nh + 1) * 6 + 3 - nh * 6 = 9 by omega]; rfl
   ·rw [List.getElem?_append_right (by omega), hlen, show (nh + 1) * 6 + 4 - nh * 6 = 10 by omega]; rfl
   ·rw [List.getElem?_append_right (by omega), hlen, show (nh + 1) * 6 + 5 - nh * 6 = 11 by omega]; rfl
   have := h5 k hh
   simp only [List.mem_cons, List.not_mem_nil, or_false, forall_eq_or_imp, forall_eq] at this
   obtain ⟨_, _, _, _, t1, t2, t3, t4⟩ := this
   rcases hk with hk | hk | hk | hk
   ·exact t1 hk
   ·exact t2 hk
   ·exact t3 hk
   ·exact t4 hk
def Ri (w w' : World) (lab : Nat -> Nat × Nat) (i ge gx gy gl nh : Nat) (mk : Int) (cx cy cl : EC) : Prop :=
 ∃ lab' hv' hcs', EI w' lab' i ge gx gy gl hv' (nh + 2) hcs' (mk + 1000 + 1000) cx cy cl ∧ (∀ k, k < w.heap.size -> lab' k = lab k) ∧ Kp (fun k => (lab k).1 = i) w w'
theorem IG (h : EI w lab i ge gx gy gl hv nh hcs mk cx cy cl) (hc : AB cl) (m1 : 0 <= mk) (m2 : mk <= 100000000000) (hnh : nh <= 1000000) (g : Nat)
  (hsee : Calls Tryz.prog 42 #[.pointer (some ⟨g, 0, none⟩)] w fun e w' => JS w w' e (VwX cl)) :
  Calls Tryz.prog 24 #[.pointer (some ⟨ge, 0, none⟩), .pointer (some ⟨g, 0, none⟩)] w fun e w' => e = .returned (.bool true) ∧ Ri w w' lab i ge gx gy gl nh mk cx cy cl := by
 have b6 := hc.okx.b6
 have v5 := hc.okx.v5
 have hel := hc.el
 have hdl : (Bz cl.sh cl.vals.length cl.bal.length).length <= 1000 := by
  obtain ⟨bv, vv, dv, ev, ds, hL, t⟩ := h.L
  rw [t.see v5, List.length_map]
  have := t.len b6 v5
  omega
 refine (Ng ge gl g _ _ hv nh hcs mk (VwX cl) w h.E hsee (h.L.rd hc) h.rh (h.held.ok h.le h.lh) m1 m2 hnh (by show cl.bal.length <= _; omega) (by show cl.vals.length <= _; omega) hdl (by show cl.ents.length <= _; omega) hc.vb hc.eb rfl rfl).mono ?_
 rintro e w' ⟨rfl, hv', b, v, d, e, b', v', d', e', h1, h2, h3, h4, h5, h6, h7, h8, h9⟩
 have hG : ∀ (p : Nat) (hp : p ≠ 4) (x : Nat), x < w.heap.size -> lab x = (i, p) -> ¬ (x = ge ∨ w.heap.size <= x ∨ hv.ownBlock = some x) ∧ Gg lab w.heap.size i hv' x = (i, p) := fun p hp x hx hl => by
  refine ⟨?_, (Et hx).trans hl⟩
  rintro (h0 | h0 | h0)
  ·subst h0; rw [h.le] at hl; exact hp (congrArg Prod.snd hl).symm
  ·omega
  ·rw [h.lh x h0] at hl; exact hp (congrArg Prod.snd hl).symm
 refine ⟨rfl, Gg lab w.heap.size i hv', hv', _, ⟨h1, (Et h.E.lt).trans h.le, h.X.move h7 (hG 1 (by decide)), h.Y.move h7 (hG 2 (by decide)), h.L.move h7 (hG 3 (by decide)), h2, ?_, h.held.more h.rh.1 h.le h.lh h7 h3 h4 h5 h6 h9⟩, fun k hk => Et hk, h7.mono (fun k hk h0 => ?_)⟩
 ·intro k hk
  by_cases hlt : k < w.heap.size
  ·rcases h8 k hk with h0 | h0
   ·exact (Et hlt).trans (h.lh k h0)
   ·omega
  ·exact Oe (by omega) hk
 ·rcases h0 with h0 | h0 | h0
  ·subst h0; rw [h.le]
  ·omega
  ·rw [h.lh k h0]
theorem SQ (h : Bh F w g x) (hx : AB x) (who tw a : Int) :
  Calls Tryz.prog 53 #[.pointer (some ⟨g, 0, none⟩), .int .i64 who, .int .i64 tw, .int .i64 a] w fun e w' => e = .returned (.int .i64 (Co x who tw a).1) ∧ (Bh (fun k => F k ∨ w.heap.size <= k) w' g (Co x who tw a).2 ∧ Kp F w w') ∧ Bl (Co x who tw a).2 := by
 obtain ⟨bv, vv, ev, hP, hO⟩ := h
 refine (SH hP hx.fine 120 hx.el who tw a).mono ?_
 rintro e w' ⟨rfl, hE, hL⟩
 exact ⟨rfl, Bh.back hO hE, hL.fine⟩
theorem R6 (h : Bh F w g x) (hx : AB x) (tw a : Int) :
  Calls Tryz.prog 54 #[.pointer (some ⟨g, 0, none⟩), .int .i64 tw, .int .i64 a] w fun e w' => e = .returned (.int .i64 (Bo x tw a).1) ∧ (Bh (fun k => F k ∨ w.heap.size <= k) w' g (Bo x tw a).2 ∧ Kp F w w') ∧ Bl (Bo x tw a).2 := by
 obtain ⟨bv, vv, ev, hP, hO⟩ := h
 refine (RG hP hx.fine 120 hx.el tw a).mono ?_
 rintro e w' ⟨rfl, hE, hL⟩
 exact ⟨rfl, Bh.back hO hE, hL.fine⟩
theorem RW (h : Bh F w g x) (hx : AB x) :
  Calls Tryz.prog 55 #[.pointer (some ⟨g, 0, none⟩)] w fun e w' => e = .returned (.int .i64 (BZ x).1) ∧ (Bh (fun k => F k ∨ w.heap.size <= k) w' g (BZ x).2 ∧ Kp F w w') ∧ Bl (BZ x).2 := by
 obtain ⟨bv, vv, ev, hP, hO⟩ := h
 refine (Rz hP hx.fine 120 hx.el  (by omega)).mono ?_
 rintro e w' ⟨rfl, hE, hL⟩
 exact ⟨rfl, Bh.back hO hE, hL.fine⟩
theorem SB (h : Bh F w g x) (hx : AB x) (who v a : Int) :
  Calls Tryz.prog 56 #[.pointer (some ⟨g, 0, none⟩), .int .i64 who, .int .i64 v, .int .i64 a] w fun e w' => e = .returned (.int .i64 (CG x who v a).1) ∧ (Bh (fun k => F k ∨ w.heap.size <= k) w' g (CG x who v a).2 ∧ Kp F w w') ∧ Bl (CG x who v a).2 := by
 obtain ⟨bv, vv, ev, hP, hO⟩ := h
 refine (Sc hP hx.fine 120 hx.el who v a).mono ?_
 rintro e w' ⟨rfl, hE, hL⟩
 exact ⟨rfl, Bh.back hO hE, hL.fine⟩
theorem Qx (h : Bh F w g x) (hx : AB x) (who v a : Int) :
  Calls Tryz.prog 57 #[.pointer (some ⟨g, 0, none⟩), .int .i64 who, .int .i64 v, .int .i64 a] w fun e w' => e = .returned (.int .i64 (D8 x who v a).1) ∧ (Bh (fun k => F k ∨ w.heap.size <= k) w' g (D8 x who v a).2 ∧ Kp F w w') ∧ Bl (D8 x who v a).2 := by
 obtain ⟨bv, vv, ev, hP, hO⟩ := h
 refine (QB hP hx.fine 120 hx.el (by omega) who v a).mono ?_
 rintro e w' ⟨rfl, hE, hL⟩
 exact ⟨rfl, Bh.back hO hE, hL.fine⟩
theorem Sb (h : Bh F w g x) (hx : AB x) (who v tw a : Int) :
  Calls Tryz.prog 58 #[.pointer (some ⟨g, 0, none⟩), .int .i64 who, .int .i64 v, .int .i64 tw, .int .i64 a] w fun e w' => e = .returned (.int .i64 (D7 x who v tw a).1) ∧ (Bh (fun k => F k ∨ w.heap.size <= k) w' g (D7 x who v tw a).2 ∧ Kp F w w') ∧ Bl (D7 x who v tw a).2 := by
 obtain ⟨bv, vv, ev, hP, hO⟩ := h
 refine (Sr hP hx.fine 120 hx.el who v tw a).mono ?_
 rintro e w' ⟨rfl, hE, hL⟩
 exact ⟨rfl, Bh.back hO hE, hL.fine⟩
theorem NE (h : Bh F w g x) (hx : AB x) (who v : Int) :
  Calls Tryz.prog 59 #[.pointer (some ⟨g, 0, none⟩), .int .i64 who, .int .i64 v] w fun e w' => e = .returned (.int .i64 (CL x who v).1) ∧ (Bh (fun k => F k ∨ w.heap.size <= k) w' g (CL x who v).2 ∧ Kp F w w') ∧ Bl (CL x who v).2 := by
 obtain ⟨bv, vv, ev, hP, hO⟩ := h
 refine (Sq hP hx.fine 120 hx.el who v).mono ?_
 rintro e w' ⟨rfl, hE, hL⟩
 exact ⟨rfl, Bh.back hO hE, hL.fine⟩
theorem P7 (h : Bh F w g x) (hx : AB x) (who v : Int) :
  Calls Tryz.prog 60 #[.pointer (some ⟨g, 0, none⟩), .int .i64 who, .int .i64 v] w fun e w' => e = .returned (.int .i64 (CH x who v).1) ∧ (Bh (fun k => F k ∨ w.heap.size <= k) w' g (CH x who v).2 ∧ Kp F w w') ∧ Bl (CH x who v).2 := by
 obtain ⟨bv, vv, ev, hP, hO⟩ := h
 refine (Ss hP hx.fine 120 hx.el who v).mono ?_
 rintro e w' ⟨rfl, hE, hL⟩
 exact ⟨rfl, Bh.back hO hE, hL.fine⟩
theorem RJ (h : Bh F w g x) (hx : AB x) (v hgt p : Int) :
  Calls Tryz.prog 61 #[.pointer (some ⟨g, 0, none⟩), .int .i64 v, .int .i64 hgt, .int .i64 p] w fun e w' => e = .returned (.int .i64 (Bw x v hgt p).1) ∧ (Bh (fun k => F k ∨ w.heap.size <= k) w' g (Bw x v hgt p).2 ∧ Kp F w w') ∧ Bl (Bw x v hgt p).2 := by
 obtain ⟨bv, vv, ev, hP, hO⟩ := h
 refine (RE hP hx.fine 120 hx.el v hgt p (by omega)).mono ?_
 rintro e w' ⟨rfl, hE, hL⟩
 exact ⟨rfl, Bh.back hO hE, hL.fine⟩
theorem Sz (h : Bh F w g x) (hx : AB x) (who v : Int) :
  Calls Tryz.prog 62 #[.pointer (some ⟨g, 0, none⟩), .int .i64 who, .int .i64 v] w fun e w' => e = .returned (.int .i64 (CJ x who v).1) ∧ (Bh (fun k => F k ∨ w.heap.size <= k) w' g (CJ x who v).2 ∧ Kp F w w') ∧ Bl (CJ x who v).2 := by
 obtain ⟨bv, vv, ev, hP, hO⟩ := h
 refine (SP hP hx.fine 120 hx.el who v).mono ?_
 rintro e w' ⟨rfl, hE, hL⟩
 exact ⟨rfl, Bh.back hO hE, hL.fine⟩
theorem So (h : Bj F w g x) (hx : AB x) (who tw a : Int) :
  Calls Tryz.prog 63 #[.pointer (some ⟨g, 0, none⟩), .int .i64 who, .int .i64 tw, .int .i64 a] w fun e w' => e = .returned (.int .i64 (Co x who tw a).1) ∧ Bj (fun k => F k ∨ w.heap.size <= k) w' g (Co x who tw a).2 ∧ Kp F w w' := by
 obtain ⟨bv, vv, dv, ev, ds, hL, t⟩ := h
 obtain ⟨e1, e2, e3, t'⟩ := PZ x who tw a t
 have hb := Ee hx.okx t
 refine (Ob g _ bv vv dv ev who tw a w hL.C hb.hc (fun k hk => by have := (B7 hb who).2.1 k hk; omega)).mono ?_
 rintro e w' ⟨rfl, hC, hK⟩
 rw [e1] at hC
 have h' := hL.core hC hK
 refine ⟨by rw [e1], Bj.back (ds := ds) (bv := bv) (vv := vv) (dv := dv) (ev := ev) ?_ t'⟩
 rw [e2, e3]; exact h'
theorem RT (h : Bj F w g x) (hx : AB x) (tw a : Int) :
  Calls Tryz.prog 64 #[.pointer (some ⟨g, 0, none⟩), .int .i64 tw, .int .i64 a] w fun e w' => e = .returned (.int .i64 (Bo x tw a).1) ∧ Bj (fun k => F k ∨ w.heap.size <= k) w' g (Bo x tw a).2 ∧ Kp F w w' := by
 obtain ⟨bv, vv, dv, ev, ds, hL, t⟩ := h
 obtain ⟨e1, e2, e3, t'⟩ := M3 x tw a t
 have hb := Ee hx.okx t
 refine (L3 g _ bv vv dv ev tw a w hL.C hb.hc).mono ?_
 rintro e w' ⟨rfl, hC, hK⟩
 rw [e1] at hC
 have h' := hL.core hC hK
 refine ⟨by rw [e1], Bj.back (ds := ds) (bv := bv) (vv := vv) (dv := dv) (ev := ev) ?_ t'⟩
 rw [e2, e3]; exact h'
theorem Ru (h : Bj F w g x) (hx : AB x) :
  Calls Tryz.prog 65 #[.pointer (some ⟨g, 0, none⟩)] w fun e w' => e = .returned (.int .i64 (BZ x).1) ∧ Bj (fun k => F k ∨ w.heap.size <= k) w' g (BZ x).2 ∧ Kp F w w' := by
 obtain ⟨bv, vv, dv, ev, ds, hL, t⟩ := h
 refine (R8 g x bv vv dv ev ds w hL hx.fine hx.ie t).mono ?_
 rintro e w' ⟨rfl, ev', ds', h', t'⟩
 exact ⟨rfl, Bj.back h' t'⟩
theorem Sg (h : Bj F w g x) (hx : AB x) (who v a : Int) (q : Int) (hq : E5 x who v q) (q0 : 0 <= q) (q1 : q <= 1000000) :
  Calls Tryz.prog 66 #[.pointer (some ⟨g, 0, none⟩), .int .i64 who, .int .i64 v, .int .i64 a, .int .i64 q] w fun e w' => e = .returned (.int .i64 (CG x who v a).1) ∧ Bj (fun k => F k ∨ w.heap.size <= k) w' g (CG x who v a).2 ∧ Kp F w w' := by
 obtain ⟨bv, vv, dv, ev, ds, hL, t⟩ := h
 obtain ⟨ds', e1, t', e2⟩ := Pg hx.fine t who v a q hq
 refine (Po g _ bv vv dv ev x.vals ds x.ents who v a q w hL (Ee hx.okx t) q0 (by omega)).mono ?_
 rintro e w' ⟨rfl, dv', h'⟩
 rw [e1] at h'
 refine ⟨by rw [e1], Bj.back (ds := ds') (bv := bv) (vv := vv) (dv := dv') (ev := ev) ?_ t'⟩
 rw [e2]; exact h'
theorem Qt (h : Bj F w g x) (hx : AB x) (who v a : Int) (q : Int) (hq : E5 x who v q) (q0 : 0 <= q) (q1 : q <= 1000000) :
  Calls Tryz.prog 67 #[.pointer (some ⟨g, 0, none⟩), .int .i64 who, .int .i64 v, .int .i64 a, .int .i64 q] w fun e w' => e = .returned (.int .i64 (D8 x who v a).1) ∧ Bj (fun k => F k ∨ w.heap.size <= k) w' g (D8 x who v a).2 ∧ Kp F w w' := by
 obtain ⟨bv, vv, dv, ev, ds, hL, t⟩ := h
 obtain ⟨ds', e1, t'⟩ := Qu hx.fine t hx.ie.en.ct who v a q hq
 refine (LU g _ bv vv dv ev x.vals ds x.ents who v a q w hL (J0 hx.okx t) (by have := hx.el; omega) q0 (by omega)).mono ?_
 rintro e w' ⟨rfl, dv', ev', h'⟩
 rw [e1] at h'
 exact ⟨by rw [e1], Bj.back (ds := ds') (bv := bv) (vv := vv) (dv := dv') (ev := ev') h' t'⟩
theorem SF (h : Bj F w g x) (hx : AB x) (who v tw a : Int) (q z : Int) (hq : E5 x who v q) (hz : v ≠ tw -> E5 x who tw z) (q0 : 0 <= q) (q1 : q <= 1000000) (z0 : 0 <= z) (z1 : z <= 1000000) :
  Calls Tryz.prog 68 #[.pointer (some ⟨g, 0, none⟩), .int .i64 who, .int .i64 v, .int .i64 tw, .int .i64 a, .int .i64 q, .int .i64 z] w fun e w' => e = .returned (.int .i64 (D7 x who v tw a).1) ∧ Bj (fun k => F k ∨ w.heap.size <= k) w' g (D7 x who v tw a).2 ∧ Kp F w w' := by
 obtain ⟨bv, vv, dv, ev, ds, hL, t⟩ := h
 obtain ⟨ds', e1, t', e2⟩ := QP hx.fine t who v tw a q z hq hz
 refine (PP g _ bv vv dv ev x.vals ds x.ents who v tw a q z w hL (J0 hx.okx t) q0 (by omega) z0 (by omega) (Qo hx.fine t who v a q hq)).mono ?_
 rintro e w' ⟨rfl, dv', h'⟩
 rw [e1] at h'
 refine ⟨by rw [e1], Bj.back (ds := ds') (bv := bv) (vv := vv) (dv := dv') (ev := ev) ?_ t'⟩
 rw [e2]; exact h'
theorem NA (h : Bj F w g x) (hx : AB x) (who v : Int) (q : Int) (hq : E5 x who v q) (q0 : 0 <= q) (q1 : q <= 1000000) :
  Calls Tryz.prog 69 #[.pointer (some ⟨g, 0, none⟩), .int .i64 who, .int .i64 v, .int .i64 q] w fun e w' => e = .returned (.int .i64 (CL x who v).1) ∧ Bj (fun k => F k ∨ w.heap.size <= k) w' g (CL x who v).2 ∧ Kp F w w' := by
 obtain ⟨bv, vv, dv, ev, ds, hL, t⟩ := h
 obtain ⟨ds', e1, t', e2⟩ := Oz hx.fine t who v q hq
 refine (JZ g _ bv vv dv ev x.vals ds x.ents who v q w hL (Ee hx.okx t) q0 (by omega)).mono ?_
 rintro e w' ⟨rfl, h'⟩
 rw [e1] at h'
 refine ⟨by rw [e1], Bj.back (ds := ds') (bv := bv) (vv := vv) (dv := dv) (ev := ev) ?_ t'⟩
 rw [e2]; exact h'
theorem OD (h : Bj F w g x) (hx : AB x) (who v : Int) :
  Calls Tryz.prog 70 #[.pointer (some ⟨g, 0, none⟩), .int .i64 who, .int .i64 v] w fun e w' => e = .returned (.int .i64 (CH x who v).1) ∧ Bj (fun k => F k ∨ w.heap.size <= k) w' g (CH x who v).2 ∧ Kp F w w' := by
 obtain ⟨bv, vv, dv, ev, ds, hL, t⟩ := h
 obtain ⟨e1, t', e2⟩ := Pu t who v
 refine (Ks g _ bv vv dv ev x.vals ds x.ents who v w hL (Ee hx.okx t) (fun k hk => (J0 hx.okx t).m k hk)).mono ?_
 rintro e w' ⟨rfl, h'⟩
 rw [e1] at h'
 refine ⟨by rw [e1], Bj.back (ds := ds) (bv := bv) (vv := vv) (dv := dv) (ev := ev) ?_ t'⟩
 rw [e2]; exact h'
theorem Sy (h : Bj F w g x) (hx : AB x) (who v : Int) :
  Calls Tryz.prog 72 #[.pointer (some ⟨g, 0, none⟩), .int .i64 who, .int .i64 v] w fun e w' => e = .returned (.int .i64 (CJ x who v).1) ∧ Bj (fun k => F k ∨ w.heap.size <= k) w' g (CJ x who v).2 ∧ Kp F w w' := by
 obtain ⟨bv, vv, dv, ev, ds, hL, t⟩ := h
 obtain ⟨e1, t', e2⟩ := PU t who v
 refine (Nb g _ bv vv dv ev x.vals ds x.ents who v w hL (Ee hx.okx t)).mono ?_
 rintro e w' ⟨rfl, h'⟩
 rw [e1] at h'
 refine ⟨by rw [e1], Bj.back (ds := ds) (bv := bv) (vv := vv) (dv := dv) (ev := ev) ?_ t'⟩
 rw [e2]; exact h'
theorem RI (h : Bj F w g x) (hx : AB x) (v hgt p : Int) :
  Calls Tryz.prog 71 #[.pointer (some ⟨g, 0, none⟩), .int .i64 v, .int .i64 hgt, .int .i64 p] w fun e w' => e = .returned (.int .i64 (Bw x v hgt p).1) ∧ Bj (fun k => F k ∨ w.heap.size <= k) w' g (Bw x v hgt p).2 ∧ Kp F w w' := by
 obtain ⟨bv, vv, dv, ev, ds, hL, t⟩ := h
 refine (RA g x bv vv dv ev ds w hL hx.fine (by have := hx.el; omega) v hgt p).mono ?_
 rintro e w' ⟨rfl, h'⟩
 exact ⟨rfl, Bj.back h' (Oi t v hgt p)⟩
def CS (x : EC) (who v : Int) : Int := if inB who x.bal.length = true ∧ inB v x.vals.length = true then x.due who.toNat v.toNat else 0
theorem FK (x : EC) (who v : Int) : E5 x who v (CS x who v) := by
 rintro k j rfl rfl hk hj
 unfold CS
 rw [if_pos ⟨by unfold inB; simp [hk], by unfold inB; simp [hj]⟩, Int.toNat_natCast, Int.toNat_natCast]
theorem CE (hx : AB x) (who v : Int) : 0 <= CS x who v ∧ CS x who v <= 1000000 := by
 unfold CS
 split
 ·rename_i h
  obtain ⟨k, rfl, hk⟩ := Bn h.1
  obtain ⟨j, rfl, hj⟩ := Bn h.2
  rw [Int.toNat_natCast, Int.toNat_natCast]
  have b6 := hx.okx.b6
  have := hx.okx.due_le (k := k) (show k < 6 by omega) hj
  have := (hx.okx.bds.2.2.2.1 j hj).2
  have := (hx.okx.val j hj).k0
  omega
 ·omega
def DL (x : EC) (who v : Int) : Int := if inB who x.bal.length = false then 2 else BX x who.toNat v
theorem Rb (hx : AB x) {ds : List (DA × Value)} (t : A8 x ds) (who v : Int) : FW (Ay x) x.vals ds who v = DL x who v := by
 unfold FW DL BX
 rw [B6, B6]
 have e0 : (Ay x).bal.length = x.bal.length := rfl
 rw [e0]
 by_cases ha : inB who x.bal.length = true
 ·rw [if_pos ha, if_neg (show ¬ inB who x.bal.length = false by simp [ha])]
  obtain ⟨k, rfl, hk⟩ := Bn ha
  by_cases hb : inB v x.vals.length = true
  ·rw [if_pos hb, if_neg (show ¬ inB v x.vals.length = false by simp [hb])]
   obtain ⟨j, rfl, hj⟩ := Bn hb
   rw [Int.toNat_natCast, Int.toNat_natCast]
   by_cases hs : 0 < x.sh k j
   ·obtain ⟨i, hi, hat, _⟩ := t.at hk hj hs
    rw [hat, if_neg (by omega), if_neg (show ¬ x.sh k j < 1 by omega)]
   ·rw [t.no (fun k' j' e1 e2 _ _ => by (have : k' = k := (by omega)); (have : j' = j := (by omega)); subst k' j'; exact hs), if_pos (by decide), if_pos (show x.sh k j < 1 by omega)]
  ·rw [if_neg hb, if_pos (show inB v x.vals.length = false by simpa using hb)]
 ·rw [if_neg ha, if_pos (show inB who x.bal.length = false by simpa using ha)]
theorem Mw {who v : Int} (h : DL x who v = 0) : ∃ k j : Nat, who = k ∧ v = j ∧ k < x.bal.length ∧ j < x.vals.length ∧ 1 <= x.sh k j := by
 unfold DL at h
 by_cases ha : inB who x.bal.length = true
 ·rw [if_neg (show ¬ inB who x.bal.length = false by simp [ha])] at h
  obtain ⟨k, rfl, hk⟩ := Bn ha
  rw [Int.toNat_natCast] at h
  obtain ⟨j, rfl, hj, hs⟩ := FQ h
  exact ⟨k, j, rfl, rfl, hk, hj, hs⟩
 ·rw [if_pos (show inB who x.bal.length = false by simpa using ha)] at h
  cases h
theorem Kg (hx : AB x) {who v : Int} (h : DL x who v ≠ 0) : CS x who v = 0 := by
 unfold CS
 split
 ·rename_i hc
  obtain ⟨k, rfl, hk⟩ := Bn hc.1
  obtain ⟨j, rfl, hj⟩ := Bn hc.2
  rw [Int.toNat_natCast, Int.toNat_natCast]
  have b6 := hx.okx.b6
  have v5 := hx.okx.v5
  have h0 := hx.okx.sh0 k j (by omega) (by omega)
  have hs : x.sh k j = 0 := by
   by_cases h1 : x.sh k j < 1
   ·omega
   ·exfalso
    apply h
    unfold DL BX
    rw [if_neg (show ¬ inB (k : Int) x.bal.length = false by simp [hc.1]), if_neg (show ¬ inB (j : Int) x.vals.length = false by simp [hc.2]), Int.toNat_natCast, Int.toNat_natCast, if_neg h1]
  unfold EC.due
  rw [hs]
  simp
 ·rfl
end Go.Proofs.YtohjjgefklhmaaaGreatDoor
