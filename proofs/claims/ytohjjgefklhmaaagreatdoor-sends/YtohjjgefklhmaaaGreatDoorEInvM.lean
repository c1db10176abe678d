import Derived.Test.YtohjjgefklhmaaaGreatDoorReadsM
namespace Go.Proofs.YtohjjgefklhmaaaGreatDoor
open Go.ChangeShapes Go.WideShapes Go.ChangeAt Go.RowKit
set_option linter.unusedVariables false

/-- a ledger, its blocks in F -/
def LedF (F : Nat → Prop) (w : World) (g : Nat) (c : LC) (vals : List VS) : Prop :=
  ∃ bv vv ev, LedZ w g c bv vv ev vals ∧ F g ∧ (∀ k, bv.ownBlock = some k → F k) ∧ (∀ k, vv.ownBlock = some k → F k) ∧ (∀ k, ev.ownBlock = some k → F k)

theorem LedF.move {F F' S : Nat → Prop} {w w' : World} {g : Nat} {c : LC} {vals : List VS} (h : LedF F w g c vals) (k : Kp S w w') (hF : ∀ b, b < w.heap.size → F b → ¬ S b ∧ F' b) : LedF F' w' g c vals := by
  obtain ⟨bv, vv, ev, hZ, f1, f2, f3, f4⟩ := h
  refine ⟨bv, vv, ev, ⟨⟨hZ.C.L.kp k (hF g hZ.C.L.lt f1).1, ownsRow_kp hZ.C.b k (fun b hb => (hF b (hZ.C.b.lt b hb).2 (f2 b hb)).1)⟩, ownsRow_kp hZ.v k (fun b hb => (hF b (hZ.v.lt b hb).2 (f3 b hb)).1), ownsRow_kp hZ.e k (fun b hb => (hF b (hZ.e.lt b hb).2 (f4 b hb)).1)⟩, (hF g hZ.C.L.lt f1).2, fun b hb => (hF b (hZ.C.b.lt b hb).2 (f2 b hb)).2, fun b hb => (hF b (hZ.v.lt b hb).2 (f3 b hb)).2, fun b hb => (hF b (hZ.e.lt b hb).2 (f4 b hb)).2⟩

/-! ### the calls, in these words -/
theorem fsend {F : Nat → Prop} {w : World} {g : Nat} {c : LC} {vals : List VS} (h : LedF F w g c vals) (hc : GoodC c) (who tw amount : Int) :
    Calls Tryz.prog 63 #[.pointer (some ⟨g, 0, none⟩), .int .i64 who, .int .i64 tw, .int .i64 amount] w fun e w' => e = .returned (.int .i64 (sendF c who tw amount).1) ∧ LedF F w' g (sendF c who tw amount).2 vals ∧ Kp F w w' := by
  obtain ⟨bv, vv, ev, hZ, f1, f2, f3, f4⟩ := h
  refine (lsend_any g c bv vv _ _ who tw amount w hZ.C hc.lbd (fun k hk => by have := (hc.charge who).1.bd k hk; omega)).mono ?_
  rintro e w' ⟨rfl, hC', hk⟩
  exact ⟨rfl, ⟨bv, vv, ev, ⟨hC', ownsRow_kp hZ.v hk (fun b hb h => h.elim (fun e => Has.apart hZ.C.L hZ.v (by decide) (by rw [← e, hb])) (fun e => row_off hZ.C.b hZ.v (by decide) hb e)), ownsRow_kp hZ.e hk (fun b hb h => h.elim (fun e => Has.apart hZ.C.L hZ.e (by decide) (by rw [← e, hb])) (fun e => row_off hZ.C.b hZ.e (by decide) hb e))⟩, f1, f2, f3, f4⟩, hk.mono (fun k _ h => h.elim (fun e => e ▸ f1) (f2 k))⟩
theorem fspend {F : Nat → Prop} {w : World} {g : Nat} {c : LC} {vals : List VS} (h : LedF F w g c vals) (hc : GoodC c) (tw amount : Int) :
    Calls Tryz.prog 64 #[.pointer (some ⟨g, 0, none⟩), .int .i64 tw, .int .i64 amount] w fun e w' => e = .returned (.int .i64 (spendF c tw amount).1) ∧ LedF F w' g (spendF c tw amount).2 vals ∧ Kp F w w' := by
  obtain ⟨bv, vv, ev, hZ, f1, f2, f3, f4⟩ := h
  refine (lspend_any g c bv vv _ _ tw amount w hZ.C hc.lbd).mono ?_
  rintro e w' ⟨rfl, hC', hk⟩
  exact ⟨rfl, ⟨bv, vv, ev, ⟨hC', ownsRow_kp hZ.v hk (fun b hb h => h.elim (fun e => Has.apart hZ.C.L hZ.v (by decide) (by rw [← e, hb])) (fun e => row_off hZ.C.b hZ.v (by decide) hb e)), ownsRow_kp hZ.e hk (fun b hb h => h.elim (fun e => Has.apart hZ.C.L hZ.e (by decide) (by rw [← e, hb])) (fun e => row_off hZ.C.b hZ.e (by decide) hb e))⟩, f1, f2, f3, f4⟩, hk.mono (fun k _ h => h.elim (fun e => e ▸ f1) (f2 k))⟩
theorem fblock {F : Nat → Prop} {w : World} {g : Nat} {c : LC} {vals : List VS} (h : LedF F w g c vals) (hc : GoodC c) (hz : ZV vals) (l1 : 1 ≤ vals.length) (l2 : vals.length ≤ 5) :
    Calls Tryz.prog 65 #[.pointer (some ⟨g, 0, none⟩)] w fun e w' => e = .returned (.int .i64 (blockF c).1) ∧ LedF (fun k => F k ∨ w.heap.size ≤ k) w' g (blockF c).2 vals ∧ Kp F w w' := by
  obtain ⟨bv, vv, ev, hZ, f1, f2, f3, f4⟩ := h
  refine (lblock_any g c bv vv ev vals w hZ hc.lbd (fun k hk => by have := hc.bd k hk; omega) hz (by omega) (by omega) hc.mat hc.h0 hc.h1).mono ?_
  rintro e w' ⟨rfl, ev', hZ', hk, hev⟩
  exact ⟨rfl, ⟨bv, vv, ev', hZ', .inl f1, fun k h => .inl (f2 k h), fun k h => .inl (f3 k h), fun k h => (hev k h).imp_left (f4 k)⟩, hk.mono (fun k _ h => h.elim (fun e => e ▸ f1) (fun h => h.elim (f2 k) (f3 k)))⟩

/-! ### an engine of the script: the two of the program, the ledger, what See handed out -/
/-- the views that are held: they have their marks, in blocks with this label -/
def HeldL (w : World) (lab : Nat → Nat × Nat) (t : Nat × Nat) (nh : Nat) (hcs : List Value) : Prop :=
  ∀ j, j < nh → ∃ b v d e mk bh, hcs[j * 6]? = some b ∧ hcs[j * 6 + 1]? = some v ∧ hcs[j * 6 + 2]? = some d ∧ hcs[j * 6 + 3]? = some e ∧ hcs[j * 6 + 4]? = some (.int .i64 mk) ∧ hcs[j * 6 + 5]? = some (.int .i64 bh) ∧
    VOk w b v d e mk bh ∧ ∀ k, b.ownBlock = some k ∨ v.ownBlock = some k ∨ d.ownBlock = some k ∨ e.ownBlock = some k → k < w.heap.size ∧ lab k = t

theorem VOk.kp {S : Nat → Prop} {w w' : World} {b v d e : Value} {mk bh : Int} (h : VOk w b v d e mk bh) (k : Kp S w w') (ho : ∀ x, b.ownBlock = some x ∨ v.ownBlock = some x ∨ d.ownBlock = some x ∨ e.ownBlock = some x → ¬ S x) : VOk w' b v d e mk bh := by
  obtain ⟨h1, h2, h3, h4, n1, n2, n3, n4, q1, q2, q3, q4⟩ := h
  exact ⟨h1, h2, h3, h4, n1, n2, n3, n4, q1.kp k (fun a n c e => ho _ (.inl (by rw [e]; rfl))), q2.kp k (fun a n c e => ho _ (.inr (.inl (by rw [e]; rfl)))), q3.kp k (fun a n c e => ho _ (.inr (.inr (.inl (by rw [e]; rfl))))), q4.kp k (fun a n c e => ho _ (.inr (.inr (.inr (by rw [e]; rfl)))))⟩
theorem HeldL.move {S : Nat → Prop} {w w' : World} {lab lab' : Nat → Nat × Nat} {t : Nat × Nat} {nh : Nat} {hcs : List Value} (h : HeldL w lab t nh hcs) (k : Kp S w w') (hF : ∀ b, b < w.heap.size → lab b = t → ¬ S b ∧ lab' b = t) : HeldL w' lab' t nh hcs := by
  intro j hj
  obtain ⟨b, v, d, e, mk, bh, q0, q1, q2, q3, q4, q5, hV, hL⟩ := h j hj
  exact ⟨b, v, d, e, mk, bh, q0, q1, q2, q3, q4, q5, hV.kp k (fun x hx => (hF x (hL x hx).1 (hL x hx).2).1), fun x hx => ⟨Nat.lt_of_lt_of_le (hL x hx).1 k.size, (hF x (hL x hx).1 (hL x hx).2).2⟩⟩

structure EI (w : World) (lab : Nat → Nat × Nat) (i ge gx gy gl : Nat) (hv : Value) (nh : Nat) (hcs : List Value) (mk : Int) (cx cy cl : LC) (vals : List VS) : Prop where
  E : Has w ge 54 [.pointer (some ⟨gx, 0, none⟩), .pointer (some ⟨gy, 0, none⟩), .pointer (some ⟨gl, 0, none⟩), hv, .int .i64 mk]
  le : lab ge = (i, 4)
  X : EngF (fun k => lab k = (i, 1)) w gx cx vals
  Y : EngF (fun k => lab k = (i, 2)) w gy cy vals
  L : LedF (fun k => lab k = (i, 3)) w gl cl vals
  rh : w.ownsRow 0 96 6 hv nh hcs
  lh : ∀ k, hv.ownBlock = some k → lab k = (i, 4)
  held : HeldL w lab (i, 5) nh hcs

theorem EI.move {S : Nat → Prop} {w w' : World} {lab lab' : Nat → Nat × Nat} {i ge gx gy gl : Nat} {hv : Value} {nh : Nat} {hcs : List Value} {mk : Int} {cx cy cl : LC} {vals : List VS} (h : EI w lab i ge gx gy gl hv nh hcs mk cx cy cl vals) (k : Kp S w w') (hF : ∀ b, b < w.heap.size → (lab b).1 = i → ¬ S b ∧ lab' b = lab b) : EI w' lab' i ge gx gy gl hv nh hcs mk cx cy cl vals := by
  have hG : ∀ (p : Nat) (b : Nat), b < w.heap.size → lab b = (i, p) → ¬ S b ∧ lab' b = (i, p) := fun p b hb hl => by
    have := hF b hb (by rw [hl]); rw [hl] at this; exact this
  exact ⟨h.E.kp k (hG 4 ge h.E.lt h.le).1, (hG 4 ge h.E.lt h.le).2, h.X.move k (hG 1), h.Y.move k (hG 2), h.L.move k (hG 3), ownsRow_kp h.rh k (fun b hb => (hG 4 b (h.rh.lt b hb).2 (h.lh b hb)).1), fun b hb => (hG 4 b (h.rh.lt b hb).2 (h.lh b hb)).2, h.held.move k (hG 5)⟩
theorem EI.setX {w w' : World} {lab : Nat → Nat × Nat} {i ge gx gy gl : Nat} {hv : Value} {nh : Nat} {hcs : List Value} {mk : Int} {cx cy cl cx' : LC} {vals : List VS} (h : EI w lab i ge gx gy gl hv nh hcs mk cx cy cl vals) (k : Kp (fun k => lab k = (i, 1)) w w') (hX : EngF (fun k => lab k = (i, 1)) w' gx cx' vals) : EI w' lab i ge gx gy gl hv nh hcs mk cx' cy cl vals := by
  have hG : ∀ (p : Nat) (hp : p ≠ 1) (b : Nat), b < w.heap.size → lab b = (i, p) → ¬ lab b = (i, 1) ∧ lab b = (i, p) := fun p hp b hb hl => ⟨fun e => by rw [hl] at e; exact hp (congrArg Prod.snd e), hl⟩
  exact ⟨h.E.kp k (hG 4 (by decide) ge h.E.lt h.le).1, h.le, hX, h.Y.move k (hG 2 (by decide)), h.L.move k (hG 3 (by decide)), ownsRow_kp h.rh k (fun b hb => (hG 4 (by decide) b (h.rh.lt b hb).2 (h.lh b hb)).1), h.lh, h.held.move k (hG 5 (by decide))⟩
theorem EI.setY {w w' : World} {lab : Nat → Nat × Nat} {i ge gx gy gl : Nat} {hv : Value} {nh : Nat} {hcs : List Value} {mk : Int} {cx cy cl cy' : LC} {vals : List VS} (h : EI w lab i ge gx gy gl hv nh hcs mk cx cy cl vals) (k : Kp (fun k => lab k = (i, 2)) w w') (hY : EngF (fun k => lab k = (i, 2)) w' gy cy' vals) : EI w' lab i ge gx gy gl hv nh hcs mk cx cy' cl vals := by
  have hG : ∀ (p : Nat) (hp : p ≠ 2) (b : Nat), b < w.heap.size → lab b = (i, p) → ¬ lab b = (i, 2) ∧ lab b = (i, p) := fun p hp b hb hl => ⟨fun e => by rw [hl] at e; exact hp (congrArg Prod.snd e), hl⟩
  exact ⟨h.E.kp k (hG 4 (by decide) ge h.E.lt h.le).1, h.le, h.X.move k (hG 1 (by decide)), hY, h.L.move k (hG 3 (by decide)), ownsRow_kp h.rh k (fun b hb => (hG 4 (by decide) b (h.rh.lt b hb).2 (h.lh b hb)).1), h.lh, h.held.move k (hG 5 (by decide))⟩
/-- blocks that are new are given this label -/
def relab (lab : Nat → Nat × Nat) (n : Nat) (t : Nat × Nat) : Nat → Nat × Nat := fun k => if k < n then lab k else t
theorem relab_old {lab : Nat → Nat × Nat} {n : Nat} {t : Nat × Nat} {k : Nat} (h : k < n) : relab lab n t k = lab k := if_pos h
theorem relab_new {lab : Nat → Nat × Nat} {n : Nat} {t : Nat × Nat} {k : Nat} (h : n ≤ k) : relab lab n t k = t := if_neg (by omega)
theorem EI.setL {w w' : World} {lab : Nat → Nat × Nat} {i ge gx gy gl : Nat} {hv : Value} {nh : Nat} {hcs : List Value} {mk : Int} {cx cy cl cl' : LC} {vals : List VS} (h : EI w lab i ge gx gy gl hv nh hcs mk cx cy cl vals) (k : Kp (fun k => lab k = (i, 3)) w w') (hL : LedF (fun k => lab k = (i, 3) ∨ w.heap.size ≤ k) w' gl cl' vals) : EI w' (relab lab w.heap.size (i, 3)) i ge gx gy gl hv nh hcs mk cx cy cl' vals := by
  have hG : ∀ (p : Nat) (hp : p ≠ 3) (b : Nat), b < w.heap.size → lab b = (i, p) → ¬ lab b = (i, 3) ∧ relab lab w.heap.size (i, 3) b = (i, p) := fun p hp b hb hl => ⟨fun e => by rw [hl] at e; exact hp (congrArg Prod.snd e), (relab_old hb).trans hl⟩
  refine ⟨h.E.kp k (hG 4 (by decide) ge h.E.lt h.le).1, (hG 4 (by decide) ge h.E.lt h.le).2, h.X.move k (hG 1 (by decide)), h.Y.move k (hG 2 (by decide)), hL.move (Kp.refl (fun _ => False) w') (fun b hb hl => ⟨fun h => h, ?_⟩), ownsRow_kp h.rh k (fun b hb => (hG 4 (by decide) b (h.rh.lt b hb).2 (h.lh b hb)).1), fun b hb => (hG 4 (by decide) b (h.rh.lt b hb).2 (h.lh b hb)).2, h.held.move k (hG 5 (by decide))⟩
  rcases hl with hl | hl
  · by_cases hb' : b < w.heap.size
    · exact (relab_old hb').trans hl
    · exact relab_new (by omega)
  · exact relab_new hl

/-- the label of a view's blocks and of the row of all views, behind a reading -/
def rdlab (lab : Nat → Nat × Nat) (n i : Nat) (hv' : Value) : Nat → Nat × Nat := fun k => if k < n then lab k else if hv'.ownBlock = some k then (i, 4) else (i, 5)
theorem rdlab_old {lab : Nat → Nat × Nat} {n i : Nat} {hv' : Value} {k : Nat} (h : k < n) : rdlab lab n i hv' k = lab k := if_pos h
theorem rdlab_row {lab : Nat → Nat × Nat} {n i : Nat} {hv' : Value} {k : Nat} (h : n ≤ k) (h2 : hv'.ownBlock = some k) : rdlab lab n i hv' k = (i, 4) := by unfold rdlab; rw [if_neg (by omega), if_pos h2]
theorem rdlab_view {lab : Nat → Nat × Nat} {n i : Nat} {hv' : Value} {k : Nat} (h : n ≤ k) (h2 : ¬ hv'.ownBlock = some k) : rdlab lab n i hv' k = (i, 5) := by unfold rdlab; rw [if_neg (by omega), if_neg h2]

theorem HeldL.ok {w : World} {lab : Nat → Nat × Nat} {i ge : Nat} {hv : Value} {nh : Nat} {hcs : List Value} (h : HeldL w lab (i, 5) nh hcs) (le : lab ge = (i, 4)) (lh : ∀ k, hv.ownBlock = some k → lab k = (i, 4)) : HeldOk w ge hv nh hcs := by
  intro j hj
  obtain ⟨b, v, d, e, mk, bh, q0, q1, q2, q3, q4, q5, hV, hL⟩ := h j hj
  refine ⟨b, v, d, e, mk, bh, q0, q1, q2, q3, q4, q5, fun w' hk => hV.kp hk (fun x hx => ?_)⟩
  obtain ⟨h1, h2⟩ := hL x hx
  rintro (h | h | h)
  · subst h; rw [le] at h2; cases h2
  · omega
  · rw [lh x h] at h2; cases h2

theorem HeldL.more {w w' : World} {lab : Nat → Nat × Nat} {i ge : Nat} {hv hv' : Value} {nh : Nat} {hcs : List Value} {mk : Int} {b v d e b' v' d' e' : Value} (h : HeldL w lab (i, 5) nh hcs) (hlen : hcs.length = nh * 6) (le : lab ge = (i, 4)) (lh : ∀ k, hv.ownBlock = some k → lab k = (i, 4))
    (hk : Kp (fun k => k = ge ∨ w.heap.size ≤ k ∨ hv.ownBlock = some k) w w') (h1 : VOk w' b v d e mk 0) (h2 : VOk w' b' v' d' e' mk (mk + 1000)) (h3 : VIn w.heap.size w'.heap.size b v d e) (h4 : VIn w.heap.size w'.heap.size b' v' d' e') (h5 : ∀ k, hv'.ownBlock = some k → ∀ u ∈ [b, v, d, e, b', v', d', e'], u.ownBlock ≠ some k) :
    HeldL w' (rdlab lab w.heap.size i hv') (i, 5) (nh + 2) (hcs ++ [b, v, d, e, .int .i64 mk, .int .i64 0, b', v', d', e', .int .i64 mk, .int .i64 (mk + 1000)]) := by
  have hm : HeldL w' (rdlab lab w.heap.size i hv') (i, 5) nh hcs := h.move hk (fun x hx hl => by
    refine ⟨?_, (rdlab_old hx).trans hl⟩
    rintro (h | h | h)
    · subst h; rw [le] at hl; cases hl
    · omega
    · rw [lh x h] at hl; cases hl)
  intro j hj
  by_cases hlt : j < nh
  · obtain ⟨b0, v0, d0, e0, mk0, bh0, q0, q1, q2, q3, q4, q5, hV, hL⟩ := hm j hlt
    refine ⟨b0, v0, d0, e0, mk0, bh0, ?_, ?_, ?_, ?_, ?_, ?_, hV, hL⟩ <;> (rw [List.getElem?_append_left (by omega)]; assumption)
  · by_cases h' : j = nh
    · subst h'
      refine ⟨b, v, d, e, mk, 0, ?_, ?_, ?_, ?_, ?_, ?_, h1, fun k hk => ⟨(h3 k hk).2, rdlab_view (h3 k hk).1 (fun hh => ?_)⟩⟩
      iterate 6 (rw [List.getElem?_append_right (by omega), hlen]; simp [Nat.add_sub_cancel_left])
      have := h5 k hh
      simp only [List.mem_cons, List.not_mem_nil, or_false, forall_eq_or_imp, forall_eq] at this
      obtain ⟨t1, t2, t3, t4, _⟩ := this
      rcases hk with hk | hk | hk | hk
      · exact t1 hk
      · exact t2 hk
      · exact t3 hk
      · exact t4 hk
    · have h'' : j = nh + 1 := by omega
      subst h''
      refine ⟨b', v', d', e', mk, mk + 1000, ?_, ?_, ?_, ?_, ?_, ?_, h2, fun k hk => ⟨(h4 k hk).2, rdlab_view (h4 k hk).1 (fun hh => ?_)⟩⟩
      · rw [List.getElem?_append_right (by omega), hlen, show (nh + 1) * 6 - nh * 6 = 6 by omega]; rfl
      · rw [List.getElem?_append_right (by omega), hlen, show (nh + 1) * 6 + 1 - nh * 6 = 7 by omega]; rfl
      · rw [List.getElem?_append_right (by omega), hlen, show (nh + 1) * 6 + 2 - nh * 6 = 8 by omega]; rfl
      · rw [List.getElem?_append_right (by omega), hlen, show (nh + 1) * 6 + 3 - nh * 6 = 9 by omega]; rfl
      · rw [List.getElem?_append_right (by omega), hlen, show (nh + 1) * 6 + 4 - nh * 6 = 10 by omega]; rfl
      · rw [List.getElem?_append_right (by omega), hlen, show (nh + 1) * 6 + 5 - nh * 6 = 11 by omega]; rfl
      have := h5 k hh
      simp only [List.mem_cons, List.not_mem_nil, or_false, forall_eq_or_imp, forall_eq] at this
      obtain ⟨_, _, _, _, t1, t2, t3, t4⟩ := this
      rcases hk with hk | hk | hk | hk
      · exact t1 hk
      · exact t2 hk
      · exact t3 hk
      · exact t4 hk

/-- what a reading leaves -/
def RPost (w w' : World) (lab : Nat → Nat × Nat) (i ge gx gy gl nh : Nat) (mk : Int) (cx cy cl : LC) (vals : List VS) : Prop :=
  ∃ lab' hv' hcs', EI w' lab' i ge gx gy gl hv' (nh + 2) hcs' (mk + 1000 + 1000) cx cy cl vals ∧ (∀ k, k < w.heap.size → lab' k = lab k) ∧ Kp (fun k => (lab k).1 = i) w w'

theorem ereads {w : World} {lab : Nat → Nat × Nat} {i ge gx gy gl : Nat} {hv : Value} {nh : Nat} {hcs : List Value} {mk : Int} {cx cy cl : LC} {vals : List VS} (h : EI w lab i ge gx gy gl hv nh hcs mk cx cy cl vals) (hc : GoodC cl) (hz : ZV vals) (l2 : vals.length ≤ 5) (m1 : 0 ≤ mk) (m2 : mk ≤ 100000000000) (hnh : nh ≤ 1000000) (g : Nat)
    (hsee : Calls Tryz.prog 42 #[.pointer (some ⟨g, 0, none⟩)] w fun e w' => SeePost w w' e (VwOf cl vals)) :
    Calls Tryz.prog 24 #[.pointer (some ⟨ge, 0, none⟩), .pointer (some ⟨g, 0, none⟩)] w fun e w' => e = .returned (.bool true) ∧ RPost w w' lab i ge gx gy gl nh mk cx cy cl vals := by
  obtain ⟨lb, lv, le, hZ, f1, f2, f3, f4⟩ := h.L
  have hln := hc.len
  refine (reads_any ge gl g _ _ hv nh hcs mk (VwOf cl vals) w h.E hsee hZ.rd h.rh (h.held.ok h.le h.lh) m1 m2 hnh (by show cl.bal.length ≤ _; omega) (by show vals.length ≤ _; omega) (Nat.zero_le _) (Nat.zero_le _) hz.vb (fun k h => by simp [VwOf] at h) rfl (by show looseV vals = looseV vals + sumE []; simp [sumE])).mono ?_
  rintro e w' ⟨rfl, hv', b, v, d, e, b', v', d', e', h1, h2, h3, h4, h5, h6, h7, h8, h9⟩
  have hG : ∀ (p : Nat) (hp : p ≠ 4) (x : Nat), x < w.heap.size → lab x = (i, p) → ¬ (x = ge ∨ w.heap.size ≤ x ∨ hv.ownBlock = some x) ∧ rdlab lab w.heap.size i hv' x = (i, p) := fun p hp x hx hl => by
    refine ⟨?_, (rdlab_old hx).trans hl⟩
    rintro (h0 | h0 | h0)
    · subst h0; rw [h.le] at hl; exact hp (congrArg Prod.snd hl).symm
    · omega
    · rw [h.lh x h0] at hl; exact hp (congrArg Prod.snd hl).symm
  refine ⟨rfl, rdlab lab w.heap.size i hv', hv', _, ⟨h1, (rdlab_old h.E.lt).trans h.le, h.X.move h7 (hG 1 (by decide)), h.Y.move h7 (hG 2 (by decide)), h.L.move h7 (hG 3 (by decide)), h2, ?_, h.held.more h.rh.1 h.le h.lh h7 h3 h4 h5 h6 h9⟩, fun k hk => rdlab_old hk, h7.mono (fun k hk h0 => ?_)⟩
  · intro k hk
    by_cases hlt : k < w.heap.size
    · rcases h8 k hk with h0 | h0
      · exact (rdlab_old hlt).trans (h.lh k h0)
      · omega
    · exact rdlab_row (by omega) hk
  · rcases h0 with h0 | h0 | h0
    · subst h0; rw [h.le]
    · omega
    · rw [h.lh k h0]
end Go.Proofs.YtohjjgefklhmaaaGreatDoor

namespace Go.Proofs.YtohjjgefklhmaaaGreatDoor
open Go.ChangeShapes Go.WideShapes Go.ChangeAt Go.RowKit
set_option linter.unusedVariables false

/-- a step of a script -/
structure OpD where
  kind : Int
  x : Int
  a : Int
  b : Int
  c : Int
  d : Int
  s : ByteArray
def OpD.cells (o : OpD) : List Value := [.int .i64 o.kind, .int .i64 o.x, .int .i64 o.a, .int .i64 o.b, .int .i64 o.c, .int .i64 o.d, .string o.s]
def i64R (n : Int) : Prop := -9223372036854775808 ≤ n ∧ n ≤ 9223372036854775807
def OpD.ok (o : OpD) : Prop := i64R o.kind ∧ i64R o.x ∧ i64R o.a ∧ i64R o.b ∧ i64R o.c ∧ i64R o.d
def oprow : List OpD → List Value
  | [] => []
  | o :: l => o.cells ++ oprow l
theorem oprow_length (l : List OpD) : (oprow l).length = l.length * 7 := by
  induction l with
  | nil => rfl
  | cons v l ih => simp [oprow, ih, OpD.cells]; omega
theorem oprow_at (l : List OpD) (k : Nat) (h : k < l.length) (i : Nat) (hi : i < 7) : (oprow l)[k * 7 + i]? = l[k].cells[i]? := by
  induction l generalizing k with
  | nil => simp at h
  | cons v l ih =>
    cases k with
    | zero => simp [oprow, List.getElem?_append_left (show i < v.cells.length by simpa [OpD.cells] using hi)]
    | succ k =>
      rw [oprow, List.getElem?_append_right (by simp [OpD.cells]; omega)]
      have e : (k + 1) * 7 + i - v.cells.length = k * 7 + i := by simp [OpD.cells]; omega
      rw [e, ih k (by simpa using h)]
      simp
theorem oprow_snoc (l : List OpD) (o : OpD) : oprow (l ++ [o]) = oprow l ++ o.cells := by
  induction l with
  | nil => simp [oprow]
  | cons v l ih => simp [oprow, ih]
/-- a script in memory -/
def OpSl (w : World) (v : Value) (ops : List OpD) : Prop :=
  ∃ a cap, v = .slice a ops.length cap ∧ (0 < ops.length → ∃ g off, a = some ⟨g, off, none⟩ ∧ ∀ k (h : k < ops.length), ∀ i, i < 7 → w.cell? ⟨g, off + k * 7 + i, none⟩ = ops[k].cells[i]?)
theorem OpSl.get {w : World} {a : Option Addr} {cap : Nat} {ops : List OpD} (h : OpSl w (.slice a ops.length cap) ops) (h0 : 0 < ops.length) : ∃ g off, a = some ⟨g, off, none⟩ ∧ ∀ k (h : k < ops.length), ∀ i, i < 7 → w.cell? ⟨g, off + k * 7 + i, none⟩ = ops[k].cells[i]? := by
  obtain ⟨a', c', he, hx⟩ := h
  simp only [Value.slice.injEq, true_and] at he
  obtain ⟨rfl, rfl⟩ := he
  exact hx h0
theorem OpSl.below {w w' : World} {B : Nat} {v : Value} {ops : List OpD} (h : OpSl w v ops) (hb : Below B w w') (hB : w.heap.size ≤ B) : OpSl w' v ops := by
  obtain ⟨a, cap, rfl, hx⟩ := h
  refine ⟨a, cap, rfl, fun h0 => ?_⟩
  obtain ⟨g, off, rfl, hc⟩ := hx h0
  refine ⟨g, off, rfl, fun k hk i hi => ?_⟩
  have h1 := hc k hk i hi
  have h2 : ∃ u, ops[k].cells[i]? = some u := ⟨_, List.getElem?_eq_getElem (by simpa [OpD.cells] using hi)⟩
  obtain ⟨u, hu⟩ := h2
  rw [hb.cell (p := ⟨g, off + k * 7 + i, none⟩) (Nat.lt_of_lt_of_le (World.block_lt_of_cell? w _ (h1.trans hu)) hB)]
  exact h1

/-- not too much -/
def SmallOk (ops : List OpD) : Prop := ops.length ≤ 16384 ∧ ∀ k (h : k < ops.length), ops[k].s.size ≤ 16384
/-- true only where it is not too much -/
def BoolIf (e : Ending) (p : Prop) : Prop := ∃ b, e = .returned (.bool b) ∧ (b = true → p)
theorem BoolIf.tt {p : Prop} (h : p) : BoolIf (.returned (.bool true)) p := ⟨true, rfl, fun _ => h⟩
theorem BoolIf.ff {p : Prop} : BoolIf (.returned (.bool false)) p := ⟨false, rfl, fun h => by cases h⟩

set_option maxHeartbeats 1000000 in
set_option maxRecDepth 100000 in
theorem small_any (v : Value) (ops : List OpD) (w : World) (hv : OpSl w v ops) (hl : ops.length ≤ 9000000000000000) (hs : ∀ k (h : k < ops.length), ops[k].s.size ≤ 9000000000000000) :
    Calls Tryz.prog 10 #[v] w fun e w' => BoolIf e (SmallOk ops) ∧ w = w' := by
  obtain ⟨a, cap, rfl, hx0⟩ := id hv
  clear hx0
  by_cases hbig : 16384 < ops.length
  · clear hv hs
    go_enter Tryz.func10, Tryz.ntmps10
    go_wp2
    go_ret
    exact ⟨BoolIf.ff, rfl⟩
  · go_enter Tryz.func10, Tryz.ntmps10
    go_wp2
    go_loop [3, 4] (fun n i => ∃ k : Nat, k ≤ ops.length ∧ i = .int .i64 k ∧ ∃ m : Nat, m ≤ 16384 ∧ n = .int .i64 m ∧ ∀ j (h : j < ops.length), j < k → ops[j].s.size ≤ 16384) (fun _ i => ops.length - (intOf i).toNat)
    case atStart => exact ⟨0, Nat.zero_le _, rfl, ops.length, by omega, rfl, fun j _ h => by omega⟩
    case round =>
      obtain ⟨k, hk, rfl, m, hm, rfl, hA⟩ := hrel
      by_cases hlt : k < ops.length
      · obtain ⟨g, off, rfl, hc⟩ := hv.get (by omega)
        have x6 := hc k hlt 6 (by omega)
        have hsk := hs k hlt
        have HA : Hid (ops[k].s.size ≤ 16384 → ∀ j (h : j < ops.length), j < k + 1 → ops[j].s.size ≤ 16384) := fun h0 j h h1 => by
          by_cases e : j = k
          · subst e; exact h0
          · exact hA j h (by omega)
        generalize ops[k] = o at *
        simp only [OpD.cells, List.getElem?_cons_succ, List.getElem?_cons_zero] at x6
        clear hc hA hv hs
        by_cases hov : 16384 < m + o.s.size
        · go_wp2
          go_ret
          exact ⟨BoolIf.ff, rfl⟩
        · go_wp2
          go_round
          case rel => exact ⟨k + 1, by omega, by go_num, m + o.s.size, by omega, by go_num, HA.out (by omega)⟩
          case measure => simp [intOf]; omega
      · have HA : Hid (SmallOk ops) := ⟨by omega, fun j h => hA j h (by omega)⟩
        clear hA hv hs
        go_wp2
        go_ret
        exact ⟨BoolIf.tt HA.out, rfl⟩
end Go.Proofs.YtohjjgefklhmaaaGreatDoor
