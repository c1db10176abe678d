import Derived.Test.YtenjjneobkodbaaGreatSE2
namespace Go.Proofs.YtenjjneobkodbaaGreat
open Go.ChangeShapes Go.WideShapes Go.ChangeAt Go.RowKit
set_option linter.unusedVariables false

theorem SE.up {base : Nat} {w0 w : World} {gw n m : Nat} {x : RowV} {es : List Nat} {lab : Nat → Nat × Nat} (h : SInv base w0 w gw n x (KL lab w)) (hn : x.n = es.length) (hx : x.xs = ptrs es) (hl : es.length ≤ n) (hb : ∀ k, k < base → (lab k).1 = 0) (hE : ∀ i (h : i < es.length), EInv w lab (i + 1) es[i] n) (hm : n ≤ m) : SE base w0 w gw m :=
  ⟨x, es, lab, h.mono hm, hn, hx, by omega, hb, fun i hi => (hE i hi).mono hm⟩

set_option maxHeartbeats 4000000 in
set_option maxRecDepth 100000 in
theorem step_any (base : Nat) (w0 : World) (gw n : Nat) (o : OpD) (w : World) (hS : SE base w0 w gw n) (hn : n ≤ 40000) (ho : o.ok) (hs : o.s.size ≤ 16384) (hk : o.kind < 7 ∨ o.kind = 7 ∨ o.kind = 8 ∨ o.kind = 9 ∨ o.kind = 10 ∨ o.kind = 11 ∨ o.kind = 22) :
    Calls Tryz.prog 11 #[.pointer (some ⟨gw, 0, none⟩), .agg #[.int .i64 o.kind, .int .i64 o.x, .int .i64 o.a, .int .i64 o.b, .int .i64 o.c, .int .i64 o.d, .string o.s]] w fun e w' => e = .returned (.bool true) ∧ SE base w0 w' gw (n + 2) := by
  obtain ⟨x, es, lab, hI, hxn, hxx, hel, hb0, hEE⟩ := hS
  have HS1 : Hid (SInv base w0 (w.alloc (.cells #[.int .i64 o.kind, .int .i64 o.x, .int .i64 o.a, .int .i64 o.b, .int .i64 o.c, .int .i64 o.d, .string o.s] 27)) gw n x (fun g ob => KL lab w g ob ∨ (g = w.heap.size ∧ ob = .cells #[.int .i64 o.kind, .int .i64 o.x, .int .i64 o.a, .int .i64 o.b, .int .i64 o.c, .int .i64 o.d, .string o.s] 27))) := hI.box _
  have HO : Hid (o.ok) := ho
  have HI0 : Hid (SInv base w0 w gw n x (KL lab w)) := hI
  have Hb0 : Hid (∀ k, k < base → (lab k).1 = 0) := hb0
  have HE0 : Hid (∀ i (h : i < es.length), EInv w lab (i + 1) es[i] n) := hEE
  have Hxx : Hid (x.xs = ptrs es) := hxx
  have HXN : Hid (x.n = es.length) := hxn
  have hxle : x.n ≤ 40000 := by omega
  clear hI ho hb0 hEE hxx hxn
  obtain ⟨kind, X, A, B, C, D, s⟩ := o
  simp only at hs hk HS1
  go_enter Tryz.func11, Tryz.ntmps11
  go_wp2_with fail
  refine (owner_all base w0 gw n x _ ⟨kind, X, A, B, C, D, s⟩ _ HS1.out (by omega) HO.out hs).mono ?_
  rintro e w2 ⟨⟨b, rfl, hb⟩, hS2⟩
  simp only at hb
  have hX : Has w2 w.heap.size 27 [.int .i64 kind, .int .i64 X, .int .i64 A, .int .i64 B, .int .i64 C, .int .i64 D, .string s] := hS2.rl (.inr ⟨rfl, rfl⟩)
  obtain ⟨hI2, hb2, hE2, hz2⟩ := SE.owned HI0.out Hb0.out HE0.out hS2
  clear hS2 HI0 Hb0 HE0 HS1
  generalize relab lab w.heap.size (0, 0) = lab2 at hI2 hb2 hE2
  have Hb2 : Hid (∀ k, k < base → (lab2 k).1 = 0) := hb2
  have HE2 : Hid (∀ i (h : i < es.length), EInv w2 lab2 (i + 1) es[i] n) := hE2
  have HI2 : Hid (SInv base w0 w2 gw (n + 1) x (KL lab2 w2)) := hI2
  have HU : Hid (SE base w0 w2 gw (n + 2)) := SE.up hI2 HXN.out Hxx.out (by omega) hb2 (fun i hi => (hE2 i hi).mono (by omega)) (by omega)
  clear hb2 hE2 hz2
  cases b with
  | true =>
    clear hI2 hb hX
    go_wp2
    go_ret
    exact ⟨rfl, HU.out⟩
  | false =>
    have hb' : ¬ (1 ≤ kind ∧ kind ≤ 6) := fun h => by have := hb.2 h; cases this
    have y0 : w2.cell? ⟨w.heap.size, 0, none⟩ = some (.int .i64 kind) := hX.cell 0
    have y1 : w2.cell? ⟨w.heap.size, 1, none⟩ = some (.int .i64 X) := hX.cell 1
    have y2 : w2.cell? ⟨w.heap.size, 2, none⟩ = some (.int .i64 A) := hX.cell 2
    have y3 : w2.cell? ⟨w.heap.size, 3, none⟩ = some (.int .i64 B) := hX.cell 3
    have y4 : w2.cell? ⟨w.heap.size, 4, none⟩ = some (.int .i64 C) := hX.cell 4
    have y5 : w2.cell? ⟨w.heap.size, 5, none⟩ = some (.int .i64 D) := hX.cell 5
    have y6 : w2.cell? ⟨w.heap.size, 6, none⟩ = some (.string s) := hX.cell 6
    clear hb hX
    obtain ⟨vb, vo, vr, tv, bs, os, rs, ts, h1, h2, h3, h4, h6, h7⟩ := hI2
    have H6 : Hid (∀ k (h : k < ts.length), ts[k].1.size ≤ 16384) := h6
    have H7 : Hid (WSt base w0 w2 gw { v := vb, n := bs.length, xs := ints bs } { v := vo, n := os.length, xs := ints os } { v := vr, n := rs.length, xs := ints rs } { v := tv, n := ts.length, xs := trow ts } x (KL lab2 w2)) := h7
    clear h6
    by_cases k7 : kind = 7
    · subst k7
      clear hk hb' h7
      go_wp2_with fail
      refine (fresh_any (es.length + 1) (by omega) base w0 gw vb vo vr bs os rs _ x _ A B C _ H7.out (by omega) (by omega) (by omega) (by omega)).mono ?_
      rintro e w3 ⟨rfl, x', hx', hW⟩
      have HF : Hid (SE base w0 w3 gw (n + 2)) := SE.freshed H7.out hW h1 h2 h3 h4 H6.out HXN.out Hxx.out hel Hb2.out HE2.out hx'
      clear hW H7 H6 y0 y1 y2 y3 y4 y5 y6 HI2 HU
      go_wp2
      go_ret
      exact ⟨rfl, HF.out⟩
    by_cases k8 : kind = 8
    · subst k8
      clear hk hb' k7 h7
      go_wp2_with fail
      refine (fresh_any (es.length + 1) (by omega) base w0 gw vb vo vr bs os rs _ x _ A B 0 _ H7.out (by omega) (by omega) (by omega) (by omega)).mono ?_
      rintro e w3 ⟨rfl, x', hx', hW⟩
      have HF : Hid (SE base w0 w3 gw (n + 2)) := SE.freshed H7.out hW h1 h2 h3 h4 H6.out HXN.out Hxx.out hel Hb2.out HE2.out hx'
      clear hW H7 H6 y0 y1 y2 y3 y4 y5 y6 HI2 HU
      go_wp2
      go_ret
      exact ⟨rfl, HF.out⟩
    have e7 : (kind == 7) = false := beq_eq_false_iff_ne.2 k7
    have e8 : (kind == 8) = false := beq_eq_false_iff_ne.2 k8
    have e21 : (kind == 21) = false := beq_eq_false_iff_ne.2 (by omega)
    have e20 : (kind == 20) = false := beq_eq_false_iff_ne.2 (by omega)
    obtain ⟨xa, xc, hxv⟩ := ownsRow_slice h7.rx
    have c4 : w2.cell? ⟨gw, 4, none⟩ = some (.slice xa x.n xc) := by rw [← hxv]; exact h7.W.cell 4
    by_cases hx0 : x.n = 0
    · have ex : ((x.n : Int) == 0) = true := by rw [beq_iff_eq]; omega
      clear hx0 h7 hxv H7 H6
      go_wp2
      go_ret
      exact ⟨rfl, HU.out⟩
    have ex : ((x.n : Int) == 0) = false := by rw [beq_eq_false_iff_ne]; omega
    by_cases hk0 : kind ≤ 0
    · clear k7 k8 hk hb' h7 hxv H7 H6 hx0
      go_wp2
      go_ret
      exact ⟨rfl, HU.out⟩
    have hk9 : 9 ≤ kind := by omega
    have hk22 : kind ≤ 22 := by omega
    have hkk : kind = 9 ∨ kind = 10 ∨ kind = 11 ∨ kind = 22 := by omega
    have HKK : Hid (kind = 9 ∨ kind = 10 ∨ kind = 11 ∨ kind = 22) := hkk
    clear hkk
    have hxp : 1 ≤ (x.n : Int) := by omega
    obtain ⟨r1, r2⟩ := pickN_range X x.n hxp
    obtain ⟨j, hj⟩ := Int.eq_ofNat_of_zero_le r1
    have hjx : j < x.n := by omega
    have hje : j < es.length := by have := HXN.out; omega
    obtain ⟨gr, hgr, _⟩ := ownsRow_some (hxv ▸ h7.rx) (by omega)
    subst hgr
    have cx : w2.cell? ⟨gr, j, none⟩ = some (.pointer (some ⟨es[j], 0, none⟩)) := by
      have := (hxv ▸ h7.rx : w2.ownsRow base _ 1 (.slice (some ⟨gr, 0, none⟩) x.n xc) x.n x.xs).cellAt j (by omega)
      rw [this, Hxx.out]
      simp [ptrs, hje]
    have HJ : Hid (pickN X x.n = (j : Int)) := hj
    have HD : Hid (∀ m, Calls Tryz.prog 17 #[.pointer (some ⟨es[j], 0, none⟩), .agg #[.int .i64 kind, .int .i64 X, .int .i64 A, .int .i64 B, .int .i64 C, .int .i64 D, .string s]] (w2.drewN m) fun e w' => e = .returned (.bool true) ∧ SE base w0 w' gw (n + 2)) := fun m => by
      refine (edoes ⟨kind, X, A, B, C, D, s⟩ ((HE2.out j hje).move ((Kp.refl (fun _ => False) w2).drewN m) (fun b _ _ => ⟨fun h => h, rfl⟩)) (by omega) (by omega) HKK.out).mono ?_
      rintro e w3 ⟨rfl, lab3, q1, q2, q3⟩
      exact ⟨rfl, SE.done H7.out h1 h2 h3 h4 H6.out HXN.out Hxx.out hel Hb2.out HE2.out j hje (((Kp.refl _ w2).drewN m).trans q3) q2 (q1.mono (by omega))⟩
    have hX1 := HO.out.2.1.1
    have hX2 := HO.out.2.1.2
    simp only at hX1 hX2
    have hxm : (x.n : Int) ≤ 9223372036854775807 := by omega
    clear k7 k8 hk hb' h7 hxv H7 H6 hx0 HU HI2 HE2 Hb2 hj r1 r2 hk0
    go_wp2_with fail
    generalize es[j] = ge at *
    go_cut [6] (fun s6 wx => s6 = .pointer (some ⟨ge, 0, none⟩) ∧ ∃ m, wx = w2.drewN m)
    case first =>
      go_region_with (go_at_call 15; refine (pick_any _ _ _ hX1 hX2 hxp hxm).mono ?_; rintro e w' ⟨rfl, rfl⟩; rw [HJ.out])
      all_goals (go_wp2_with fail; go_meet; exact ⟨rfl, 1, rfl⟩)
    case rest =>
      obtain ⟨rfl, m, rfl⟩ := hcut
      go_wp2_with fail
      refine (HD.out m).mono ?_
      rintro e w3 ⟨rfl, hF⟩
      have HF : Hid (SE base w0 w3 gw (n + 2)) := hF
      clear hF HD
      go_wp2
      go_ret
      exact ⟨rfl, HF.out⟩
end Go.Proofs.YtenjjneobkodbaaGreat
