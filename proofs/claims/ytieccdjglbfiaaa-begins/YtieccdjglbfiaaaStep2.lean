import Derived.Test.YtieccdjglbfiaaaStep
namespace Go.Proofs.Ytieccdjglbfiaaa
open Go.ChangeShapes Go.WideShapes Go.ChangeAt Go.RowKit
set_option linter.unusedVariables false

theorem SInv.alloc {base : Nat} {w0 w : World} {gw n : Nat} {l : Nat → List Value → Prop} (h : SInv base w0 w gw n l) (ob : Obj) : SInv base w0 (w.alloc ob) gw n l := by
  obtain ⟨vb, vo, vr, tv, bs, os, rs, ts, x, h1, h2, h3, h4, h5, h6, h7⟩ := h
  exact ⟨vb, vo, vr, tv, bs, os, rs, ts, x, h1, h2, h3, h4, h5, h6, h7.alloc ob⟩
theorem SInv.rl {base : Nat} {w0 w : World} {gw n : Nat} {l : Nat → List Value → Prop} (h : SInv base w0 w gw n l) : ∀ g L, l g L → Has w g 37 L := by
  obtain ⟨vb, vo, vr, tv, bs, os, rs, ts, x, h1, h2, h3, h4, h5, h6, h7⟩ := h
  exact h7.rl
theorem SInv.fr {base : Nat} {w0 w : World} {gw n : Nat} {l : Nat → List Value → Prop} (h : SInv base w0 w gw n l) : Below base w0 w := by
  obtain ⟨vb, vo, vr, tv, bs, os, rs, ts, x, h1, h2, h3, h4, h5, h6, h7⟩ := h
  exact h7.fr
theorem SInv.kept {base : Nat} {w0 w : World} {gw n : Nat} {l l' : Nat → List Value → Prop} (h : SInv base w0 w gw n l) (hl : ∀ g L, l' g L → Has w g 37 L) : SInv base w0 w gw n l' := by
  obtain ⟨vb, vo, vr, tv, bs, os, rs, ts, x, h1, h2, h3, h4, h5, h6, h7⟩ := h
  exact ⟨vb, vo, vr, tv, bs, os, rs, ts, x, h1, h2, h3, h4, h5, h6, h7.kept hl⟩

set_option maxHeartbeats 4000000 in
set_option maxRecDepth 100000 in
theorem step_any (base : Nat) (w0 : World) (gw n : Nat) (l : Nat → List Value → Prop) (o : OpD) (w : World) (hS : SInv base w0 w gw n l) (hn : n ≤ 50000) (ho : o.ok) (hs : o.s.size ≤ 16384) (hk : o.kind < 7 ∨ o.kind = 7 ∨ o.kind = 8) :
    Calls Try.prog 23 #[.pointer (some ⟨gw, 0, none⟩), .agg #[.int .i64 o.kind, .int .i64 o.x, .int .i64 o.a, .int .i64 o.b, .int .i64 o.c, .int .i64 o.d, .string o.s]] w fun e w' => e = .returned (.bool true) ∧ SInv base w0 w' gw (n + 2) l := by
  have hB : Has (w.alloc (.cells #[.int .i64 o.kind, .int .i64 o.x, .int .i64 o.a, .int .i64 o.b, .int .i64 o.c, .int .i64 o.d, .string o.s] 37)) w.heap.size 37 o.cells := Has.newA w _ _
  have HS1 : Hid (SInv base w0 (w.alloc (.cells #[.int .i64 o.kind, .int .i64 o.x, .int .i64 o.a, .int .i64 o.b, .int .i64 o.c, .int .i64 o.d, .string o.s] 37)) gw n (fun g L => l g L ∨ (g = w.heap.size ∧ L = o.cells))) :=
    (hS.alloc _).kept (fun g L h => by
      rcases h with h | ⟨rfl, rfl⟩
      · exact (hS.alloc _).rl g L h
      · exact hB)
  have HO : Hid (o.ok) := ho
  clear hB hS ho
  obtain ⟨kind, X, A, B, C, D, s⟩ := o
  simp only at hs hk HS1
  go_enter Try.func23, Try.ntmps23
  go_wp2_with fail
  refine (owner_all base w0 gw n _ ⟨kind, X, A, B, C, D, s⟩ _ HS1.out hn HO.out hs).mono ?_
  rintro e w2 ⟨⟨b, rfl, hb⟩, hS2⟩
  simp only at hb
  have hX : Has w2 w.heap.size 37 [.int .i64 kind, .int .i64 X, .int .i64 A, .int .i64 B, .int .i64 C, .int .i64 D, .string s] := hS2.rl _ _ (.inr ⟨rfl, rfl⟩)
  cases b with
  | true =>
    have HS3 : Hid (SInv base w0 w2 gw (n + 2) l) := (hS2.mono (by omega)).kept (fun g L h => hS2.rl g L (.inl h))
    clear hS2 hb hX HS1
    go_wp2
    go_ret
    exact ⟨rfl, HS3.out⟩
  | false =>
    have hb' : ¬ (1 ≤ kind ∧ kind ≤ 6) := fun h => by have := hb.2 h; cases this
    have y0 : w2.cell? ⟨w.heap.size, 0, none⟩ = some (.int .i64 kind) := hX.cell 0
    have y2 : w2.cell? ⟨w.heap.size, 2, none⟩ = some (.int .i64 A) := hX.cell 2
    have y3 : w2.cell? ⟨w.heap.size, 3, none⟩ = some (.int .i64 B) := hX.cell 3
    have y4 : w2.cell? ⟨w.heap.size, 4, none⟩ = some (.int .i64 C) := hX.cell 4
    have hl0 : ∀ g L, l g L → Has w2 g 37 L := fun g L h => hS2.rl g L (.inl h)
    have hS3 : SInv base w0 w2 gw (n + 1) l := hS2.kept hl0
    clear hS2 hb hX HS1 hl0
    obtain ⟨vb, vo, vr, tv, bs, os, rs, ts, x, h1, h2, h3, h4, h5, h6, h7⟩ := hS3
    have H6 : Hid (∀ k (h : k < ts.length), ts[k].1.size ≤ 16384) := h6
    have H7 : Hid (WSt base w0 w2 gw { v := vb, n := bs.length, xs := ints bs } { v := vo, n := os.length, xs := ints os } { v := vr, n := rs.length, xs := ints rs } { v := tv, n := ts.length, xs := trow ts } x l) := h7
    clear h6
    by_cases k7 : kind = 7
    · subst k7
      clear hk hb' h7
      go_wp2_with fail
      refine (fresh_any base w0 gw vb vo vr bs os rs _ x l A B C _ H7.out (by omega) (by omega) (by omega) (by omega)).mono ?_
      rintro e w3 ⟨rfl, x', hx', hW⟩
      have HF : Hid (SInv base w0 w3 gw (n + 2) l) := ⟨vb, vo, vr, tv, bs, os, rs, ts, x', by omega, by omega, by omega, by omega, by omega, H6.out, hW⟩
      clear hW H7 H6 y0 y2 y3 y4
      go_wp2
      go_ret
      exact ⟨rfl, HF.out⟩
    by_cases k8 : kind = 8
    · subst k8
      clear hk hb' k7 h7
      go_wp2_with fail
      refine (fresh_any base w0 gw vb vo vr bs os rs _ x l A B 0 _ H7.out (by omega) (by omega) (by omega) (by omega)).mono ?_
      rintro e w3 ⟨rfl, x', hx', hW⟩
      have HF : Hid (SInv base w0 w3 gw (n + 2) l) := ⟨vb, vo, vr, tv, bs, os, rs, ts, x', by omega, by omega, by omega, by omega, by omega, H6.out, hW⟩
      clear hW H7 H6 y0 y2 y3 y4
      go_wp2
      go_ret
      exact ⟨rfl, HF.out⟩
    have hk0 : kind ≤ 0 := by omega
    have e7 : (kind == 7) = false := beq_eq_false_iff_ne.2 k7
    have e8 : (kind == 8) = false := beq_eq_false_iff_ne.2 k8
    have e21 : (kind == 21) = false := beq_eq_false_iff_ne.2 (by omega)
    obtain ⟨xa, xc, hxv⟩ := ownsRow_slice h7.rx
    have c4 : w2.cell? ⟨gw, 4, none⟩ = some (.slice xa x.n xc) := by rw [← hxv]; exact h7.W.cell 4
    have HF : Hid (SInv base w0 w2 gw (n + 2) l) := ⟨vb, vo, vr, tv, bs, os, rs, ts, x, by omega, by omega, by omega, by omega, by omega, H6.out, H7.out⟩
    clear k7 k8 hk hb' h7 hxv H7 H6
    by_cases hx0 : x.n = 0
    · have ex : ((x.n : Int) == 0) = true := by rw [beq_iff_eq]; omega
      clear hx0
      go_wp2
      go_ret
      exact ⟨rfl, HF.out⟩
    · have ex : ((x.n : Int) == 0) = false := by rw [beq_eq_false_iff_ne]; omega
      clear hx0
      go_wp2
      go_ret
      exact ⟨rfl, HF.out⟩

set_option maxHeartbeats 4000000 in
set_option maxRecDepth 100000 in
theorem upTo_any : UpToSaid [7, 8] := by
  intro w lv lo hown hlen hall
  obtain ⟨la, lc, rfl⟩ := ownsRow_slice hown
  have HALL : Hid (AllOk [7, 8] lo) := hall
  clear hall
  have HS0 : Hid (SInv w.heap.size w (w.alloc (.cells #[.slice none 0 0, .slice none 0 0, .slice none 0 0, .slice none 0 0, .slice none 0 0] 51)) w.heap.size (2 * 0) (fun g L => Has w g 37 L)) := by
    refine ⟨.slice none 0 0, .slice none 0 0, .slice none 0 0, .slice none 0 0, [], [], [], [], RowV.nil, Nat.le_refl _, Nat.le_refl _, Nat.le_refl _, Nat.le_refl _, Nat.le_refl _, fun k h => by simp at h, ?_⟩
    exact ⟨(Below.refl _ _).alloc (Nat.le_refl _) _, Nat.le_refl _, Has.newA w _ _, Df.nil _, Df.nil _, Df.nil _, World.ownsRow_nil _ _ _ _, World.ownsRow_nil _ _ _ _, World.ownsRow_nil _ _ _ _, World.ownsRow_nil _ _ _ _, World.ownsRow_nil _ _ _ _, fun g L h => h.alloc _⟩
  have HC : Hid (0 < lo.length → ∃ g, la = some ⟨g, 0, none⟩ ∧ ∃ L, Has w g 37 L ∧ ∀ j, j < lo.length * 7 → L[j]? = (oprow lo)[j]?) := by
    intro h0
    rcases hown.2 with ⟨_, h1⟩ | ⟨g, cap, cur, h1, h2, h3, h4, h5, h6, h7⟩
    · omega
    · simp only [Value.slice.injEq, true_and] at h1
      refine ⟨g, h1.1, cur.toList, by unfold Has; rw [Array.toArray_toList]; exact h3, fun j hj => ?_⟩
      rw [← h7, List.getElem?_take, if_pos hj]
  clear hown
  go_enter Try.func18, Try.ntmps18
  go_wp2
  go_loopw [4] (fun i wr => ∃ k : Nat, k ≤ lo.length ∧ i = .int .i64 k ∧ SInv w.heap.size w wr w.heap.size (2 * k) (fun g L => Has w g 37 L)) (fun i _ => lo.length - (intOf i).toNat)
  case atStart => exact ⟨0, Nat.zero_le _, rfl, HS0.out⟩
  case round =>
    clear HS0
    obtain ⟨k, hk, rfl, hS⟩ := hrel
    by_cases hlt : k < lo.length
    · obtain ⟨g, rfl, L, hL, hLc⟩ := HC.out (by omega)
      have hL2 := hS.rl g L hL
      have z : ∀ i, i < 7 → wr.cell? ⟨g, k * 7 + i, none⟩ = lo[k].cells[i]? := fun i hi => by rw [hL2.cell, hLc _ (by omega), oprow_at lo k hlt i hi]
      have z0 := z 0 (by omega)
      have z1 := z 1 (by omega)
      have z2 := z 2 (by omega)
      have z3 := z 3 (by omega)
      have z4 := z 4 (by omega)
      have z5 := z 5 (by omega)
      have z6 := z 6 (by omega)
      have hal := HALL.out k hlt
      generalize lo[k] = o at *
      simp only [OpD.cells, List.getElem?_cons_succ, List.getElem?_cons_zero, Nat.add_zero] at z0 z1 z2 z3 z4 z5 z6
      have HO : Hid (Allow [7, 8] o.kind ∧ o.ok ∧ o.s.size ≤ 16384) := hal
      have HS : Hid (SInv w.heap.size w wr w.heap.size (2 * k) (fun g L => Has w g 37 L)) := hS
      clear z hL2 hLc hL hal hS
      go_wp2_with fail
      refine (step_any w.heap.size w w.heap.size (2 * k) _ o _ HS.out (by omega) HO.out.2.1 HO.out.2.2 (by
        rcases HO.out.1 with h | h
        · exact .inl h
        · simp at h; omega)).mono ?_
      rintro e w2 ⟨rfl, hS2⟩
      have HS2 : Hid (SInv w.heap.size w w2 w.heap.size (2 * (k + 1)) (fun g L => Has w g 37 L)) := hS2
      clear hS2 HS HO z0 z1 z2 z3 z4 z5 z6
      go_wp2
      refine And.intro ?_ ?_
      · first | exact ⟨k + 1, by omega, by go_num, HS2.out⟩ | ((repeat apply Exists.intro); exact ⟨⟨k + 1, by omega, by go_num, HS2.out⟩, rfl⟩)
      · simp [intOf]; omega
    · have HF : Hid (Below w.heap.size w wr) := hS.fr
      clear hS
      go_wp2
      go_ret
      exact ⟨rfl, HF.out⟩
end Go.Proofs.Ytieccdjglbfiaaa
