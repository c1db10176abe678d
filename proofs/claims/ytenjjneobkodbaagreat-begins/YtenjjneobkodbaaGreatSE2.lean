import Derived.Test.YtenjjneobkodbaaGreatSE
namespace Go.Proofs.YtenjjneobkodbaaGreat
open Go.ChangeShapes Go.WideShapes Go.ChangeAt Go.RowKit
set_option linter.unusedVariables false

theorem ptrs_snoc (es : List Nat) (g : Nat) : ptrs es ++ [.pointer (some ⟨g, 0, none⟩)] = ptrs (es ++ [g]) := by simp [ptrs]

/-- behind New -/
theorem SE.freshed {base : Nat} {w0 w w' : World} {gw n : Nat} {vb vo vr tv : Value} {bs os rs : List Int} {ts : List (ByteArray × Option Addr)} {x x' : RowV} {es : List Nat} {lab : Nat → Nat × Nat}
    (m : WSt base w0 w gw { v := vb, n := bs.length, xs := ints bs } { v := vo, n := os.length, xs := ints os } { v := vr, n := rs.length, xs := ints rs } { v := tv, n := ts.length, xs := trow ts } x (KL lab w))
    (m' : WSt base w0 w' gw { v := vb, n := bs.length, xs := ints bs } { v := vo, n := os.length, xs := ints os } { v := vr, n := rs.length, xs := ints rs } { v := tv, n := ts.length, xs := trow ts } x' (KL lab w))
    (h1 : bs.length ≤ n + 1) (h2 : os.length ≤ n + 1) (h3 : rs.length ≤ n + 1) (h4 : ts.length ≤ n + 1) (h6 : ∀ k (h : k < ts.length), ts[k].1.size ≤ 16384)
    (hn : x.n = es.length) (hx : x.xs = ptrs es) (hl : es.length ≤ n) (hb : ∀ k, k < base → (lab k).1 = 0) (hE : ∀ i (h : i < es.length), EInv w lab (i + 1) es[i] n) (hF : FPost w w' (es.length + 1) x x') : SE base w0 w' gw (n + 2) := by
  obtain ⟨hs, hF⟩ := hF
  have hK := m.keeps m' (lab := lab) (fun g ob hg => hg) hs
  rcases hF with rfl | ⟨ge, labN, e1, e2, e3, e4, e5⟩
  · refine ⟨x', es, relab lab w.heap.size (0, 0), ⟨vb, vo, vr, tv, bs, os, rs, ts, by omega, by omega, by omega, by omega, h6, m'.kept (fun g ob hg => ?_)⟩, hn, hx, by omega, fun k hk => ?_, fun i hi => ((hE i hi).move hK (fun b hb' hl' => ⟨fun e => by rw [e] at hl'; omega, relab_old hb'⟩)).mono (by omega)⟩
    · obtain ⟨g1, g2⟩ := hg
      have hlt : g < w.heap.size := by
        by_cases hc : g < w.heap.size
        · exact hc
        · rw [relab_new (by omega)] at g1; exact absurd rfl g1
      rw [relab_old hlt] at g1
      have e : w.heap[g]? = some w.heap[g] := Array.getElem?_eq_getElem hlt
      have := m'.rl g _ ⟨g1, e⟩
      rw [this.1] at g2
      cases g2
      exact this
    · by_cases hc : k < w.heap.size
      · rw [relab_old hc]; exact hb k hk
      · rw [relab_new (by omega)]
  · have hbs := m.hsz
    refine ⟨x', es ++ [ge], (fun k => if k < w.heap.size then lab k else labN k), ⟨vb, vo, vr, tv, bs, os, rs, ts, by omega, by omega, by omega, by omega, h6, m'.kept (fun g ob hg => ?_)⟩, by rw [e1, hn]; simp, by rw [e2, hx, ptrs_snoc], by simp; omega, fun k hk => ?_, fun i hi => ?_⟩
    · obtain ⟨g1, g2⟩ := hg
      by_cases hc : g < w.heap.size
      · simp only [if_pos hc] at g1
        have e : w.heap[g]? = some w.heap[g] := Array.getElem?_eq_getElem hc
        have := m'.rl g _ ⟨g1, e⟩
        rw [this.1] at g2
        cases g2
        exact this
      · simp only [if_neg hc] at g1
        have ha := m.aside (g := g) (by omega)
        exact ⟨g2, ha.w, ha.b, ha.o, ha.r, ha.t, fun e => g1 (e4 g e)⟩
    · simp only [if_pos (show k < w.heap.size by omega)]; exact hb k hk
    · by_cases hc : i < es.length
      · have e : (es ++ [ge])[i] = es[i] := List.getElem_append_left hc
        rw [e]
        exact ((hE i hc).move hK (fun b hb' hl' => ⟨fun e => by rw [e] at hl'; omega, if_pos hb'⟩)).mono (by omega)
      · have hi' : i = es.length := by simp at hi; omega
        subst hi'
        have e : (es ++ [ge])[es.length] = ge := by simp
        rw [e]
        refine (e5.move (Kp.refl (fun _ => False) w') (fun b hb' hl' => ⟨fun h => h, ?_⟩)).mono (by omega)
        have : ¬ b < w.heap.size := fun h => by rw [e3 b h] at hl'; simp at hl'
        simp only [if_neg this]

/-- behind a call on engine j -/
theorem SE.done {base : Nat} {w0 w w' : World} {gw n : Nat} {vb vo vr tv : Value} {bs os rs : List Int} {ts : List (ByteArray × Option Addr)} {x : RowV} {es : List Nat} {lab lab' : Nat → Nat × Nat}
    (m : WSt base w0 w gw { v := vb, n := bs.length, xs := ints bs } { v := vo, n := os.length, xs := ints os } { v := vr, n := rs.length, xs := ints rs } { v := tv, n := ts.length, xs := trow ts } x (KL lab w))
    (h1 : bs.length ≤ n + 1) (h2 : os.length ≤ n + 1) (h3 : rs.length ≤ n + 1) (h4 : ts.length ≤ n + 1) (h6 : ∀ k (h : k < ts.length), ts[k].1.size ≤ 16384)
    (hn : x.n = es.length) (hx : x.xs = ptrs es) (hl : es.length ≤ n) (hb : ∀ k, k < base → (lab k).1 = 0) (hE : ∀ i (h : i < es.length), EInv w lab (i + 1) es[i] n)
    (j : Nat) (hj : j < es.length) (hK : Kp (fun k => (lab k).1 = j + 1) w w') (hL : ∀ k, k < w.heap.size → lab' k = lab k) (hD : EInv w' lab' (j + 1) es[j] (n + 2)) : SE base w0 w' gw (n + 2) := by
  have hbs := m.hsz
  have hA : ∀ k, k < w.heap.size → (lab k).1 ≠ 0 → Aside gw vb vo vr tv x.v k := fun k hk h => (m.rl k _ ⟨h, Array.getElem?_eq_getElem hk⟩).2
  refine ⟨x, es, lab', ⟨vb, vo, vr, tv, bs, os, rs, ts, by omega, by omega, by omega, by omega, h6, m.kp hK (fun k hk h => ⟨?_, hA k hk (by rw [h]; omega)⟩) (fun g ob hg => ⟨hg.2, ?_⟩)⟩, hn, hx, by omega, fun k hk => by rw [hL k (by omega)]; exact hb k hk, fun i hi => ?_⟩
  · by_cases hc : k < base
    · rw [hb k hc] at h; omega
    · omega
  · by_cases hc : g < w.heap.size
    · have := hg.1
      rw [hL g hc] at this
      exact hA g hc this
    · exact m.aside (by omega)
  · by_cases hc : i = j
    · subst hc; exact hD
    · exact ((hE i hi).move hK (fun b hb' hl' => ⟨fun e => by rw [e] at hl'; omega, hL b hb'⟩)).mono (by omega)

/-- a call on engine j, as the script makes it -/
theorem edoes {w : World} {lab : Nat → Nat × Nat} {i ge n : Nat} (o : OpD) (h : EInv w lab i ge n) (hn : n ≤ 50000) (hi : i ≠ 0) (hk : o.kind = 9 ∨ o.kind = 10 ∨ o.kind = 11 ∨ o.kind = 22) :
    Calls Tryz.prog 17 #[.pointer (some ⟨ge, 0, none⟩), .agg #[.int .i64 o.kind, .int .i64 o.x, .int .i64 o.a, .int .i64 o.b, .int .i64 o.c, .int .i64 o.d, .string o.s]] w fun e w' => e = .returned (.bool true) ∧ ∃ lab', EInv w' lab' i ge (n + 1) ∧ (∀ k, k < w.heap.size → lab' k = lab k) ∧ Kp (fun k => (lab k).1 = i) w w' := by
  obtain ⟨gx, gy, gl, hv, nh, hcs, mk, c, vals, h1, h2, h3, h4, h5, h6, h7, h8⟩ := h
  by_cases h22 : o.kind = 22
  · refine (look_any o h1 h2 h3 h5 h6 (by omega) (by omega) h22).mono ?_
    rintro e w' ⟨rfl, lab', hv', hcs', c', q1, q2, q3, q4⟩
    exact ⟨rfl, lab', ⟨gx, gy, gl, hv', nh + 2, hcs', mk + 1000 + 1000, c', vals, q1, q2, h3, h4, h5, by omega, by omega, by omega⟩, q3, q4⟩
  · refine (does_any o h1 h2 h3 h4 h5 h6 (by omega) (by omega) hi (by omega)).mono ?_
    rintro e w' ⟨rfl, lab', hv', hcs', c', q1, q2, q3, q4⟩
    exact ⟨rfl, lab', ⟨gx, gy, gl, hv', nh + 2, hcs', mk + 1000 + 1000, c', vals, q1, q2, h3, h4, h5, by omega, by omega, by omega⟩, q3, q4⟩
end Go.Proofs.YtenjjneobkodbaaGreat
