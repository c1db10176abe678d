import Derived.Test.YtohjjgefklhmaaaGreatDoorPlaysM
namespace Go.Proofs.YtohjjgefklhmaaaGreatDoor
open Go.ChangeShapes Go.WideShapes Go.ChangeAt Go.RowKit
set_option linter.unusedVariables false

def ptrs (es : List Nat) : List Value := es.map (fun g => .pointer (some ⟨g, 0, none⟩))
/-- the blocks of the engines -/
def KL (lab : Nat → Nat × Nat) (w : World) : Nat → Obj → Prop := fun g ob => (lab g).1 ≠ 0 ∧ w.heap[g]? = some ob

theorem WSt.kp {S : Nat → Prop} {base : Nat} {w0 w w' : World} {gw : Nat} {b o r t x : RowV} {l l' : Nat → Obj → Prop} (m : WSt base w0 w gw b o r t x l) (hk : Kp S w w') (hS : ∀ k, k < w.heap.size → S k → base ≤ k ∧ Aside gw b.v o.v r.v t.v x.v k) (hl : ∀ g ob, l' g ob → w'.heap[g]? = some ob ∧ Aside gw b.v o.v r.v t.v x.v g) : WSt base w0 w' gw b o r t x l' :=
  ⟨⟨hk.os.trans m.fr.os, hk.tape.trans m.fr.tape, hk.output.trans m.fr.output, Nat.le_trans m.fr.size hk.size, fun k h => (hk.block k (Nat.lt_of_lt_of_le h m.hsz) (fun h' => by have := (hS k (Nat.lt_of_lt_of_le h m.hsz) h').1; omega)).trans (m.fr.block k h)⟩, m.hgw, m.W.kp hk (fun h => (hS gw m.W.lt h).2.w rfl), m.dbo, m.dbr, m.dor,
    ownsRow_kp m.rb hk (fun b' hb h => (hS b' (m.rb.lt b' hb).2 h).2.b hb), ownsRow_kp m.ro hk (fun b' hb h => (hS b' (m.ro.lt b' hb).2 h).2.o hb), ownsRow_kp m.rr hk (fun b' hb h => (hS b' (m.rr.lt b' hb).2 h).2.r hb), ownsRow_kp m.rt hk (fun b' hb h => (hS b' (m.rt.lt b' hb).2 h).2.t hb), ownsRow_kp m.rx hk (fun b' hb h => (hS b' (m.rx.lt b' hb).2 h).2.x hb), hl⟩
/-- a new block lies aside -/
theorem WSt.aside {base : Nat} {w0 w : World} {gw : Nat} {b o r t x : RowV} {l : Nat → Obj → Prop} (m : WSt base w0 w gw b o r t x l) {g : Nat} (hg : w.heap.size ≤ g) : Aside gw b.v o.v r.v t.v x.v g :=
  ⟨fun e => by have := m.W.lt; omega, fun e => by have := (m.rb.lt g e).2; omega, fun e => by have := (m.ro.lt g e).2; omega, fun e => by have := (m.rr.lt g e).2; omega, fun e => by have := (m.rt.lt g e).2; omega, fun e => by have := (m.rx.lt g e).2; omega⟩
/-- what stands behind calls that keep the engines' blocks -/
theorem WSt.keeps {base : Nat} {w0 w w' : World} {gw : Nat} {b o r t x b' o' r' t' x' : RowV} {l l' : Nat → Obj → Prop} {lab : Nat → Nat × Nat} (m : WSt base w0 w gw b o r t x l) (m' : WSt base w0 w' gw b' o' r' t' x' l') (hl : ∀ g ob, KL lab w g ob → l' g ob) (hs : w.heap.size ≤ w'.heap.size) : Kp (fun k => (lab k).1 = 0) w w' :=
  ⟨m'.fr.os.trans m.fr.os.symm, m'.fr.tape.trans m.fr.tape.symm, m'.fr.output.trans m.fr.output.symm, hs, fun k hk hn => by
    have e : w.heap[k]? = some w.heap[k] := Array.getElem?_eq_getElem hk
    rw [e]
    exact (m'.rl k _ (hl k _ ⟨hn, e⟩)).1⟩

theorem EInv.mono {w : World} {lab : Nat → Nat × Nat} {i ge m m' : Nat} (h : EInv w lab i ge m) (hm : m ≤ m') : EInv w lab i ge m' := by
  obtain ⟨gx, gy, gl, hv, nh, hcs, mk, c, vals, h1, h2, h3, h4, h5, h6, h7, h8⟩ := h
  exact ⟨gx, gy, gl, hv, nh, hcs, mk, c, vals, h1, h2, h3, h4, h5, h6, by omega, by omega⟩

/-- what holds between two steps, with the engines -/
def SE (base : Nat) (w0 w : World) (gw n : Nat) : Prop :=
  ∃ x es lab, SInv base w0 w gw n x (KL lab w) ∧ x.n = List.length es ∧ x.xs = ptrs es ∧ es.length ≤ n ∧ (∀ k, k < base → (lab k).1 = 0) ∧ (∀ i (h : i < es.length), EInv w lab (i + 1) es[i] n)

theorem SInv.alloc {base : Nat} {w0 w : World} {gw n : Nat} {x : RowV} {l : Nat → Obj → Prop} (h : SInv base w0 w gw n x l) (ob : Obj) : SInv base w0 (w.alloc ob) gw n x l := by
  obtain ⟨vb, vo, vr, tv, bs, os, rs, ts, h1, h2, h3, h4, h6, h7⟩ := h
  exact ⟨vb, vo, vr, tv, bs, os, rs, ts, h1, h2, h3, h4, h6, h7.alloc ob⟩
theorem SInv.fr {base : Nat} {w0 w : World} {gw n : Nat} {x : RowV} {l : Nat → Obj → Prop} (h : SInv base w0 w gw n x l) : Below base w0 w := by
  obtain ⟨vb, vo, vr, tv, bs, os, rs, ts, h1, h2, h3, h4, h6, h7⟩ := h
  exact h7.fr
theorem SInv.box {base : Nat} {w0 w : World} {gw n : Nat} {x : RowV} {l : Nat → Obj → Prop} (h : SInv base w0 w gw n x l) (ob : Obj) : SInv base w0 (w.alloc ob) gw n x (fun g o => l g o ∨ (g = w.heap.size ∧ o = ob)) := by
  obtain ⟨vb, vo, vr, tv, bs, os, rs, ts, h1, h2, h3, h4, h6, h7⟩ := h
  refine ⟨vb, vo, vr, tv, bs, os, rs, ts, h1, h2, h3, h4, h6, (h7.alloc ob).kept (fun g o hg => ?_)⟩
  rcases hg with hg | ⟨rfl, rfl⟩
  · exact (h7.alloc ob).rl g o hg
  · exact ⟨heap_alloc_new w _, h7.aside (Nat.le_refl _)⟩
theorem SInv.rl {base : Nat} {w0 w : World} {gw n : Nat} {x : RowV} {l : Nat → Obj → Prop} (h : SInv base w0 w gw n x l) {g : Nat} {ob : Obj} (hg : l g ob) : w.heap[g]? = some ob := by
  obtain ⟨vb, vo, vr, tv, bs, os, rs, ts, h1, h2, h3, h4, h6, h7⟩ := h
  exact (h7.rl g ob hg).1

/-- behind a step on what the caller owns -/
theorem SE.owned {base : Nat} {w0 w w2 : World} {gw n m : Nat} {x : RowV} {es : List Nat} {lab : Nat → Nat × Nat} {box : Obj} (h : SInv base w0 w gw n x (KL lab w)) (hb : ∀ k, k < base → (lab k).1 = 0) (hE : ∀ i (h : i < es.length), EInv w lab (i + 1) es[i] m)
    (h2 : SInv base w0 w2 gw (n + 1) x (fun g o => KL lab w g o ∨ (g = w.heap.size ∧ o = box))) :
    SInv base w0 w2 gw (n + 1) x (KL (relab lab w.heap.size (0, 0)) w2) ∧ (∀ k, k < base → (relab lab w.heap.size (0, 0) k).1 = 0) ∧ (∀ i (h : i < es.length), EInv w2 (relab lab w.heap.size (0, 0)) (i + 1) es[i] m) ∧ w.heap.size < w2.heap.size := by
  obtain ⟨vb, vo, vr, tv, bs, os, rs, ts, h1, h2', h3, h4, h6, h7⟩ := h
  obtain ⟨vb', vo', vr', tv', bs', os', rs', ts', k1, k2, k3, k4, k6, k7⟩ := h2
  have hs : w.heap.size < w2.heap.size := heap_lt (k7.rl w.heap.size box (.inr ⟨rfl, rfl⟩)).1
  have hK := h7.keeps k7 (lab := lab) (fun g ob hg => .inl hg) (by omega)
  refine ⟨⟨vb', vo', vr', tv', bs', os', rs', ts', k1, k2, k3, k4, k6, k7.kept (fun g ob hg => ?_)⟩, fun k hk => ?_, fun i hi => (hE i hi).move hK (fun b hb' hl => ⟨fun e => by rw [e] at hl; omega, relab_old hb'⟩), hs⟩
  · obtain ⟨g1, g2⟩ := hg
    have hlt : g < w.heap.size := by
      by_cases hc : g < w.heap.size
      · exact hc
      · rw [relab_new (by omega)] at g1; exact absurd rfl g1
    rw [relab_old hlt] at g1
    have e : w.heap[g]? = some w.heap[g] := Array.getElem?_eq_getElem hlt
    have := k7.rl g _ (.inl ⟨g1, e⟩)
    rw [this.1] at g2
    cases g2
    exact this
  · by_cases hc : k < w.heap.size
    · rw [relab_old hc]; exact hb k hk
    · rw [relab_new (by omega)]
end Go.Proofs.YtohjjgefklhmaaaGreatDoor

namespace Go.Proofs.YtohjjgefklhmaaaGreatDoor
open Go.ChangeShapes Go.WideShapes Go.ChangeAt Go.RowKit
set_option linter.unusedVariables false

theorem ptrs_snoc (es : List Nat) (g : Nat) : ptrs es ++ [.pointer (some ⟨g, 0, none⟩)] = ptrs (es ++ [g]) := by simp [ptrs]

/-- behind New -/
theorem SE.freshed {base : Nat} {w0 w w' : World} {gw n : Nat} {vb vo vr tv : Value} {bs os rs : List Int} {ts : List (ByteArray × Option Addr)} {x x' : RowV} {es : List Nat} {lab : Nat → Nat × Nat}
    (m : WSt base w0 w gw { v := vb, n := bs.length, xs := ints bs } { v := vo, n := os.length, xs := ints os } { v := vr, n := rs.length, xs := ints rs } { v := tv, n := ts.length, xs := trow ts } x (KL lab w))
    (m' : WSt base w0 w' gw { v := vb, n := bs.length, xs := ints bs } { v := vo, n := os.length, xs := ints os } { v := vr, n := rs.length, xs := ints rs } { v := tv, n := ts.length, xs := trow ts } x' (KL lab w))
    (h1 : bs.length ≤ n + 1) (h2 : os.length ≤ n + 1) (h3 : rs.length ≤ n + 1) (h4 : ts.length ≤ n + 1) (h6 : ∀ k (h : k < ts.length), ts[k].1.size ≤ 16384)
    (hn : x.n = es.length) (hx : x.xs = ptrs es) (hl : es.length ≤ n) (hb : ∀ k, k < base → (lab k).1 = 0) (hE : ∀ i (h : i < es.length), EInv w lab (i + 1) es[i] n) (hF : FPost w w' (es.length + 1) x x') : SE base w0 w' gw (n + 2) := by
  obtain ⟨hs, hF⟩ := hF
  have hK := m.keeps m' (lab := lab) (fun g ob hg => hg) hs
  rcases hF with rfl | ⟨ge, labN, e1, e2, e3, e4, e5⟩
  · refine ⟨x', es, relab lab w.heap.size (0, 0), ⟨vb, vo, vr, tv, bs, os, rs, ts, by omega, by omega, by omega, by omega, h6, m'.kept (fun g ob hg => ?_)⟩, hn, hx, by omega, fun k hk => ?_, fun i hi => ((hE i hi).move hK (fun b hb' hl' => ⟨fun e => by rw [e] at hl'; omega, relab_old hb'⟩)).mono (by omega)⟩
    · obtain ⟨g1, g2⟩ := hg
      have hlt : g < w.heap.size := by
        by_cases hc : g < w.heap.size
        · exact hc
        · rw [relab_new (by omega)] at g1; exact absurd rfl g1
      rw [relab_old hlt] at g1
      have e : w.heap[g]? = some w.heap[g] := Array.getElem?_eq_getElem hlt
      have := m'.rl g _ ⟨g1, e⟩
      rw [this.1] at g2
      cases g2
      exact this
    · by_cases hc : k < w.heap.size
      · rw [relab_old hc]; exact hb k hk
      · rw [relab_new (by omega)]
  · have hbs := m.hsz
    refine ⟨x', es ++ [ge], (fun k => if k < w.heap.size then lab k else labN k), ⟨vb, vo, vr, tv, bs, os, rs, ts, by omega, by omega, by omega, by omega, h6, m'.kept (fun g ob hg => ?_)⟩, by rw [e1, hn]; simp, by rw [e2, hx, ptrs_snoc], by simp; omega, fun k hk => ?_, fun i hi => ?_⟩
    · obtain ⟨g1, g2⟩ := hg
      by_cases hc : g < w.heap.size
      · simp only [if_pos hc] at g1
        have e : w.heap[g]? = some w.heap[g] := Array.getElem?_eq_getElem hc
        have := m'.rl g _ ⟨g1, e⟩
        rw [this.1] at g2
        cases g2
        exact this
      · simp only [if_neg hc] at g1
        have ha := m.aside (g := g) (by omega)
        exact ⟨g2, ha.w, ha.b, ha.o, ha.r, ha.t, fun e => g1 (e4 g e)⟩
    · simp only [if_pos (show k < w.heap.size by omega)]; exact hb k hk
    · by_cases hc : i < es.length
      · have e : (es ++ [ge])[i] = es[i] := List.getElem_append_left hc
        rw [e]
        exact ((hE i hc).move hK (fun b hb' hl' => ⟨fun e => by rw [e] at hl'; omega, if_pos hb'⟩)).mono (by omega)
      · have hi' : i = es.length := by simp at hi; omega
        subst hi'
        have e : (es ++ [ge])[es.length] = ge := by simp
        rw [e]
        refine (e5.move (Kp.refl (fun _ => False) w') (fun b hb' hl' => ⟨fun h => h, ?_⟩)).mono (by omega)
        have : ¬ b < w.heap.size := fun h => by rw [e3 b h] at hl'; simp at hl'
        simp only [if_neg this]

/-- behind a call on engine j -/
theorem SE.done {base : Nat} {w0 w w' : World} {gw n : Nat} {vb vo vr tv : Value} {bs os rs : List Int} {ts : List (ByteArray × Option Addr)} {x : RowV} {es : List Nat} {lab lab' : Nat → Nat × Nat}
    (m : WSt base w0 w gw { v := vb, n := bs.length, xs := ints bs } { v := vo, n := os.length, xs := ints os } { v := vr, n := rs.length, xs := ints rs } { v := tv, n := ts.length, xs := trow ts } x (KL lab w))
    (h1 : bs.length ≤ n + 1) (h2 : os.length ≤ n + 1) (h3 : rs.length ≤ n + 1) (h4 : ts.length ≤ n + 1) (h6 : ∀ k (h : k < ts.length), ts[k].1.size ≤ 16384)
    (hn : x.n = es.length) (hx : x.xs = ptrs es) (hl : es.length ≤ n) (hb : ∀ k, k < base → (lab k).1 = 0) (hE : ∀ i (h : i < es.length), EInv w lab (i + 1) es[i] n)
    (j : Nat) (hj : j < es.length) (hK : Kp (fun k => (lab k).1 = j + 1) w w') (hL : ∀ k, k < w.heap.size → lab' k = lab k) (hD : EInv w' lab' (j + 1) es[j] (n + 2)) : SE base w0 w' gw (n + 2) := by
  have hbs := m.hsz
  have hA : ∀ k, k < w.heap.size → (lab k).1 ≠ 0 → Aside gw vb vo vr tv x.v k := fun k hk h => (m.rl k _ ⟨h, Array.getElem?_eq_getElem hk⟩).2
  refine ⟨x, es, lab', ⟨vb, vo, vr, tv, bs, os, rs, ts, by omega, by omega, by omega, by omega, h6, m.kp hK (fun k hk h => ⟨?_, hA k hk (by rw [h]; omega)⟩) (fun g ob hg => ⟨hg.2, ?_⟩)⟩, hn, hx, by omega, fun k hk => by rw [hL k (by omega)]; exact hb k hk, fun i hi => ?_⟩
  · by_cases hc : k < base
    · rw [hb k hc] at h; omega
    · omega
  · by_cases hc : g < w.heap.size
    · have := hg.1
      rw [hL g hc] at this
      exact hA g hc this
    · exact m.aside (by omega)
  · by_cases hc : i = j
    · subst hc; exact hD
    · exact ((hE i hi).move hK (fun b hb' hl' => ⟨fun e => by rw [e] at hl'; omega, hL b hb'⟩)).mono (by omega)

/-- a call on engine j, as the script makes it -/
theorem edoes {w : World} {lab : Nat → Nat × Nat} {i ge n : Nat} (o : OpD) (B : Nat) (hI : ItoaOk B w) (hB : B ≤ w.heap.size) (hb : ∀ k, k < B → (lab k).1 = 0) (h : EInv w lab i ge n) (hn : n ≤ 50000) (hi : i ≠ 0) (hk : o.kind = 9 ∨ o.kind = 10 ∨ o.kind = 11 ∨ o.kind = 22) :
    Calls Tryz.prog 18 #[.pointer (some ⟨ge, 0, none⟩), .agg #[.int .i64 o.kind, .int .i64 o.x, .int .i64 o.a, .int .i64 o.b, .int .i64 o.c, .int .i64 o.d, .string o.s]] w fun e w' => e = .returned (.bool true) ∧ ∃ lab', EInv w' lab' i ge (n + 1) ∧ (∀ k, k < w.heap.size → lab' k = lab k) ∧ Kp (fun k => (lab k).1 = i) w w' := by
  obtain ⟨gx, gy, gl, hv, nh, hcs, mk, c, vals, h1, h2, h3, h4, h5, h6, h7, h8⟩ := h
  by_cases h22 : o.kind = 22
  · refine (look_any o B hI hB hb hi h1 h2 h3 h5 h6 (by omega) (by omega) h22).mono ?_
    rintro e w' ⟨rfl, lab', hv', hcs', c', q1, q2, q3, q4⟩
    exact ⟨rfl, lab', ⟨gx, gy, gl, hv', nh + 2, hcs', mk + 1000 + 1000, c', vals, q1, q2, h3, h4, h5, by omega, by omega, by omega⟩, q3, q4⟩
  · refine (does_any o h1 h2 h3 h4 h5 h6 (by omega) (by omega) hi (by omega)).mono ?_
    rintro e w' ⟨rfl, lab', hv', hcs', c', q1, q2, q3, q4⟩
    exact ⟨rfl, lab', ⟨gx, gy, gl, hv', nh + 2, hcs', mk + 1000 + 1000, c', vals, q1, q2, h3, h4, h5, by omega, by omega, by omega⟩, q3, q4⟩
end Go.Proofs.YtohjjgefklhmaaaGreatDoor
