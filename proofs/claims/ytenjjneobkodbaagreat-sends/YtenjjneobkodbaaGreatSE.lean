import Derived.Test.YtenjjneobkodbaaGreatStep
namespace Go.Proofs.YtenjjneobkodbaaGreat
open Go.ChangeShapes Go.WideShapes Go.ChangeAt Go.RowKit
set_option linter.unusedVariables false

def ptrs (es : List Nat) : List Value := es.map (fun g => .pointer (some ⟨g, 0, none⟩))
/-- the blocks of the engines -/
def KL (lab : Nat → Nat × Nat) (w : World) : Nat → Obj → Prop := fun g ob => (lab g).1 ≠ 0 ∧ w.heap[g]? = some ob

theorem WSt.kp {S : Nat → Prop} {base : Nat} {w0 w w' : World} {gw : Nat} {b o r t x : RowV} {l l' : Nat → Obj → Prop} (m : WSt base w0 w gw b o r t x l) (hk : Kp S w w') (hS : ∀ k, k < w.heap.size → S k → base ≤ k ∧ Aside gw b.v o.v r.v t.v x.v k) (hl : ∀ g ob, l' g ob → w'.heap[g]? = some ob ∧ Aside gw b.v o.v r.v t.v x.v g) : WSt base w0 w' gw b o r t x l' :=
  ⟨⟨hk.os.trans m.fr.os, hk.tape.trans m.fr.tape, hk.output.trans m.fr.output, Nat.le_trans m.fr.size hk.size, fun k h => (hk.block k (Nat.lt_of_lt_of_le h m.hsz) (fun h' => by have := (hS k (Nat.lt_of_lt_of_le h m.hsz) h').1; omega)).trans (m.fr.block k h)⟩, m.hgw, m.W.kp hk (fun h => (hS gw m.W.lt h).2.w rfl), m.dbo, m.dbr, m.dor,
    ownsRow_kp m.rb hk (fun b' hb h => (hS b' (m.rb.lt b' hb).2 h).2.b hb), ownsRow_kp m.ro hk (fun b' hb h => (hS b' (m.ro.lt b' hb).2 h).2.o hb), ownsRow_kp m.rr hk (fun b' hb h => (hS b' (m.rr.lt b' hb).2 h).2.r hb), ownsRow_kp m.rt hk (fun b' hb h => (hS b' (m.rt.lt b' hb).2 h).2.t hb), ownsRow_kp m.rx hk (fun b' hb h => (hS b' (m.rx.lt b' hb).2 h).2.x hb), hl⟩
/-- a new block lies aside -/
theorem WSt.aside {base : Nat} {w0 w : World} {gw : Nat} {b o r t x : RowV} {l : Nat → Obj → Prop} (m : WSt base w0 w gw b o r t x l) {g : Nat} (hg : w.heap.size ≤ g) : Aside gw b.v o.v r.v t.v x.v g :=
  ⟨fun e => by have := m.W.lt; omega, fun e => by have := (m.rb.lt g e).2; omega, fun e => by have := (m.ro.lt g e).2; omega, fun e => by have := (m.rr.lt g e).2; omega, fun e => by have := (m.rt.lt g e).2; omega, fun e => by have := (m.rx.lt g e).2; omega⟩
/-- what stands behind calls that keep the engines' blocks -/
theorem WSt.keeps {base : Nat} {w0 w w' : World} {gw : Nat} {b o r t x b' o' r' t' x' : RowV} {l l' : Nat → Obj → Prop} {lab : Nat → Nat × Nat} (m : WSt base w0 w gw b o r t x l) (m' : WSt base w0 w' gw b' o' r' t' x' l') (hl : ∀ g ob, KL lab w g ob → l' g ob) (hs : w.heap.size ≤ w'.heap.size) : Kp (fun k => (lab k).1 = 0) w w' :=
  ⟨m'.fr.os.trans m.fr.os.symm, m'.fr.tape.trans m.fr.tape.symm, m'.fr.output.trans m.fr.output.symm, hs, fun k hk hn => by
    have e : w.heap[k]? = some w.heap[k] := Array.getElem?_eq_getElem hk
    rw [e]
    exact (m'.rl k _ (hl k _ ⟨hn, e⟩)).1⟩

theorem EInv.mono {w : World} {lab : Nat → Nat × Nat} {i ge m m' : Nat} (h : EInv w lab i ge m) (hm : m ≤ m') : EInv w lab i ge m' := by
  obtain ⟨gx, gy, gl, hv, nh, hcs, mk, c, vals, h1, h2, h3, h4, h5, h6, h7, h8⟩ := h
  exact ⟨gx, gy, gl, hv, nh, hcs, mk, c, vals, h1, h2, h3, h4, h5, h6, by omega, by omega⟩

/-- what holds between two steps, with the engines -/
def SE (base : Nat) (w0 w : World) (gw n : Nat) : Prop :=
  ∃ x es lab, SInv base w0 w gw n x (KL lab w) ∧ x.n = List.length es ∧ x.xs = ptrs es ∧ es.length ≤ n ∧ (∀ k, k < base → (lab k).1 = 0) ∧ (∀ i (h : i < es.length), EInv w lab (i + 1) es[i] n)

theorem SInv.alloc {base : Nat} {w0 w : World} {gw n : Nat} {x : RowV} {l : Nat → Obj → Prop} (h : SInv base w0 w gw n x l) (ob : Obj) : SInv base w0 (w.alloc ob) gw n x l := by
  obtain ⟨vb, vo, vr, tv, bs, os, rs, ts, h1, h2, h3, h4, h6, h7⟩ := h
  exact ⟨vb, vo, vr, tv, bs, os, rs, ts, h1, h2, h3, h4, h6, h7.alloc ob⟩
theorem SInv.fr {base : Nat} {w0 w : World} {gw n : Nat} {x : RowV} {l : Nat → Obj → Prop} (h : SInv base w0 w gw n x l) : Below base w0 w := by
  obtain ⟨vb, vo, vr, tv, bs, os, rs, ts, h1, h2, h3, h4, h6, h7⟩ := h
  exact h7.fr
theorem SInv.box {base : Nat} {w0 w : World} {gw n : Nat} {x : RowV} {l : Nat → Obj → Prop} (h : SInv base w0 w gw n x l) (ob : Obj) : SInv base w0 (w.alloc ob) gw n x (fun g o => l g o ∨ (g = w.heap.size ∧ o = ob)) := by
  obtain ⟨vb, vo, vr, tv, bs, os, rs, ts, h1, h2, h3, h4, h6, h7⟩ := h
  refine ⟨vb, vo, vr, tv, bs, os, rs, ts, h1, h2, h3, h4, h6, (h7.alloc ob).kept (fun g o hg => ?_)⟩
  rcases hg with hg | ⟨rfl, rfl⟩
  · exact (h7.alloc ob).rl g o hg
  · exact ⟨heap_alloc_new w _, h7.aside (Nat.le_refl _)⟩
theorem SInv.rl {base : Nat} {w0 w : World} {gw n : Nat} {x : RowV} {l : Nat → Obj → Prop} (h : SInv base w0 w gw n x l) {g : Nat} {ob : Obj} (hg : l g ob) : w.heap[g]? = some ob := by
  obtain ⟨vb, vo, vr, tv, bs, os, rs, ts, h1, h2, h3, h4, h6, h7⟩ := h
  exact (h7.rl g ob hg).1

/-- behind a step on what the caller owns -/
theorem SE.owned {base : Nat} {w0 w w2 : World} {gw n m : Nat} {x : RowV} {es : List Nat} {lab : Nat → Nat × Nat} {box : Obj} (h : SInv base w0 w gw n x (KL lab w)) (hb : ∀ k, k < base → (lab k).1 = 0) (hE : ∀ i (h : i < es.length), EInv w lab (i + 1) es[i] m)
    (h2 : SInv base w0 w2 gw (n + 1) x (fun g o => KL lab w g o ∨ (g = w.heap.size ∧ o = box))) :
    SInv base w0 w2 gw (n + 1) x (KL (relab lab w.heap.size (0, 0)) w2) ∧ (∀ k, k < base → (relab lab w.heap.size (0, 0) k).1 = 0) ∧ (∀ i (h : i < es.length), EInv w2 (relab lab w.heap.size (0, 0)) (i + 1) es[i] m) ∧ w.heap.size < w2.heap.size := by
  obtain ⟨vb, vo, vr, tv, bs, os, rs, ts, h1, h2', h3, h4, h6, h7⟩ := h
  obtain ⟨vb', vo', vr', tv', bs', os', rs', ts', k1, k2, k3, k4, k6, k7⟩ := h2
  have hs : w.heap.size < w2.heap.size := heap_lt (k7.rl w.heap.size box (.inr ⟨rfl, rfl⟩)).1
  have hK := h7.keeps k7 (lab := lab) (fun g ob hg => .inl hg) (by omega)
  refine ⟨⟨vb', vo', vr', tv', bs', os', rs', ts', k1, k2, k3, k4, k6, k7.kept (fun g ob hg => ?_)⟩, fun k hk => ?_, fun i hi => (hE i hi).move hK (fun b hb' hl => ⟨fun e => by rw [e] at hl; omega, relab_old hb'⟩), hs⟩
  · obtain ⟨g1, g2⟩ := hg
    have hlt : g < w.heap.size := by
      by_cases hc : g < w.heap.size
      · exact hc
      · rw [relab_new (by omega)] at g1; exact absurd rfl g1
    rw [relab_old hlt] at g1
    have e : w.heap[g]? = some w.heap[g] := Array.getElem?_eq_getElem hlt
    have := k7.rl g _ (.inl ⟨g1, e⟩)
    rw [this.1] at g2
    cases g2
    exact this
  · by_cases hc : k < w.heap.size
    · rw [relab_old hc]; exact hb k hk
    · rw [relab_new (by omega)]
end Go.Proofs.YtenjjneobkodbaaGreat
