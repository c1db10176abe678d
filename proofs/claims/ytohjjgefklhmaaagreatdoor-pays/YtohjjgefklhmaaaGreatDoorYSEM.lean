import Derived.Test.YtohjjgefklhmaaaGreatDoorYBegunM
import Derived.ShutString
import Derived.ChangeOld
import Derived.Below
import Derived.Deep.Slices
import Derived.SizedLaws
namespace Go.Proofs.YtohjjgefklhmaaaGreatDoor
open Go.ChangeShapes Go.WideShapes Go.ChangeAt Go.RowKit
set_option linter.unusedVariables false

def ptrs (es : List Nat) : List Value := es.map (fun g => .pointer (some ⟨g, 0, none⟩))
/-- the blocks of the engines -/
def KL (lab : Nat → Nat × Nat) (w : World) : Nat → Obj → Prop := fun g ob => (lab g).1 ≠ 0 ∧ w.heap[g]? = some ob

theorem WSt.kp {S : Nat → Prop} {base : Nat} {w0 w w' : World} {gw : Nat} {b o r t x : RowV} {l l' : Nat → Obj → Prop} (m : WSt base w0 w gw b o r t x l) (hk : Kp S w w') (hS : ∀ k, k < w.heap.size → S k → base ≤ k ∧ Aside gw b.v o.v r.v t.v x.v k) (hl : ∀ g ob, l' g ob → w'.heap[g]? = some ob ∧ Aside gw b.v o.v r.v t.v x.v g) : WSt base w0 w' gw b o r t x l' :=
  ⟨⟨hk.os.trans m.fr.os, hk.tape.trans m.fr.tape, hk.output.trans m.fr.output, Nat.le_trans m.fr.size hk.size, fun k h => (hk.block k (Nat.lt_of_lt_of_le h m.hsz) (fun h' => by have := (hS k (Nat.lt_of_lt_of_le h m.hsz) h').1; omega)).trans (m.fr.block k h)⟩, m.hgw, m.W.kp hk (fun h => (hS gw m.W.lt h).2.w rfl), m.dbo, m.dbr, m.dor,
    ownsRow_kp m.rb hk (fun b' hb h => (hS b' (m.rb.lt b' hb).2 h).2.b hb), ownsRow_kp m.ro hk (fun b' hb h => (hS b' (m.ro.lt b' hb).2 h).2.o hb), ownsRow_kp m.rr hk (fun b' hb h => (hS b' (m.rr.lt b' hb).2 h).2.r hb), ownsRow_kp m.rt hk (fun b' hb h => (hS b' (m.rt.lt b' hb).2 h).2.t hb), ownsRow_kp m.rx hk (fun b' hb h => (hS b' (m.rx.lt b' hb).2 h).2.x hb), hl⟩
/-- a new block lies aside -/
theorem WSt.aside {base : Nat} {w0 w : World} {gw : Nat} {b o r t x : RowV} {l : Nat → Obj → Prop} (m : WSt base w0 w gw b o r t x l) {g : Nat} (hg : w.heap.size ≤ g) : Aside gw b.v o.v r.v t.v x.v g :=
  ⟨fun e => by have := m.W.lt; omega, fun e => by have := (m.rb.lt g e).2; omega, fun e => by have := (m.ro.lt g e).2; omega, fun e => by have := (m.rr.lt g e).2; omega, fun e => by have := (m.rt.lt g e).2; omega, fun e => by have := (m.rx.lt g e).2; omega⟩
/-- what stands behind calls that keep the engines' blocks -/
theorem WSt.keeps {base : Nat} {w0 w w' : World} {gw : Nat} {b o r t x b' o' r' t' x' : RowV} {l l' : Nat → Obj → Prop} {lab : Nat → Nat × Nat} (m : WSt base w0 w gw b o r t x l) (m' : WSt base w0 w' gw b' o' r' t' x' l') (hl : ∀ g ob, KL lab w g ob → l' g ob) (hs : w.heap.size ≤ w'.heap.size) : Kp (fun k => (lab k).1 = 0) w w' :=
  ⟨m'.fr.os.trans m.fr.os.symm, m'.fr.tape.trans m.fr.tape.symm, m'.fr.output.trans m.fr.output.symm, hs, fun k hk hn => by
    have e : w.heap[k]? = some w.heap[k] := Array.getElem?_eq_getElem hk
    rw [e]
    exact (m'.rl k _ (hl k _ ⟨hn, e⟩)).1⟩

theorem EInv.mono {w : World} {lab : Nat → Nat × Nat} {i ge m m' : Nat} (h : EInv w lab i ge m) (hm : m ≤ m') : EInv w lab i ge m' := by
  obtain ⟨gx, gy, gl, hv, nh, hcs, mk, x, h1, h2, h6, h7, h8⟩ := h
  exact ⟨gx, gy, gl, hv, nh, hcs, mk, x, h1, h2, h6, by omega, by omega⟩

/-- what holds between two steps, with the engines -/
def SE (base : Nat) (w0 w : World) (gw n : Nat) : Prop :=
  ∃ x es lab, SInv base w0 w gw n x (KL lab w) ∧ x.n = List.length es ∧ x.xs = ptrs es ∧ es.length ≤ n ∧ (∀ k, k < base → (lab k).1 = 0) ∧ (∀ i (h : i < es.length), EInv w lab (i + 1) es[i] n)

theorem SInv.alloc {base : Nat} {w0 w : World} {gw n : Nat} {x : RowV} {l : Nat → Obj → Prop} (h : SInv base w0 w gw n x l) (ob : Obj) : SInv base w0 (w.alloc ob) gw n x l := by
  obtain ⟨vb, vo, vr, tv, bs, os, rs, ts, h1, h2, h3, h4, h6, h7⟩ := h
  exact ⟨vb, vo, vr, tv, bs, os, rs, ts, h1, h2, h3, h4, h6, h7.alloc ob⟩
theorem SInv.fr {base : Nat} {w0 w : World} {gw n : Nat} {x : RowV} {l : Nat → Obj → Prop} (h : SInv base w0 w gw n x l) : Below base w0 w := by
  obtain ⟨vb, vo, vr, tv, bs, os, rs, ts, h1, h2, h3, h4, h6, h7⟩ := h
  exact h7.fr
theorem SInv.box {base : Nat} {w0 w : World} {gw n : Nat} {x : RowV} {l : Nat → Obj → Prop} (h : SInv base w0 w gw n x l) (ob : Obj) : SInv base w0 (w.alloc ob) gw n x (fun g o => l g o ∨ (g = w.heap.size ∧ o = ob)) := by
  obtain ⟨vb, vo, vr, tv, bs, os, rs, ts, h1, h2, h3, h4, h6, h7⟩ := h
  refine ⟨vb, vo, vr, tv, bs, os, rs, ts, h1, h2, h3, h4, h6, (h7.alloc ob).kept (fun g o hg => ?_)⟩
  rcases hg with hg | ⟨rfl, rfl⟩
  · exact (h7.alloc ob).rl g o hg
  · exact ⟨heap_alloc_new w _, h7.aside (Nat.le_refl _)⟩
theorem SInv.rl {base : Nat} {w0 w : World} {gw n : Nat} {x : RowV} {l : Nat → Obj → Prop} (h : SInv base w0 w gw n x l) {g : Nat} {ob : Obj} (hg : l g ob) : w.heap[g]? = some ob := by
  obtain ⟨vb, vo, vr, tv, bs, os, rs, ts, h1, h2, h3, h4, h6, h7⟩ := h
  exact (h7.rl g ob hg).1

/-- behind a step on what the caller owns -/
theorem SE.owned {base : Nat} {w0 w w2 : World} {gw n m : Nat} {x : RowV} {es : List Nat} {lab : Nat → Nat × Nat} {box : Obj} (h : SInv base w0 w gw n x (KL lab w)) (hb : ∀ k, k < base → (lab k).1 = 0) (hE : ∀ i (h : i < es.length), EInv w lab (i + 1) es[i] m)
    (h2 : SInv base w0 w2 gw (n + 1) x (fun g o => KL lab w g o ∨ (g = w.heap.size ∧ o = box))) :
    SInv base w0 w2 gw (n + 1) x (KL (relab lab w.heap.size (0, 0)) w2) ∧ (∀ k, k < base → (relab lab w.heap.size (0, 0) k).1 = 0) ∧ (∀ i (h : i < es.length), EInv w2 (relab lab w.heap.size (0, 0)) (i + 1) es[i] m) ∧ w.heap.size < w2.heap.size := by
  obtain ⟨vb, vo, vr, tv, bs, os, rs, ts, h1, h2', h3, h4, h6, h7⟩ := h
  obtain ⟨vb', vo', vr', tv', bs', os', rs', ts', k1, k2, k3, k4, k6, k7⟩ := h2
  have hs : w.heap.size < w2.heap.size := heap_lt (k7.rl w.heap.size box (.inr ⟨rfl, rfl⟩)).1
  have hK := h7.keeps k7 (lab := lab) (fun g ob hg => .inl hg) (by omega)
  refine ⟨⟨vb', vo', vr', tv', bs', os', rs', ts', k1, k2, k3, k4, k6, k7.kept (fun g ob hg => ?_)⟩, fun k hk => ?_, fun i hi => (hE i hi).move hK (fun b hb' hl => ⟨fun e => by rw [e] at hl; omega, relab_old hb'⟩), hs⟩
  · obtain ⟨g1, g2⟩ := hg
    have hlt : g < w.heap.size := by
      by_cases hc : g < w.heap.size
      · exact hc
      · rw [relab_new (by omega)] at g1; exact absurd rfl g1
    rw [relab_old hlt] at g1
    have e : w.heap[g]? = some w.heap[g] := Array.getElem?_eq_getElem hlt
    have := k7.rl g _ (.inl ⟨g1, e⟩)
    rw [this.1] at g2
    cases g2
    exact this
  · by_cases hc : k < w.heap.size
    · rw [relab_old hc]; exact hb k hk
    · rw [relab_new (by omega)]
end Go.Proofs.YtohjjgefklhmaaaGreatDoor

namespace Go.Proofs.YtohjjgefklhmaaaGreatDoor
open Go.ChangeShapes Go.WideShapes Go.ChangeAt Go.RowKit
set_option linter.unusedVariables false

theorem ptrs_snoc (es : List Nat) (g : Nat) : ptrs es ++ [.pointer (some ⟨g, 0, none⟩)] = ptrs (es ++ [g]) := by simp [ptrs]

/-- behind New -/
theorem SE.freshed {base : Nat} {w0 w w' : World} {gw n : Nat} {vb vo vr tv : Value} {bs os rs : List Int} {ts : List (ByteArray × Option Addr)} {x x' : RowV} {es : List Nat} {lab : Nat → Nat × Nat}
    (m : WSt base w0 w gw { v := vb, n := bs.length, xs := ints bs } { v := vo, n := os.length, xs := ints os } { v := vr, n := rs.length, xs := ints rs } { v := tv, n := ts.length, xs := trow ts } x (KL lab w))
    (m' : WSt base w0 w' gw { v := vb, n := bs.length, xs := ints bs } { v := vo, n := os.length, xs := ints os } { v := vr, n := rs.length, xs := ints rs } { v := tv, n := ts.length, xs := trow ts } x' (KL lab w))
    (h1 : bs.length ≤ n + 1) (h2 : os.length ≤ n + 1) (h3 : rs.length ≤ n + 1) (h4 : ts.length ≤ n + 1) (h6 : ∀ k (h : k < ts.length), ts[k].1.size ≤ 16384)
    (hn : x.n = es.length) (hx : x.xs = ptrs es) (hl : es.length ≤ n) (hb : ∀ k, k < base → (lab k).1 = 0) (hE : ∀ i (h : i < es.length), EInv w lab (i + 1) es[i] n) (hF : FPost w w' (es.length + 1) x x') : SE base w0 w' gw (n + 2) := by
  obtain ⟨hs, hF⟩ := hF
  have hK := m.keeps m' (lab := lab) (fun g ob hg => hg) hs
  rcases hF with rfl | ⟨ge, labN, e1, e2, e3, e4, e5⟩
  · refine ⟨x', es, relab lab w.heap.size (0, 0), ⟨vb, vo, vr, tv, bs, os, rs, ts, by omega, by omega, by omega, by omega, h6, m'.kept (fun g ob hg => ?_)⟩, hn, hx, by omega, fun k hk => ?_, fun i hi => ((hE i hi).move hK (fun b hb' hl' => ⟨fun e => by rw [e] at hl'; omega, relab_old hb'⟩)).mono (by omega)⟩
    · obtain ⟨g1, g2⟩ := hg
      have hlt : g < w.heap.size := by
        by_cases hc : g < w.heap.size
        · exact hc
        · rw [relab_new (by omega)] at g1; exact absurd rfl g1
      rw [relab_old hlt] at g1
      have e : w.heap[g]? = some w.heap[g] := Array.getElem?_eq_getElem hlt
      have := m'.rl g _ ⟨g1, e⟩
      rw [this.1] at g2
      cases g2
      exact this
    · by_cases hc : k < w.heap.size
      · rw [relab_old hc]; exact hb k hk
      · rw [relab_new (by omega)]
  · have hbs := m.hsz
    refine ⟨x', es ++ [ge], (fun k => if k < w.heap.size then lab k else labN k), ⟨vb, vo, vr, tv, bs, os, rs, ts, by omega, by omega, by omega, by omega, h6, m'.kept (fun g ob hg => ?_)⟩, by rw [e1, hn]; simp, by rw [e2, hx, ptrs_snoc], by simp; omega, fun k hk => ?_, fun i hi => ?_⟩
    · obtain ⟨g1, g2⟩ := hg
      by_cases hc : g < w.heap.size
      · simp only [if_pos hc] at g1
        have e : w.heap[g]? = some w.heap[g] := Array.getElem?_eq_getElem hc
        have := m'.rl g _ ⟨g1, e⟩
        rw [this.1] at g2
        cases g2
        exact this
      · simp only [if_neg hc] at g1
        have ha := m.aside (g := g) (by omega)
        exact ⟨g2, ha.w, ha.b, ha.o, ha.r, ha.t, fun e => g1 (e4 g e)⟩
    · simp only [if_pos (show k < w.heap.size by omega)]; exact hb k hk
    · by_cases hc : i < es.length
      · have e : (es ++ [ge])[i] = es[i] := List.getElem_append_left hc
        rw [e]
        exact ((hE i hc).move hK (fun b hb' hl' => ⟨fun e => by rw [e] at hl'; omega, if_pos hb'⟩)).mono (by omega)
      · have hi' : i = es.length := by simp at hi; omega
        subst hi'
        have e : (es ++ [ge])[es.length] = ge := by simp
        rw [e]
        refine (e5.move (Kp.refl (fun _ => False) w') (fun b hb' hl' => ⟨fun h => h, ?_⟩)).mono (by omega)
        have : ¬ b < w.heap.size := fun h => by rw [e3 b h] at hl'; simp at hl'
        simp only [if_neg this]

/-- behind a call on engine j -/
theorem SE.done {base : Nat} {w0 w w' : World} {gw n : Nat} {vb vo vr tv : Value} {bs os rs : List Int} {ts : List (ByteArray × Option Addr)} {x : RowV} {es : List Nat} {lab lab' : Nat → Nat × Nat}
    (m : WSt base w0 w gw { v := vb, n := bs.length, xs := ints bs } { v := vo, n := os.length, xs := ints os } { v := vr, n := rs.length, xs := ints rs } { v := tv, n := ts.length, xs := trow ts } x (KL lab w))
    (h1 : bs.length ≤ n + 1) (h2 : os.length ≤ n + 1) (h3 : rs.length ≤ n + 1) (h4 : ts.length ≤ n + 1) (h6 : ∀ k (h : k < ts.length), ts[k].1.size ≤ 16384)
    (hn : x.n = es.length) (hx : x.xs = ptrs es) (hl : es.length ≤ n) (hb : ∀ k, k < base → (lab k).1 = 0) (hE : ∀ i (h : i < es.length), EInv w lab (i + 1) es[i] n)
    (j : Nat) (hj : j < es.length) (hK : Kp (fun k => (lab k).1 = j + 1) w w') (hL : ∀ k, k < w.heap.size → lab' k = lab k) (hD : EInv w' lab' (j + 1) es[j] (n + 2)) : SE base w0 w' gw (n + 2) := by
  have hbs := m.hsz
  have hA : ∀ k, k < w.heap.size → (lab k).1 ≠ 0 → Aside gw vb vo vr tv x.v k := fun k hk h => (m.rl k _ ⟨h, Array.getElem?_eq_getElem hk⟩).2
  refine ⟨x, es, lab', ⟨vb, vo, vr, tv, bs, os, rs, ts, by omega, by omega, by omega, by omega, h6, m.kp hK (fun k hk h => ⟨?_, hA k hk (by rw [h]; omega)⟩) (fun g ob hg => ⟨hg.2, ?_⟩)⟩, hn, hx, by omega, fun k hk => by rw [hL k (by omega)]; exact hb k hk, fun i hi => ?_⟩
  · by_cases hc : k < base
    · rw [hb k hc] at h; omega
    · omega
  · by_cases hc : g < w.heap.size
    · have := hg.1
      rw [hL g hc] at this
      exact hA g hc this
    · exact m.aside (by omega)
  · by_cases hc : i = j
    · subst hc; exact hD
    · exact ((hE i hi).move hK (fun b hb' hl' => ⟨fun e => by rw [e] at hl'; omega, hL b hb'⟩)).mono (by omega)

/-- a call on engine j, as the script makes it -/
theorem edoes {w : World} {lab : Nat → Nat × Nat} {i ge n : Nat} (o : OpD) (B : Nat) (hI : ItoaOk B w) (hB : B ≤ w.heap.size) (hb : ∀ k, k < B → (lab k).1 = 0) (h : EInv w lab i ge n) (hn : n ≤ 50000) (hi : i ≠ 0) (hk : 9 ≤ o.kind) (hk2 : o.kind ≤ 19 ∨ o.kind = 22) :
    Calls Tryz.prog 18 #[.pointer (some ⟨ge, 0, none⟩), .agg #[.int .i64 o.kind, .int .i64 o.x, .int .i64 o.a, .int .i64 o.b, .int .i64 o.c, .int .i64 o.d, .string o.s]] w fun e w' => e = .returned (.bool true) ∧ ∃ lab', EInv w' lab' i ge (n + 1) ∧ (∀ k, k < w.heap.size → lab' k = lab k) ∧ Kp (fun k => (lab k).1 = i) w w' := by
  obtain ⟨gx, gy, gl, hv, nh, hcs, mk, x, h1, h2, h6, h7, h8⟩ := h
  have hfin : ∀ w', DPost w w' lab i ge gx gy gl nh mk → ∃ lab', EInv w' lab' i ge (n + 1) ∧ (∀ k, k < w.heap.size → lab' k = lab k) ∧ Kp (fun k => (lab k).1 = i) w w' := by
    rintro w' ⟨lab', hv', nh', hcs', mk', x', q1, q2, q3, q4, q5, q6, q7⟩
    exact ⟨lab', ⟨gx, gy, gl, hv', nh', hcs', mk', x', q1, q2, by omega, by omega, by omega⟩, q6, q7⟩
  by_cases h22 : o.kind = 22
  · refine (look_any o B hI hB hb hi h1 h2 h6 (by omega) (by omega) h22).mono ?_
    rintro e w' ⟨rfl, hD⟩
    exact ⟨rfl, hfin w' hD⟩
  by_cases h15 : o.kind = 15
  · refine (ask_any o h1 h2 h15).mono ?_
    rintro e w' ⟨rfl, hD⟩
    exact ⟨rfl, hfin w' hD⟩
  · refine (does_any o h1 h2 h6 (by omega) (by omega) hi (by unfold OpKind; omega)).mono ?_
    rintro e w' ⟨rfl, hD⟩
    exact ⟨rfl, hfin w' hD⟩
end Go.Proofs.YtohjjgefklhmaaaGreatDoor

namespace Go.Proofs.YtohjjgefklhmaaaGreatDoor
open Go.ChangeShapes Go.WideShapes Go.ChangeAt Go.RowKit
set_option linter.unusedVariables false

theorem SE.up {base : Nat} {w0 w : World} {gw n m : Nat} {x : RowV} {es : List Nat} {lab : Nat → Nat × Nat} (h : SInv base w0 w gw n x (KL lab w)) (hn : x.n = es.length) (hx : x.xs = ptrs es) (hl : es.length ≤ n) (hb : ∀ k, k < base → (lab k).1 = 0) (hE : ∀ i (h : i < es.length), EInv w lab (i + 1) es[i] n) (hm : n ≤ m) : SE base w0 w gw m :=
  ⟨x, es, lab, h.mono hm, hn, hx, by omega, hb, fun i hi => (hE i hi).mono hm⟩

set_option maxHeartbeats 4000000 in
set_option maxRecDepth 100000 in
theorem step_any (Bt base : Nat) (w0 : World) (gw n : Nat) (o : OpD) (w : World) (hIt : ItoaOk Bt w0) (hBb : Bt ≤ base) (hS : SE base w0 w gw n) (hn : n ≤ 40000) (ho : o.ok) (hs : o.s.size ≤ 16384) (hk : o.kind ≤ 19 ∨ o.kind = 22) :
    Calls Tryz.prog 12 #[.pointer (some ⟨gw, 0, none⟩), .agg #[.int .i64 o.kind, .int .i64 o.x, .int .i64 o.a, .int .i64 o.b, .int .i64 o.c, .int .i64 o.d, .string o.s]] w fun e w' => e = .returned (.bool true) ∧ SE base w0 w' gw (n + 2) := by
  obtain ⟨x, es, lab, hI, hxn, hxx, hel, hb0, hEE⟩ := hS
  have HS1 : Hid (SInv base w0 (w.alloc (.cells #[.int .i64 o.kind, .int .i64 o.x, .int .i64 o.a, .int .i64 o.b, .int .i64 o.c, .int .i64 o.d, .string o.s] 27)) gw n x (fun g ob => KL lab w g ob ∨ (g = w.heap.size ∧ ob = .cells #[.int .i64 o.kind, .int .i64 o.x, .int .i64 o.a, .int .i64 o.b, .int .i64 o.c, .int .i64 o.d, .string o.s] 27))) := hI.box _
  have HIt : Hid (ItoaOk Bt w0) := hIt
  have HO : Hid (o.ok) := ho
  have HI0 : Hid (SInv base w0 w gw n x (KL lab w)) := hI
  have Hb0 : Hid (∀ k, k < base → (lab k).1 = 0) := hb0
  have HE0 : Hid (∀ i (h : i < es.length), EInv w lab (i + 1) es[i] n) := hEE
  have Hxx : Hid (x.xs = ptrs es) := hxx
  have HXN : Hid (x.n = es.length) := hxn
  have hxle : x.n ≤ 40000 := by omega
  clear hI ho hb0 hEE hxx hxn hIt
  obtain ⟨kind, X, A, B, C, D, s⟩ := o
  simp only at hs hk HS1
  go_enter Tryz.func12, Tryz.ntmps12
  go_wp2_with fail
  refine (owner_all base w0 gw n x _ ⟨kind, X, A, B, C, D, s⟩ _ HS1.out (by omega) HO.out hs).mono ?_
  rintro e w2 ⟨⟨b, rfl, hb⟩, hS2⟩
  simp only at hb
  have hX : Has w2 w.heap.size 27 [.int .i64 kind, .int .i64 X, .int .i64 A, .int .i64 B, .int .i64 C, .int .i64 D, .string s] := hS2.rl (.inr ⟨rfl, rfl⟩)
  obtain ⟨hI2, hb2, hE2, hz2⟩ := SE.owned HI0.out Hb0.out HE0.out hS2
  clear hS2 HI0 Hb0 HE0 HS1
  generalize relab lab w.heap.size (0, 0) = lab2 at hI2 hb2 hE2
  have Hb2 : Hid (∀ k, k < base → (lab2 k).1 = 0) := hb2
  have HE2 : Hid (∀ i (h : i < es.length), EInv w2 lab2 (i + 1) es[i] n) := hE2
  have HI2 : Hid (SInv base w0 w2 gw (n + 1) x (KL lab2 w2)) := hI2
  have HU : Hid (SE base w0 w2 gw (n + 2)) := SE.up hI2 HXN.out Hxx.out (by omega) hb2 (fun i hi => (hE2 i hi).mono (by omega)) (by omega)
  clear hb2 hE2 hz2
  cases b with
  | true =>
    clear hI2 hb hX
    go_wp2
    go_ret
    exact ⟨rfl, HU.out⟩
  | false =>
    have hb' : ¬ (1 ≤ kind ∧ kind ≤ 6) := fun h => by have := hb.2 h; cases this
    have y0 : w2.cell? ⟨w.heap.size, 0, none⟩ = some (.int .i64 kind) := hX.cell 0
    have y1 : w2.cell? ⟨w.heap.size, 1, none⟩ = some (.int .i64 X) := hX.cell 1
    have y2 : w2.cell? ⟨w.heap.size, 2, none⟩ = some (.int .i64 A) := hX.cell 2
    have y3 : w2.cell? ⟨w.heap.size, 3, none⟩ = some (.int .i64 B) := hX.cell 3
    have y4 : w2.cell? ⟨w.heap.size, 4, none⟩ = some (.int .i64 C) := hX.cell 4
    have y5 : w2.cell? ⟨w.heap.size, 5, none⟩ = some (.int .i64 D) := hX.cell 5
    have y6 : w2.cell? ⟨w.heap.size, 6, none⟩ = some (.string s) := hX.cell 6
    clear hb hX
    obtain ⟨vb, vo, vr, tv, bs, os, rs, ts, h1, h2, h3, h4, h6, h7⟩ := hI2
    have H6 : Hid (∀ k (h : k < ts.length), ts[k].1.size ≤ 16384) := h6
    have H7 : Hid (WSt base w0 w2 gw { v := vb, n := bs.length, xs := ints bs } { v := vo, n := os.length, xs := ints os } { v := vr, n := rs.length, xs := ints rs } { v := tv, n := ts.length, xs := trow ts } x (KL lab2 w2)) := h7
    clear h6
    by_cases k7 : kind = 7
    · subst k7
      clear hk hb' h7
      go_wp2_with fail
      refine (fresh_any (es.length + 1) (by omega) base w0 gw vb vo vr bs os rs _ x _ A B C _ H7.out (by omega) (by omega) (by omega) (by omega)).mono ?_
      rintro e w3 ⟨rfl, x', hx', hW⟩
      have HF : Hid (SE base w0 w3 gw (n + 2)) := SE.freshed H7.out hW h1 h2 h3 h4 H6.out HXN.out Hxx.out hel Hb2.out HE2.out hx'
      clear hW H7 H6 y0 y1 y2 y3 y4 y5 y6 HI2 HU
      go_wp2
      go_ret
      exact ⟨rfl, HF.out⟩
    by_cases k8 : kind = 8
    · subst k8
      clear hk hb' k7 h7
      go_wp2_with fail
      refine (fresh_any (es.length + 1) (by omega) base w0 gw vb vo vr bs os rs _ x _ A B 0 _ H7.out (by omega) (by omega) (by omega) (by omega)).mono ?_
      rintro e w3 ⟨rfl, x', hx', hW⟩
      have HF : Hid (SE base w0 w3 gw (n + 2)) := SE.freshed H7.out hW h1 h2 h3 h4 H6.out HXN.out Hxx.out hel Hb2.out HE2.out hx'
      clear hW H7 H6 y0 y1 y2 y3 y4 y5 y6 HI2 HU
      go_wp2
      go_ret
      exact ⟨rfl, HF.out⟩
    have e7 : (kind == 7) = false := beq_eq_false_iff_ne.2 k7
    have e8 : (kind == 8) = false := beq_eq_false_iff_ne.2 k8
    have e21 : (kind == 21) = false := beq_eq_false_iff_ne.2 (by omega)
    have e20 : (kind == 20) = false := beq_eq_false_iff_ne.2 (by omega)
    obtain ⟨xa, xc, hxv⟩ := ownsRow_slice h7.rx
    have c4 : w2.cell? ⟨gw, 4, none⟩ = some (.slice xa x.n xc) := by rw [← hxv]; exact h7.W.cell 4
    by_cases hx0 : x.n = 0
    · have ex : ((x.n : Int) == 0) = true := by rw [beq_iff_eq]; omega
      clear hx0 h7 hxv H7 H6
      go_wp2
      go_ret
      exact ⟨rfl, HU.out⟩
    have ex : ((x.n : Int) == 0) = false := by rw [beq_eq_false_iff_ne]; omega
    by_cases hk0 : kind ≤ 0
    · clear k7 k8 hk hb' h7 hxv H7 H6 hx0
      go_wp2
      go_ret
      exact ⟨rfl, HU.out⟩
    have hk9 : 9 ≤ kind := by omega
    have hk22 : kind ≤ 22 := by omega
    have hkk : 9 ≤ kind ∧ (kind ≤ 19 ∨ kind = 22) := by omega
    have HKK : Hid (9 ≤ kind ∧ (kind ≤ 19 ∨ kind = 22)) := hkk
    clear hkk
    have hxp : 1 ≤ (x.n : Int) := by omega
    obtain ⟨r1, r2⟩ := pickN_range X x.n hxp
    obtain ⟨j, hj⟩ := Int.eq_ofNat_of_zero_le r1
    have hjx : j < x.n := by omega
    have hje : j < es.length := by have := HXN.out; omega
    obtain ⟨gr, hgr, _⟩ := ownsRow_some (hxv ▸ h7.rx) (by omega)
    subst hgr
    have cx : w2.cell? ⟨gr, j, none⟩ = some (.pointer (some ⟨es[j], 0, none⟩)) := by
      have := (hxv ▸ h7.rx : w2.ownsRow base _ 1 (.slice (some ⟨gr, 0, none⟩) x.n xc) x.n x.xs).cellAt j (by omega)
      rw [this, Hxx.out]
      simp [ptrs, hje]
    have HJ : Hid (pickN X x.n = (j : Int)) := hj
    have HD : Hid (∀ m, Calls Tryz.prog 18 #[.pointer (some ⟨es[j], 0, none⟩), .agg #[.int .i64 kind, .int .i64 X, .int .i64 A, .int .i64 B, .int .i64 C, .int .i64 D, .string s]] (w2.drewN m) fun e w' => e = .returned (.bool true) ∧ SE base w0 w' gw (n + 2)) := fun m => by
      refine (edoes ⟨kind, X, A, B, C, D, s⟩ Bt (HIt.out.on ((below_drewN HI2.out.fr m).mono hBb)) (Nat.le_trans hBb H7.out.hsz) (fun k hk => Hb2.out k (by omega)) ((HE2.out j hje).move ((Kp.refl (fun _ => False) w2).drewN m) (fun b _ _ => ⟨fun h => h, rfl⟩)) (by omega) (by omega) HKK.out.1 HKK.out.2).mono ?_
      rintro e w3 ⟨rfl, lab3, q1, q2, q3⟩
      exact ⟨rfl, SE.done H7.out h1 h2 h3 h4 H6.out HXN.out Hxx.out hel Hb2.out HE2.out j hje (((Kp.refl _ w2).drewN m).trans q3) q2 (q1.mono (by omega))⟩
    have hX1 := HO.out.2.1.1
    have hX2 := HO.out.2.1.2
    simp only at hX1 hX2
    have hxm : (x.n : Int) ≤ 9223372036854775807 := by omega
    clear k7 k8 hk hb' h7 hxv H7 H6 hx0 HU HI2 HE2 Hb2 hj r1 r2 hk0
    go_wp2_with fail
    generalize es[j] = ge at *
    go_cut [6] (fun s6 wx => s6 = .pointer (some ⟨ge, 0, none⟩) ∧ ∃ m, wx = w2.drewN m)
    case first =>
      go_region_with (go_at_call 16; refine (pick_any _ _ _ hX1 hX2 hxp hxm).mono ?_; rintro e w' ⟨rfl, rfl⟩; rw [HJ.out])
      all_goals (go_wp2_with fail; go_meet; exact ⟨rfl, 1, rfl⟩)
    case rest =>
      obtain ⟨rfl, m, rfl⟩ := hcut
      go_wp2_with fail
      refine (HD.out m).mono ?_
      rintro e w3 ⟨rfl, hF⟩
      have HF : Hid (SE base w0 w3 gw (n + 2)) := hF
      clear hF HD
      go_wp2
      go_ret
      exact ⟨rfl, HF.out⟩
end Go.Proofs.YtohjjgefklhmaaaGreatDoor

namespace Go.Proofs.YtohjjgefklhmaaaGreatDoor
open Go.ChangeShapes Go.WideShapes Go.ChangeAt Go.RowKit
set_option linter.unusedVariables false

theorem SE.fr {base : Nat} {w0 w : World} {gw n : Nat} (h : SE base w0 w gw n) : Below base w0 w := by
  obtain ⟨x, es, lab, h1, _⟩ := h
  exact h1.fr

set_option maxHeartbeats 4000000 in
set_option maxRecDepth 100000 in
theorem upTo_any (B : Nat) (W0 : World) (hI : ItoaOk B W0) (hB0 : B ≤ W0.heap.size) : UpToSaid B W0 [7, 8, 9, 10, 11, 12, 13, 14, 15, 16, 17, 18, 19, 22] := by
  intro w lv lo hBw hown hlen hall
  have HIt : Hid (ItoaOk B w ∧ B ≤ w.heap.size) := ⟨hI.on hBw, Nat.le_trans hB0 hBw.size⟩
  clear hI hB0 hBw
  obtain ⟨la, lc, rfl⟩ := ownsRow_slice hown
  have HALL : Hid (AllOk [7, 8, 9, 10, 11, 12, 13, 14, 15, 16, 17, 18, 19, 22] lo) := hall
  clear hall
  have HS0 : Hid (SE w.heap.size w (w.alloc (.cells #[.slice none 0 0, .slice none 0 0, .slice none 0 0, .slice none 0 0, .slice none 0 0] 33)) w.heap.size (2 * 0)) := by
    refine ⟨RowV.nil, [], fun _ => (0, 0), ⟨.slice none 0 0, .slice none 0 0, .slice none 0 0, .slice none 0 0, [], [], [], [], Nat.le_refl _, Nat.le_refl _, Nat.le_refl _, Nat.le_refl _, fun k h => by simp at h, ?_⟩, rfl, rfl, Nat.le_refl _, fun _ _ => rfl, fun i h => by simp at h⟩
    exact ⟨(Below.refl _ _).alloc (Nat.le_refl _) _, Nat.le_refl _, Has.newA w _ _, Df.nil _, Df.nil _, Df.nil _, World.ownsRow_nil _ _ _ _, World.ownsRow_nil _ _ _ _, World.ownsRow_nil _ _ _ _, World.ownsRow_nil _ _ _ _, World.ownsRow_nil _ _ _ _, fun g ob h => absurd rfl h.1⟩
  have HC : Hid (0 < lo.length → ∃ g, la = some ⟨g, 0, none⟩ ∧ ∃ L, Has w g 27 L ∧ ∀ j, j < lo.length * 7 → L[j]? = (oprow lo)[j]?) := by
    intro h0
    rcases hown.2 with ⟨_, h1⟩ | ⟨g, cap, cur, h1, h2, h3, h4, h5, h6, h7⟩
    · omega
    · simp only [Value.slice.injEq, true_and] at h1
      refine ⟨g, h1.1, cur.toList, by unfold Has; rw [Array.toArray_toList]; exact h3, fun j hj => ?_⟩
      rw [← h7, List.getElem?_take, if_pos hj]
  clear hown
  go_enter Tryz.func11, Tryz.ntmps11
  go_wp2
  go_loopw [4] (fun i wr => ∃ k : Nat, k ≤ lo.length ∧ i = .int .i64 k ∧ SE w.heap.size w wr w.heap.size (2 * k)) (fun i _ => lo.length - (intOf i).toNat)
  case atStart => exact ⟨0, Nat.zero_le _, rfl, HS0.out⟩
  case round =>
    clear HS0
    obtain ⟨k, hk, rfl, hS⟩ := hrel
    by_cases hlt : k < lo.length
    · obtain ⟨g, rfl, L, hL, hLc⟩ := HC.out (by omega)
      have hL2 := hL.below hS.fr hL.lt
      have z : ∀ i, i < 7 → wr.cell? ⟨g, k * 7 + i, none⟩ = lo[k].cells[i]? := fun i hi => by rw [hL2.cell, hLc _ (by omega), oprow_at lo k hlt i hi]
      have z0 := z 0 (by omega)
      have z1 := z 1 (by omega)
      have z2 := z 2 (by omega)
      have z3 := z 3 (by omega)
      have z4 := z 4 (by omega)
      have z5 := z 5 (by omega)
      have z6 := z 6 (by omega)
      have hal := HALL.out k hlt
      generalize lo[k] = o at *
      simp only [OpD.cells, List.getElem?_cons_succ, List.getElem?_cons_zero, Nat.add_zero] at z0 z1 z2 z3 z4 z5 z6
      have HO : Hid (Allow [7, 8, 9, 10, 11, 12, 13, 14, 15, 16, 17, 18, 19, 22] o.kind ∧ o.ok ∧ o.s.size ≤ 16384) := hal
      have HS : Hid (SE w.heap.size w wr w.heap.size (2 * k)) := hS
      clear z hL2 hLc hL hal hS
      go_wp2_with fail
      refine (step_any B w.heap.size w w.heap.size (2 * k) o _ HIt.out.1 HIt.out.2 HS.out (by omega) HO.out.2.1 HO.out.2.2 (by
        rcases HO.out.1 with h | h
        · exact .inl (by omega)
        · simp at h; omega)).mono ?_
      rintro e w2 ⟨rfl, hS2⟩
      have HS2 : Hid (SE w.heap.size w w2 w.heap.size (2 * (k + 1))) := hS2
      clear hS2 HS HO z0 z1 z2 z3 z4 z5 z6
      go_wp2
      refine And.intro ?_ ?_
      · first | exact ⟨k + 1, by omega, by go_num, HS2.out⟩ | ((repeat apply Exists.intro); exact ⟨⟨k + 1, by omega, by go_num, HS2.out⟩, rfl⟩)
      · simp [intOf]; omega
    · have HF : Hid (Below w.heap.size w wr) := hS.fr
      clear hS
      go_wp2
      go_ret
      exact ⟨rfl, HF.out⟩

theorem upTo_fewer {B : Nat} {W0 : World} {ks ks' : List Int} (h : UpToSaid B W0 ks) (hs : ∀ k, k ∈ ks' → k ∈ ks) : UpToSaid B W0 ks' := fun w lv lo h0 h1 h2 h3 => h w lv lo h0 h1 h2 (fun k hk => ⟨(h3 k hk).1.imp_right (hs _), (h3 k hk).2⟩)
end Go.Proofs.YtohjjgefklhmaaaGreatDoor

namespace Go.Proofs.YtohjjgefklhmaaaGreatDoor
open Go.ChangeShapes Go.WideShapes Go.ChangeAt Go.RowKit
set_option linter.unusedVariables false

theorem own0 : ownKnob Tryz.prog.godebug = none := by kernel_rfl
theorem laidOut0 : laidOutB Tryz.prog = true := by kernel_rfl
theorem cells_op : Tryz.prog.cellsOf 27 = 7 := by kernel_rfl
theorem cells_int : Tryz.prog.cellsOf 3 = 1 := by kernel_rfl
theorem cells_str : Tryz.prog.cellsOf 9 = 1 := by kernel_rfl

theorem len7 {α : Type} (l : List α) (h : l.length = 7) : ∃ a b c d e f g, l = [a, b, c, d, e, f, g] := by
  match l, h with
  | [a, b, c, d, e, f, g], _ => exact ⟨a, b, c, d, e, f, g, rfl⟩
theorem int_read {H : Type} {enc : TypeId × Value → H} {W : World} {base : Nat} {spare : Nat → Bool} {held : Bool} {n : Nat} {c : Value} {x : DataW H × List MemPlace} (h : DataW.trod enc Tryz.prog W base spare held n 3 [c] = some x) : ∃ k, c = .int .i64 k ∧ i64R k := by
  obtain ⟨k, hc, _, hw⟩ := DataW.trod_int Tryz.underlying3 h
  refine ⟨k, by simpa using hc, ?_⟩
  have hx : -9223372036854775808 ≤ k ∧ k ≤ 9223372036854775807 := by simpa [Lit.wf, IntKind.min, IntKind.max, IntKind.signed, IntKind.bits] using hw
  exact hx
/-- one step of a script, read -/
theorem op_read {H : Type} {enc : TypeId × Value → H} {W : World} {base : Nat} {spare : Nat → Bool} {held : Bool} {n : Nat} {cs : List Value} {x : DataW H × List MemPlace} (h : DataW.trod enc Tryz.prog W base spare held n 27 cs = some x) :
    ∃ (o : OpD) (d0 d1 d2 d3 d4 d5 : DataW H), cs = o.cells ∧ o.ok ∧ x.1 = .agg [d0, d1, d2, d3, d4, d5, .lit (.string o.s.data.toList)] := by
  obtain ⟨xs, m, rfl, rfl, hl, hlen, hf⟩ := DataW.trod_struct Tryz.underlying27 h
  rw [cells_op] at hl
  obtain ⟨c0, c1, c2, c3, c4, c5, c6, rfl⟩ := len7 cs hl
  obtain ⟨x0, x1, x2, x3, x4, x5, x6, rfl⟩ := len7 xs hlen
  have f0 := hf 0 _ rfl
  have f1 := hf 1 _ rfl
  have f2 := hf 2 _ rfl
  have f3 := hf 3 _ rfl
  have f4 := hf 4 _ rfl
  have f5 := hf 5 _ rfl
  have f6 := hf 6 _ rfl
  simp [cells_int, cells_str] at f0 f1 f2 f3 f4 f5 f6
  obtain ⟨k0, rfl, w0⟩ := int_read f0
  obtain ⟨k1, rfl, w1⟩ := int_read f1
  obtain ⟨k2, rfl, w2⟩ := int_read f2
  obtain ⟨k3, rfl, w3⟩ := int_read f3
  obtain ⟨k4, rfl, w4⟩ := int_read f4
  obtain ⟨k5, rfl, w5⟩ := int_read f5
  obtain ⟨s, hc, hx6, hs⟩ := DataW.trod_string Tryz.underlying9 f6
  simp at hc
  subst hc
  exact ⟨⟨k0, k1, k2, k3, k4, k5, s⟩, x0.1, x1.1, x2.1, x3.1, x4.1, x5.1, rfl, ⟨w0, w1, w2, w3, w4, w5⟩, by simp [hx6]⟩

theorem weights_all {H : Type} {P : Program} {e : TypeId} {d : DataW H} : ∀ {l : List (DataW H)}, d ∈ l → ∀ n, n ∈ d.weights P e → n ∈ DataW.weightsAll P e l
  | x :: l, h, n, hn => by
    simp only [DataW.weightsAll, List.mem_append]
    rcases List.mem_cons.1 h with rfl | h
    · exact .inl hn
    · exact .inr (weights_all h n hn)
  | [], h, _, _ => by cases h
theorem op_weight {H : Type} (d0 d1 d2 d3 d4 d5 : DataW H) (l : List UInt8) : l.length ∈ (DataW.agg [d0, d1, d2, d3, d4, d5, .lit (.string l)]).weights Tryz.prog 27 := by
  simp only [DataW.weights, Tryz.underlying27]
  simp [DataW.weightsEach, DataW.weights]
/-- the script that came in -/
theorem script_read {H : Type} {enc : TypeId × Value → H} {W : World} {v : Value} {d : DataW H} {ps : List MemPlace} (h : DataW.Trod enc Tryz.prog W 0 (fun _ => true) true 22 v d ps) (hz : ∀ n, n ∈ d.weights Tryz.prog 22 → n ≤ reachBytes)
    (hsl : ∃ a n c, v = .slice a n c) :
    ∃ ops, OpSl W v ops ∧ (∀ k (h : k < ops.length), ops[k].ok) ∧ ops.length ≤ 9000000000000000 ∧ ∀ k (h : k < ops.length), ops[k].s.size ≤ 9000000000000000 := by
  obtain ⟨a0, n0, c0, rfl⟩ := hsl
  obtain ⟨fuel, hf⟩ := h
  rcases Deep.open_slice Tryz.underlying22 hf with ⟨hcs, _⟩ | ⟨a, len, cap, m, n, D, Pl, hcs, _, hl, hm, hmm, hx, hel⟩
  · simp [Value.cells] at hcs
    obtain ⟨rfl, rfl, rfl⟩ := hcs
    exact ⟨[], ⟨none, 0, rfl, fun h => by simp at h⟩, fun k h => by simp at h, by simp, fun k h => by simp at h⟩
  · simp [Value.cells] at hcs
    obtain ⟨rfl, rfl, rfl⟩ := hcs
    simp only [if_true] at hmm
    subst hmm
    have hd : d = .slice ((List.range n0).map D) ((List.range (m - n0)).map fun j => D (n0 + j)) := congrArg Prod.fst hx
    have hw : ∀ k, k ∈ (DataW.slice ((List.range n0).map D) ((List.range (m - n0)).map fun j => D (n0 + j))).weights Tryz.prog 22 → k ≤ reachBytes := by rw [← hd]; exact hz
    have hel2 : ∀ i, i < n0 → ∃ o : OpD, (∀ j, j < 7 → W.cell? (a.add (i * 7 + j)) = o.cells[j]?) ∧ o.ok ∧ o.s.size ≤ reachBytes := by
      intro i hi
      obtain ⟨cs', hc1, hc2⟩ := hel i (by omega)
      rw [cells_op] at hc1
      obtain ⟨_, _, hcell⟩ := World.cells?_some hc1
      obtain ⟨o, d0, d1, d2, d3, d4, d5, rfl, hok, hdat⟩ := op_read hc2
      refine ⟨o, fun j hj => ?_, hok, ?_⟩
      · rw [← hcell j hj, Deep.add_add]
      · have h1 := hw o.s.data.toList.length (by
          simp only [DataW.weights, Tryz.underlying22]
          refine List.mem_cons_of_mem _ (List.mem_append_left _ (weights_all (d := D i) (List.mem_map.2 ⟨i, List.mem_range.2 hi, rfl⟩) _ ?_))
          rw [show D i = _ from hdat]
          exact op_weight _ _ _ _ _ _ _)
        simpa using h1
    obtain ⟨f, hfo⟩ := @Deep.choose_lt OpD ⟨⟨0, 0, 0, 0, 0, 0, .empty⟩⟩ n0 _ hel2
    have hrb : reachBytes ≤ 140737488355328 := by decide
    refine ⟨(List.range n0).map f, ⟨some a, m, by simp, fun h0 => ?_⟩, fun k h => ?_, ?_, fun k h => ?_⟩
    · have h00 : 0 < n0 := by simpa using h0
      obtain ⟨b, off, spot⟩ := a
      have hsp : spot = none := by
        have h1 := (hfo 0 h00).1 0 (by omega)
        have h2 : W.cell? ((⟨b, off, spot⟩ : Addr).add (0 * 7 + 0)) = some (.int .i64 (f 0).kind) := h1
        simpa [Addr.add] using World.cell?_spot h2
      subst hsp
      refine ⟨b, off, rfl, fun k hk i hi => ?_⟩
      have hk' : k < n0 := by simpa using hk
      have h1 := (hfo k hk').1 i hi
      rw [Addr.add_lit] at h1
      rw [Nat.add_assoc, h1]
      simp
    · have hk' : k < n0 := by simpa using h
      simpa using (hfo k hk').2.1
    · have h1 := hw ((((List.range n0).map D).length + ((List.range (m - n0)).map fun j => D (n0 + j)).length) * Tryz.prog.bytesOf 27) (by simp only [DataW.weights, Tryz.underlying22]; exact List.mem_cons_self)
      have hb : Tryz.prog.bytesOf 27 = 64 := by kernel_rfl
      rw [hb] at h1
      simp at h1 ⊢
      omega
    · have hk' : k < n0 := by simpa using h
      have h1 := (hfo k hk').2.2
      simp
      omega

end Go.Proofs.YtohjjgefklhmaaaGreatDoor
