import Derived.Test.YtohjjgefklhmaaaGreatDoorWriteM
namespace Go.Proofs.YtohjjgefklhmaaaGreatDoor
open Go.ChangeShapes Go.WideShapes Go.ChangeAt Go.RowKit
set_option linter.unusedVariables false

theorem Has.ne_type {w : World} {g g' : Nat} {e e' : TypeId} {L L' : List Value} (h : Has w g e L) (h' : Has w g' e' L') (hne : e ≠ e') : g ≠ g' := by
  intro h0
  subst h0
  unfold Has at h h'
  rw [h] at h'
  simp only [Option.some.injEq, Obj.cells.injEq] at h'
  exact hne h'.2.1
/-- two rows lie apart -/
def Df (v v' : Value) : Prop := ∀ k, v.ownBlock = some k → v'.ownBlock ≠ some k
theorem Df.symm {v v' : Value} (h : Df v v') : Df v' v := fun k h1 h2 => h k h2 h1
theorem Df.kept {v v' : Value} (h : Df v v') : v.ownBlock = none ∨ v.ownBlock ≠ v'.ownBlock := by
  cases hv : v.ownBlock with
  | none => exact .inl rfl
  | some k => exact .inr (fun e => h k hv e.symm)
theorem Df.nil (v : Value) : Df (.slice none 0 0) v := fun k h => by simp [Value.ownBlock] at h
theorem Df.grow {w : World} {v v' : Value} {base : Nat} {e : TypeId} {size n : Nat} {xs : List Value} {g m cap : Nat} (h : Df v v') (h' : w.ownsRow base e size v' n xs) (hor : v.ownBlock = some g ∨ w.heap.size ≤ g) : Df (.slice (some ⟨g, 0, none⟩) m cap) v' := by
  intro k hk hk'
  have e0 : g = k := by simpa [Value.ownBlock] using hk
  subst e0
  rcases hor with h0 | h0
  · exact h g h0 hk'
  · have := (h'.lt g hk').2; omega

/-- a block in which no row of the script's world lies -/
structure Aside (gw : Nat) (b o r t x : Value) (g : Nat) : Prop where
  w : g ≠ gw
  b : b.ownBlock ≠ some g
  o : o.ownBlock ≠ some g
  r : r.ownBlock ≠ some g
  t : t.ownBlock ≠ some g
  x : x.ownBlock ≠ some g
theorem heap_lt {w : World} {g : Nat} {ob : Obj} (h : w.heap[g]? = some ob) : g < w.heap.size := (Array.getElem?_eq_some_iff.1 h).1
theorem heap_alloc {w : World} {g : Nat} {ob : Obj} (h : w.heap[g]? = some ob) (o : Obj) : (w.alloc o).heap[g]? = some ob := by
  rw [← h]; exact Below.heap_alloc _ _ _ (heap_lt h)
theorem heap_below {w w' : World} {g : Nat} {ob : Obj} (h : w.heap[g]? = some ob) (hb : Below w.heap.size w w') : w'.heap[g]? = some ob := (hb.block g (heap_lt h)).trans h
theorem heap_push {w w2 : World} {row : Option Nat} {g : Nat} {ob : Obj} (hg : w.grownBy w2 row) (h : w.heap[g]? = some ob) (hr : row ≠ some g) (p : Addr) (u : Value) (hp : g ≠ p.block) : (w2.setCell p u).heap[g]? = some ob := by
  rw [Below.heap_setCell _ _ _ _ hp, hg.block g (heap_lt h) (fun e => hr e.symm)]; exact h
theorem new_ne {w : World} {v : Value} {g g' m cap : Nat} {ob : Obj} (h : w.heap[g]? = some ob) (hv : v.ownBlock ≠ some g) (hor : v.ownBlock = some g' ∨ w.heap.size ≤ g') : (Value.slice (some ⟨g', 0, none⟩) m cap).ownBlock ≠ some g := by
  intro e
  have e0 : g' = g := by simpa [Value.ownBlock] using e
  subst e0
  rcases hor with h0 | h0
  · exact hv h0
  · have := heap_lt h; omega

/-- the script's world: what the caller owns; blocks that are kept -/
structure WSt (base : Nat) (w0 w : World) (gw : Nat) (b o r t x : RowV) (l : Nat → Obj → Prop) : Prop where
  fr : Below base w0 w
  hgw : base ≤ gw
  W : Has w gw 33 [b.v, o.v, r.v, t.v, x.v]
  dbo : Df b.v o.v
  dbr : Df b.v r.v
  dor : Df o.v r.v
  rb : w.ownsRow base 3 1 b.v b.n b.xs
  ro : w.ownsRow base 3 1 o.v o.n o.xs
  rr : w.ownsRow base 3 1 r.v r.n r.xs
  rt : w.ownsRow base 42 2 t.v t.n t.xs
  rx : w.ownsRow base 37 1 x.v x.n x.xs
  rl : ∀ g ob, l g ob → w.heap[g]? = some ob ∧ Aside gw b.v o.v r.v t.v x.v g

theorem WSt.hsz {base : Nat} {w0 w : World} {gw : Nat} {b o r t x : RowV} {l : Nat → Obj → Prop} (m : WSt base w0 w gw b o r t x l) : base ≤ w.heap.size := Nat.le_trans m.hgw (Nat.le_of_lt m.W.lt)
theorem WSt.kept {base : Nat} {w0 w : World} {gw : Nat} {b o r t x : RowV} {l l' : Nat → Obj → Prop} (m : WSt base w0 w gw b o r t x l) (h : ∀ g ob, l' g ob → w.heap[g]? = some ob ∧ Aside gw b.v o.v r.v t.v x.v g) : WSt base w0 w gw b o r t x l' :=
  ⟨m.fr, m.hgw, m.W, m.dbo, m.dbr, m.dor, m.rb, m.ro, m.rr, m.rt, m.rx, h⟩
theorem WSt.alloc {base : Nat} {w0 w : World} {gw : Nat} {b o r t x : RowV} {l : Nat → Obj → Prop} (m : WSt base w0 w gw b o r t x l) (ob : Obj) : WSt base w0 (w.alloc ob) gw b o r t x l :=
  ⟨m.fr.alloc m.hsz ob, m.hgw, m.W.alloc ob, m.dbo, m.dbr, m.dor, m.rb.alloc ob, m.ro.alloc ob, m.rr.alloc ob, m.rt.alloc ob, m.rx.alloc ob, fun g ob' h => ⟨heap_alloc (m.rl g ob' h).1 ob, (m.rl g ob' h).2⟩⟩
theorem WSt.drew {base : Nat} {w0 w : World} {gw : Nat} {b o r t x : RowV} {l : Nat → Obj → Prop} (m : WSt base w0 w gw b o r t x l) : WSt base w0 w.drew gw b o r t x l :=
  ⟨m.fr.drew, m.hgw, m.W, m.dbo, m.dbr, m.dor, m.rb, m.ro, m.rr, m.rt, m.rx, m.rl⟩
theorem WSt.drewN {base : Nat} {w0 w : World} {gw : Nat} {b o r t x : RowV} {l : Nat → Obj → Prop} (m : WSt base w0 w gw b o r t x l) (n : Nat) : WSt base w0 (w.drewN n) gw b o r t x l :=
  ⟨below_drewN m.fr n, m.hgw, m.W, m.dbo, m.dbr, m.dor, m.rb, m.ro, m.rr, m.rt, m.rx, m.rl⟩
theorem WSt.below {base : Nat} {w0 w w' : World} {gw : Nat} {b o r t x : RowV} {l : Nat → Obj → Prop} (m : WSt base w0 w gw b o r t x l) (hb : Below w.heap.size w w') : WSt base w0 w' gw b o r t x l :=
  ⟨m.fr.trans (hb.mono m.hsz), m.hgw, m.W.below hb m.W.lt, m.dbo, m.dbr, m.dor, ownsRow_below m.rb hb (Nat.le_refl _), ownsRow_below m.ro hb (Nat.le_refl _), ownsRow_below m.rr hb (Nat.le_refl _), ownsRow_below m.rt hb (Nat.le_refl _), ownsRow_below m.rx hb (Nat.le_refl _), fun g ob h => ⟨heap_below (m.rl g ob h).1 hb, (m.rl g ob h).2⟩⟩

theorem WSt.pushB {base : Nat} {w0 w : World} {gw : Nat} {b o r t x : RowV} {l : Nat → Obj → Prop} (m : WSt base w0 w gw b o r t x l) {w2 : World} {g nn cap : Nat} {ys : List Value} (hg : w.grownBy w2 b.v.ownBlock) (hn : w2.ownsRow base 3 1 (.slice (some ⟨g, 0, none⟩) nn cap) nn ys) (hor : b.v.ownBlock = some g ∨ w.heap.size ≤ g) :
    Has w2 gw 33 [b.v, o.v, r.v, t.v, x.v] ∧ WSt base w0 (w2.setCell ⟨gw, 0, none⟩ (.slice (some ⟨g, 0, none⟩) nn cap)) gw { v := (.slice (some ⟨g, 0, none⟩) nn cap), n := nn, xs := ys } o r t x l := by
  have hW := grown_has hg m.W (Has.apart m.W m.rb (by decide))
  exact ⟨hW, (m.fr.grown hg m.hsz (fun j hj => (m.rb.lt j hj).1)).setCell m.hgw _, m.hgw, hW.set 0 _, m.dbo.grow m.ro hor, m.dbr.grow m.rr hor, m.dor, ownsRow_setCell hn _ _ (fun h => Has.apart (grown_has hg m.W (Has.apart m.W m.rb (by decide))) hn (by decide) h.symm), ownsRow_setCell (m.ro.kept hg m.dbo.symm.kept) _ _ (fun h => Has.apart m.W m.ro (by decide) h.symm), ownsRow_setCell (m.rr.kept hg m.dbr.symm.kept) _ _ (fun h => Has.apart m.W m.rr (by decide) h.symm), ownsRow_setCell (m.rt.kept hg (ownsRow_apart m.rt m.rb (by decide))) _ _ (fun h => Has.apart m.W m.rt (by decide) h.symm), ownsRow_setCell (m.rx.kept hg (ownsRow_apart m.rx m.rb (by decide))) _ _ (fun h => Has.apart m.W m.rx (by decide) h.symm), fun g' ob h => ⟨heap_push hg (m.rl g' ob h).1 (m.rl g' ob h).2.b _ _ (m.rl g' ob h).2.w, ⟨(m.rl g' ob h).2.w, new_ne (m.rl g' ob h).1 (m.rl g' ob h).2.b hor, (m.rl g' ob h).2.o, (m.rl g' ob h).2.r, (m.rl g' ob h).2.t, (m.rl g' ob h).2.x⟩⟩⟩

theorem WSt.pushO {base : Nat} {w0 w : World} {gw : Nat} {b o r t x : RowV} {l : Nat → Obj → Prop} (m : WSt base w0 w gw b o r t x l) {w2 : World} {g nn cap : Nat} {ys : List Value} (hg : w.grownBy w2 o.v.ownBlock) (hn : w2.ownsRow base 3 1 (.slice (some ⟨g, 0, none⟩) nn cap) nn ys) (hor : o.v.ownBlock = some g ∨ w.heap.size ≤ g) :
    Has w2 gw 33 [b.v, o.v, r.v, t.v, x.v] ∧ WSt base w0 (w2.setCell ⟨gw, 1, none⟩ (.slice (some ⟨g, 0, none⟩) nn cap)) gw b { v := (.slice (some ⟨g, 0, none⟩) nn cap), n := nn, xs := ys } r t x l := by
  have hW := grown_has hg m.W (Has.apart m.W m.ro (by decide))
  exact ⟨hW, (m.fr.grown hg m.hsz (fun j hj => (m.ro.lt j hj).1)).setCell m.hgw _, m.hgw, hW.set 1 _, (m.dbo.symm.grow m.rb hor).symm, m.dbr, m.dor.grow m.rr hor, ownsRow_setCell (m.rb.kept hg m.dbo.kept) _ _ (fun h => Has.apart m.W m.rb (by decide) h.symm), ownsRow_setCell hn _ _ (fun h => Has.apart (grown_has hg m.W (Has.apart m.W m.ro (by decide))) hn (by decide) h.symm), ownsRow_setCell (m.rr.kept hg m.dor.symm.kept) _ _ (fun h => Has.apart m.W m.rr (by decide) h.symm), ownsRow_setCell (m.rt.kept hg (ownsRow_apart m.rt m.ro (by decide))) _ _ (fun h => Has.apart m.W m.rt (by decide) h.symm), ownsRow_setCell (m.rx.kept hg (ownsRow_apart m.rx m.ro (by decide))) _ _ (fun h => Has.apart m.W m.rx (by decide) h.symm), fun g' ob h => ⟨heap_push hg (m.rl g' ob h).1 (m.rl g' ob h).2.o _ _ (m.rl g' ob h).2.w, ⟨(m.rl g' ob h).2.w, (m.rl g' ob h).2.b, new_ne (m.rl g' ob h).1 (m.rl g' ob h).2.o hor, (m.rl g' ob h).2.r, (m.rl g' ob h).2.t, (m.rl g' ob h).2.x⟩⟩⟩

theorem WSt.pushR {base : Nat} {w0 w : World} {gw : Nat} {b o r t x : RowV} {l : Nat → Obj → Prop} (m : WSt base w0 w gw b o r t x l) {w2 : World} {g nn cap : Nat} {ys : List Value} (hg : w.grownBy w2 r.v.ownBlock) (hn : w2.ownsRow base 3 1 (.slice (some ⟨g, 0, none⟩) nn cap) nn ys) (hor : r.v.ownBlock = some g ∨ w.heap.size ≤ g) :
    Has w2 gw 33 [b.v, o.v, r.v, t.v, x.v] ∧ WSt base w0 (w2.setCell ⟨gw, 2, none⟩ (.slice (some ⟨g, 0, none⟩) nn cap)) gw b o { v := (.slice (some ⟨g, 0, none⟩) nn cap), n := nn, xs := ys } t x l := by
  have hW := grown_has hg m.W (Has.apart m.W m.rr (by decide))
  exact ⟨hW, (m.fr.grown hg m.hsz (fun j hj => (m.rr.lt j hj).1)).setCell m.hgw _, m.hgw, hW.set 2 _, m.dbo, (m.dbr.symm.grow m.rb hor).symm, (m.dor.symm.grow m.ro hor).symm, ownsRow_setCell (m.rb.kept hg m.dbr.kept) _ _ (fun h => Has.apart m.W m.rb (by decide) h.symm), ownsRow_setCell (m.ro.kept hg m.dor.kept) _ _ (fun h => Has.apart m.W m.ro (by decide) h.symm), ownsRow_setCell hn _ _ (fun h => Has.apart (grown_has hg m.W (Has.apart m.W m.rr (by decide))) hn (by decide) h.symm), ownsRow_setCell (m.rt.kept hg (ownsRow_apart m.rt m.rr (by decide))) _ _ (fun h => Has.apart m.W m.rt (by decide) h.symm), ownsRow_setCell (m.rx.kept hg (ownsRow_apart m.rx m.rr (by decide))) _ _ (fun h => Has.apart m.W m.rx (by decide) h.symm), fun g' ob h => ⟨heap_push hg (m.rl g' ob h).1 (m.rl g' ob h).2.r _ _ (m.rl g' ob h).2.w, ⟨(m.rl g' ob h).2.w, (m.rl g' ob h).2.b, (m.rl g' ob h).2.o, new_ne (m.rl g' ob h).1 (m.rl g' ob h).2.r hor, (m.rl g' ob h).2.t, (m.rl g' ob h).2.x⟩⟩⟩

theorem WSt.pushT {base : Nat} {w0 w : World} {gw : Nat} {b o r t x : RowV} {l : Nat → Obj → Prop} (m : WSt base w0 w gw b o r t x l) {w2 : World} {g nn cap : Nat} {ys : List Value} (hg : w.grownBy w2 t.v.ownBlock) (hn : w2.ownsRow base 42 2 (.slice (some ⟨g, 0, none⟩) nn cap) nn ys) (hor : t.v.ownBlock = some g ∨ w.heap.size ≤ g) :
    Has w2 gw 33 [b.v, o.v, r.v, t.v, x.v] ∧ WSt base w0 (w2.setCell ⟨gw, 3, none⟩ (.slice (some ⟨g, 0, none⟩) nn cap)) gw b o r { v := (.slice (some ⟨g, 0, none⟩) nn cap), n := nn, xs := ys } x l := by
  have hW := grown_has hg m.W (Has.apart m.W m.rt (by decide))
  exact ⟨hW, (m.fr.grown hg m.hsz (fun j hj => (m.rt.lt j hj).1)).setCell m.hgw _, m.hgw, hW.set 3 _, m.dbo, m.dbr, m.dor, ownsRow_setCell (m.rb.kept hg (ownsRow_apart m.rb m.rt (by decide))) _ _ (fun h => Has.apart m.W m.rb (by decide) h.symm), ownsRow_setCell (m.ro.kept hg (ownsRow_apart m.ro m.rt (by decide))) _ _ (fun h => Has.apart m.W m.ro (by decide) h.symm), ownsRow_setCell (m.rr.kept hg (ownsRow_apart m.rr m.rt (by decide))) _ _ (fun h => Has.apart m.W m.rr (by decide) h.symm), ownsRow_setCell hn _ _ (fun h => Has.apart (grown_has hg m.W (Has.apart m.W m.rt (by decide))) hn (by decide) h.symm), ownsRow_setCell (m.rx.kept hg (ownsRow_apart m.rx m.rt (by decide))) _ _ (fun h => Has.apart m.W m.rx (by decide) h.symm), fun g' ob h => ⟨heap_push hg (m.rl g' ob h).1 (m.rl g' ob h).2.t _ _ (m.rl g' ob h).2.w, ⟨(m.rl g' ob h).2.w, (m.rl g' ob h).2.b, (m.rl g' ob h).2.o, (m.rl g' ob h).2.r, new_ne (m.rl g' ob h).1 (m.rl g' ob h).2.t hor, (m.rl g' ob h).2.x⟩⟩⟩

theorem WSt.pushX {base : Nat} {w0 w : World} {gw : Nat} {b o r t x : RowV} {l : Nat → Obj → Prop} (m : WSt base w0 w gw b o r t x l) {w2 : World} {g nn cap : Nat} {ys : List Value} (hg : w.grownBy w2 x.v.ownBlock) (hn : w2.ownsRow base 37 1 (.slice (some ⟨g, 0, none⟩) nn cap) nn ys) (hor : x.v.ownBlock = some g ∨ w.heap.size ≤ g) :
    Has w2 gw 33 [b.v, o.v, r.v, t.v, x.v] ∧ WSt base w0 (w2.setCell ⟨gw, 4, none⟩ (.slice (some ⟨g, 0, none⟩) nn cap)) gw b o r t { v := (.slice (some ⟨g, 0, none⟩) nn cap), n := nn, xs := ys } l := by
  have hW := grown_has hg m.W (Has.apart m.W m.rx (by decide))
  exact ⟨hW, (m.fr.grown hg m.hsz (fun j hj => (m.rx.lt j hj).1)).setCell m.hgw _, m.hgw, hW.set 4 _, m.dbo, m.dbr, m.dor, ownsRow_setCell (m.rb.kept hg (ownsRow_apart m.rb m.rx (by decide))) _ _ (fun h => Has.apart m.W m.rb (by decide) h.symm), ownsRow_setCell (m.ro.kept hg (ownsRow_apart m.ro m.rx (by decide))) _ _ (fun h => Has.apart m.W m.ro (by decide) h.symm), ownsRow_setCell (m.rr.kept hg (ownsRow_apart m.rr m.rx (by decide))) _ _ (fun h => Has.apart m.W m.rr (by decide) h.symm), ownsRow_setCell (m.rt.kept hg (ownsRow_apart m.rt m.rx (by decide))) _ _ (fun h => Has.apart m.W m.rt (by decide) h.symm), ownsRow_setCell hn _ _ (fun h => Has.apart (grown_has hg m.W (Has.apart m.W m.rx (by decide))) hn (by decide) h.symm), fun g' ob h => ⟨heap_push hg (m.rl g' ob h).1 (m.rl g' ob h).2.x _ _ (m.rl g' ob h).2.w, ⟨(m.rl g' ob h).2.w, (m.rl g' ob h).2.b, (m.rl g' ob h).2.o, (m.rl g' ob h).2.r, (m.rl g' ob h).2.t, new_ne (m.rl g' ob h).1 (m.rl g' ob h).2.x hor⟩⟩⟩

theorem WSt.clear {base : Nat} {w0 w : World} {gw : Nat} {b o r t x : RowV} {l : Nat → Obj → Prop} (m : WSt base w0 w gw b o r t x l) : WSt base w0 (((w.setCell ⟨gw, 0, none⟩ (.slice none 0 0)).setCell ⟨gw, 1, none⟩ (.slice none 0 0)).setCell ⟨gw, 2, none⟩ (.slice none 0 0)) gw RowV.nil RowV.nil RowV.nil t x l := by
  have ht : t.v.ownBlock ≠ some gw := fun h => Has.apart m.W m.rt (by decide) h.symm
  have hx : x.v.ownBlock ≠ some gw := fun h => Has.apart m.W m.rx (by decide) h.symm
  exact ⟨((m.fr.setCell m.hgw _).setCell m.hgw _).setCell m.hgw _, m.hgw, ((m.W.set 0 _).set 1 _).set 2 _, Df.nil _, Df.nil _, Df.nil _, World.ownsRow_nil _ _ _ _, World.ownsRow_nil _ _ _ _, World.ownsRow_nil _ _ _ _, ownsRow_setCell (ownsRow_setCell (ownsRow_setCell m.rt _ _ ht) _ _ ht) _ _ ht, ownsRow_setCell (ownsRow_setCell (ownsRow_setCell m.rx _ _ hx) _ _ hx) _ _ hx, fun g' ob h => ⟨by rw [Below.heap_setCell _ _ _ _ (m.rl g' ob h).2.w, Below.heap_setCell _ _ _ _ (m.rl g' ob h).2.w, Below.heap_setCell _ _ _ _ (m.rl g' ob h).2.w]; exact (m.rl g' ob h).1, ⟨(m.rl g' ob h).2.w, by simp [RowV.nil, Value.ownBlock], by simp [RowV.nil, Value.ownBlock], by simp [RowV.nil, Value.ownBlock], (m.rl g' ob h).2.t, (m.rl g' ob h).2.x⟩⟩⟩
end Go.Proofs.YtohjjgefklhmaaaGreatDoor
