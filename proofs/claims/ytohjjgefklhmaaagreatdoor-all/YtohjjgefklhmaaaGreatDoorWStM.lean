import Derived.Test.YtohjjgefklhmaaaGreatDoorWriteM
import Derived.Deep.RegionWith
import Derived.Deep.DeepCutAuto
namespace Go.Proofs.YtohjjgefklhmaaaGreatDoor
open Go.ChangeShapes Go.WideShapes Go.ChangeAt Go.RowKit
set_option linter.unusedVariables false
set_option maxHeartbeats 40000000
set_option maxRecDepth 100000
variable {v v' : Value} {w w' w0 : World} {base g m cap gw : Nat} {ob : Obj} {b o r t x : RowV} {l : Nat -> Obj -> Prop}
def Df (v v' : Value) : Prop := ∀ k, v.ownBlock = some k -> v'.ownBlock ≠ some k
theorem Df.symm (h : Df v v') : Df v' v := fun k h1 h2 => h k h2 h1
theorem Df.kept (h : Df v v') : v.ownBlock = none ∨ v.ownBlock ≠ v'.ownBlock := by
 cases hv : v.ownBlock with
 | none => exact .inl rfl
 | some k => exact .inr (fun e => h k hv e.symm)
theorem Df.nil (v : Value) : Df (.slice none 0 0) v := fun k h => by simp [Value.ownBlock] at h
theorem Df.grow {e : TypeId} {size n : Nat} {xs : List Value} (h : Df v v') (h' : w.ownsRow base e size v' n xs) (hor : v.ownBlock = some g ∨ w.heap.size <= g) : Df (.slice (some ⟨g, 0, none⟩) m cap) v' := by
 intro k hk hk'
 have e0 : g = k := by simpa [Value.ownBlock] using hk
 subst e0
 rcases hor with h0 | h0
 ·exact h g h0 hk'
 ·have := (h'.lt g hk').2; omega
structure JB (gw : Nat) (b o r t x : Value) (g : Nat) : Prop where
 w : g ≠ gw
 b : b.ownBlock ≠ some g
 o : o.ownBlock ≠ some g
 r : r.ownBlock ≠ some g
 t : t.ownBlock ≠ some g
 x : x.ownBlock ≠ some g
theorem Fv (h : w.heap[g]? = some ob) : g < w.heap.size := (Array.getElem?_eq_some_iff.1 h).1
theorem LJ (h : w.heap[g]? = some ob) (o : Obj) : (w.alloc o).heap[g]? = some ob := by
 rw [<- h]; exact Below.heap_alloc _ _ _ (Fv h)
theorem L4 (h : w.heap[g]? = some ob) (hb : Below w.heap.size w w') : w'.heap[g]? = some ob := (hb.block g (Fv h)).trans h
theorem Em {w2 : World} {row : Option Nat} (hg : w.grownBy w2 row) (h : w.heap[g]? = some ob) (hr : row ≠ some g) (p : Addr) (u : Value) (hp : g ≠ p.block) : (w2.setCell p u).heap[g]? = some ob := by
 rw [Below.heap_setCell _ _ _ _ hp, hg.block g (Fv h) (fun e => hr e.symm)]; exact h
theorem Iu {g' : Nat} (h : w.heap[g]? = some ob) (hv : v.ownBlock ≠ some g) (hor : v.ownBlock = some g' ∨ w.heap.size <= g') : (Value.slice (some ⟨g', 0, none⟩) m cap).ownBlock ≠ some g := by
 intro e
 have e0 : g' = g := by simpa [Value.ownBlock] using e
 subst e0
 rcases hor with h0 | h0
 ·exact hv h0
 ·have := Fv h; omega
structure WSt (base : Nat) (w0 w : World) (gw : Nat) (b o r t x : RowV) (l : Nat -> Obj -> Prop) : Prop where
 fr : Below base w0 w
 hgw : base <= gw
 W : Has w gw 33 [b.v, o.v, r.v, t.v, x.v]
 dbo : Df b.v o.v
 dbr : Df b.v r.v
 dor : Df o.v r.v
 rb : w.ownsRow base 3 1 b.v b.n b.xs
 ro : w.ownsRow base 3 1 o.v o.n o.xs
 rr : w.ownsRow base 3 1 r.v r.n r.xs
 rt : w.ownsRow base 42 2 t.v t.n t.xs
 rx : w.ownsRow base 37 1 x.v x.n x.xs
 rl : ∀ g ob, l g ob -> w.heap[g]? = some ob ∧ JB gw b.v o.v r.v t.v x.v g
theorem WSt.hsz (m : WSt base w0 w gw b o r t x l) : base <= w.heap.size := Nat.le_trans m.hgw (Nat.le_of_lt m.W.lt)
theorem WSt.kept {l' : Nat -> Obj -> Prop} (m : WSt base w0 w gw b o r t x l) (h : ∀ g ob, l' g ob -> w.heap[g]? = some ob ∧ JB gw b.v o.v r.v t.v x.v g) : WSt base w0 w gw b o r t x l' :=
 ⟨m.fr, m.hgw, m.W, m.dbo, m.dbr, m.dor, m.rb, m.ro, m.rr, m.rt, m.rx, h⟩
theorem WSt.alloc (m : WSt base w0 w gw b o r t x l) (ob : Obj) : WSt base w0 (w.alloc ob) gw b o r t x l :=
 ⟨m.fr.alloc m.hsz ob, m.hgw, m.W.alloc ob, m.dbo, m.dbr, m.dor, m.rb.alloc ob, m.ro.alloc ob, m.rr.alloc ob, m.rt.alloc ob, m.rx.alloc ob, fun g ob' h => ⟨LJ (m.rl g ob' h).1 ob, (m.rl g ob' h).2⟩⟩
theorem WSt.drew (m : WSt base w0 w gw b o r t x l) : WSt base w0 w.drew gw b o r t x l :=
 ⟨m.fr.drew, m.hgw, m.W, m.dbo, m.dbr, m.dor, m.rb, m.ro, m.rr, m.rt, m.rx, m.rl⟩
theorem WSt.drewN (m : WSt base w0 w gw b o r t x l) (n : Nat) : WSt base w0 (w.drewN n) gw b o r t x l :=
 ⟨below_drewN m.fr n, m.hgw, m.W, m.dbo, m.dbr, m.dor, m.rb, m.ro, m.rr, m.rt, m.rx, m.rl⟩
theorem WSt.below (m : WSt base w0 w gw b o r t x l) (hb : Below w.heap.size w w') : WSt base w0 w' gw b o r t x l :=
 ⟨m.fr.trans (hb.mono m.hsz), m.hgw, m.W.below hb m.W.lt, m.dbo, m.dbr, m.dor, Ar m.rb hb (Nat.le_refl _), Ar m.ro hb (Nat.le_refl _), Ar m.rr hb (Nat.le_refl _), Ar m.rt hb (Nat.le_refl _), Ar m.rx hb (Nat.le_refl _), fun g ob h => ⟨L4 (m.rl g ob h).1 hb, (m.rl g ob h).2⟩⟩
theorem WSt.pushB (m : WSt base w0 w gw b o r t x l) {w2 : World} {g nn cap : Nat} {ys : List Value} (hg : w.grownBy w2 b.v.ownBlock) (hn : w2.ownsRow base 3 1 (.slice (some ⟨g, 0, none⟩) nn cap) nn ys) (hor : b.v.ownBlock = some g ∨ w.heap.size <= g) :
  Has w2 gw 33 [b.v, o.v, r.v, t.v, x.v] ∧ WSt base w0 (w2.setCell ⟨gw, 0, none⟩ (.slice (some ⟨g, 0, none⟩) nn cap)) gw { v := (.slice (some ⟨g, 0, none⟩) nn cap), n := nn, xs := ys } o r t x l := by
 have hW := Ao hg m.W (Has.apart m.W m.rb (by decide))
 exact ⟨hW, (m.fr.grown hg m.hsz (fun j hj => (m.rb.lt j hj).1)).setCell m.hgw _, m.hgw, hW.set 0 _, m.dbo.grow m.ro hor, m.dbr.grow m.rr hor, m.dor, Aa hn _ _ (fun h => Has.apart (Ao hg m.W (Has.apart m.W m.rb (by decide))) hn (by decide) h.symm), Aa (m.ro.kept hg m.dbo.symm.kept) _ _ (fun h => Has.apart m.W m.ro (by decide) h.symm), Aa (m.rr.kept hg m.dbr.symm.kept) _ _ (fun h => Has.apart m.W m.rr (by decide) h.symm), Aa (m.rt.kept hg (Ae m.rt m.rb (by decide))) _ _ (fun h => Has.apart m.W m.rt (by decide) h.symm), Aa (m.rx.kept hg (Ae m.rx m.rb (by decide))) _ _ (fun h => Has.apart m.W m.rx (by decide) h.symm), fun g' ob h => ⟨Em hg (m.rl g' ob h).1 (m.rl g' ob h).2.b _ _ (m.rl g' ob h).2.w, ⟨(m.rl g' ob h).2.w, Iu (m.rl g' ob h).1 (m.rl g' ob h).2.b hor, (m.rl g' ob h).2.o, (m.rl g' ob h).2.r, (m.rl g' ob h).2.t, (m.rl g' ob h).2.x⟩⟩⟩
theorem WSt.pushO (m : WSt base w0 w gw b o r t x l) {w2 : World} {g nn cap : Nat} {ys : List Value} (hg : w.grownBy w2 o.v.ownBlock) (hn : w2.ownsRow base 3 1 (.slice (some ⟨g, 0, none⟩) nn cap) nn ys) (hor : o.v.ownBlock = some g ∨ w.heap.size <= g) :
  Has w2 gw 33 [b.v, o.v, r.v, t.v, x.v] ∧ WSt base w0 (w2.setCell ⟨gw, 1, none⟩ (.slice (some ⟨g, 0, none⟩) nn cap)) gw b { v := (.slice (some ⟨g, 0, none⟩) nn cap), n := nn, xs := ys } r t x l := by
 have hW := Ao hg m.W (Has.apart m.W m.ro (by decide))
 exact ⟨hW, (m.fr.grown hg m.hsz (fun j hj => (m.ro.lt j hj).1)).setCell m.hgw _, m.hgw, hW.set 1 _, (m.dbo.symm.grow m.rb hor).symm, m.dbr, m.dor.grow m.rr hor, Aa (m.rb.kept hg m.dbo.kept) _ _ (fun h => Has.apart m.W m.rb (by decide) h.symm), Aa hn _ _ (fun h => Has.apart (Ao hg m.W (Has.apart m.W m.ro (by decide))) hn (by decide) h.symm), Aa (m.rr.kept hg m.dor.symm.kept) _ _ (fun h => Has.apart m.W m.rr (by decide) h.symm), Aa (m.rt.kept hg (Ae m.rt m.ro (by decide))) _ _ (fun h => Has.apart m.W m.rt (by decide) h.symm), Aa (m.rx.kept hg (Ae m.rx m.ro (by decide))) _ _ (fun h => Has.apart m.W m.rx (by decide) h.symm), fun g' ob h => ⟨Em hg (m.rl g' ob h).1 (m.rl g' ob h).2.o _ _ (m.rl g' ob h).2.w, ⟨(m.rl g' ob h).2.w, (m.rl g' ob h).2.b, Iu (m.rl g' ob h).1 (m.rl g' ob h).2.o hor, (m.rl g' ob h).2.r, (m.rl g' ob h).2.t, (m.rl g' ob h).2.x⟩⟩⟩
theorem WSt.pushR (m : WSt base w0 w gw b o r t x l) {w2 : World} {g nn cap : Nat} {ys : List Value} (hg : w.grownBy w2 r.v.ownBlock) (hn : w2.ownsRow base 3 1 (.slice (some ⟨g, 0, none⟩) nn cap) nn ys) (hor : r.v.ownBlock = some g ∨ w.heap.size <= g) :
  Has w2 gw 33 [b.v, o.v, r.v, t.v, x.v] ∧ WSt base w0 (w2.setCell ⟨gw, 2, none⟩ (.slice (some ⟨g, 0, none⟩) nn cap)) gw b o { v := (.slice (some ⟨g, 0, none⟩) nn cap), n := nn, xs := ys } t x l := by
 have hW := Ao hg m.W (Has.apart m.W m.rr (by decide))
 exact ⟨hW, (m.fr.grown hg m.hsz (fun j hj => (m.rr.lt j hj).1)).setCell m.hgw _, m.hgw, hW.set 2 _, m.dbo, (m.dbr.symm.grow m.rb hor).symm, (m.dor.symm.grow m.ro hor).symm, Aa (m.rb.kept hg m.dbr.kept) _ _ (fun h => Has.apart m.W m.rb (by decide) h.symm), Aa (m.ro.kept hg m.dor.kept) _ _ (fun h => Has.apart m.W m.ro (by decide) h.symm), Aa hn _ _ (fun h => Has.apart (Ao hg m.W (Has.apart m.W m.rr (by decide))) hn (by decide) h.symm), Aa (m.rt.kept hg (Ae m.rt m.rr (by decide))) _ _ (fun h => Has.apart m.W m.rt (by decide) h.symm), Aa (m.rx.kept hg (Ae m.rx m.rr (by decide))) _ _ (fun h => Has.apart m.W m.rx (by decide) h.symm), fun g' ob h => ⟨Em hg (m.rl g' ob h).1 (m.rl g' ob h).2.r _ _ (m.rl g' ob h).2.w, ⟨(m.rl g' ob h).2.w, (m.rl g' ob h).2.b, (m.rl g' ob h).2.o, Iu (m.rl g' ob h).1 (m.rl g' ob h).2.r hor, (m.rl g' ob h).2.t, (m.rl g' ob h).2.x⟩⟩⟩
theorem WSt.pushT (m : WSt base w0 w gw b o r t x l) {w2 : World} {g nn cap : Nat} {ys : List Value} (hg : w.grownBy w2 t.v.ownBlock) (hn : w2.ownsRow base 42 2 (.slice (some ⟨g, 0, none⟩) nn cap) nn ys) (hor : t.v.ownBlock = some g ∨ w.heap.size <= g) :
  Has w2 gw 33 [b.v, o.v, r.v, t.v, x.v] ∧ WSt base w0 (w2.setCell ⟨gw, 3, none⟩ (.slice (some ⟨g, 0, none⟩) nn cap)) gw b o r { v := (.slice (some ⟨g, 0, none⟩) nn cap), n := nn, xs := ys } x l := by
 have hW := Ao hg m.W (Has.apart m.W m.rt (by decide))
 exact ⟨hW, (m.fr.grown hg m.hsz (fun j hj => (m.rt.lt j hj).1)).setCell m.hgw _, m.hgw, hW.set 3 _, m.dbo, m.dbr, m.dor, Aa (m.rb.kept hg (Ae m.rb m.rt (by decide))) _ _ (fun h => Has.apart m.W m.rb (by decide) h.symm), Aa (m.ro.kept hg (Ae m.ro m.rt (by decide))) _ _ (fun h => Has.apart m.W m.ro (by decide) h.symm), Aa (m.rr.kept hg (Ae m.rr m.rt (by decide))) _ _ (fun h => Has.apart m.W m.rr (by decide) h.symm), Aa hn _ _ (fun h => Has.apart (Ao hg m.W (Has.apart m.W m.rt (by decide))) hn (by decide) h.symm), Aa (m.rx.kept hg (Ae m.rx m.rt (by decide))) _ _ (fun h => Has.apart m.W m.rx (by decide) h.symm), fun g' ob h => ⟨Em hg (m.rl g' ob h).1 (m.rl g' ob h).2.t _ _ (m.rl g' ob h).2.w, ⟨(m.rl g' ob h).2.w, (m.rl g' ob h).2.b, (m.rl g' ob h).2.o, (m.rl g' ob h).2.r, Iu (m.rl g' ob h).1 (m.rl g' ob h).2.t hor, (m.rl g' ob h).2.x⟩⟩⟩
theorem WSt.pushX (m : WSt base w0 w gw b o r t x l) {w2 : World} {g nn cap : Nat} {ys : List Value} (hg : w.grownBy w2 x.v.ownBlock) (hn : w2.ownsRow base 37 1 (.slice (some ⟨g, 0, none⟩) nn cap) nn ys) (hor : x.v.ownBlock = some g ∨ w.heap.size <= g) :
  Has w2 gw 33 [b.v, o.v, r.v, t.v, x.v] ∧ WSt base w0 (w2.setCell ⟨gw, 4, none⟩ (.slice (some ⟨g, 0, none⟩) nn cap)) gw b o r t { v := (.slice (some ⟨g, 0, none⟩) nn cap), n := nn, xs := ys } l := by
 have hW := Ao hg m.W (Has.apart m.W m.rx (by decide))
 exact ⟨hW, (m.fr.grown hg m.hsz (fun j hj => (m.rx.lt j hj).1)).setCell m.hgw _, m.hgw, hW.set 4 _, m.dbo, m.dbr, m.dor, Aa (m.rb.kept hg (Ae m.rb m.rx (by decide))) _ _ (fun h => Has.apart m.W m.rb (by decide) h.symm), Aa (m.ro.kept hg (Ae m.ro m.rx (by decide))) _ _ (fun h => Has.apart m.W m.ro (by decide) h.symm), Aa (m.rr.kept hg (Ae m.rr m.rx (by decide))) _ _ (fun h => Has.apart m.W m.rr (by decide) h.symm), Aa (m.rt.kept hg (Ae m.rt m.rx (by decide))) _ _ (fun h => Has.apart m.W m.rt (by decide) h.symm), Aa hn _ _ (fun h => Has.apart (Ao hg m.W (Has.apart m.W m.rx (by decide))) hn (by decide) h.symm), fun g' ob h => ⟨Em hg (m.rl g' ob h).1 (m.rl g' ob h).2.x _ _ (m.rl g' ob h).2.w, ⟨(m.rl g' ob h).2.w, (m.rl g' ob h).2.b, (m.rl g' ob h).2.o, (m.rl g' ob h).2.r, (m.rl g' ob h).2.t, Iu (m.rl g' ob h).1 (m.rl g' ob h).2.x hor⟩⟩⟩
theorem WSt.clear (m : WSt base w0 w gw b o r t x l) : WSt base w0 (((w.setCell ⟨gw, 0, none⟩ (.slice none 0 0)).setCell ⟨gw, 1, none⟩ (.slice none 0 0)).setCell ⟨gw, 2, none⟩ (.slice none 0 0)) gw RowV.nil RowV.nil RowV.nil t x l := by
 have ht : t.v.ownBlock ≠ some gw := fun h => Has.apart m.W m.rt (by decide) h.symm
 have hx : x.v.ownBlock ≠ some gw := fun h => Has.apart m.W m.rx (by decide) h.symm
 exact ⟨((m.fr.setCell m.hgw _).setCell m.hgw _).setCell m.hgw _, m.hgw, ((m.W.set 0 _).set 1 _).set 2 _, Df.nil _, Df.nil _, Df.nil _, World.ownsRow_nil _ _ _ _, World.ownsRow_nil _ _ _ _, World.ownsRow_nil _ _ _ _, Aa (Aa (Aa m.rt _ _ ht) _ _ ht) _ _ ht, Aa (Aa (Aa m.rx _ _ hx) _ _ hx) _ _ hx, fun g' ob h => ⟨by rw [Below.heap_setCell _ _ _ _ (m.rl g' ob h).2.w, Below.heap_setCell _ _ _ _ (m.rl g' ob h).2.w, Below.heap_setCell _ _ _ _ (m.rl g' ob h).2.w]; exact (m.rl g' ob h).1, ⟨(m.rl g' ob h).2.w, by simp [RowV.nil, Value.ownBlock], by simp [RowV.nil, Value.ownBlock], by simp [RowV.nil, Value.ownBlock], (m.rl g' ob h).2.t, (m.rl g' ob h).2.x⟩⟩⟩
def JL (base : Nat) (w0 w' : World) (gw : Nat) (nb no nr : Nat) (t x : RowV) (l : Nat -> Obj -> Prop) : Prop :=
 ∃ vb vo vr bs os rs, List.length bs <= nb ∧ List.length os <= no ∧ List.length rs <= nr ∧
  WSt base w0 w' gw { v := vb, n := bs.length, xs := Ai bs } { v := vo, n := os.length, xs := Ai os } { v := vr, n := rs.length, xs := Ai rs } t x l
theorem Fu (bs : List Int) (a : Int) : Ai bs ++ [.int .i64 a] = Ai (bs ++ [a]) := by simp [Ai]
theorem QG (base : Nat) (w0 : World) (gw : Nat) (vb vo vr : Value) (bs os rs : List Int) (t x : RowV) (l : Nat -> Obj -> Prop) (X A B C D : Int) (s : ByteArray) (w : World) (hS : WSt base w0 w gw { v := vb, n := bs.length, xs := Ai bs } { v := vo, n := os.length, xs := Ai os } { v := vr, n := rs.length, xs := Ai rs } t x l)
  (l1 : bs.length <= 1000000) (l2 : os.length <= 1000000) (l3 : rs.length <= 1000000) :
  Calls Tryz.prog 13 #[.pointer (some ⟨gw, 0, none⟩), .agg #[.int .i64 1, .int .i64 X, .int .i64 A, .int .i64 B, .int .i64 C, .int .i64 D, .string s]] w fun e w' => e = .returned (.bool true) ∧ JL base w0 w' gw (bs.length + 1) (os.length + 1) (rs.length + 1) t x l := by
 obtain ⟨i1, hi1, hz10, hz11, hz12⟩ := info_parts Cn
 have g1 := hS.W.lt
 have g2 : gw < w.heap.size + 1 := by omega
 have c : w.cell? ⟨gw, 0, none⟩ = some vb := hS.W.cell 0
 have HS := Hd hS
 clear hS
 go_enter Tryz.func13, Tryz.ntmps13
 go_wp2_with fail
 go_region_law (refine AU rfl (.tmp 13) (.tmp 16) 24 rfl 3 i1 _ 1 8 Tryz.underlying24 hi1 hz10 hz11 hz12 rfl (by decide) base vb bs.length (Ai bs) (by first | rfl | simp [Act.eval]) ((HS.out.alloc _).alloc _).rb ((HS.out.alloc _).alloc _).hsz ⟨_, 0, none⟩ 1 1 [.int .i64 A] (by first | rfl | simp [Act.eval]) (by rfl) (Ap _ [.int .i64 A] _ _ (by simp)) (by simp [Value.oneCell']) (by decide) (by simp [maxLen]; omega) (by omega) ?_; intro g5 cap5 v5 hown5 hgrow5 hor5 hold5; obtain ⟨hW5, hS5⟩ := (((HS.out.alloc _).alloc _).drew).pushB hgrow5 hown5 (by simpa using hor5); have c3' : v5.cell? ⟨gw, 0, none⟩ = some vb := hW5.cell 0; have f3' := hW5.frozen 0; have HS5 : Hid _ := hS5; clear hS5 hown5 hgrow5 hold5 hW5)
 all_goals
  go_wp2
  go_ret
  refine ⟨rfl, .slice (some ⟨g5, 0, none⟩) (bs.length + 1) cap5, vo, vr, bs ++ [A], os, rs, by simp, by simp, by simp, ?_⟩
  have h := HS5.out
  rw [Fu] at h
  simpa using h
theorem QU (base : Nat) (w0 : World) (gw : Nat) (vb vo vr : Value) (bs os rs : List Int) (t x : RowV) (l : Nat -> Obj -> Prop) (X A B C D : Int) (s : ByteArray) (w : World) (hS : WSt base w0 w gw { v := vb, n := bs.length, xs := Ai bs } { v := vo, n := os.length, xs := Ai os } { v := vr, n := rs.length, xs := Ai rs } t x l)
  (l1 : bs.length <= 1000000) (l2 : os.length <= 1000000) (l3 : rs.length <= 1000000) :
  Calls Tryz.prog 13 #[.pointer (some ⟨gw, 0, none⟩), .agg #[.int .i64 3, .int .i64 X, .int .i64 A, .int .i64 B, .int .i64 C, .int .i64 D, .string s]] w fun e w' => e = .returned (.bool true) ∧ JL base w0 w' gw (bs.length + 1) (os.length + 1) (rs.length + 1) t x l := by
 obtain ⟨i1, hi1, hz10, hz11, hz12⟩ := info_parts Cn
 have g1 := hS.W.lt
 have g2 : gw < w.heap.size + 1 := by omega
 have c : w.cell? ⟨gw, 2, none⟩ = some vr := hS.W.cell 2
 have HS := Hd hS
 clear hS
 go_enter Tryz.func13, Tryz.ntmps13
 go_wp2_with fail
 go_region_law (refine AU rfl (.tmp 50) (.tmp 53) 24 rfl 3 i1 _ 1 8 Tryz.underlying24 hi1 hz10 hz11 hz12 rfl (by decide) base vr rs.length (Ai rs) (by first | rfl | simp [Act.eval]) ((HS.out.alloc _).alloc _).rr ((HS.out.alloc _).alloc _).hsz ⟨_, 0, none⟩ 1 1 [.int .i64 A] (by first | rfl | simp [Act.eval]) (by rfl) (Ap _ [.int .i64 A] _ _ (by simp)) (by simp [Value.oneCell']) (by decide) (by simp [maxLen]; omega) (by omega) ?_; intro g5 cap5 v5 hown5 hgrow5 hor5 hold5; obtain ⟨hW5, hS5⟩ := (((HS.out.alloc _).alloc _).drew).pushR hgrow5 hown5 (by simpa using hor5); have c3' : v5.cell? ⟨gw, 2, none⟩ = some vr := hW5.cell 2; have f3' := hW5.frozen 2; have HS5 : Hid _ := hS5; clear hS5 hown5 hgrow5 hold5 hW5)
 all_goals
  go_wp2
  go_ret
  refine ⟨rfl, vb, vo, .slice (some ⟨g5, 0, none⟩) (rs.length + 1) cap5, bs, os, rs ++ [A], by simp, by simp, by simp, ?_⟩
  have h := HS5.out
  rw [Fu] at h
  simpa using h
theorem QJ (base : Nat) (w0 : World) (gw : Nat) (vb vo vr : Value) (bs os rs : List Int) (t x : RowV) (l : Nat -> Obj -> Prop) (X A B C D : Int) (s : ByteArray) (w : World) (hS : WSt base w0 w gw { v := vb, n := bs.length, xs := Ai bs } { v := vo, n := os.length, xs := Ai os } { v := vr, n := rs.length, xs := Ai rs } t x l)
  (l1 : bs.length <= 1000000) (l2 : os.length <= 1000000) (l3 : rs.length <= 1000000) :
  Calls Tryz.prog 13 #[.pointer (some ⟨gw, 0, none⟩), .agg #[.int .i64 4, .int .i64 X, .int .i64 A, .int .i64 B, .int .i64 C, .int .i64 D, .string s]] w fun e w' => e = .returned (.bool true) ∧ JL base w0 w' gw (bs.length + 1) (os.length + 1) (rs.length + 1) t x l := by
 have g1 := hS.W.lt
 have c0 : w.cell? ⟨gw, 0, none⟩ = some vb := hS.W.cell 0
 have c1 : w.cell? ⟨gw, 1, none⟩ = some vo := hS.W.cell 1
 have c2 : w.cell? ⟨gw, 2, none⟩ = some vr := hS.W.cell 2
 have f0 := hS.W.frozen 0
 have f1 := hS.W.frozen 1
 have f2 := hS.W.frozen 2
 have HS := Hd hS
 clear hS
 go_enter Tryz.func13, Tryz.ntmps13
 go_wp2
 go_ret
 refine ⟨rfl, .slice none 0 0, .slice none 0 0, .slice none 0 0, [], [], [], by simp, by simp, by simp, ?_⟩
 exact HS.out.clear.alloc _
theorem Pn (base : Nat) (w0 : World) (gw : Nat) (vb vo vr : Value) (bs os rs : List Int) (t x : RowV) (l : Nat -> Obj -> Prop) (X A B C D : Int) (s : ByteArray) (w : World) (hS : WSt base w0 w gw { v := vb, n := bs.length, xs := Ai bs } { v := vo, n := os.length, xs := Ai os } { v := vr, n := rs.length, xs := Ai rs } t x l)
  (l1 : bs.length <= 1000000) (l2 : os.length <= 1000000) (l3 : rs.length <= 1000000) (k : Int) (k1 : (k == 1) = false) (k2 : (k == 2) = false) (k3 : (k == 3) = false) (k4 : (k == 4) = false) (k5 : (k == 5) = false) (k6 : (k == 6) = false) :
  Calls Tryz.prog 13 #[.pointer (some ⟨gw, 0, none⟩), .agg #[.int .i64 k, .int .i64 X, .int .i64 A, .int .i64 B, .int .i64 C, .int .i64 D, .string s]] w fun e w' => e = .returned (.bool false) ∧ JL base w0 w' gw (bs.length + 1) (os.length + 1) (rs.length + 1) t x l := by
 have HS := Hd hS
 clear hS
 go_enter Tryz.func13, Tryz.ntmps13
 go_wp2
 go_ret
 exact ⟨rfl, vb, vo, vr, bs, os, rs, by omega, by omega, by omega, HS.out.alloc _⟩
theorem QX (base : Nat) (w0 : World) (gw : Nat) (vb vo vr : Value) (bs os rs : List Int) (t x : RowV) (l : Nat -> Obj -> Prop) (X A B C D : Int) (s : ByteArray) (w : World) (hS : WSt base w0 w gw { v := vb, n := bs.length, xs := Ai bs } { v := vo, n := os.length, xs := Ai os } { v := vr, n := rs.length, xs := Ai rs } t x l)
  (l1 : bs.length <= 1000000) (l2 : os.length <= 1000000) (l3 : rs.length <= 1000000) :
  Calls Tryz.prog 13 #[.pointer (some ⟨gw, 0, none⟩), .agg #[.int .i64 2, .int .i64 X, .int .i64 A, .int .i64 B, .int .i64 C, .int .i64 D, .string s]] w fun e w' => e = .returned (.bool true) ∧ JL base w0 w' gw (bs.length + 1) (os.length + 1) (rs.length + 1) t x l := by
 obtain ⟨i1, hi1, hz10, hz11, hz12⟩ := info_parts Cn
 have g1 := hS.W.lt
 have g2 : gw < w.heap.size + 1 := by omega
 have c : w.cell? ⟨gw, 1, none⟩ = some vo := hS.W.cell 1
 have HS := Hd hS
 clear hS
 go_enter Tryz.func13, Tryz.ntmps13
 go_wp2_with fail
 go_cut [] (fun wx => ∃ vo', WSt base w0 wx gw { v := vb, n := bs.length, xs := Ai bs } { v := vo', n := os.length + 1, xs := Ai (os ++ [A]) } { v := vr, n := rs.length, xs := Ai rs } t x l ∧ Has wx w.heap.size 27 [.int .i64 2, .int .i64 X, .int .i64 A, .int .i64 B, .int .i64 C, .int .i64 D, .string s])
 case first =>
  have hBx : Has (w.alloc (.cells #[.int .i64 2, .int .i64 X, .int .i64 A, .int .i64 B, .int .i64 C, .int .i64 D, .string s] 27)) w.heap.size 27 [.int .i64 2, .int .i64 X, .int .i64 A, .int .i64 B, .int .i64 C, .int .i64 D, .string s] := Has.newA w _ _
  have HBx := Hd hBx
  clear hBx
  go_region_law (refine AU rfl (.tmp 26) (.tmp 29) 24 rfl 3 i1 _ 1 8 Tryz.underlying24 hi1 hz10 hz11 hz12 rfl (by decide) base vo os.length (Ai os) (by first | rfl | simp [Act.eval]) ((HS.out.alloc _).alloc _).ro ((HS.out.alloc _).alloc _).hsz ⟨_, 0, none⟩ 1 1 [.int .i64 A] (by first | rfl | simp [Act.eval]) (by rfl) (Ap _ [.int .i64 A] _ _ (by simp)) (by simp [Value.oneCell']) (by decide) (by simp [maxLen]; omega) (by omega) ?_; intro g5 cap5 v5 hown5 hgrow5 hor5 hold5; obtain ⟨hW5, hS5⟩ := (((HS.out.alloc _).alloc _).drew).pushO hgrow5 hown5 (by simpa using hor5); have c3' : v5.cell? ⟨gw, 1, none⟩ = some vo := hW5.cell 1; have f3' := hW5.frozen 1; have HS5 : Hid _ := hS5; have hO5 := ((Ao hgrow5 ((HBx.out.alloc _).drew) (Has.apart HBx.out (HS.out.alloc _).ro (by decide))).other ⟨gw, 1, none⟩ (.slice (some ⟨g5, 0, none⟩) (os.length + 1) cap5) (by show w.heap.size ≠ gw; omega)); clear hS5 hown5 hgrow5 hold5 hW5)
  all_goals
   go_wp2_with fail
   go_meet
   have h := HS5.out
   rw [Fu] at h
   exact ⟨_, h, hO5⟩
 case rest =>
  obtain ⟨vo', hS2, hO⟩ := hcut
  have HS2 := Hd hS2
  have c2 : wc.cell? ⟨gw, 2, none⟩ = some vr := hS2.W.cell 2
  have o3 : wc.cell? ⟨w.heap.size, 3, none⟩ = some (.int .i64 B) := hO.cell 3
  have g3 := hS2.W.lt
  have g4 := hO.lt
  clear hS2 hO c HS
  go_wp2_with fail
  go_region_law (refine AU rfl (.tmp 37) (.tmp 40) 24 rfl 3 i1 _ 1 8 Tryz.underlying24 hi1 hz10 hz11 hz12 rfl (by decide) base vr rs.length (Ai rs) (by first | rfl | simp [Act.eval]) (HS2.out.alloc _).rr (HS2.out.alloc _).hsz ⟨_, 0, none⟩ 1 1 [.int .i64 B] (by first | rfl | simp [Act.eval]) (by rfl) (Ap _ [.int .i64 B] _ _ (by simp)) (by simp [Value.oneCell']) (by decide) (by simp [maxLen]; omega) (by omega) ?_; intro g5 cap5 v5 hown5 hgrow5 hor5 hold5; obtain ⟨hW5, hS5⟩ := ((HS2.out.alloc _).drew).pushR hgrow5 hown5 (by simpa using hor5); have c3' : v5.cell? ⟨gw, 2, none⟩ = some vr := hW5.cell 2; have f3' := hW5.frozen 2; have HS5 : Hid _ := hS5; clear hS5 hown5 hgrow5 hold5 hW5)
  all_goals
   go_wp2
   go_ret
   refine ⟨rfl, vb, vo', .slice (some ⟨g5, 0, none⟩) (rs.length + 1) cap5, bs, os ++ [A], rs ++ [B], by simp, by simp, by simp, ?_⟩
   have h := HS5.out
   rw [Fu] at h
   simpa using h
end Go.Proofs.YtohjjgefklhmaaaGreatDoor
