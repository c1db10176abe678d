import Derived.Test.YtenjjneobkodbaaGreatApp2
namespace Go.Proofs.YtenjjneobkodbaaGreat
open Go.ChangeShapes Go.WideShapes Go.ChangeAt Go.RowKit
set_option linter.unusedVariables false

/-- a row: its value, how many elements, its cells -/
structure RowV where
  v : Value
  n : Nat
  xs : List Value
def RowV.nil : RowV := { v := .slice none 0 0, n := 0, xs := [] }

/-- what holds while a view is marked -/
structure MI (base : Nat) (w wr : World) (ge gh gi gx : Nat) (eL hL iL xL : List Value) (b v d e b2 v2 d2 e2 held : RowV) : Prop where
  fr : Kp (fun k => k = ge ∨ base ≤ k) w wr
  hge : ge < base
  hgh : base ≤ gh
  hgi : base ≤ gi
  hgx : base ≤ gx
  nhi : gh ≠ gi
  hh : ∀ k, held.v.ownBlock = some k → k < base
  E : Has wr ge 54 eL
  H : Has wr gh 90 hL
  I : Has wr gi 90 iL
  X : Has wr gx 83 xL
  b : wr.ownsRow base 3 1 b.v b.n b.xs
  v : wr.ownsRow base 112 8 v.v v.n v.xs
  d : wr.ownsRow base 114 3 d.v d.n d.xs
  e : wr.ownsRow base 116 4 e.v e.n e.xs
  b2 : wr.ownsRow base 3 1 b2.v b2.n b2.xs
  v2 : wr.ownsRow base 112 8 v2.v v2.n v2.xs
  d2 : wr.ownsRow base 114 3 d2.v d2.n d2.xs
  e2 : wr.ownsRow base 116 4 e2.v e2.n e2.xs
  held : wr.ownsRow 0 90 6 held.v held.n held.xs

theorem MI.alloc {base : Nat} {w wr : World} {ge gh gi gx : Nat} {eL hL iL xL : List Value} {b v d e b2 v2 d2 e2 held : RowV} (m : MI base w wr ge gh gi gx eL hL iL xL b v d e b2 v2 d2 e2 held) (o : Obj) :
    MI base w (wr.alloc o) ge gh gi gx eL hL iL xL b v d e b2 v2 d2 e2 held :=
  ⟨m.fr.alloc o, m.hge, m.hgh, m.hgi, m.hgx, m.nhi, m.hh, m.E.alloc o, m.H.alloc o, m.I.alloc o, m.X.alloc o, m.b.alloc o, m.v.alloc o, m.d.alloc o, m.e.alloc o, m.b2.alloc o, m.v2.alloc o, m.d2.alloc o, m.e2.alloc o, m.held.alloc o⟩
theorem ne_of_base {w : World} {base : Nat} {e : TypeId} {size : Nat} {v : Value} {n : Nat} {xs : List Value} (h : w.ownsRow base e size v n xs) {k : Nat} (hk : k < base) : v.ownBlock ≠ some k := fun h0 => by
  have := (h.lt _ h0).1; omega

theorem MI.setI {base : Nat} {w wr : World} {ge gh gi gx : Nat} {eL hL iL xL : List Value} {b v d e b2 v2 d2 e2 held : RowV} (m : MI base w wr ge gh gi gx eL hL iL xL b v d e b2 v2 d2 e2 held) (j : Nat) (u : Value) : MI base w (wr.setCell ⟨gi, j, none⟩ u) ge gh gi gx eL hL (iL.set j u) xL b v d e b2 v2 d2 e2 held := by
  refine ⟨m.fr.setCell (p := ⟨gi, j, none⟩) (.inr m.hgi) u, m.hge, m.hgh, m.hgi, m.hgx, m.nhi, m.hh, m.E.other _ _ ?_, m.H.other _ _ m.nhi, m.I.set j u, m.X.other _ _ ?_, ownsRow_setCell m.b _ _ ?_, ownsRow_setCell m.v _ _ ?_, ownsRow_setCell m.d _ _ ?_, ownsRow_setCell m.e _ _ ?_, ownsRow_setCell m.b2 _ _ ?_, ownsRow_setCell m.v2 _ _ ?_, ownsRow_setCell m.d2 _ _ ?_, ownsRow_setCell m.e2 _ _ ?_, ownsRow_setCell m.held _ _ ?_⟩
  · have := m.hge; have := m.hgi; show ge ≠ gi; omega
  · intro h
    have h1 : gx = gi := h
    have hx := m.X; have hi := m.I
    unfold Has at hx hi
    rw [h1, hi] at hx
    simp only [Option.some.injEq, Obj.cells.injEq] at hx
    exact absurd hx.2.1 (by decide)
  · exact fun h => Has.apart m.I m.b (by decide) h.symm
  · exact fun h => Has.apart m.I m.v (by decide) h.symm
  · exact fun h => Has.apart m.I m.d (by decide) h.symm
  · exact fun h => Has.apart m.I m.e (by decide) h.symm
  · exact fun h => Has.apart m.I m.b2 (by decide) h.symm
  · exact fun h => Has.apart m.I m.v2 (by decide) h.symm
  · exact fun h => Has.apart m.I m.d2 (by decide) h.symm
  · exact fun h => Has.apart m.I m.e2 (by decide) h.symm
  · intro h; have h1 := m.hh _ h; have h2 := m.hgi; exact absurd h1 (by show ¬ gi < base; omega)

theorem MI.setE {base : Nat} {w wr : World} {ge gh gi gx : Nat} {eL hL iL xL : List Value} {b v d e b2 v2 d2 e2 held : RowV} (m : MI base w wr ge gh gi gx eL hL iL xL b v d e b2 v2 d2 e2 held) (j : Nat) (u : Value) : MI base w (wr.setCell ⟨ge, j, none⟩ u) ge gh gi gx (eL.set j u) hL iL xL b v d e b2 v2 d2 e2 held := by
  have h1 := m.hge; have h2 := m.hgi; have h3 := m.hgh; have h4 := m.hgx
  refine ⟨m.fr.setCell (p := ⟨ge, j, none⟩) (.inl rfl) u, m.hge, m.hgh, m.hgi, m.hgx, m.nhi, m.hh, m.E.set j u, m.H.other _ _ (show gh ≠ ge by omega), m.I.other _ _ (show gi ≠ ge by omega), m.X.other _ _ (show gx ≠ ge by omega), ownsRow_setCell m.b _ _ (ne_of_base m.b m.hge), ownsRow_setCell m.v _ _ (ne_of_base m.v m.hge), ownsRow_setCell m.d _ _ (ne_of_base m.d m.hge), ownsRow_setCell m.e _ _ (ne_of_base m.e m.hge), ownsRow_setCell m.b2 _ _ (ne_of_base m.b2 m.hge), ownsRow_setCell m.v2 _ _ (ne_of_base m.v2 m.hge), ownsRow_setCell m.d2 _ _ (ne_of_base m.d2 m.hge), ownsRow_setCell m.e2 _ _ (ne_of_base m.e2 m.hge), ownsRow_setCell m.held _ _ ?_⟩
  exact fun h => Has.apart m.E m.held (by decide) h.symm

theorem MI.appB {base : Nat} {w wr : World} {ge gh gi gx : Nat} {eL hL iL xL : List Value} {b v d e b2 v2 d2 e2 held : RowV} (m : MI base w wr ge gh gi gx eL hL iL xL b v d e b2 v2 d2 e2 held) {w2 : World} (hg : wr.grownBy w2 b.v.ownBlock) (ho : w2.ownsRow base 3 1 b.v b.n b.xs) {x : Value} {nn : Nat} {ys : List Value} (hn : w2.ownsRow base 3 1 x nn ys) :
    MI base w w2 ge gh gi gx eL hL iL xL b v d e { v := x, n := nn, xs := ys } v2 d2 e2 held := by
  refine ⟨m.fr.trans ((grown_kp hg).mono (fun k _ h => .inr (m.b.lt k h.symm).1)), m.hge, m.hgh, m.hgi, m.hgx, m.nhi, m.hh, grown_has hg m.E (Has.apart m.E m.b (by decide)), grown_has hg m.H (Has.apart m.H m.b (by decide)), grown_has hg m.I (Has.apart m.I m.b (by decide)), grown_has hg m.X (Has.apart m.X m.b (by decide)), ho, m.v.kept hg (ownsRow_apart m.v m.b (by decide)), m.d.kept hg (ownsRow_apart m.d m.b (by decide)), m.e.kept hg (ownsRow_apart m.e m.b (by decide)), hn, m.v2.kept hg (ownsRow_apart m.v2 m.b (by decide)), m.d2.kept hg (ownsRow_apart m.d2 m.b (by decide)), m.e2.kept hg (ownsRow_apart m.e2 m.b (by decide)), m.held.kept hg (ownsRow_apart m.held m.b (by decide))⟩

theorem MI.appV {base : Nat} {w wr : World} {ge gh gi gx : Nat} {eL hL iL xL : List Value} {b v d e b2 v2 d2 e2 held : RowV} (m : MI base w wr ge gh gi gx eL hL iL xL b v d e b2 v2 d2 e2 held) {w2 : World} (hg : wr.grownBy w2 v.v.ownBlock) (ho : w2.ownsRow base 112 8 v.v v.n v.xs) {x : Value} {nn : Nat} {ys : List Value} (hn : w2.ownsRow base 112 8 x nn ys) :
    MI base w w2 ge gh gi gx eL hL iL xL b v d e b2 { v := x, n := nn, xs := ys } d2 e2 held := by
  refine ⟨m.fr.trans ((grown_kp hg).mono (fun k _ h => .inr (m.v.lt k h.symm).1)), m.hge, m.hgh, m.hgi, m.hgx, m.nhi, m.hh, grown_has hg m.E (Has.apart m.E m.v (by decide)), grown_has hg m.H (Has.apart m.H m.v (by decide)), grown_has hg m.I (Has.apart m.I m.v (by decide)), grown_has hg m.X (Has.apart m.X m.v (by decide)), m.b.kept hg (ownsRow_apart m.b m.v (by decide)), ho, m.d.kept hg (ownsRow_apart m.d m.v (by decide)), m.e.kept hg (ownsRow_apart m.e m.v (by decide)), m.b2.kept hg (ownsRow_apart m.b2 m.v (by decide)), hn, m.d2.kept hg (ownsRow_apart m.d2 m.v (by decide)), m.e2.kept hg (ownsRow_apart m.e2 m.v (by decide)), m.held.kept hg (ownsRow_apart m.held m.v (by decide))⟩

theorem MI.appD {base : Nat} {w wr : World} {ge gh gi gx : Nat} {eL hL iL xL : List Value} {b v d e b2 v2 d2 e2 held : RowV} (m : MI base w wr ge gh gi gx eL hL iL xL b v d e b2 v2 d2 e2 held) {w2 : World} (hg : wr.grownBy w2 d.v.ownBlock) (ho : w2.ownsRow base 114 3 d.v d.n d.xs) {x : Value} {nn : Nat} {ys : List Value} (hn : w2.ownsRow base 114 3 x nn ys) :
    MI base w w2 ge gh gi gx eL hL iL xL b v d e b2 v2 { v := x, n := nn, xs := ys } e2 held := by
  refine ⟨m.fr.trans ((grown_kp hg).mono (fun k _ h => .inr (m.d.lt k h.symm).1)), m.hge, m.hgh, m.hgi, m.hgx, m.nhi, m.hh, grown_has hg m.E (Has.apart m.E m.d (by decide)), grown_has hg m.H (Has.apart m.H m.d (by decide)), grown_has hg m.I (Has.apart m.I m.d (by decide)), grown_has hg m.X (Has.apart m.X m.d (by decide)), m.b.kept hg (ownsRow_apart m.b m.d (by decide)), m.v.kept hg (ownsRow_apart m.v m.d (by decide)), ho, m.e.kept hg (ownsRow_apart m.e m.d (by decide)), m.b2.kept hg (ownsRow_apart m.b2 m.d (by decide)), m.v2.kept hg (ownsRow_apart m.v2 m.d (by decide)), hn, m.e2.kept hg (ownsRow_apart m.e2 m.d (by decide)), m.held.kept hg (ownsRow_apart m.held m.d (by decide))⟩

theorem MI.appE {base : Nat} {w wr : World} {ge gh gi gx : Nat} {eL hL iL xL : List Value} {b v d e b2 v2 d2 e2 held : RowV} (m : MI base w wr ge gh gi gx eL hL iL xL b v d e b2 v2 d2 e2 held) {w2 : World} (hg : wr.grownBy w2 e.v.ownBlock) (ho : w2.ownsRow base 116 4 e.v e.n e.xs) {x : Value} {nn : Nat} {ys : List Value} (hn : w2.ownsRow base 116 4 x nn ys) :
    MI base w w2 ge gh gi gx eL hL iL xL b v d e b2 v2 d2 { v := x, n := nn, xs := ys } held := by
  refine ⟨m.fr.trans ((grown_kp hg).mono (fun k _ h => .inr (m.e.lt k h.symm).1)), m.hge, m.hgh, m.hgi, m.hgx, m.nhi, m.hh, grown_has hg m.E (Has.apart m.E m.e (by decide)), grown_has hg m.H (Has.apart m.H m.e (by decide)), grown_has hg m.I (Has.apart m.I m.e (by decide)), grown_has hg m.X (Has.apart m.X m.e (by decide)), m.b.kept hg (ownsRow_apart m.b m.e (by decide)), m.v.kept hg (ownsRow_apart m.v m.e (by decide)), m.d.kept hg (ownsRow_apart m.d m.e (by decide)), ho, m.b2.kept hg (ownsRow_apart m.b2 m.e (by decide)), m.v2.kept hg (ownsRow_apart m.v2 m.e (by decide)), m.d2.kept hg (ownsRow_apart m.d2 m.e (by decide)), hn, m.held.kept hg (ownsRow_apart m.held m.e (by decide))⟩

theorem markG_at (f : Int → List Value) (sz : Nat) (hf : ∀ x, (f x).length = sz) (mk : Int) (n j i : Nat) (hj : j < n) (hi : i < sz) : (markG f mk n)[j * sz + i]? = (f (mk + j))[i]? := by
  induction n with
  | zero => omega
  | succ n ih =>
    rw [markG]
    have hl := markG_length f sz hf mk n
    by_cases h : j < n
    · have h1 : j * sz + i < n * sz := by have := Nat.mul_le_mul_right sz (show j + 1 ≤ n by omega); rw [Nat.add_mul] at this; omega
      rw [List.getElem?_append_left (by rw [hl]; exact h1)]
      exact ih h
    · have e : j = n := by omega
      subst e
      rw [List.getElem?_append_right (by rw [hl]; omega), hl]
      congr 1
      omega
theorem MS_of {w : World} {base : Nat} {e : TypeId} {sz : Nat} {v : Value} {n : Nat} {xs : List Value} (h : w.ownsRow base e sz v n xs) (o : Nat) (hn : n ≤ 1048576) (mk bh : Int)
    (hx : ∀ j, j < n → xs[j * sz]? = some (.int .i64 (atN mk bh j n)) ∧ xs[j * sz + o]? = some (.int .i64 (atN mk bh j n))) : MS w v n sz o mk bh := by
  obtain ⟨_, a, cap, he, hg⟩ := Rd.of_owns h
  refine ⟨hn, a, cap, he, fun h0 => ?_⟩
  obtain ⟨g, rfl, hc⟩ := hg h0
  exact ⟨g, rfl, fun j hj => ⟨hc _ _ (hx j hj).1, hc _ _ (hx j hj).2⟩⟩
theorem atN_zero (mk j n : Int) : atN mk 0 j n = mk + j := by unfold atN; rw [if_neg (by omega)]
theorem MS_mark {w : World} {base : Nat} {e : TypeId} {sz : Nat} {v : Value} {n : Nat} {f : Int → List Value} {mk : Int} (h : w.ownsRow base e sz v n (markG f mk n)) (o : Nat) (hn : n ≤ 1048576)
    (hf : ∀ x, (f x).length = sz) (h0 : 0 < sz) (ho : o < sz) (f0 : ∀ x, (f x)[0]? = some (.int .i64 x)) (f1 : ∀ x, (f x)[o]? = some (.int .i64 x)) : MS w v n sz o mk 0 := by
  refine MS_of h o hn mk 0 (fun j hj => ?_)
  rw [atN_zero]
  refine ⟨?_, ?_⟩
  · have := markG_at f sz hf mk n j 0 hj h0
    rw [Nat.add_zero] at this
    rw [this, f0]
  · rw [markG_at f sz hf mk n j o hj ho, f1]
theorem MS_mark2 {w : World} {base : Nat} {e : TypeId} {sz : Nat} {v : Value} {n : Nat} {f : Int → List Value} {mk m : Int} (h : w.ownsRow base e sz v (n + 2) (markG f mk n ++ (f m ++ f (m + 1)))) (o : Nat) (hn : n + 2 ≤ 1048576) (hm : 0 < m)
    (hf : ∀ x, (f x).length = sz) (h0 : 0 < sz) (ho : o < sz) (f0 : ∀ x, (f x)[0]? = some (.int .i64 x)) (f1 : ∀ x, (f x)[o]? = some (.int .i64 x)) : MS w v (n + 2) sz o mk m := by
  have hl := markG_length f sz hf mk n
  have key : ∀ j i, j < n + 2 → i < sz → (∀ x, (f x)[i]? = some (.int .i64 x)) → (markG f mk n ++ (f m ++ f (m + 1)))[j * sz + i]? = some (.int .i64 (atN mk m j ((n + 2 : Nat) : Int))) := by
    intro j i hj hi hx
    by_cases h1 : j < n
    · have h2 : j * sz + i < n * sz := by have := Nat.mul_le_mul_right sz (show j + 1 ≤ n by omega); rw [Nat.add_mul] at this; omega
      rw [List.getElem?_append_left (by rw [hl]; exact h2), markG_at f sz hf mk n j i h1 hi, hx]
      unfold atN; rw [if_neg (by omega)]
    · rw [List.getElem?_append_right (by rw [hl]; have := Nat.mul_le_mul_right sz (show n ≤ j by omega); omega), hl]
      by_cases h2 : j = n
      · subst h2
        rw [List.getElem?_append_left (by rw [hf]; omega)]
        have e1 : j * sz + i - j * sz = i := by omega
        rw [e1, hx]
        unfold atN; rw [if_pos (by omega)]
        congr 2; omega
      · have h3 : j = n + 1 := by omega
        subst h3
        rw [List.getElem?_append_right (by rw [hf, Nat.add_mul]; omega), hf]
        have e1 : (n + 1) * sz + i - n * sz - sz = i := by rw [Nat.add_mul]; omega
        rw [e1, hx]
        unfold atN; rw [if_pos (by omega)]
        congr 2; omega
  refine MS_of h o (by omega) mk m (fun j hj => ⟨?_, key j o hj ho f1⟩)
  have := key j 0 hj h0 f0
  rwa [Nat.add_zero] at this

/-- the blocks of a view's lists -/
def VIn (lo hi : Nat) (b v d e : Value) : Prop := ∀ k, b.ownBlock = some k ∨ v.ownBlock = some k ∨ d.ownBlock = some k ∨ e.ownBlock = some k → lo ≤ k ∧ k < hi
/-- what 'marked' has done -/
def MarkPost (base ge : Nat) (w w' : World) (px py pl hv0 : Value) (nh : Nat) (hcs : List Value) (mk : Int) : Prop :=
  ∃ hv' b v d e b' v' d' e', Has w' ge 54 [px, py, pl, hv', .int .i64 (mk + 1000 + 1000)] ∧
    w'.ownsRow 0 90 6 hv' (nh + 2) (hcs ++ [b, v, d, e, .int .i64 mk, .int .i64 0, b', v', d', e', .int .i64 mk, .int .i64 (mk + 1000)]) ∧
    VOk w' b v d e mk 0 ∧ VOk w' b' v' d' e' mk (mk + 1000) ∧ VIn base w'.heap.size b v d e ∧ VIn base w'.heap.size b' v' d' e' ∧
    Kp (fun k => k = ge ∨ base ≤ k ∨ hv0.ownBlock = some k) w w' ∧ (∀ k, hv'.ownBlock = some k → hv0.ownBlock = some k ∨ w.heap.size ≤ k) ∧ (∀ k, hv'.ownBlock = some k → ∀ u ∈ [b, v, d, e, b', v', d', e'], u.ownBlock ≠ some k)

theorem row_off {w : World} {base base' : Nat} {e e' : TypeId} {size size' : Nat} {v v' : Value} {n n' : Nat} {xs xs' : List Value} (h : w.ownsRow base e size v n xs) (h' : w.ownsRow base' e' size' v' n' xs') (hne : e ≠ e') {k : Nat} (hk : v'.ownBlock = some k) : v.ownBlock ≠ some k := by
  intro h0
  rcases ownsRow_apart h h' hne with h1 | h1
  · rw [h1] at h0; cases h0
  · exact h1 (h0.trans hk.symm)
theorem MI.drew {base : Nat} {w wr : World} {ge gh gi gx : Nat} {eL hL iL xL : List Value} {b v d e b2 v2 d2 e2 held : RowV} (m : MI base w wr ge gh gi gx eL hL iL xL b v d e b2 v2 d2 e2 held) : MI base w wr.drew ge gh gi gx eL hL iL xL b v d e b2 v2 d2 e2 held :=
  ⟨m.fr.drew, m.hge, m.hgh, m.hgi, m.hgx, m.nhi, m.hh, m.E, m.H, m.I, m.X, m.b, m.v, m.d, m.e, m.b2, m.v2, m.d2, m.e2, m.held⟩

theorem mark_end {base : Nat} {w wr v5 : World} {ge gh gi gx g5 cap5 : Nat} {px py pl hv0 : Value} {hL iL xL hcs : List Value} {nh n1 n2 n3 n4 : Nat} {mk : Int} {bv vv dv ev bv2 vv2 dv2 ev2 : Value}
    (m : MI base w wr ge gh gi gx [px, py, pl, hv0, .int .i64 (mk + 1000 + 1000)] hL iL xL { v := bv, n := n1, xs := markG fB mk n1 } { v := vv, n := n2, xs := markG fV mk n2 } { v := dv, n := n3, xs := markG fD mk n3 } { v := ev, n := n4, xs := markG fE mk n4 }
      { v := bv2, n := n1 + 2, xs := markG fB mk n1 ++ (fB (mk + 1000) ++ fB (mk + 1000 + 1)) } { v := vv2, n := n2 + 2, xs := markG fV mk n2 ++ (fV (mk + 1000) ++ fV (mk + 1000 + 1)) } { v := dv2, n := n3 + 2, xs := markG fD mk n3 ++ (fD (mk + 1000) ++ fD (mk + 1000 + 1)) } { v := ev2, n := n4 + 2, xs := markG fE mk n4 ++ (fE (mk + 1000) ++ fE (mk + 1000 + 1)) }
      { v := hv0, n := nh, xs := hcs })
    (hg : wr.grownBy v5 hv0.ownBlock) (hown : v5.ownsRow 0 90 6 (.slice (some ⟨g5, 0, none⟩) (nh + 2) cap5) (nh + 2) (hcs ++ [bv, vv, dv, ev, .int .i64 mk, .int .i64 0, bv2, vv2, dv2, ev2, .int .i64 mk, .int .i64 (mk + 1000)]))
    (hor : hv0.ownBlock = some g5 ∨ wr.heap.size ≤ g5) (m1 : 0 ≤ mk) (m2 : mk ≤ 100000000000) (l1 : n1 ≤ 1048000) (l2 : n2 ≤ 1048000) (l3 : n3 ≤ 1048000) (l4 : n4 ≤ 1048000) :
    Has v5 ge 54 [px, py, pl, hv0, .int .i64 (mk + 1000 + 1000)] ∧
    MarkPost base ge w (v5.setCell ⟨ge, 3, none⟩ (.slice (some ⟨g5, 0, none⟩) (nh + 2) cap5)) px py pl hv0 nh hcs mk := by
  have hE5 : Has v5 ge 54 [px, py, pl, hv0, .int .i64 (mk + 1000 + 1000)] := grown_has hg m.E (Has.apart m.E m.held (by decide))
  have hsz : (v5.setCell ⟨ge, 3, none⟩ (.slice (some ⟨g5, 0, none⟩) (nh + 2) cap5)).heap.size = v5.heap.size := by simp [World.setCell]
  have rb := ownsRow_setCell (m.b.kept hg (ownsRow_apart m.b m.held (by decide))) ⟨ge, 3, none⟩ (.slice (some ⟨g5, 0, none⟩) (nh + 2) cap5) (ne_of_base m.b m.hge)
  have rv := ownsRow_setCell (m.v.kept hg (ownsRow_apart m.v m.held (by decide))) ⟨ge, 3, none⟩ (.slice (some ⟨g5, 0, none⟩) (nh + 2) cap5) (ne_of_base m.v m.hge)
  have rd := ownsRow_setCell (m.d.kept hg (ownsRow_apart m.d m.held (by decide))) ⟨ge, 3, none⟩ (.slice (some ⟨g5, 0, none⟩) (nh + 2) cap5) (ne_of_base m.d m.hge)
  have re := ownsRow_setCell (m.e.kept hg (ownsRow_apart m.e m.held (by decide))) ⟨ge, 3, none⟩ (.slice (some ⟨g5, 0, none⟩) (nh + 2) cap5) (ne_of_base m.e m.hge)
  have rb2 := ownsRow_setCell (m.b2.kept hg (ownsRow_apart m.b2 m.held (by decide))) ⟨ge, 3, none⟩ (.slice (some ⟨g5, 0, none⟩) (nh + 2) cap5) (ne_of_base m.b2 m.hge)
  have rv2 := ownsRow_setCell (m.v2.kept hg (ownsRow_apart m.v2 m.held (by decide))) ⟨ge, 3, none⟩ (.slice (some ⟨g5, 0, none⟩) (nh + 2) cap5) (ne_of_base m.v2 m.hge)
  have rd2 := ownsRow_setCell (m.d2.kept hg (ownsRow_apart m.d2 m.held (by decide))) ⟨ge, 3, none⟩ (.slice (some ⟨g5, 0, none⟩) (nh + 2) cap5) (ne_of_base m.d2 m.hge)
  have re2 := ownsRow_setCell (m.e2.kept hg (ownsRow_apart m.e2 m.held (by decide))) ⟨ge, 3, none⟩ (.slice (some ⟨g5, 0, none⟩) (nh + 2) cap5) (ne_of_base m.e2 m.hge)
  simp only at rb rv rd re rb2 rv2 rd2 re2
  refine ⟨hE5, .slice (some ⟨g5, 0, none⟩) (nh + 2) cap5, bv, vv, dv, ev, bv2, vv2, dv2, ev2, hE5.set 3 _, ownsRow_setCell hown _ _ (fun h => Has.apart hE5 hown (by decide) h.symm), ?_, ?_, ?_, ?_, ?_, ?_, ?_⟩
  · exact ⟨m1, by omega, by omega, by omega, n1, n2, n3, n4, MS_mark rb 0 (by omega) (fun _ => rfl) (by decide) (by decide) (fun _ => rfl) (fun _ => rfl), MS_mark rv 2 (by omega) (fun _ => rfl) (by decide) (by decide) (fun _ => rfl) (fun _ => rfl), MS_mark rd 2 (by omega) (fun _ => rfl) (by decide) (by decide) (fun _ => rfl) (fun _ => rfl), MS_mark re 3 (by omega) (fun _ => rfl) (by decide) (by decide) (fun _ => rfl) (fun _ => rfl)⟩
  · exact ⟨m1, by omega, by omega, by omega, n1 + 2, n2 + 2, n3 + 2, n4 + 2, MS_mark2 rb2 0 (by omega) (by omega) (fun _ => rfl) (by decide) (by decide) (fun _ => rfl) (fun _ => rfl), MS_mark2 rv2 2 (by omega) (by omega) (fun _ => rfl) (by decide) (by decide) (fun _ => rfl) (fun _ => rfl), MS_mark2 rd2 2 (by omega) (by omega) (fun _ => rfl) (by decide) (by decide) (fun _ => rfl) (fun _ => rfl), MS_mark2 re2 3 (by omega) (by omega) (fun _ => rfl) (by decide) (by decide) (fun _ => rfl) (fun _ => rfl)⟩
  · intro k hk
    rcases hk with hk | hk | hk | hk
    · exact rb.lt k hk
    · exact rv.lt k hk
    · exact rd.lt k hk
    · exact re.lt k hk
  · intro k hk
    rcases hk with hk | hk | hk | hk
    · exact rb2.lt k hk
    · exact rv2.lt k hk
    · exact rd2.lt k hk
    · exact re2.lt k hk
  · refine Kp.setCell (p := ⟨ge, 3, none⟩) ((m.fr.mono (fun k _ h => ?_)).trans ((grown_kp hg).mono (fun k _ h => .inr (.inr h.symm)))) (.inl rfl) _
    rcases h with h | h
    · exact .inl h
    · exact .inr (.inl h)
  · intro k hk
    have e : g5 = k := by simpa [Value.ownBlock] using hk
    subst e
    rcases hor with h | h
    · exact .inl h
    · exact .inr (Nat.le_trans m.fr.size h)
  · intro k hk u hu
    have hown' := ownsRow_setCell hown ⟨ge, 3, none⟩ (.slice (some ⟨g5, 0, none⟩) (nh + 2) cap5) (fun h => Has.apart hE5 hown (by decide) h.symm)
    simp only [List.mem_cons, List.not_mem_nil, or_false] at hu
    rcases hu with rfl | rfl | rfl | rfl | rfl | rfl | rfl | rfl
    · exact row_off rb hown' (by decide) hk
    · exact row_off rv hown' (by decide) hk
    · exact row_off rd hown' (by decide) hk
    · exact row_off re hown' (by decide) hk
    · exact row_off rb2 hown' (by decide) hk
    · exact row_off rv2 hown' (by decide) hk
    · exact row_off rd2 hown' (by decide) hk
    · exact row_off re2 hown' (by decide) hk
end Go.Proofs.YtenjjneobkodbaaGreat
