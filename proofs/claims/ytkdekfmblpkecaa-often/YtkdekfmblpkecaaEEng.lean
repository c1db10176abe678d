import Derived.Test.YtkdekfmblpkecaaKBase
namespace Go.Proofs.Ytkdekfmblpkecaa
open Go.ChangeShapes Go.WideShapes Go.ChangeAt Go.RowKit
set_option linter.unusedVariables false

/-- an engine's numbers; tab: the shares (30), what a share got (5), up to where it is paid (30) -/
structure EC where
  top : Int
  mature : Int
  fee : Int
  height : Int
  fees : Int
  pool : Int
  bal : List Int
  tab : List Int
  vals : List VS
  ents : List ES
def EC.sh (x : EC) (k j : Nat) : Int := x.tab.getD (k * 5 + j) 0
def EC.per (x : EC) (j : Nat) : Int := x.tab.getD (30 + j) 0
def EC.upto (x : EC) (k j : Nat) : Int := x.tab.getD (35 + (k * 5 + j)) 0
def EC.balAt (x : EC) (k : Nat) : Int := x.bal.getD k 0

/-- the cells of an engine -/
def eL (x : EC) (bv vv ev : Value) : List Value := [.int .i64 x.top, .int .i64 x.mature, .int .i64 x.fee, .int .i64 x.height, bv, .int .i64 x.fees, .int .i64 x.pool, vv] ++ (ints x.tab ++ [ev])
theorem eL_tab (x : EC) (bv vv ev : Value) (j : Nat) (h : j < x.tab.length) : (eL x bv vv ev)[8 + j]? = some (.int .i64 (x.tab.getD j 0)) := by
  unfold eL
  rw [List.getElem?_append_right (by simp), show 8 + j - ([.int .i64 x.top, .int .i64 x.mature, .int .i64 x.fee, .int .i64 x.height, bv, .int .i64 x.fees, .int .i64 x.pool, vv] : List Value).length = j by simp, List.getElem?_append_left (by simpa [ints] using h)]
  simp [ints, h]
theorem eL_set_tab (x : EC) (bv vv ev : Value) (j : Nat) (y : Int) (h : j < x.tab.length) : (eL x bv vv ev).set (8 + j) (.int .i64 y) = eL { x with tab := x.tab.set j y } bv vv ev := by
  unfold eL
  rw [List.set_append_right _ _ (by simp), show 8 + j - ([.int .i64 x.top, .int .i64 x.mature, .int .i64 x.fee, .int .i64 x.height, bv, .int .i64 x.fees, .int .i64 x.pool, vv] : List Value).length = j by simp, List.set_append_left _ _ (by simpa [ints] using h), ints_set]
theorem eL_ev (x : EC) (bv vv ev : Value) (h : x.tab.length = 65) : (eL x bv vv ev)[73]? = some ev := by
  unfold eL
  rw [List.getElem?_append_right (by simp), List.getElem?_append_right (by simp [ints, h])]
  simp [ints, h]
theorem eL_set_ev (x : EC) (bv vv ev e' : Value) (h : x.tab.length = 65) : (eL x bv vv ev).set 73 e' = eL x bv vv e' := by
  unfold eL
  rw [List.set_append_right _ _ (by simp), List.set_append_right _ _ (by simp [ints, h])]
  simp [ints, h]

/-- an engine of the program in memory; behind W0 only blocks of S are written -/
structure PE (S : Nat → Prop) (W0 w : World) (g : Nat) (x : EC) (bv vv ev : Value) : Prop where
  fr : Kp S W0 w
  hS : ∀ k, W0.heap.size ≤ k → S k
  hg : S g
  L : Has w g 62 (eL x bv vv ev)
  ht : x.tab.length = 65
  b : w.ownsRow 0 3 1 bv x.bal.length (ints x.bal)
  v : w.ownsRow 0 47 8 vv x.vals.length (vrow x.vals)
  e : w.ownsRow 0 52 4 ev x.ents.length (erow x.ents)
  sb : ∀ k, bv.ownBlock = some k → S k
  sv : ∀ k, vv.ownBlock = some k → S k
  se : ∀ k, ev.ownBlock = some k → S k

section
variable {S : Nat → Prop} {W0 w w' : World} {g : Nat} {x x' : EC} {bv vv ev ev' : Value}

theorem PE.eta (h : PE S W0 w g x bv vv ev) (e1 : w'.heap = w.heap) (e2 : w'.os = w.os) (e3 : w'.tape = w.tape) (e4 : w'.output = w.output) : PE S W0 w' g x bv vv ev := by
  have ho : ∀ {base : Nat} {e : TypeId} {size : Nat} {v : Value} {n : Nat} {xs : List Value}, w.ownsRow base e size v n xs → w'.ownsRow base e size v n xs := fun h => by unfold World.ownsRow at *; rw [e1]; exact h
  exact ⟨⟨e2.trans h.fr.os, e3.trans h.fr.tape, e4.trans h.fr.output, by rw [e1]; exact h.fr.size, fun k hk hs => by rw [e1]; exact h.fr.block k hk hs⟩, h.hS, h.hg, by unfold Has at *; rw [e1]; exact h.L, h.ht, ho h.b, ho h.v, ho h.e, h.sb, h.sv, h.se⟩
/-- what is the engine's own -/
def Own (g : Nat) (bv vv ev : Value) (k : Nat) : Prop := k = g ∨ bv.ownBlock = some k ∨ vv.ownBlock = some k ∨ ev.ownBlock = some k
theorem PE.kp {S' : Nat → Prop} (h : PE S W0 w g x bv vv ev) (k : Kp S' w w') (hS' : ∀ b, b < w.heap.size → Own g bv vv ev b → ¬ S' b) (hSS : ∀ b, b < w.heap.size → S' b → S b) : PE S W0 w' g x bv vv ev :=
  ⟨h.fr.trans (k.mono hSS), h.hS, h.hg, h.L.kp k (hS' g h.L.lt (.inl rfl)), h.ht, ownsRow_kp h.b k (fun b hb => hS' b (h.b.lt b hb).2 (.inr (.inl hb))), ownsRow_kp h.v k (fun b hb => hS' b (h.v.lt b hb).2 (.inr (.inr (.inl hb)))), ownsRow_kp h.e k (fun b hb => hS' b (h.e.lt b hb).2 (.inr (.inr (.inr hb)))), h.sb, h.sv, h.se⟩
theorem PE.below (h : PE S W0 w g x bv vv ev) (k : Below w.heap.size w w') : PE S W0 w' g x bv vv ev :=
  h.kp (Kp.of_below k (fun _ => False)) (fun _ _ _ h => h) (fun _ _ h => h.elim)
theorem PE.drewN (h : PE S W0 w g x bv vv ev) (n : Nat) : PE S W0 (w.drewN n) g x bv vv ev := h.eta rfl rfl rfl rfl
theorem PE.drew (h : PE S W0 w g x bv vv ev) : PE S W0 w.drew g x bv vv ev := h.eta rfl rfl rfl rfl
theorem PE.alloc (h : PE S W0 w g x bv vv ev) (o : Obj) : PE S W0 (w.alloc o) g x bv vv ev := h.below ((Below.refl _ _).alloc (Nat.le_refl _) o)
/-- the engine at rest, seen from here -/
theorem PE.rest (h : PE S W0 w g x bv vv ev) : PE (fun k => Own g bv vv ev k ∨ w.heap.size ≤ k) w w g x bv vv ev :=
  ⟨Kp.refl _ _, fun k hk => .inr hk, .inl (.inl rfl), h.L, h.ht, h.b, h.v, h.e, fun k hk => .inl (.inr (.inl hk)), fun k hk => .inl (.inr (.inr (.inl hk))), fun k hk => .inl (.inr (.inr (.inr hk)))⟩
theorem PE.rebase {S' : Nat → Prop} {W' : World} (h : PE S W0 w g x bv vv ev) (hf : Kp S' W' w) (hs : ∀ k, W'.heap.size ≤ k → S' k) (ho : ∀ k, Own g bv vv ev k → S' k) : PE S' W' w g x bv vv ev :=
  ⟨hf, hs, ho g (.inl rfl), h.L, h.ht, h.b, h.v, h.e, fun k hk => ho k (.inr (.inl hk)), fun k hk => ho k (.inr (.inr (.inl hk))), fun k hk => ho k (.inr (.inr (.inr hk)))⟩
theorem PE.own (h : PE S W0 w g x bv vv ev) : ∀ k, Own g bv vv ev k → S k := by
  rintro k (rfl | hk | hk | hk)
  · exact h.hg
  · exact h.sb k hk
  · exact h.sv k hk
  · exact h.se k hk
theorem PE.ownlt (h : PE S W0 w g x bv vv ev) : ∀ k, Own g bv vv ev k → k < w.heap.size := by
  rintro k (rfl | hk | hk | hk)
  · exact h.L.lt
  · exact (h.b.lt k hk).2
  · exact (h.v.lt k hk).2
  · exact (h.e.lt k hk).2
/-- a number of the struct's head is written -/
theorem PE.setHead (h : PE S W0 w g x bv vv ev) (i : Nat) (u : Value) (he : (eL x bv vv ev).set i u = eL x' bv vv ev) (hb : x'.bal = x.bal) (hv : x'.vals = x.vals) (hE : x'.ents = x.ents) (ht : x'.tab = x.tab) : PE S W0 (w.setCell ⟨g, i, none⟩ u) g x' bv vv ev :=
  ⟨h.fr.setCell h.hg _, h.hS, h.hg, by rw [← he]; exact h.L.set i u, by rw [ht]; exact h.ht, by rw [hb]; exact ownsRow_setCell h.b _ _ (fun e => Has.apart h.L h.b (by decide) e.symm), by rw [hv]; exact ownsRow_setCell h.v _ _ (fun e => Has.apart h.L h.v (by decide) e.symm), by rw [hE]; exact ownsRow_setCell h.e _ _ (fun e => Has.apart h.L h.e (by decide) e.symm), h.sb, h.sv, h.se⟩
theorem PE.setTab (h : PE S W0 w g x bv vv ev) (j : Nat) (y : Int) (hj : j < 65) : PE S W0 (w.setCell ⟨g, 8 + j, none⟩ (.int .i64 y)) g { x with tab := x.tab.set j y } bv vv ev :=
  ⟨h.fr.setCell h.hg _, h.hS, h.hg, by rw [← eL_set_tab x bv vv ev j y (by rw [h.ht]; exact hj)]; exact h.L.set _ _, by simp only [List.length_set]; exact h.ht, ownsRow_setCell h.b _ _ (fun e => Has.apart h.L h.b (by decide) e.symm), ownsRow_setCell h.v _ _ (fun e => Has.apart h.L h.v (by decide) e.symm), ownsRow_setCell h.e _ _ (fun e => Has.apart h.L h.e (by decide) e.symm), h.sb, h.sv, h.se⟩
theorem PE.setBal {gb n cap : Nat} (h : PE S W0 w g x (.slice (some ⟨gb, 0, none⟩) n cap) vv ev) (hn : n = x.bal.length) (k : Nat) (y : Int) : PE S W0 (w.setCell ⟨gb, k, none⟩ (.int .i64 y)) g { x with bal := x.bal.set k y } (.slice (some ⟨gb, 0, none⟩) n cap) vv ev := by
  subst hn
  have hne : g ≠ gb := fun e => Has.apart h.L h.b (by decide) (by rw [e]; rfl)
  refine ⟨h.fr.setCell (h.sb gb rfl) _, h.hS, h.hg, h.L.other _ _ hne, h.ht, ?_, ownsRow_setCell h.v _ _ (row_ne h.v h.b (by decide)), ownsRow_setCell h.e _ _ (row_ne h.e h.b (by decide)), h.sb, h.sv, h.se⟩
  have := (h.b.stored k (.int .i64 y)).1
  rw [ints_set] at this
  simpa using this
theorem PE.setVal {gv n cap : Nat} {vals' : List VS} (h : PE S W0 w g x bv (.slice (some ⟨gv, 0, none⟩) n cap) ev) (hn : n = x.vals.length) (i : Nat) (u : Value) (he : (vrow x.vals).set i u = vrow vals') (hl : vals'.length = x.vals.length) : PE S W0 (w.setCell ⟨gv, i, none⟩ u) g { x with vals := vals' } bv (.slice (some ⟨gv, 0, none⟩) n cap) ev := by
  subst hn
  have hne : g ≠ gv := fun e => Has.apart h.L h.v (by decide) (by rw [e]; rfl)
  refine ⟨h.fr.setCell (h.sv gv rfl) _, h.hS, h.hg, h.L.other _ _ hne, h.ht, ownsRow_setCell h.b _ _ (row_ne h.b h.v (by decide)), ?_, ownsRow_setCell h.e _ _ (row_ne h.e h.v (by decide)), h.sb, h.sv, h.se⟩
  have := (h.v.stored i u).1
  rw [he] at this
  simp only [hl]; exact this
theorem PE.setEv {ents' : List ES} (h : PE S W0 w g x bv vv ev) (he : w.ownsRow 0 52 4 ev' ents'.length (erow ents')) (hs : ∀ k, ev'.ownBlock = some k → S k) : PE S W0 (w.setCell ⟨g, 73, none⟩ ev') g { x with ents := ents' } bv vv ev' :=
  ⟨h.fr.setCell h.hg _, h.hS, h.hg, by
    have := h.L.set 73 ev'
    rw [eL_set_ev x bv vv ev ev' h.ht] at this
    exact this, h.ht, ownsRow_setCell h.b _ _ (fun e => Has.apart h.L h.b (by decide) e.symm), ownsRow_setCell h.v _ _ (fun e => Has.apart h.L h.v (by decide) e.symm), ownsRow_setCell he _ _ (fun e => Has.apart h.L he (by decide) e.symm), h.sb, h.sv, hs⟩
end
theorem vrow_set (l : List VS) (k : Nat) (hk : k < l.length) (i : Nat) (u : Value) (x : VS) (hx : l[k].cells.set i u = x.cells) (hi : i < 8) : (vrow l).set (k * 8 + i) u = vrow (l.set k x) := by
  induction l generalizing k with
  | nil => simp at hk
  | cons v l ih =>
    cases k with
    | zero =>
      simp only [List.getElem_cons_zero] at hx
      simp only [Nat.zero_mul, Nat.zero_add, vrow, List.set_cons_zero]
      rw [List.set_append_left _ _ (by simpa [VS.cells] using hi), hx]
    | succ k =>
      simp only [List.getElem_cons_succ] at hx
      simp only [vrow, List.set_cons_succ]
      rw [List.set_append_right _ _ (by simp [VS.cells]; omega)]
      have e : (k + 1) * 8 + i - v.cells.length = k * 8 + i := by simp [VS.cells]; omega
      rw [e, ih k (by simpa using hk) hx]
section
variable {S : Nat → Prop} {W0 w w' : World} {g : Nat} {x x' : EC} {bv vv ev ev' : Value}
theorem PE.shAt (h : PE S W0 w g x bv vv ev) {k j : Nat} (hk : k < 6) (hj : j < 5) : w.cell? ⟨g, 8 + k * 5 + j, none⟩ = some (.int .i64 (x.sh k j)) := by
  have := (h.L.cell (8 + (k * 5 + j))).trans (eL_tab _ _ _ _ _ (by rw [h.ht]; omega))
  rw [← Nat.add_assoc] at this
  exact this
theorem PE.perAt (h : PE S W0 w g x bv vv ev) {j : Nat} (hj : j < 5) : w.cell? ⟨g, 38 + j, none⟩ = some (.int .i64 (x.per j)) := by
  have := (h.L.cell (8 + (30 + j))).trans (eL_tab _ _ _ _ _ (by rw [h.ht]; omega))
  rw [← Nat.add_assoc] at this
  exact this
theorem PE.uptoAt (h : PE S W0 w g x bv vv ev) {k j : Nat} (hk : k < 6) (hj : j < 5) : w.cell? ⟨g, 43 + k * 5 + j, none⟩ = some (.int .i64 (x.upto k j)) := by
  have := (h.L.cell (8 + (35 + (k * 5 + j)))).trans (eL_tab _ _ _ _ _ (by rw [h.ht]; omega))
  rw [← Nat.add_assoc, ← Nat.add_assoc] at this
  exact this
theorem PE.evAt (h : PE S W0 w g x bv vv ev) : w.cell? ⟨g, 73, none⟩ = some ev := (h.L.cell 73).trans (eL_ev _ _ _ _ h.ht)
theorem PE.balAt' {gb n cap : Nat} (h : PE S W0 w g x (.slice (some ⟨gb, 0, none⟩) n cap) vv ev) {k : Nat} (hk : k < x.bal.length) : w.cell? ⟨gb, k, none⟩ = some (.int .i64 (x.balAt k)) := by
  obtain ⟨a, c, he⟩ := ownsRow_slice h.b
  simp only [Value.slice.injEq] at he
  obtain ⟨rfl, rfl, rfl⟩ := he
  rw [h.b.cellAt k (by omega)]; simp [ints, hk, EC.balAt]
/-- the eight cells of a validator -/
theorem PE.val8 {n cap : Nat} {a : Option Addr} (h : PE S W0 w g x bv (.slice a n cap) ev) (hn : n = x.vals.length) {k : Nat} (hk : k < x.vals.length) :
    ∃ gv, a = some ⟨gv, 0, none⟩ ∧ (∀ i, i < 8 → w.cell? ⟨gv, k * 8 + i, none⟩ = x.vals[k].cells[i]?) ∧ (∀ j, w.frozen? ⟨gv, j, none⟩ = false) := by
  subst hn
  obtain ⟨gv, rfl, _⟩ := ownsRow_some h.v (by omega)
  exact ⟨gv, rfl, fun i hi => by rw [h.v.cellAt (k * 8 + i) (by omega), vrow_at x.vals k hk i hi], fun j => h.v.frozenAt j⟩
end
end Go.Proofs.Ytkdekfmblpkecaa
