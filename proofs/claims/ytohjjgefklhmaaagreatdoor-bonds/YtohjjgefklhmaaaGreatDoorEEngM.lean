import Derived.Test.YtohjjgefklhmaaaGreatDoorLPayM
namespace Go.Proofs.YtohjjgefklhmaaaGreatDoor
open Go.ChangeShapes Go.WideShapes Go.ChangeAt Go.RowKit
set_option linter.unusedVariables false

/-- an engine's numbers; tab: the shares (30), what a share got (5), up to where it is paid (30) -/
structure EC where
  top : Int
  mature : Int
  fee : Int
  height : Int
  fees : Int
  pool : Int
  bal : List Int
  tab : List Int
  vals : List VS
  ents : List ES
def EC.sh (x : EC) (k j : Nat) : Int := x.tab.getD (k * 5 + j) 0
def EC.per (x : EC) (j : Nat) : Int := x.tab.getD (30 + j) 0
def EC.upto (x : EC) (k j : Nat) : Int := x.tab.getD (35 + (k * 5 + j)) 0
def EC.balAt (x : EC) (k : Nat) : Int := x.bal.getD k 0

/-- the cells of an engine -/
def eL (x : EC) (bv vv ev : Value) : List Value := [.int .i64 x.top, .int .i64 x.mature, .int .i64 x.fee, .int .i64 x.height, bv, .int .i64 x.fees, .int .i64 x.pool, vv] ++ (ints x.tab ++ [ev])
theorem eL_tab (x : EC) (bv vv ev : Value) (j : Nat) (h : j < x.tab.length) : (eL x bv vv ev)[8 + j]? = some (.int .i64 (x.tab.getD j 0)) := by
  unfold eL
  rw [List.getElem?_append_right (by simp), show 8 + j - ([.int .i64 x.top, .int .i64 x.mature, .int .i64 x.fee, .int .i64 x.height, bv, .int .i64 x.fees, .int .i64 x.pool, vv] : List Value).length = j by simp, List.getElem?_append_left (by simpa [ints] using h)]
  simp [ints, h]
theorem eL_set_tab (x : EC) (bv vv ev : Value) (j : Nat) (y : Int) (h : j < x.tab.length) : (eL x bv vv ev).set (8 + j) (.int .i64 y) = eL { x with tab := x.tab.set j y } bv vv ev := by
  unfold eL
  rw [List.set_append_right _ _ (by simp), show 8 + j - ([.int .i64 x.top, .int .i64 x.mature, .int .i64 x.fee, .int .i64 x.height, bv, .int .i64 x.fees, .int .i64 x.pool, vv] : List Value).length = j by simp, List.set_append_left _ _ (by simpa [ints] using h), ints_set]
theorem eL_ev (x : EC) (bv vv ev : Value) (h : x.tab.length = 65) : (eL x bv vv ev)[73]? = some ev := by
  unfold eL
  rw [List.getElem?_append_right (by simp), List.getElem?_append_right (by simp [ints, h])]
  simp [ints, h]
theorem eL_set_ev (x : EC) (bv vv ev e' : Value) (h : x.tab.length = 65) : (eL x bv vv ev).set 73 e' = eL x bv vv e' := by
  unfold eL
  rw [List.set_append_right _ _ (by simp), List.set_append_right _ _ (by simp [ints, h])]
  simp [ints, h]

/-- an engine of the program in memory; behind W0 only blocks of S are written -/
structure PE (S : Nat → Prop) (W0 w : World) (g : Nat) (x : EC) (bv vv ev : Value) : Prop where
  fr : Kp S W0 w
  hS : ∀ k, W0.heap.size ≤ k → S k
  hg : S g
  L : Has w g 111 (eL x bv vv ev)
  ht : x.tab.length = 65
  b : w.ownsRow 0 3 1 bv x.bal.length (ints x.bal)
  v : w.ownsRow 0 122 8 vv x.vals.length (vrow x.vals)
  e : w.ownsRow 0 125 4 ev x.ents.length (erow x.ents)
  sb : ∀ k, bv.ownBlock = some k → S k
  sv : ∀ k, vv.ownBlock = some k → S k
  se : ∀ k, ev.ownBlock = some k → S k

section
variable {S : Nat → Prop} {W0 w w' : World} {g : Nat} {x x' : EC} {bv vv ev ev' : Value}

theorem PE.eta (h : PE S W0 w g x bv vv ev) (e1 : w'.heap = w.heap) (e2 : w'.os = w.os) (e3 : w'.tape = w.tape) (e4 : w'.output = w.output) : PE S W0 w' g x bv vv ev := by
  have ho : ∀ {base : Nat} {e : TypeId} {size : Nat} {v : Value} {n : Nat} {xs : List Value}, w.ownsRow base e size v n xs → w'.ownsRow base e size v n xs := fun h => by unfold World.ownsRow at *; rw [e1]; exact h
  exact ⟨⟨e2.trans h.fr.os, e3.trans h.fr.tape, e4.trans h.fr.output, by rw [e1]; exact h.fr.size, fun k hk hs => by rw [e1]; exact h.fr.block k hk hs⟩, h.hS, h.hg, by unfold Has at *; rw [e1]; exact h.L, h.ht, ho h.b, ho h.v, ho h.e, h.sb, h.sv, h.se⟩
/-- what is the engine's own -/
def Own (g : Nat) (bv vv ev : Value) (k : Nat) : Prop := k = g ∨ bv.ownBlock = some k ∨ vv.ownBlock = some k ∨ ev.ownBlock = some k
theorem PE.kp {S' : Nat → Prop} (h : PE S W0 w g x bv vv ev) (k : Kp S' w w') (hS' : ∀ b, b < w.heap.size → Own g bv vv ev b → ¬ S' b) (hSS : ∀ b, b < w.heap.size → S' b → S b) : PE S W0 w' g x bv vv ev :=
  ⟨h.fr.trans (k.mono hSS), h.hS, h.hg, h.L.kp k (hS' g h.L.lt (.inl rfl)), h.ht, ownsRow_kp h.b k (fun b hb => hS' b (h.b.lt b hb).2 (.inr (.inl hb))), ownsRow_kp h.v k (fun b hb => hS' b (h.v.lt b hb).2 (.inr (.inr (.inl hb)))), ownsRow_kp h.e k (fun b hb => hS' b (h.e.lt b hb).2 (.inr (.inr (.inr hb)))), h.sb, h.sv, h.se⟩
theorem PE.below (h : PE S W0 w g x bv vv ev) (k : Below w.heap.size w w') : PE S W0 w' g x bv vv ev :=
  h.kp (Kp.of_below k (fun _ => False)) (fun _ _ _ h => h) (fun _ _ h => h.elim)
theorem PE.drewN (h : PE S W0 w g x bv vv ev) (n : Nat) : PE S W0 (w.drewN n) g x bv vv ev := h.eta rfl rfl rfl rfl
theorem PE.drew (h : PE S W0 w g x bv vv ev) : PE S W0 w.drew g x bv vv ev := h.eta rfl rfl rfl rfl
theorem PE.alloc (h : PE S W0 w g x bv vv ev) (o : Obj) : PE S W0 (w.alloc o) g x bv vv ev := h.below ((Below.refl _ _).alloc (Nat.le_refl _) o)
/-- the engine at rest, seen from here -/
theorem PE.rest (h : PE S W0 w g x bv vv ev) : PE (fun k => Own g bv vv ev k ∨ w.heap.size ≤ k) w w g x bv vv ev :=
  ⟨Kp.refl _ _, fun k hk => .inr hk, .inl (.inl rfl), h.L, h.ht, h.b, h.v, h.e, fun k hk => .inl (.inr (.inl hk)), fun k hk => .inl (.inr (.inr (.inl hk))), fun k hk => .inl (.inr (.inr (.inr hk)))⟩
theorem PE.rebase {S' : Nat → Prop} {W' : World} (h : PE S W0 w g x bv vv ev) (hf : Kp S' W' w) (hs : ∀ k, W'.heap.size ≤ k → S' k) (ho : ∀ k, Own g bv vv ev k → S' k) : PE S' W' w g x bv vv ev :=
  ⟨hf, hs, ho g (.inl rfl), h.L, h.ht, h.b, h.v, h.e, fun k hk => ho k (.inr (.inl hk)), fun k hk => ho k (.inr (.inr (.inl hk))), fun k hk => ho k (.inr (.inr (.inr hk)))⟩
theorem PE.own (h : PE S W0 w g x bv vv ev) : ∀ k, Own g bv vv ev k → S k := by
  rintro k (rfl | hk | hk | hk)
  · exact h.hg
  · exact h.sb k hk
  · exact h.sv k hk
  · exact h.se k hk
theorem PE.ownlt (h : PE S W0 w g x bv vv ev) : ∀ k, Own g bv vv ev k → k < w.heap.size := by
  rintro k (rfl | hk | hk | hk)
  · exact h.L.lt
  · exact (h.b.lt k hk).2
  · exact (h.v.lt k hk).2
  · exact (h.e.lt k hk).2
/-- a number of the struct's head is written -/
theorem PE.setHead (h : PE S W0 w g x bv vv ev) (i : Nat) (u : Value) (he : (eL x bv vv ev).set i u = eL x' bv vv ev) (hb : x'.bal = x.bal) (hv : x'.vals = x.vals) (hE : x'.ents = x.ents) (ht : x'.tab = x.tab) : PE S W0 (w.setCell ⟨g, i, none⟩ u) g x' bv vv ev :=
  ⟨h.fr.setCell h.hg _, h.hS, h.hg, by rw [← he]; exact h.L.set i u, by rw [ht]; exact h.ht, by rw [hb]; exact ownsRow_setCell h.b _ _ (fun e => Has.apart h.L h.b (by decide) e.symm), by rw [hv]; exact ownsRow_setCell h.v _ _ (fun e => Has.apart h.L h.v (by decide) e.symm), by rw [hE]; exact ownsRow_setCell h.e _ _ (fun e => Has.apart h.L h.e (by decide) e.symm), h.sb, h.sv, h.se⟩
theorem PE.setTab (h : PE S W0 w g x bv vv ev) (j : Nat) (y : Int) (hj : j < 65) : PE S W0 (w.setCell ⟨g, 8 + j, none⟩ (.int .i64 y)) g { x with tab := x.tab.set j y } bv vv ev :=
  ⟨h.fr.setCell h.hg _, h.hS, h.hg, by rw [← eL_set_tab x bv vv ev j y (by rw [h.ht]; exact hj)]; exact h.L.set _ _, by simp only [List.length_set]; exact h.ht, ownsRow_setCell h.b _ _ (fun e => Has.apart h.L h.b (by decide) e.symm), ownsRow_setCell h.v _ _ (fun e => Has.apart h.L h.v (by decide) e.symm), ownsRow_setCell h.e _ _ (fun e => Has.apart h.L h.e (by decide) e.symm), h.sb, h.sv, h.se⟩
theorem PE.setBal {gb n cap : Nat} (h : PE S W0 w g x (.slice (some ⟨gb, 0, none⟩) n cap) vv ev) (hn : n = x.bal.length) (k : Nat) (y : Int) : PE S W0 (w.setCell ⟨gb, k, none⟩ (.int .i64 y)) g { x with bal := x.bal.set k y } (.slice (some ⟨gb, 0, none⟩) n cap) vv ev := by
  subst hn
  have hne : g ≠ gb := fun e => Has.apart h.L h.b (by decide) (by rw [e]; rfl)
  refine ⟨h.fr.setCell (h.sb gb rfl) _, h.hS, h.hg, h.L.other _ _ hne, h.ht, ?_, ownsRow_setCell h.v _ _ (row_ne h.v h.b (by decide)), ownsRow_setCell h.e _ _ (row_ne h.e h.b (by decide)), h.sb, h.sv, h.se⟩
  have := (h.b.stored k (.int .i64 y)).1
  rw [ints_set] at this
  simpa using this
theorem PE.setVal {gv n cap : Nat} {vals' : List VS} (h : PE S W0 w g x bv (.slice (some ⟨gv, 0, none⟩) n cap) ev) (hn : n = x.vals.length) (i : Nat) (u : Value) (he : (vrow x.vals).set i u = vrow vals') (hl : vals'.length = x.vals.length) : PE S W0 (w.setCell ⟨gv, i, none⟩ u) g { x with vals := vals' } bv (.slice (some ⟨gv, 0, none⟩) n cap) ev := by
  subst hn
  have hne : g ≠ gv := fun e => Has.apart h.L h.v (by decide) (by rw [e]; rfl)
  refine ⟨h.fr.setCell (h.sv gv rfl) _, h.hS, h.hg, h.L.other _ _ hne, h.ht, ownsRow_setCell h.b _ _ (row_ne h.b h.v (by decide)), ?_, ownsRow_setCell h.e _ _ (row_ne h.e h.v (by decide)), h.sb, h.sv, h.se⟩
  have := (h.v.stored i u).1
  rw [he] at this
  simp only [hl]; exact this
theorem PE.setEv {ents' : List ES} (h : PE S W0 w g x bv vv ev) (he : w.ownsRow 0 125 4 ev' ents'.length (erow ents')) (hs : ∀ k, ev'.ownBlock = some k → S k) : PE S W0 (w.setCell ⟨g, 73, none⟩ ev') g { x with ents := ents' } bv vv ev' :=
  ⟨h.fr.setCell h.hg _, h.hS, h.hg, by
    have := h.L.set 73 ev'
    rw [eL_set_ev x bv vv ev ev' h.ht] at this
    exact this, h.ht, ownsRow_setCell h.b _ _ (fun e => Has.apart h.L h.b (by decide) e.symm), ownsRow_setCell h.v _ _ (fun e => Has.apart h.L h.v (by decide) e.symm), ownsRow_setCell he _ _ (fun e => Has.apart h.L he (by decide) e.symm), h.sb, h.sv, hs⟩
end
theorem vrow_set (l : List VS) (k : Nat) (hk : k < l.length) (i : Nat) (u : Value) (x : VS) (hx : l[k].cells.set i u = x.cells) (hi : i < 8) : (vrow l).set (k * 8 + i) u = vrow (l.set k x) := by
  induction l generalizing k with
  | nil => simp at hk
  | cons v l ih =>
    cases k with
    | zero =>
      simp only [List.getElem_cons_zero] at hx
      simp only [Nat.zero_mul, Nat.zero_add, vrow, List.set_cons_zero]
      rw [List.set_append_left _ _ (by simpa [VS.cells] using hi), hx]
    | succ k =>
      simp only [List.getElem_cons_succ] at hx
      simp only [vrow, List.set_cons_succ]
      rw [List.set_append_right _ _ (by simp [VS.cells]; omega)]
      have e : (k + 1) * 8 + i - v.cells.length = k * 8 + i := by simp [VS.cells]; omega
      rw [e, ih k (by simpa using hk) hx]
section
variable {S : Nat → Prop} {W0 w w' : World} {g : Nat} {x x' : EC} {bv vv ev ev' : Value}
theorem PE.shAt (h : PE S W0 w g x bv vv ev) {k j : Nat} (hk : k < 6) (hj : j < 5) : w.cell? ⟨g, 8 + k * 5 + j, none⟩ = some (.int .i64 (x.sh k j)) := by
  have := (h.L.cell (8 + (k * 5 + j))).trans (eL_tab _ _ _ _ _ (by rw [h.ht]; omega))
  rw [← Nat.add_assoc] at this
  exact this
theorem PE.perAt (h : PE S W0 w g x bv vv ev) {j : Nat} (hj : j < 5) : w.cell? ⟨g, 38 + j, none⟩ = some (.int .i64 (x.per j)) := by
  have := (h.L.cell (8 + (30 + j))).trans (eL_tab _ _ _ _ _ (by rw [h.ht]; omega))
  rw [← Nat.add_assoc] at this
  exact this
theorem PE.uptoAt (h : PE S W0 w g x bv vv ev) {k j : Nat} (hk : k < 6) (hj : j < 5) : w.cell? ⟨g, 43 + k * 5 + j, none⟩ = some (.int .i64 (x.upto k j)) := by
  have := (h.L.cell (8 + (35 + (k * 5 + j)))).trans (eL_tab _ _ _ _ _ (by rw [h.ht]; omega))
  rw [← Nat.add_assoc, ← Nat.add_assoc] at this
  exact this
theorem PE.evAt (h : PE S W0 w g x bv vv ev) : w.cell? ⟨g, 73, none⟩ = some ev := (h.L.cell 73).trans (eL_ev _ _ _ _ h.ht)
theorem PE.balAt' {gb n cap : Nat} (h : PE S W0 w g x (.slice (some ⟨gb, 0, none⟩) n cap) vv ev) {k : Nat} (hk : k < x.bal.length) : w.cell? ⟨gb, k, none⟩ = some (.int .i64 (x.balAt k)) := by
  obtain ⟨a, c, he⟩ := ownsRow_slice h.b
  simp only [Value.slice.injEq] at he
  obtain ⟨rfl, rfl, rfl⟩ := he
  rw [h.b.cellAt k (by omega)]; simp [ints, hk, EC.balAt]
/-- the eight cells of a validator -/
theorem PE.val8 {n cap : Nat} {a : Option Addr} (h : PE S W0 w g x bv (.slice a n cap) ev) (hn : n = x.vals.length) {k : Nat} (hk : k < x.vals.length) :
    ∃ gv, a = some ⟨gv, 0, none⟩ ∧ (∀ i, i < 8 → w.cell? ⟨gv, k * 8 + i, none⟩ = x.vals[k].cells[i]?) ∧ (∀ j, w.frozen? ⟨gv, j, none⟩ = false) := by
  subst hn
  obtain ⟨gv, rfl, _⟩ := ownsRow_some h.v (by omega)
  exact ⟨gv, rfl, fun i hi => by rw [h.v.cellAt (k * 8 + i) (by omega), vrow_at x.vals k hk i hi], fun j => h.v.frozenAt j⟩
end
end Go.Proofs.YtohjjgefklhmaaaGreatDoor

namespace Go.Proofs.YtohjjgefklhmaaaGreatDoor
open Go.ChangeShapes Go.WideShapes Go.ChangeAt Go.RowKit
set_option linter.unusedVariables false

set_option maxHeartbeats 1000000 in
set_option maxRecDepth 100000 in
theorem kacc_any (g n k : Nat) (ba : Option Addr) (bc : Nat) (w : World) (c4 : w.cell? ⟨g, 4, none⟩ = some (.slice ba n bc)) (hk : k < n) (hl : n ≤ 1000) :
    Calls Tryz.prog 96 #[.pointer (some ⟨g, 0, none⟩), .int .i64 k] w fun e w' => e = .returned (.bool true) ∧ w = w' := by
  have h1 : (k : Int) < (n : Int) := by omega
  go_enter Tryz.func96, Tryz.ntmps96
  go_wp2
  go_ret
  exact ⟨rfl, rfl⟩
set_option maxHeartbeats 1000000 in
set_option maxRecDepth 100000 in
theorem kval_any (g n k : Nat) (ba : Option Addr) (bc : Nat) (w : World) (c7 : w.cell? ⟨g, 7, none⟩ = some (.slice ba n bc)) (hk : k < n) (hl : n ≤ 1000) :
    Calls Tryz.prog 144 #[.pointer (some ⟨g, 0, none⟩), .int .i64 k] w fun e w' => e = .returned (.bool true) ∧ w = w' := by
  have h1 : (k : Int) < (n : Int) := by omega
  go_enter Tryz.func144, Tryz.ntmps144
  go_wp2
  go_ret
  exact ⟨rfl, rfl⟩

/-- how the calls turn the numbers -/
def EC.due (x : EC) (k j : Nat) : Int := x.sh k j * (x.per j - x.upto k j) / 1073741824
def chargeFE (x : EC) (k : Nat) : EC := { x with bal := x.bal.set k (x.balAt k - x.fee), fees := x.fees + x.fee }
def payF (x : EC) (k j : Nat) : EC := { x with vals := x.vals.modify j (fun v => { v with outs := v.outs - x.due k j }), bal := x.bal.set k (x.balAt k + x.due k j), tab := x.tab.set (35 + (k * 5 + j)) (x.per j) }
theorem vrow_mod (l : List VS) (k : Nat) (hk : k < l.length) (i : Nat) (u : Value) (f : VS → VS) (hx : l[k].cells.set i u = (f l[k]).cells) (hi : i < 8) : (vrow l).set (k * 8 + i) u = vrow (l.modify k f) := by
  rw [vrow_set l k hk i u (f l[k]) hx hi]
  congr 1
  apply List.ext_getElem?
  intro m
  rw [List.getElem?_modify]
  by_cases e : k = m
  · subst e; simp [hk]
  · simp [e]
/-- what is needed lest a due wraps -/
structure DueOk (x : EC) (k j : Nat) : Prop where
  u0 : -1073741824000000 ≤ x.upto k j
  up : x.upto k j ≤ x.per j
  p1 : x.per j ≤ 4611686018427387904
  d0 : 0 ≤ x.sh k j * (x.per j - x.upto k j)
  d1 : x.sh k j * (x.per j - x.upto k j) ≤ 4611686018427387904
theorem DueOk.due0 {x : EC} {k j : Nat} (h : DueOk x k j) : 0 ≤ x.due k j := Int.ediv_nonneg h.d0 (by decide)

section
variable {S : Nat → Prop} {W0 : World} (g : Nat) (x : EC) (bv vv ev : Value) (w : World) (h : PE S W0 w g x bv vv ev)
include h

set_option maxHeartbeats 2000000 in
set_option maxRecDepth 100000 in
theorem echarge (k : Nat) (hl : x.bal.length ≤ 1000) (hk : k < x.bal.length) (hx0 : x.fee ≤ x.balAt k) (hx1 : x.balAt k ≤ 1000000000) (hf0 : 0 ≤ x.fee) (hs0 : 0 ≤ x.fees) (hs1 : x.fees ≤ 1000000000) :
    Calls Tryz.prog 105 #[.pointer (some ⟨g, 0, none⟩), .int .i64 k] w fun e w' => e = .returned (.int .i64 0) ∧ PE S W0 w' g (chargeFE x k) bv vv ev := by
  obtain ⟨ba, bc, rfl⟩ := ownsRow_slice h.b
  obtain ⟨gb, rfl, _⟩ := ownsRow_some h.b (by omega)
  have c4 : w.cell? ⟨g, 4, none⟩ = some (.slice (some ⟨gb, 0, none⟩) x.bal.length bc) := h.L.cell 4
  have c2 : w.cell? ⟨g, 2, none⟩ = some (.int .i64 x.fee) := h.L.cell 2
  have c5 : w.cell? ⟨g, 5, none⟩ = some (.int .i64 x.fees) := h.L.cell 5
  have f5 := h.L.frozen 5
  have hgne : g ≠ gb := fun e => Has.apart h.L h.b (by decide) (by rw [e]; rfl)
  have hgne' : gb ≠ g := fun e => hgne e.symm
  have cb := h.balAt' hk
  have fb := h.b.frozenAt k
  have HF : Hid (PE S W0 ((w.setCell ⟨gb, k, none⟩ (.int .i64 (x.balAt k - x.fee))).setCell ⟨g, 5, none⟩ (.int .i64 (x.fees + x.fee))) g (chargeFE x k) (.slice (some ⟨gb, 0, none⟩) x.bal.length bc) vv ev) :=
    (h.setBal rfl k (x.balAt k - x.fee)).setHead (x' := chargeFE x k) 5 (.int .i64 (x.fees + x.fee)) rfl rfl rfl rfl rfl
  clear h
  generalize x.balAt k = y at *
  go_enter Tryz.func105, Tryz.ntmps105
  go_wp2_with (go_at_call 96; refine (kacc_any g x.bal.length k _ _ _ c4 hk hl).mono ?_; rintro e w' ⟨rfl, rfl⟩)
  go_quiet (fail)
  go_wp2
  go_region
  go_wp2
  go_region
  go_wp2
  go_ret
  exact ⟨rfl, HF.out.eta rfl rfl rfl rfl⟩

set_option maxHeartbeats 2000000 in
set_option maxRecDepth 100000 in
theorem epending (k j : Nat) (hk : k < 6) (hj : j < 5) (u0 : -1073741824000000 ≤ x.upto k j) (up : x.upto k j ≤ x.per j) (p1 : x.per j ≤ 4611686018427387904) :
    Calls Tryz.prog 88 #[.pointer (some ⟨g, 0, none⟩), .int .i64 k, .int .i64 j] w fun e w' => e = .returned (.int .i64 (x.per j - x.upto k j)) ∧ w' = w.drew := by
  have c2 := h.perAt hj
  have c3 := h.uptoAt hk hj
  clear h
  generalize x.per j = p at *
  generalize x.upto k j = u at *
  go_enter Tryz.func88, Tryz.ntmps88
  go_wp2
  go_region
  go_wp2
  go_ret
  exact ⟨rfl, rfl⟩

set_option maxHeartbeats 2000000 in
set_option maxRecDepth 100000 in
theorem edue (k j : Nat) (hk : k < 6) (hj : j < 5) (hd : DueOk x k j) :
    Calls Tryz.prog 98 #[.pointer (some ⟨g, 0, none⟩), .int .i64 k, .int .i64 j] w fun e w' => e = .returned (.int .i64 (x.due k j)) ∧ w' = w.drew := by
  have c1 := h.shAt hk hj
  have c2 := h.perAt hj
  have c3 := h.uptoAt hk hj
  obtain ⟨u0, up, p1, d0, d1⟩ := hd
  have HP : Hid (Calls Tryz.prog 88 #[.pointer (some ⟨g, 0, none⟩), .int .i64 k, .int .i64 j] w fun e w' => e = .returned (.int .i64 (x.per j - x.upto k j)) ∧ w' = w.drew) := epending g x _ _ _ w h k j hk hj u0 up p1
  have HD : Hid (x.due k j = x.sh k j * (x.per j - x.upto k j) / 1073741824) := rfl
  clear h
  generalize x.due k j = dd at *
  generalize x.sh k j = s at *
  generalize x.per j = p at *
  generalize x.upto k j = u at *
  go_enter Tryz.func98, Tryz.ntmps98
  go_wp2_with (go_at_call 88; refine HP.out.mono ?_; rintro e w' ⟨rfl, rfl⟩)
  go_wp2
  go_ret
  refine ⟨ret_int ?_, rfl⟩
  exact HD.out.symm
end
end Go.Proofs.YtohjjgefklhmaaaGreatDoor

namespace Go.Proofs.YtohjjgefklhmaaaGreatDoor
open Go.ChangeShapes Go.WideShapes Go.ChangeAt Go.RowKit
set_option linter.unusedVariables false

section
variable {S : Nat → Prop} {W0 : World} (g : Nat) (x : EC) (bv vv ev : Value) (w : World) (h : PE S W0 w g x bv vv ev)
include h

set_option maxHeartbeats 2000000 in
set_option maxRecDepth 100000 in
theorem epay (k j : Nat) (hl : x.bal.length ≤ 6) (hk : k < x.bal.length) (hv : x.vals.length ≤ 5) (hj : j < x.vals.length) (hd : DueOk x k j) (o0 : 0 ≤ x.vals[j].outs) (o1 : x.vals[j].outs ≤ 1000000000) (b0 : 0 ≤ x.balAt k) (b1 : x.balAt k ≤ 1000000000) :
    Calls Tryz.prog 116 #[.pointer (some ⟨g, 0, none⟩), .int .i64 k, .int .i64 j] w fun e w' => e = .returned (.tuple #[]) ∧ PE S W0 w' g (payF x k j) bv vv ev := by
  obtain ⟨ba, bc, rfl⟩ := ownsRow_slice h.b
  obtain ⟨gb, rfl, _⟩ := ownsRow_some h.b (by omega)
  obtain ⟨va, vc, rfl⟩ := ownsRow_slice h.v
  obtain ⟨gv, rfl, hcell, hfr⟩ := h.val8 rfl hj
  have c4 : w.cell? ⟨g, 4, none⟩ = some (.slice (some ⟨gb, 0, none⟩) x.bal.length bc) := h.L.cell 4
  have c7 : w.cell? ⟨g, 7, none⟩ = some (.slice (some ⟨gv, 0, none⟩) x.vals.length vc) := h.L.cell 7
  have cb := h.balAt' hk
  have fb := h.b.frozenAt k
  have y5 : w.cell? ⟨gv, j * 8 + 5, none⟩ = some (.int .i64 x.vals[j].outs) := hcell 5 (by omega)
  have fv := hfr (j * 8 + 5)
  have cp := h.perAt (j := j) (by omega)
  have cu := h.uptoAt (k := k) (j := j) (by omega) (by omega)
  have fu := h.L.frozen (43 + k * 5 + j)
  have n1 : g ≠ gb := fun e => Has.apart h.L h.b (by decide) (by rw [e]; rfl)
  have n2 : gb ≠ g := fun e => n1 e.symm
  have n3 : g ≠ gv := fun e => Has.apart h.L h.v (by decide) (by rw [e]; rfl)
  have n4 : gv ≠ g := fun e => n3 e.symm
  have n5 : gb ≠ gv := fun e => row_ne h.b h.v (by decide) (by rw [← e]; rfl)
  have n6 : gv ≠ gb := fun e => n5 e.symm
  have d0 := hd.due0
  have d1 : x.due k j ≤ 4294967296 := by
    have := hd.d1
    unfold EC.due; omega
  have HD : Hid (Calls Tryz.prog 98 #[.pointer (some ⟨g, 0, none⟩), .int .i64 k, .int .i64 j] w fun e w' => e = .returned (.int .i64 (x.due k j)) ∧ w' = w.drew) := edue g x _ _ _ w h k j (by omega) (by omega) hd
  have hP1 := h.setVal (vals' := x.vals.modify j (fun v => { v with outs := v.outs - x.due k j })) rfl (j * 8 + 5) (.int .i64 (x.vals[j].outs - x.due k j)) (vrow_mod x.vals j hj 5 _ _ rfl (by omega)) (by simp)
  have hP2 := hP1.setBal rfl k (x.balAt k + x.due k j)
  have hP3 := hP2.setTab (35 + (k * 5 + j)) (x.per j) (by omega)
  rw [← Nat.add_assoc, ← Nat.add_assoc] at hP3
  have HF : Hid (PE S W0 (((w.setCell ⟨gv, j * 8 + 5, none⟩ (.int .i64 (x.vals[j].outs - x.due k j))).setCell ⟨gb, k, none⟩ (.int .i64 (x.balAt k + x.due k j))).setCell ⟨g, 43 + k * 5 + j, none⟩ (.int .i64 (x.per j))) g (payF x k j) (.slice (some ⟨gb, 0, none⟩) x.bal.length bc) (.slice (some ⟨gv, 0, none⟩) x.vals.length vc) ev) := hP3
  clear h hP1 hP2 hP3 hcell hfr hd
  generalize x.due k j = d at *
  generalize x.balAt k = y at *
  generalize x.vals[j].outs = o at *
  generalize x.per j = p at *
  generalize x.upto k j = u at *
  go_enter Tryz.func116, Tryz.ntmps116
  go_wp2_with fail
  refine HD.out.mono ?_
  rintro e w' ⟨rfl, rfl⟩
  clear HD
  go_wp2
  go_region
  go_wp2
  go_end0
  exact ⟨rfl, HF.out.eta rfl rfl rfl rfl⟩
end
end Go.Proofs.YtohjjgefklhmaaaGreatDoor
