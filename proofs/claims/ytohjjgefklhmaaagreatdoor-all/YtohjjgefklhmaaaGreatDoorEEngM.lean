import Derived.Test.YtohjjgefklhmaaaGreatDoorLCoreM
namespace Go.Proofs.YtohjjgefklhmaaaGreatDoor
open Go.ChangeShapes Go.WideShapes Go.ChangeAt Go.RowKit
set_option linter.unusedVariables false
set_option maxHeartbeats 40000000
set_option maxRecDepth 100000
variable {S' S : Nat -> Prop} {gb n cap : Nat} {W0 : World}
structure EC where
 top : Int
 mature : Int
 fee : Int
 height : Int
 fees : Int
 pool : Int
 bal : List Int
 tab : List Int
 vals : List VS
 ents : List ES
def EC.sh (x : EC) (k j : Nat) : Int := x.tab.getD (k * 5 + j) 0
def EC.per (x : EC) (j : Nat) : Int := x.tab.getD (30 + j) 0
def EC.upto (x : EC) (k j : Nat) : Int := x.tab.getD (35 + (k * 5 + j)) 0
def EC.balAt (x : EC) (k : Nat) : Int := x.bal.getD k 0
def eL (x : EC) (bv vv ev : Value) : List Value := [.int .i64 x.top, .int .i64 x.mature, .int .i64 x.fee, .int .i64 x.height, bv, .int .i64 x.fees, .int .i64 x.pool, vv] ++ (Ai x.tab ++ [ev])
theorem LX (x : EC) (bv vv ev : Value) (j : Nat) (h : j < x.tab.length) : (eL x bv vv ev)[8 + j]? = some (.int .i64 (x.tab.getD j 0)) := by
 unfold eL
 rw [List.getElem?_append_right (by simp), show 8 + j - ([.int .i64 x.top, .int .i64 x.mature, .int .i64 x.fee, .int .i64 x.height, bv, .int .i64 x.fees, .int .i64 x.pool, vv] : List Value).length = j by simp, List.getElem?_append_left (by simpa [Ai] using h)]
 simp [Ai, h]
theorem Ls (x : EC) (bv vv ev : Value) (j : Nat) (y : Int) (h : j < x.tab.length) : (eL x bv vv ev).set (8 + j) (.int .i64 y) = eL { x with tab := x.tab.set j y } bv vv ev := by
 unfold eL
 rw [List.set_append_right _ _ (by simp), show 8 + j - ([.int .i64 x.top, .int .i64 x.mature, .int .i64 x.fee, .int .i64 x.height, bv, .int .i64 x.fees, .int .i64 x.pool, vv] : List Value).length = j by simp, List.set_append_left _ _ (by simpa [Ai] using h), IN]
theorem Pv (x : EC) (bv vv ev : Value) (h : x.tab.length = 65) : (eL x bv vv ev)[73]? = some ev := by
 unfold eL
 rw [List.getElem?_append_right (by simp), List.getElem?_append_right (by simp [Ai, h])]
 simp [Ai, h]
theorem Jt (x : EC) (bv vv ev e' : Value) (h : x.tab.length = 65) : (eL x bv vv ev).set 73 e' = eL x bv vv e' := by
 unfold eL
 rw [List.set_append_right _ _ (by simp), List.set_append_right _ _ (by simp [Ai, h])]
 simp [Ai, h]
structure PE (S : Nat -> Prop) (W0 w : World) (g : Nat) (x : EC) (bv vv ev : Value) : Prop where
 fr : Kp S W0 w
 hS : ∀ k, W0.heap.size <= k -> S k
 hg : S g
 L : Has w g 111 (eL x bv vv ev)
 ht : x.tab.length = 65
 b : w.ownsRow 0 3 1 bv x.bal.length (Ai x.bal)
 v : w.ownsRow 0 122 8 vv x.vals.length (A5 x.vals)
 e : w.ownsRow 0 125 4 ev x.ents.length (Bi x.ents)
 sb : ∀ k, bv.ownBlock = some k -> S k
 sv : ∀ k, vv.ownBlock = some k -> S k
 se : ∀ k, ev.ownBlock = some k -> S k
section
variable {S : Nat -> Prop} {W0 w w' : World} {g : Nat} {x x' : EC} {bv vv ev ev' : Value}
theorem PE.eta (h : PE S W0 w g x bv vv ev) (e1 : w'.heap = w.heap) (e2 : w'.os = w.os) (e3 : w'.tape = w.tape) (e4 : w'.output = w.output) : PE S W0 w' g x bv vv ev := by
 have ho : ∀ {base : Nat} {e : TypeId} {size : Nat} {v : Value} {n : Nat} {xs : List Value}, w.ownsRow base e size v n xs -> w'.ownsRow base e size v n xs := fun h => by unfold World.ownsRow at *; rw [e1]; exact h
 exact ⟨⟨e2.trans h.fr.os, e3.trans h.fr.tape, e4.trans h.fr.output, by rw [e1]; exact h.fr.size, fun k hk hs => by rw [e1]; exact h.fr.block k hk hs⟩, h.hS, h.hg, by unfold Has at *; rw [e1]; exact h.L, h.ht, ho h.b, ho h.v, ho h.e, h.sb, h.sv, h.se⟩
def Own (g : Nat) (bv vv ev : Value) (k : Nat) : Prop := k = g ∨ bv.ownBlock = some k ∨ vv.ownBlock = some k ∨ ev.ownBlock = some k
theorem PE.kp (h : PE S W0 w g x bv vv ev) (k : Kp S' w w') (hS' : ∀ b, b < w.heap.size -> Own g bv vv ev b -> ¬ S' b) (hSS : ∀ b, b < w.heap.size -> S' b -> S b) : PE S W0 w' g x bv vv ev :=
 ⟨h.fr.trans (k.mono hSS), h.hS, h.hg, h.L.kp k (hS' g h.L.lt (.inl rfl)), h.ht, Al h.b k (fun b hb => hS' b (h.b.lt b hb).2 (.inr (.inl hb))), Al h.v k (fun b hb => hS' b (h.v.lt b hb).2 (.inr (.inr (.inl hb)))), Al h.e k (fun b hb => hS' b (h.e.lt b hb).2 (.inr (.inr (.inr hb)))), h.sb, h.sv, h.se⟩
theorem PE.below (h : PE S W0 w g x bv vv ev) (k : Below w.heap.size w w') : PE S W0 w' g x bv vv ev :=
 h.kp (Kp.of_below k (fun _ => False)) (fun _ _ _ h => h) (fun _ _ h => h.elim)
theorem PE.drewN (h : PE S W0 w g x bv vv ev) (n : Nat) : PE S W0 (w.drewN n) g x bv vv ev := h.eta rfl rfl rfl rfl
theorem PE.drew (h : PE S W0 w g x bv vv ev) : PE S W0 w.drew g x bv vv ev := h.eta rfl rfl rfl rfl
theorem PE.alloc (h : PE S W0 w g x bv vv ev) (o : Obj) : PE S W0 (w.alloc o) g x bv vv ev := h.below ((Below.refl _ _).alloc (Nat.le_refl _) o)
theorem PE.rest (h : PE S W0 w g x bv vv ev) : PE (fun k => Own g bv vv ev k ∨ w.heap.size <= k) w w g x bv vv ev :=
 ⟨Kp.refl _ _, fun k hk => .inr hk, .inl (.inl rfl), h.L, h.ht, h.b, h.v, h.e, fun k hk => .inl (.inr (.inl hk)), fun k hk => .inl (.inr (.inr (.inl hk))), fun k hk => .inl (.inr (.inr (.inr hk)))⟩
theorem PE.rebase {W' : World} (h : PE S W0 w g x bv vv ev) (hf : Kp S' W' w) (hs : ∀ k, W'.heap.size <= k -> S' k) (ho : ∀ k, Own g bv vv ev k -> S' k) : PE S' W' w g x bv vv ev :=
 ⟨hf, hs, ho g (.inl rfl), h.L, h.ht, h.b, h.v, h.e, fun k hk => ho k (.inr (.inl hk)), fun k hk => ho k (.inr (.inr (.inl hk))), fun k hk => ho k (.inr (.inr (.inr hk)))⟩
theorem PE.own (h : PE S W0 w g x bv vv ev) : ∀ k, Own g bv vv ev k -> S k := by
 rintro k (rfl | hk | hk | hk)
 ·exact h.hg
 ·exact h.sb k hk
 ·exact h.sv k hk
 ·exact h.se k hk
theorem PE.ownlt (h : PE S W0 w g x bv vv ev) : ∀ k, Own g bv vv ev k -> k < w.heap.size := by
 rintro k (rfl | hk | hk | hk)
 ·exact h.L.lt
 ·exact (h.b.lt k hk).2
 ·exact (h.v.lt k hk).2
 ·exact (h.e.lt k hk).2
theorem PE.setHead (h : PE S W0 w g x bv vv ev) (i : Nat) (u : Value) (he : (eL x bv vv ev).set i u = eL x' bv vv ev) (hb : x'.bal = x.bal) (hv : x'.vals = x.vals) (hE : x'.ents = x.ents) (ht : x'.tab = x.tab) : PE S W0 (w.setCell ⟨g, i, none⟩ u) g x' bv vv ev :=
 ⟨h.fr.setCell h.hg _, h.hS, h.hg, by rw [<- he]; exact h.L.set i u, by rw [ht]; exact h.ht, by rw [hb]; exact Aa h.b _ _ (fun e => Has.apart h.L h.b (by decide) e.symm), by rw [hv]; exact Aa h.v _ _ (fun e => Has.apart h.L h.v (by decide) e.symm), by rw [hE]; exact Aa h.e _ _ (fun e => Has.apart h.L h.e (by decide) e.symm), h.sb, h.sv, h.se⟩
theorem PE.setTab (h : PE S W0 w g x bv vv ev) (j : Nat) (y : Int) (hj : j < 65) : PE S W0 (w.setCell ⟨g, 8 + j, none⟩ (.int .i64 y)) g { x with tab := x.tab.set j y } bv vv ev :=
 ⟨h.fr.setCell h.hg _, h.hS, h.hg, by rw [<- Ls x bv vv ev j y (by rw [h.ht]; exact hj)]; exact h.L.set _ _, by simp only [List.length_set]; exact h.ht, Aa h.b _ _ (fun e => Has.apart h.L h.b (by decide) e.symm), Aa h.v _ _ (fun e => Has.apart h.L h.v (by decide) e.symm), Aa h.e _ _ (fun e => Has.apart h.L h.e (by decide) e.symm), h.sb, h.sv, h.se⟩
theorem PE.setBal (h : PE S W0 w g x (.slice (some ⟨gb, 0, none⟩) n cap) vv ev) (hn : n = x.bal.length) (k : Nat) (y : Int) : PE S W0 (w.setCell ⟨gb, k, none⟩ (.int .i64 y)) g { x with bal := x.bal.set k y } (.slice (some ⟨gb, 0, none⟩) n cap) vv ev := by
 subst hn
 have hne : g ≠ gb := fun e => Has.apart h.L h.b (by decide) (by rw [e]; rfl)
 refine ⟨h.fr.setCell (h.sb gb rfl) _, h.hS, h.hg, h.L.other _ _ hne, h.ht, ?_, Aa h.v _ _ (Bd h.v h.b (by decide)), Aa h.e _ _ (Bd h.e h.b (by decide)), h.sb, h.sv, h.se⟩
 have := (h.b.stored k (.int .i64 y)).1
 rw [IN] at this
 simpa using this
theorem PE.setVal {gv : Nat} {vals' : List VS} (h : PE S W0 w g x bv (.slice (some ⟨gv, 0, none⟩) n cap) ev) (hn : n = x.vals.length) (i : Nat) (u : Value) (he : (A5 x.vals).set i u = A5 vals') (hl : vals'.length = x.vals.length) : PE S W0 (w.setCell ⟨gv, i, none⟩ u) g { x with vals := vals' } bv (.slice (some ⟨gv, 0, none⟩) n cap) ev := by
 subst hn
 have hne : g ≠ gv := fun e => Has.apart h.L h.v (by decide) (by rw [e]; rfl)
 refine ⟨h.fr.setCell (h.sv gv rfl) _, h.hS, h.hg, h.L.other _ _ hne, h.ht, Aa h.b _ _ (Bd h.b h.v (by decide)), ?_, Aa h.e _ _ (Bd h.e h.v (by decide)), h.sb, h.sv, h.se⟩
 have := (h.v.stored i u).1
 rw [he] at this
 simp only [hl]; exact this
theorem PE.setEv {ents' : List ES} (h : PE S W0 w g x bv vv ev) (he : w.ownsRow 0 125 4 ev' ents'.length (Bi ents')) (hs : ∀ k, ev'.ownBlock = some k -> S k) : PE S W0 (w.setCell ⟨g, 73, none⟩ ev') g { x with ents := ents' } bv vv ev' :=
 ⟨h.fr.setCell h.hg _, h.hS, h.hg, by
  have := h.L.set 73 ev'
  rw [Jt x bv vv ev ev' h.ht] at this
  exact this, h.ht, Aa h.b _ _ (fun e => Has.apart h.L h.b (by decide) e.symm), Aa h.v _ _ (fun e => Has.apart h.L h.v (by decide) e.symm), Aa he _ _ (fun e => Has.apart h.L he (by decide) e.symm), h.sb, h.sv, hs⟩
end
theorem O9 (l : List VS) (k : Nat) (hk : k < l.length) (i : Nat) (u : Value) (x : VS) (hx : l[k].cells.set i u = x.cells) (hi : i < 8) : (A5 l).set (k * 8 + i) u = A5 (l.set k x) := by
 induction l generalizing k with
 | nil => simp at hk
 | cons v l ih =>
  cases k with
  | zero =>
   simp only [List.getElem_cons_zero] at hx
   simp only [Nat.zero_mul, Nat.zero_add, A5, List.set_cons_zero]
   rw [List.set_append_left _ _ (by simpa [VS.cells] using hi), hx]
  | succ k =>
   simp only [List.getElem_cons_succ] at hx
   simp only [A5, List.set_cons_succ]
   rw [List.set_append_right _ _ (by simp [VS.cells]; omega)]
   have e : (k + 1) * 8 + i - v.cells.length = k * 8 + i := by simp [VS.cells]; omega
   rw [e, ih k (by simpa using hk) hx]
section
variable {S : Nat -> Prop} {W0 w w' : World} {g : Nat} {x x' : EC} {bv vv ev ev' : Value}
theorem PE.shAt (h : PE S W0 w g x bv vv ev) {k j : Nat} (hk : k < 6) (hj : j < 5) : w.cell? ⟨g, 8 + k * 5 + j, none⟩ = some (.int .i64 (x.sh k j)) := by
 have := (h.L.cell (8 + (k * 5 + j))).trans (LX _ _ _ _ _ (by rw [h.ht]; omega))
 rw [<- Nat.add_assoc] at this
 exact this
theorem PE.perAt (h : PE S W0 w g x bv vv ev) {j : Nat} (hj : j < 5) : w.cell? ⟨g, 38 + j, none⟩ = some (.int .i64 (x.per j)) := by
 have := (h.L.cell (8 + (30 + j))).trans (LX _ _ _ _ _ (by rw [h.ht]; omega))
 rw [<- Nat.add_assoc] at this
 exact this
theorem PE.uptoAt (h : PE S W0 w g x bv vv ev) {k j : Nat} (hk : k < 6) (hj : j < 5) : w.cell? ⟨g, 43 + k * 5 + j, none⟩ = some (.int .i64 (x.upto k j)) := by
 have := (h.L.cell (8 + (35 + (k * 5 + j)))).trans (LX _ _ _ _ _ (by rw [h.ht]; omega))
 rw [<- Nat.add_assoc, <- Nat.add_assoc] at this
 exact this
theorem PE.evAt (h : PE S W0 w g x bv vv ev) : w.cell? ⟨g, 73, none⟩ = some ev := (h.L.cell 73).trans (Pv _ _ _ _ h.ht)
theorem PE.balAt' (h : PE S W0 w g x (.slice (some ⟨gb, 0, none⟩) n cap) vv ev) {k : Nat} (hk : k < x.bal.length) : w.cell? ⟨gb, k, none⟩ = some (.int .i64 (x.balAt k)) := by
 obtain ⟨a, c, he⟩ := Ac h.b
 simp only [Value.slice.injEq] at he
 obtain ⟨rfl, rfl, rfl⟩ := he
 rw [h.b.cellAt k (by omega)]; simp [Ai, hk, EC.balAt]
theorem PE.val8 {a : Option Addr} (h : PE S W0 w g x bv (.slice a n cap) ev) (hn : n = x.vals.length) {k : Nat} (hk : k < x.vals.length) :
  ∃ gv, a = some ⟨gv, 0, none⟩ ∧ (∀ i, i < 8 -> w.cell? ⟨gv, k * 8 + i, none⟩ = x.vals[k].cells[i]?) ∧ (∀ j, w.frozen? ⟨gv, j, none⟩ = false) := by
 subst hn
 obtain ⟨gv, rfl, _⟩ := Ag h.v (by omega)
 exact ⟨gv, rfl, fun i hi => by rw [h.v.cellAt (k * 8 + i) (by omega), An x.vals k hk i hi], fun j => h.v.frozenAt j⟩
end
theorem Ga (g n k : Nat) (ba : Option Addr) (bc : Nat) (w : World) (c4 : w.cell? ⟨g, 4, none⟩ = some (.slice ba n bc)) (hk : k < n) (hl : n <= 1000) :
  Calls Tryz.prog 96 #[.pointer (some ⟨g, 0, none⟩), .int .i64 k] w fun e w' => e = .returned (.bool true) ∧ w = w' := by
 have h1 : (k : Int) < (n : Int) := by omega
 go_enter Tryz.func96, Tryz.ntmps96
 go_wp2
 go_ret
 exact ⟨rfl, rfl⟩
theorem BB (g n k : Nat) (ba : Option Addr) (bc : Nat) (w : World) (c7 : w.cell? ⟨g, 7, none⟩ = some (.slice ba n bc)) (hk : k < n) (hl : n <= 1000) :
  Calls Tryz.prog 144 #[.pointer (some ⟨g, 0, none⟩), .int .i64 k] w fun e w' => e = .returned (.bool true) ∧ w = w' := by
 have h1 : (k : Int) < (n : Int) := by omega
 go_enter Tryz.func144, Tryz.ntmps144
 go_wp2
 go_ret
 exact ⟨rfl, rfl⟩
def EC.due (x : EC) (k j : Nat) : Int := x.sh k j * (x.per j - x.upto k j) / 1073741824
def Ab (x : EC) (k : Nat) : EC := { x with bal := x.bal.set k (x.balAt k - x.fee), fees := x.fees + x.fee }
def AF (x : EC) (k j : Nat) : EC := { x with vals := x.vals.modify j (fun v => { v with outs := v.outs - x.due k j }), bal := x.bal.set k (x.balAt k + x.due k j), tab := x.tab.set (35 + (k * 5 + j)) (x.per j) }
theorem Bk (l : List VS) (k : Nat) (hk : k < l.length) (i : Nat) (u : Value) (f : VS -> VS) (hx : l[k].cells.set i u = (f l[k]).cells) (hi : i < 8) : (A5 l).set (k * 8 + i) u = A5 (l.modify k f) := by
 rw [O9 l k hk i u (f l[k]) hx hi]
 congr 1
 apply List.ext_getElem?
 intro m
 rw [List.getElem?_modify]
 by_cases e : k = m
 ·subst e; simp [hk]
 ·simp [e]
structure Eo (x : EC) (k j : Nat) : Prop where
 u0 : -1073741824000000 <= x.upto k j
 up : x.upto k j <= x.per j
 p1 : x.per j <= 4611686018427387904
 d0 : 0 <= x.sh k j * (x.per j - x.upto k j)
 d1 : x.sh k j * (x.per j - x.upto k j) <= 4611686018427387904
theorem Eo.due0 {x : EC} {k j : Nat} (h : Eo x k j) : 0 <= x.due k j := Int.ediv_nonneg h.d0 (by decide)
section
variable {S : Nat -> Prop} {W0 : World} (g : Nat) (x : EC) (bv vv ev : Value) (w : World) (h : PE S W0 w g x bv vv ev)
include h
theorem Hw (k : Nat) (hl : x.bal.length <= 1000) (hk : k < x.bal.length) (hx0 : x.fee <= x.balAt k) (hx1 : x.balAt k <= 1000000000) (hf0 : 0 <= x.fee) (hs0 : 0 <= x.fees) (hs1 : x.fees <= 1000000000) :
  Calls Tryz.prog 105 #[.pointer (some ⟨g, 0, none⟩), .int .i64 k] w fun e w' => e = .returned (.int .i64 0) ∧ PE S W0 w' g (Ab x k) bv vv ev := by
 obtain ⟨ba, bc, rfl⟩ := Ac h.b
 obtain ⟨gb, rfl, _⟩ := Ag h.b (by omega)
 have c4 : w.cell? ⟨g, 4, none⟩ = some (.slice (some ⟨gb, 0, none⟩) x.bal.length bc) := h.L.cell 4
 have c2 : w.cell? ⟨g, 2, none⟩ = some (.int .i64 x.fee) := h.L.cell 2
 have c5 : w.cell? ⟨g, 5, none⟩ = some (.int .i64 x.fees) := h.L.cell 5
 have f5 := h.L.frozen 5
 have hgne : g ≠ gb := fun e => Has.apart h.L h.b (by decide) (by rw [e]; rfl)
 have hgne' : gb ≠ g := fun e => hgne e.symm
 have cb := h.balAt' hk
 have fb := h.b.frozenAt k
 have HF : Hid (PE S W0 ((w.setCell ⟨gb, k, none⟩ (.int .i64 (x.balAt k - x.fee))).setCell ⟨g, 5, none⟩ (.int .i64 (x.fees + x.fee))) g (Ab x k) (.slice (some ⟨gb, 0, none⟩) x.bal.length bc) vv ev) :=
  (h.setBal rfl k (x.balAt k - x.fee)).setHead (x' := Ab x k) 5 (.int .i64 (x.fees + x.fee)) rfl rfl rfl rfl rfl
 clear h
 generalize x.balAt k = y at *
 go_enter Tryz.func105, Tryz.ntmps105
 go_wp2_with (go_at_call 96; refine (Ga g x.bal.length k _ _ _ c4 hk hl).mono ?_; rintro e w' ⟨rfl, rfl⟩)
 go_quiet (fail)
 go_wp2
 go_region
 go_wp2
 go_region
 go_wp2
 go_ret
 exact ⟨rfl, HF.out.eta rfl rfl rfl rfl⟩
theorem IU (k j : Nat) (hk : k < 6) (hj : j < 5) (u0 : -1073741824000000 <= x.upto k j) (up : x.upto k j <= x.per j) (p1 : x.per j <= 4611686018427387904) :
  Calls Tryz.prog 88 #[.pointer (some ⟨g, 0, none⟩), .int .i64 k, .int .i64 j] w fun e w' => e = .returned (.int .i64 (x.per j - x.upto k j)) ∧ w' = w.drew := by
 have c2 := h.perAt hj
 have c3 := h.uptoAt hk hj
 clear h
 generalize x.per j = p at *
 generalize x.upto k j = u at *
 go_enter Tryz.func88, Tryz.ntmps88
 go_wp2
 go_region
 go_wp2
 go_ret
 exact ⟨rfl, rfl⟩
theorem SA (k j : Nat) (hk : k < 6) (hj : j < 5) (hd : Eo x k j) :
  Calls Tryz.prog 98 #[.pointer (some ⟨g, 0, none⟩), .int .i64 k, .int .i64 j] w fun e w' => e = .returned (.int .i64 (x.due k j)) ∧ w' = w.drew := by
 have c1 := h.shAt hk hj
 have c2 := h.perAt hj
 have c3 := h.uptoAt hk hj
 obtain ⟨u0, up, p1, d0, d1⟩ := hd
 have HP : Hid (Calls Tryz.prog 88 #[.pointer (some ⟨g, 0, none⟩), .int .i64 k, .int .i64 j] w fun e w' => e = .returned (.int .i64 (x.per j - x.upto k j)) ∧ w' = w.drew) := IU g x _ _ _ w h k j hk hj u0 up p1
 have HD : Hid (x.due k j = x.sh k j * (x.per j - x.upto k j) / 1073741824) := rfl
 clear h
 generalize x.due k j = dd at *
 generalize x.sh k j = s at *
 generalize x.per j = p at *
 generalize x.upto k j = u at *
 go_enter Tryz.func98, Tryz.ntmps98
 go_wp2_with (go_at_call 88; refine HP.out.mono ?_; rintro e w' ⟨rfl, rfl⟩)
 go_wp2
 go_ret
 refine ⟨As ?_, rfl⟩
 exact HD.out.symm
end
section
variable {S : Nat -> Prop} {W0 : World} (g : Nat) (x : EC) (bv vv ev : Value) (w : World) (h : PE S W0 w g x bv vv ev)
include h
theorem Rp (k j : Nat) (hl : x.bal.length <= 6) (hk : k < x.bal.length) (hv : x.vals.length <= 5) (hj : j < x.vals.length) (hd : Eo x k j) (o0 : 0 <= x.vals[j].outs) (o1 : x.vals[j].outs <= 1000000000) (b0 : 0 <= x.balAt k) (b1 : x.balAt k <= 1000000000) :
  Calls Tryz.prog 116 #[.pointer (some ⟨g, 0, none⟩), .int .i64 k, .int .i64 j] w fun e w' => e = .returned (.tuple #[]) ∧ PE S W0 w' g (AF x k j) bv vv ev := by
 obtain ⟨ba, bc, rfl⟩ := Ac h.b
 obtain ⟨gb, rfl, _⟩ := Ag h.b (by omega)
 obtain ⟨va, vc, rfl⟩ := Ac h.v
 obtain ⟨gv, rfl, hcell, hfr⟩ := h.val8 rfl hj
 have c4 : w.cell? ⟨g, 4, none⟩ = some (.slice (some ⟨gb, 0, none⟩) x.bal.length bc) := h.L.cell 4
 have c7 : w.cell? ⟨g, 7, none⟩ = some (.slice (some ⟨gv, 0, none⟩) x.vals.length vc) := h.L.cell 7
 have cb := h.balAt' hk
 have fb := h.b.frozenAt k
 have y5 : w.cell? ⟨gv, j * 8 + 5, none⟩ = some (.int .i64 x.vals[j].outs) := hcell 5 (by omega)
 have fv := hfr (j * 8 + 5)
 have cp := h.perAt (j := j) (by omega)
 have cu := h.uptoAt (k := k) (j := j) (by omega) (by omega)
 have fu := h.L.frozen (43 + k * 5 + j)
 have n1 : g ≠ gb := fun e => Has.apart h.L h.b (by decide) (by rw [e]; rfl)
 have n2 : gb ≠ g := fun e => n1 e.symm
 have n3 : g ≠ gv := fun e => Has.apart h.L h.v (by decide) (by rw [e]; rfl)
 have n4 : gv ≠ g := fun e => n3 e.symm
 have n5 : gb ≠ gv := fun e => Bd h.b h.v (by decide) (by rw [<- e]; rfl)
 have n6 : gv ≠ gb := fun e => n5 e.symm
 have d0 := hd.due0
 have d1 : x.due k j <= 4294967296 := by
  have := hd.d1
  unfold EC.due; omega
 have HD : Hid (Calls Tryz.prog 98 #[.pointer (some ⟨g, 0, none⟩), .int .i64 k, .int .i64 j] w fun e w' => e = .returned (.int .i64 (x.due k j)) ∧ w' = w.drew) := SA g x _ _ _ w h k j (by omega) (by omega) hd
 have hP1 := h.setVal (vals' := x.vals.modify j (fun v => { v with outs := v.outs - x.due k j })) rfl (j * 8 + 5) (.int .i64 (x.vals[j].outs - x.due k j)) (Bk x.vals j hj 5 _ _ rfl (by omega)) (by simp)
 have hP2 := hP1.setBal rfl k (x.balAt k + x.due k j)
 have hP3 := hP2.setTab (35 + (k * 5 + j)) (x.per j) (by omega)
 rw [<- Nat.add_assoc, <- Nat.add_assoc] at hP3
 have HF : Hid (PE S W0 (((w.setCell ⟨gv, j * 8 + 5, none⟩ (.int .i64 (x.vals[j].outs - x.due k j))).setCell ⟨gb, k, none⟩ (.int .i64 (x.balAt k + x.due k j))).setCell ⟨g, 43 + k * 5 + j, none⟩ (.int .i64 (x.per j))) g (AF x k j) (.slice (some ⟨gb, 0, none⟩) x.bal.length bc) (.slice (some ⟨gv, 0, none⟩) x.vals.length vc) ev) := hP3
 clear h hP1 hP2 hP3 hcell hfr hd
 generalize x.due k j = d at *
 generalize x.balAt k = y at *
 generalize x.vals[j].outs = o at *
 generalize x.per j = p at *
 generalize x.upto k j = u at *
 go_enter Tryz.func116, Tryz.ntmps116
 go_wp2_with fail
 refine HD.out.mono ?_
 rintro e w' ⟨rfl, rfl⟩
 clear HD
 go_wp2
 go_region
 go_wp2
 go_end0
 exact ⟨rfl, HF.out.eta rfl rfl rfl rfl⟩
end
def Aw (v : VS) (amount : Int) : Int := if v.shares = 0 then amount else if v.tokens = 0 then 0 else amount * v.shares / v.tokens
def Af (v : VS) (shares : Int) : Int := if v.shares = 0 then 0 else shares * v.tokens / v.shares
def AX (v : VS) (amount : Int) : Int := if 0 < v.shares ∧ v.tokens = 0 then 7 else if Aw v amount < 1 then 8 else if 1000000 < v.shares + Aw v amount then 9 else 0
def VS.agg (v : VS) : Value := .agg #[.int .i64 v.owner, .int .i64 v.rate, .int .i64 v.tokens, .int .i64 v.shares, .int .i64 v.comm, .int .i64 v.outs, .bool v.jailed, .bool v.inset]
structure Dj (v : VS) : Prop where
 t0 : 0 <= v.tokens
 t1 : v.tokens <= 1000000
 s0 : 0 <= v.shares
 s1 : v.shares <= 1000000
theorem Ho {a b : Int} (a0 : 0 <= a) (a1 : a <= 1000000) (b0 : 0 <= b) (b1 : b <= 1000000) : 0 <= a * b ∧ a * b <= 1000000000000 := by
 have h1 := Int.mul_nonneg a0 b0
 have h2 := Int.mul_le_mul a1 b1 b0 (by omega)
 omega
theorem FF {v : VS} (hv : Dj v) {amount : Int} (a0 : 0 <= amount) (a1 : amount <= 1000000) : 0 <= Aw v amount ∧ Aw v amount <= 1000000000000 := by
 obtain ⟨h1, h2⟩ := Ho a0 a1 hv.s0 hv.s1
 have ht := hv.t0
 unfold Aw
 split
 ·omega
 ·split
  ·omega
  ·refine ⟨Int.ediv_nonneg h1 ht, ?_⟩
   have : amount * v.shares / v.tokens <= amount * v.shares := Int.ediv_le_self _ h1
   omega
theorem FD (v : VS) (amount : Int) (w : World) (hv : Dj v) (a0 : 0 <= amount) (a1 : amount <= 1000000) :
  Calls Tryz.prog 149 #[.agg #[.int .i64 v.owner, .int .i64 v.rate, .int .i64 v.tokens, .int .i64 v.shares, .int .i64 v.comm, .int .i64 v.outs, .bool v.jailed, .bool v.inset], .int .i64 amount] w fun e w' => e = .returned (.int .i64 (Aw v amount)) ∧ Below w.heap.size w w' := by
 have HB : Hid (∀ o, Below w.heap.size w (w.alloc o)) := fun o => (Below.refl _ _).alloc (Nat.le_refl _) o
 obtain ⟨h1, h2⟩ := Ho a0 a1 hv.s0 hv.s1
 obtain ⟨t0, t1, s0, s1⟩ := hv
 obtain ⟨R, hR⟩ : ∃ R, Aw v amount = R := ⟨_, rfl⟩
 rw [hR]
 unfold Aw at hR
 obtain ⟨vo, vr, vt, vs, vc, vou, vj, vi⟩ := v
 simp only at *
 by_cases e1 : vs = 0
 ·subst e1
  have HR : Hid (amount = R) := by rw [<- hR, if_pos rfl]; exact rfl
  clear hR
  go_enter Tryz.func149, Tryz.ntmps149
  go_wp2
  go_ret
  exact ⟨As HR.out, HB.out _⟩
 ·by_cases e2 : vt = 0
  ·subst e2
   have e3 : (vs == 0) = false := by simp [e1]
   have HR : Hid ((0 : Int) = R) := by rw [<- hR, if_neg e1, if_pos rfl]; exact rfl
   clear e1 hR
   go_enter Tryz.func149, Tryz.ntmps149
   go_wp2
   go_ret
   exact ⟨As HR.out, HB.out _⟩
  ·have e3 : (vs == 0) = false := by simp [e1]
   have e4 : (vt == 0) = false := by simp [e2]
   have e5 : 0 < vt := by omega
   have HR : Hid (amount * vs / vt = R) := by rw [<- hR, if_neg e1, if_neg e2]; exact rfl
   clear e1 e2 hR
   go_enter Tryz.func149, Tryz.ntmps149
   go_wp2
   go_ret
   exact ⟨As HR.out, HB.out _⟩
theorem Eg (v : VS) (amount : Int) (w : World) (hv : Dj v) (a0 : 0 <= amount) (a1 : amount <= 1000000) :
  Calls Tryz.prog 148 #[.agg #[.int .i64 v.owner, .int .i64 v.rate, .int .i64 v.tokens, .int .i64 v.shares, .int .i64 v.comm, .int .i64 v.outs, .bool v.jailed, .bool v.inset], .int .i64 amount] w fun e w' => e = .returned (.int .i64 (AX v amount)) ∧ Below w.heap.size w w' := by
 have HB : Hid (∀ o, Below w.heap.size w (w.alloc o)) := fun o => (Below.refl _ _).alloc (Nat.le_refl _) o
 have HS : Hid (∀ u, Calls Tryz.prog 149 #[.agg #[.int .i64 v.owner, .int .i64 v.rate, .int .i64 v.tokens, .int .i64 v.shares, .int .i64 v.comm, .int .i64 v.outs, .bool v.jailed, .bool v.inset], .int .i64 amount] u fun e w' => e = .returned (.int .i64 (Aw v amount)) ∧ Below u.heap.size u w') := fun u => FD v amount u hv a0 a1
 obtain ⟨b0, b1⟩ := FF hv a0 a1
 obtain ⟨t0, t1, s0, s1⟩ := hv
 obtain ⟨R, hR⟩ : ∃ R, AX v amount = R := ⟨_, rfl⟩
 rw [hR]
 unfold AX at hR
 generalize Aw v amount = b at *
 obtain ⟨vo, vr, vt, vs, vc, vou, vj, vi⟩ := v
 simp only at *
 have HX : Hid (Has (w.alloc (.cells #[.int .i64 vo, .int .i64 vr, .int .i64 vt, .int .i64 vs, .int .i64 vc, .int .i64 vou, .bool vj, .bool vi] 122)) w.heap.size 122 [.int .i64 vo, .int .i64 vr, .int .i64 vt, .int .i64 vs, .int .i64 vc, .int .i64 vou, .bool vj, .bool vi]) := Has.newA w _ _
 by_cases e1 : 0 < vs ∧ vt = 0
 ·have HR : Hid ((7 : Int) = R) := by rw [<- hR, if_pos e1]; exact rfl
  clear hR
  obtain ⟨e2, rfl⟩ := e1
  go_enter Tryz.func148, Tryz.ntmps148
  go_wp2
  go_ret
  exact ⟨As HR.out, HB.out _⟩
 ·rw [if_neg e1] at hR
  have HR0 := Hd hR
  clear hR
  have e3 : vs = 0 ∨ (vs > 0 ∧ (vt == 0) = false) := by
   by_cases h : vs = 0
   ·exact .inl h
   ·refine .inr ⟨by omega, ?_⟩
    simp; intro h2; exact e1 ⟨by omega, h2⟩
  clear e1
  have key : ∀ w2, Below (w.heap.size + 1) (w.alloc (.cells #[.int .i64 vo, .int .i64 vr, .int .i64 vt, .int .i64 vs, .int .i64 vc, .int .i64 vou, .bool vj, .bool vi] 122)) w2 -> w2.cell? ⟨w.heap.size, 3, none⟩ = some (.int .i64 vs) ∧ Below w.heap.size w w2 := by
   intro w2 hb2
   exact ⟨(HX.out.below hb2 (by omega)).cell 3, (HB.out _).trans (hb2.mono (by omega))⟩
  have HK : Hid _ := key
  clear key HX
  rcases e3 with rfl | ⟨e3, e4⟩
  ·go_enter Tryz.func148, Tryz.ntmps148
   go_wp2_with fail
   refine (HS.out _).mono ?_
   rintro e w2 ⟨rfl, hb2⟩
   rw [World.size_alloc] at hb2
   obtain ⟨y3, hF⟩ := HK.out w2 hb2
   have HF : Hid (Below w.heap.size w w2) := hF
   clear hb2 hF HK HS
   by_cases q1 : b < 1
   ·have HR : Hid ((8 : Int) = R) := by rw [<- HR0.out, if_pos q1]; exact rfl
    clear HR0
    go_wp2
    go_ret
    have := HR.out
    exact ⟨As this, HF.out⟩
   ·by_cases q2 : 1000000 < 0 + b
    ·have HR : Hid ((9 : Int) = R) := by rw [<- HR0.out, if_neg q1, if_pos q2]; exact rfl
     clear HR0
     go_wp2
     go_ret
     have := HR.out
     exact ⟨As this, HF.out⟩
    ·have HR : Hid ((0 : Int) = R) := by rw [<- HR0.out, if_neg q1, if_neg q2]; exact rfl
     clear HR0
     go_wp2
     go_ret
     have := HR.out
     exact ⟨As this, HF.out⟩
  ·go_enter Tryz.func148, Tryz.ntmps148
   go_wp2_with fail
   refine (HS.out _).mono ?_
   rintro e w2 ⟨rfl, hb2⟩
   rw [World.size_alloc] at hb2
   obtain ⟨y3, hF⟩ := HK.out w2 hb2
   have HF : Hid (Below w.heap.size w w2) := hF
   clear hb2 hF HK HS
   by_cases q1 : b < 1
   ·have HR : Hid ((8 : Int) = R) := by rw [<- HR0.out, if_pos q1]; exact rfl
    clear HR0
    go_wp2
    go_ret
    have := HR.out
    exact ⟨As this, HF.out⟩
   ·by_cases q2 : 1000000 < vs + b
    ·have HR : Hid ((9 : Int) = R) := by rw [<- HR0.out, if_neg q1, if_pos q2]; exact rfl
     clear HR0
     go_wp2
     go_ret
     have := HR.out
     exact ⟨As this, HF.out⟩
    ·have HR : Hid ((0 : Int) = R) := by rw [<- HR0.out, if_neg q1, if_neg q2]; exact rfl
     clear HR0
     go_wp2
     go_ret
     have := HR.out
     exact ⟨As this, HF.out⟩
section
variable {S : Nat -> Prop} {W0 : World} (g : Nat) (x : EC) (bv vv ev : Value) (w : World) (h : PE S W0 w g x bv vv ev)
include h
theorem Jq (k j : Nat) (hk : k < 6) (hv : x.vals.length <= 5) (hj : j < x.vals.length) (hs : 1 <= x.sh k j) :
  Calls Tryz.prog 97 #[.pointer (some ⟨g, 0, none⟩), .int .i64 k, .int .i64 j] w fun e w' => e = .returned (.int .i64 0) ∧ w = w' := by
 obtain ⟨va, vc, rfl⟩ := Ac h.v
 have c7 : w.cell? ⟨g, 7, none⟩ = some (.slice va x.vals.length vc) := h.L.cell 7
 have y := h.shAt hk (j := j) (by omega)
 clear h
 generalize x.sh k j = s at *
 go_enter Tryz.func97, Tryz.ntmps97
 go_wp2_with (go_at_call 144; refine (BB g x.vals.length j _ _ _ c7 hj (by omega)).mono ?_; rintro e w' ⟨rfl, rfl⟩)
 go_ret
 exact ⟨rfl, rfl⟩
theorem Sj (k j : Nat) (hl : x.bal.length <= 6) (hk : k < x.bal.length) (hv : x.vals.length <= 5) (hj : j < x.vals.length) (hs : 1 <= x.sh k j) (hd : Eo x k j) :
  Calls Tryz.prog 49 #[.pointer (some ⟨g, 0, none⟩), .int .i64 k, .int .i64 j] w fun e w' => e = .returned (.tuple #[.int .i64 (x.due k j), .int .i64 0]) ∧ w' = w.drew := by
 obtain ⟨ba, bc, rfl⟩ := Ac h.b
 have c4 : w.cell? ⟨g, 4, none⟩ = some (.slice ba x.bal.length bc) := h.L.cell 4
 have H1 : Hid (Calls Tryz.prog 97 #[.pointer (some ⟨g, 0, none⟩), .int .i64 k, .int .i64 j] w fun e w' => e = .returned (.int .i64 0) ∧ w = w') := Jq g x _ _ _ w h k j (by omega) hv hj hs
 have H2 : Hid (Calls Tryz.prog 98 #[.pointer (some ⟨g, 0, none⟩), .int .i64 k, .int .i64 j] w fun e w' => e = .returned (.int .i64 (x.due k j)) ∧ w' = w.drew) := SA g x _ _ _ w h k j (by omega) (by omega) hd
 clear h hd
 generalize x.due k j = d at *
 go_enter Tryz.func49, Tryz.ntmps49
 go_wp2_with (first | (go_at_call 96; refine (Ga g x.bal.length k _ _ _ c4 hk (by omega)).mono ?_; rintro e w' ⟨rfl, rfl⟩) | (go_at_call 97; refine H1.out.mono ?_; rintro e w' ⟨rfl, rfl⟩) | (go_at_call 98; refine H2.out.mono ?_; rintro e w' ⟨rfl, rfl⟩))
 go_ret2
 exact ⟨rfl, rfl⟩
end
section
variable {S : Nat -> Prop} {W0 : World} (g : Nat) (x : EC) (bv vv ev : Value) (w : World) (h : PE S W0 w g x bv vv ev)
include h
theorem Nr (k j : Nat) (hl : x.bal.length <= 6) (hk : k < x.bal.length) (hv : x.vals.length <= 5) (hj : j < x.vals.length) (hs : 1 <= x.sh k j) (hd : Eo x k j) (o0 : 0 <= x.vals[j].outs) (o1 : x.vals[j].outs <= 1000000000)
  (hx0 : x.fee <= x.balAt k) (hx1 : x.balAt k <= 1000000000) (hf0 : 0 <= x.fee) (hs0 : 0 <= x.fees) (hs1 : x.fees <= 1000000000) :
  Calls Tryz.prog 59 #[.pointer (some ⟨g, 0, none⟩), .int .i64 k, .int .i64 j] w fun e w' => e = .returned (.int .i64 0) ∧ PE S W0 w' g (AF (Ab x k) k j) bv vv ev := by
 have HCh : Hid (Calls Tryz.prog 105 #[.pointer (some ⟨g, 0, none⟩), .int .i64 k] w fun e w' => e = .returned (.int .i64 0) ∧ PE S W0 w' g (Ab x k) bv vv ev) := Hw g x bv vv ev w h k (by omega) hk hx0 hx1 hf0 hs0 hs1
 have e1 : (Ab x k).bal.length = x.bal.length := by simp [Ab]
 have e2 : (Ab x k).balAt k = x.balAt k - x.fee := by simp [Ab, EC.balAt, hk]
 have hd' : Eo (Ab x k) k j := ⟨hd.u0, hd.up, hd.p1, hd.d0, hd.d1⟩
 have H1 : Hid (∀ w, PE S W0 w g (Ab x k) bv vv ev -> Calls Tryz.prog 97 #[.pointer (some ⟨g, 0, none⟩), .int .i64 k, .int .i64 j] w fun e w' => e = .returned (.int .i64 0) ∧ w = w') := fun w h => Jq g (Ab x k) _ _ _ w h k j (by omega) hv hj hs
 have H2 : Hid (∀ w, PE S W0 w g (Ab x k) bv vv ev -> Calls Tryz.prog 116 #[.pointer (some ⟨g, 0, none⟩), .int .i64 k, .int .i64 j] w fun e w' => e = .returned (.tuple #[]) ∧ PE S W0 w' g (AF (Ab x k) k j) bv vv ev) := fun w h => Rp g (Ab x k) _ _ _ w h k j (by omega) (by omega) hv hj hd' o0 o1 (by rw [e2]; omega) (by rw [e2]; omega)
 clear h hd hd' e1 e2
 go_enter Tryz.func59, Tryz.ntmps59
 go_wp2_with fail
 refine HCh.out.mono ?_
 rintro e w1 ⟨rfl, hP1⟩
 have HP1 := Hd hP1
 clear HCh hP1
 go_wp2_with fail
 refine (H1.out _ HP1.out).mono ?_
 rintro e w2 ⟨rfl, rfl⟩
 go_wp2_with fail
 refine (H2.out _ HP1.out).mono ?_
 rintro e w2 ⟨rfl, hP2⟩
 have HP2 := Hd hP2
 clear hP2 HP1 H1 H2
 go_wp2
 go_ret
 exact ⟨rfl, HP2.out⟩
end
def EC.val (x : EC) (j : Nat) : VS := x.vals.getD j ⟨0, 0, 0, 0, 0, 0, false, false⟩
theorem EC.val_eq (x : EC) {j : Nat} (hj : j < x.vals.length) : x.vals[j] = x.val j := by simp [EC.val, hj]
def AV (x : EC) (k j : Nat) (t : Int) : EC :=
 { AF x k j with
  vals := ((AF x k j).vals.modify j (fun v => { v with tokens := v.tokens + t })).modify j (fun v => { v with shares := v.shares + Aw (x.val j) t }),
  tab := (AF x k j).tab.set (k * 5 + j) (x.sh k j + Aw (x.val j) t) }
def J6 (x : EC) (k j : Nat) (t : Int) : EC := AV { Ab x k with bal := x.bal.set k (x.balAt k - x.fee - t) } k j t
section
variable {S : Nat -> Prop} {W0 : World} (g : Nat) (x : EC) (bv vv ev : Value) (w : World) (h : PE S W0 w g x bv vv ev)
include h
theorem L1 (k j : Nat) (amount : Int) (hl : x.bal.length <= 1000) (hk : k < x.bal.length) (hv : x.vals.length <= 1000) (hj : j < x.vals.length) (hV : Dj (x.val j)) (h1 : 1 <= amount) (h2 : amount <= 1000000) (h3 : amount <= x.balAt k) (h4 : AX (x.val j) amount = 0) :
  Calls Tryz.prog 110 #[.pointer (some ⟨g, 0, none⟩), .int .i64 k, .int .i64 j, .int .i64 amount] w fun e w' => e = .returned (.int .i64 0) ∧ Below w.heap.size w w' := by
 obtain ⟨ba, bc, rfl⟩ := Ac h.b
 obtain ⟨gb, rfl, _⟩ := Ag h.b (by omega)
 obtain ⟨va, vc, rfl⟩ := Ac h.v
 obtain ⟨gv, rfl, hcell, hfr⟩ := h.val8 rfl hj
 have c4 : w.cell? ⟨g, 4, none⟩ = some (.slice (some ⟨gb, 0, none⟩) x.bal.length bc) := h.L.cell 4
 have c7 : w.cell? ⟨g, 7, none⟩ = some (.slice (some ⟨gv, 0, none⟩) x.vals.length vc) := h.L.cell 7
 have cb := h.balAt' hk
 have y0 := hcell 0 (by omega)
 have y1 := hcell 1 (by omega)
 have y2 := hcell 2 (by omega)
 have y3 := hcell 3 (by omega)
 have y4 := hcell 4 (by omega)
 have y5 := hcell 5 (by omega)
 have y6 := hcell 6 (by omega)
 have y7 := hcell 7 (by omega)
 rw [x.val_eq hj] at y0 y1 y2 y3 y4 y5 y6 y7
 have HJ : Hid (∀ u, Calls Tryz.prog 148 #[.agg #[.int .i64 (x.val j).owner, .int .i64 (x.val j).rate, .int .i64 (x.val j).tokens, .int .i64 (x.val j).shares, .int .i64 (x.val j).comm, .int .i64 (x.val j).outs, .bool (x.val j).jailed, .bool (x.val j).inset], .int .i64 amount] u fun e w' => e = .returned (.int .i64 0) ∧ Below u.heap.size u w') := fun u => by
  have := Eg (x.val j) amount u hV (by omega) h2
  rw [h4] at this
  exact this
 clear h hcell hfr h4 hV
 generalize x.val j = v at *
 generalize x.balAt k = y at *
 obtain ⟨vo, vr, vt, vs, vcm, vou, vj, vi⟩ := v
 simp only [VS.cells, List.getElem?_cons_succ, List.getElem?_cons_zero, Nat.add_zero] at y0 y1 y2 y3 y4 y5 y6 y7
 go_enter Tryz.func110, Tryz.ntmps110
 go_wp2_with (first | (go_at_call 144; refine (BB g x.vals.length j _ _ _ c7 hj hv).mono ?_; rintro e w' ⟨rfl, rfl⟩) | fail)
 refine (HJ.out _).mono ?_
 rintro e w2 ⟨rfl, hb2⟩
 have HF : Hid (Below w.heap.size w w2) := hb2
 clear hb2 HJ
 go_wp2
 go_ret
 exact ⟨rfl, HF.out⟩
end
theorem Ky (x : EC) (k j : Nat) : (AF x k j).val j = { x.val j with outs := (x.val j).outs - x.due k j } ∨ x.vals.length <= j := by
 by_cases hj : j < x.vals.length
 ·left
  simp [AF, EC.val, hj, List.getD]
 ·right; omega
theorem JW (x : EC) (k j : Nat) (hj : j < 5) (hk : k < 6) : (AF x k j).sh k j = x.sh k j := by
 simp only [AF, EC.sh, List.getD]
 rw [List.getElem?_set_ne (by omega)]
theorem Rg (g : Nat) (x : EC) (bv vv ev : Value) (w : World) (h : PE S W0 w g x bv vv ev) (k j : Nat) (amount : Int) (hl : x.bal.length <= 6) (hk : k < x.bal.length) (hv : x.vals.length <= 5) (hj : j < x.vals.length) (hV : Dj (x.val j)) (hd : Eo x k j) (o0 : 0 <= (x.val j).outs) (o1 : (x.val j).outs <= 1000000000) (b0 : 0 <= x.balAt k) (b1 : x.balAt k <= 1000000000) (s0 : 0 <= x.sh k j) (s1 : x.sh k j <= 1000000) (h1 : 1 <= amount) (h2 : amount <= 1000000) :
  Calls Tryz.prog 111 #[.pointer (some ⟨g, 0, none⟩), .int .i64 k, .int .i64 j, .int .i64 amount] w fun e w' => e = .returned (.tuple #[]) ∧ PE S W0 w' g (AV x k j amount) bv vv ev := by
 have HPay : Hid (Calls Tryz.prog 116 #[.pointer (some ⟨g, 0, none⟩), .int .i64 k, .int .i64 j] w fun e w' => e = .returned (.tuple #[]) ∧ PE S W0 w' g (AF x k j) bv vv ev) := Rp g x bv vv ev w h k j hl hk hv hj hd (by rw [x.val_eq hj]; exact o0) (by rw [x.val_eq hj]; exact o1) b0 b1
 have e1 := (Ky x k j).resolve_right (by omega)
 have e2 := JW x k j (by omega) (by omega)
 have e3 : (AF x k j).vals.length = x.vals.length := by simp [AF]
 have hq : Aw ((AF x k j).val j) amount = Aw (x.val j) amount := by rw [e1]; rfl
 have hV1 : Dj ((AF x k j).val j) := by rw [e1]; exact ⟨hV.t0, hV.t1, hV.s0, hV.s1⟩
 obtain ⟨q0, q1⟩ := FF hV (show 0 <= amount by omega) h2
 have HJ : Hid (AV x k j amount = { AF x k j with
  vals := ((AF x k j).vals.modify j (fun v => { v with tokens := v.tokens + amount })).modify j (fun v => { v with shares := v.shares + Aw (x.val j) amount }),
  tab := (AF x k j).tab.set (k * 5 + j) (x.sh k j + Aw (x.val j) amount) }) := rfl
 clear h hd o0 o1 b0 b1 e1 hV
 generalize AV x k j amount = xF at *
 generalize AF x k j = x1 at *
 rw [<- hq] at q0 q1 HJ
 rw [<- e2] at s0 s1 HJ
 clear hq e2
 obtain ⟨t0, t1, u0, u1⟩ := id hV1
 go_enter Tryz.func111, Tryz.ntmps111
 go_wp2_with fail
 refine HPay.out.mono ?_
 rintro e w1 ⟨rfl, hP⟩
 clear HPay
 obtain ⟨va, vc, rfl⟩ := Ac hP.v
 have hj1 : j < x1.vals.length := by omega
 obtain ⟨gv, rfl, hcell, hfr⟩ := hP.val8 rfl hj1
 have c7 : w1.cell? ⟨g, 7, none⟩ = some (.slice (some ⟨gv, 0, none⟩) x1.vals.length vc) := hP.L.cell 7
 have y0 := hcell 0 (by omega)
 have y1 := hcell 1 (by omega)
 have y2 := hcell 2 (by omega)
 have y3 := hcell 3 (by omega)
 have y4 := hcell 4 (by omega)
 have y5 := hcell 5 (by omega)
 have y6 := hcell 6 (by omega)
 have y7 := hcell 7 (by omega)
 rw [x1.val_eq hj1] at y0 y1 y2 y3 y4 y5 y6 y7
 simp only [VS.cells, List.getElem?_cons_succ, List.getElem?_cons_zero, Nat.add_zero] at y0 y1 y2 y3 y4 y5 y6 y7
 have HS : Hid (∀ u, Calls Tryz.prog 149 #[.agg #[.int .i64 (x1.val j).owner, .int .i64 (x1.val j).rate, .int .i64 (x1.val j).tokens, .int .i64 (x1.val j).shares, .int .i64 (x1.val j).comm, .int .i64 (x1.val j).outs, .bool (x1.val j).jailed, .bool (x1.val j).inset], .int .i64 amount] u fun e w' => e = .returned (.int .i64 (Aw (x1.val j) amount)) ∧ Below u.heap.size u w') := fun u => FD (x1.val j) amount u hV1 (by omega) h2
 have HP := Hd hP
 have HV : Hid (x1.vals[j] = x1.val j) := x1.val_eq hj1
 clear hP hcell hfr hV1
 generalize Aw (x1.val j) amount = b at *
 generalize x1.val j = v at *
 go_wp2_with fail
 refine (HS.out _).mono ?_
 rintro e w2 ⟨rfl, hb2⟩
 have hP := HP.out.below hb2
 clear HP HS hb2 y0 y1 y2 y3 y4 y5 y6 y7 c7
 obtain ⟨gv', he, hcell, hfr⟩ := hP.val8 rfl hj1
 simp only [Option.some.injEq, Addr.mk.injEq, and_true] at he
 subst he
 have c7 : w2.cell? ⟨g, 7, none⟩ = some (.slice (some ⟨gv, 0, none⟩) x1.vals.length vc) := hP.L.cell 7
 have hgne : g ≠ gv := fun e => Has.apart hP.L hP.v (by decide) (by rw [e]; rfl)
 have hgne' : gv ≠ g := fun e => hgne e.symm
 have y2 := hcell 2 (by omega)
 have y3 := hcell 3 (by omega)
 have f2 := hfr (j * 8 + 2)
 have f3 := hfr (j * 8 + 3)
 rw [HV.out] at y2 y3
 simp only [VS.cells, List.getElem?_cons_succ, List.getElem?_cons_zero] at y2 y3
 have hkj : k * 5 + j < 65 := by omega
 have sc := hP.shAt (k := k) (j := j) (by omega) (by omega)
 have fs := hP.L.frozen (8 + k * 5 + j)
 have hP2 := hP.setVal rfl (j * 8 + 2) (.int .i64 (v.tokens + amount)) (vals' := x1.vals.modify j (fun v => { v with tokens := v.tokens + amount })) (Bk x1.vals j hj1 2 _ _ (by rw [HV.out]; rfl) (by omega)) (by simp)
 have hj2 : j < (x1.vals.modify j (fun v => { v with tokens := v.tokens + amount })).length := by simpa using hj1
 have hP3 := hP2.setVal (by simp) (j * 8 + 3) (.int .i64 (v.shares + b)) (vals' := (x1.vals.modify j (fun v => { v with tokens := v.tokens + amount })).modify j (fun v => { v with shares := v.shares + b })) (Bk _ j hj2 3 _ _ (by simp [HV.out, VS.cells]) (by omega)) (by simp)
 have hP4 := hP3.setTab (k * 5 + j) (x1.sh k j + b) hkj
 rw [<- Nat.add_assoc] at hP4
 have HF : Hid (PE S W0 (((w2.setCell ⟨gv, j * 8 + 2, none⟩ (.int .i64 (v.tokens + amount))).setCell ⟨gv, j * 8 + 3, none⟩ (.int .i64 (v.shares + b))).setCell ⟨g, 8 + k * 5 + j, none⟩ (.int .i64 (x1.sh k j + b))) g xF bv (.slice (some ⟨gv, 0, none⟩) x1.vals.length vc) ev) := by
  rw [HJ.out]; exact hP4
 clear hP hP2 hP3 hP4 hcell hfr HV HJ hj2
 generalize x1.sh k j = s at *
 go_wp2
 go_region
 go_wp2
 go_end0
 exact ⟨rfl, HF.out.eta rfl rfl rfl rfl⟩
theorem Sh (g : Nat) (x : EC) (bv vv ev : Value) (w : World) (h : PE S W0 w g x bv vv ev) (k j : Nat) (amount : Int) (hl : x.bal.length <= 6) (hk : k < x.bal.length) (hv : x.vals.length <= 5) (hj : j < x.vals.length) (hV : Dj (x.val j)) (hd : Eo x k j) (o0 : 0 <= (x.val j).outs) (o1 : (x.val j).outs <= 1000000000) (s0 : 0 <= x.sh k j) (s1 : x.sh k j <= 1000000) (h1 : 1 <= amount) (h2 : amount <= 1000000) (h3 : amount + x.fee <= x.balAt k)
  (hx1 : x.balAt k <= 1000000000) (hf0 : 0 <= x.fee) (hs0 : 0 <= x.fees) (hs1 : x.fees <= 1000000000) (h4 : AX (x.val j) amount = 0) :
  Calls Tryz.prog 56 #[.pointer (some ⟨g, 0, none⟩), .int .i64 k, .int .i64 j, .int .i64 amount] w fun e w' => e = .returned (.int .i64 0) ∧ PE S W0 w' g (J6 x k j amount) bv vv ev := by
 have HCh : Hid (Calls Tryz.prog 105 #[.pointer (some ⟨g, 0, none⟩), .int .i64 k] w fun e w' => e = .returned (.int .i64 0) ∧ PE S W0 w' g (Ab x k) bv vv ev) := Hw g x bv vv ev w h k (by omega) hk (by omega) hx1 hf0 hs0 hs1
 have e1 : (Ab x k).bal.length = x.bal.length := by simp [Ab]
 have e2 : (Ab x k).balAt k = x.balAt k - x.fee := by simp [Ab, EC.balAt, hk]
 have e4 : ({ Ab x k with bal := x.bal.set k (x.balAt k - x.fee - amount) } : EC).balAt k = x.balAt k - x.fee - amount := by simp [EC.balAt, hk]
 have H1 : Hid (∀ w, PE S W0 w g (Ab x k) bv vv ev -> Calls Tryz.prog 110 #[.pointer (some ⟨g, 0, none⟩), .int .i64 k, .int .i64 j, .int .i64 amount] w fun e w' => e = .returned (.int .i64 0) ∧ Below w.heap.size w w') := fun w h => L1 g (Ab x k) _ _ _ w h k j amount (by omega) (by omega) (by simp only [Ab]; omega) hj hV h1 h2 (by rw [e2]; omega) h4
 have H2 : Hid (∀ bv w, PE S W0 w g { Ab x k with bal := x.bal.set k (x.balAt k - x.fee - amount) } bv vv ev -> Calls Tryz.prog 111 #[.pointer (some ⟨g, 0, none⟩), .int .i64 k, .int .i64 j, .int .i64 amount] w fun e w' => e = .returned (.tuple #[]) ∧ PE S W0 w' g (J6 x k j amount) bv vv ev) := fun bv w h => Rg g _ _ _ _ w h k j amount (by simp; omega) (by simp; omega) hv hj hV ⟨hd.u0, hd.up, hd.p1, hd.d0, hd.d1⟩ o0 o1 (by rw [e4]; omega) (by rw [e4]; omega) s0 s1 h1 h2
 clear h hd hV o0 o1 s0 s1 h4 e4
 have HA : Hid (x.balAt k - x.fee = (Ab x k).balAt k ∧ (Ab x k).bal.set k (x.balAt k - x.fee - amount) = x.bal.set k (x.balAt k - x.fee - amount)) := ⟨e2.symm, by simp [Ab]⟩
 go_enter Tryz.func56, Tryz.ntmps56
 go_wp2_with fail
 refine HCh.out.mono ?_
 rintro e w1 ⟨rfl, hP1⟩
 have HP1 := Hd hP1
 clear HCh hP1 e2
 go_wp2_with fail
 refine (H1.out _ HP1.out).mono ?_
 rintro e w2 ⟨rfl, hb2⟩
 have hP2 := HP1.out.below hb2
 clear HP1 hb2 H1
 obtain ⟨ba, bc, rfl⟩ := Ac hP2.b
 obtain ⟨gb, rfl, _⟩ := Ag hP2.b (by omega)
 have c4 : w2.cell? ⟨g, 4, none⟩ = some (.slice (some ⟨gb, 0, none⟩) (Ab x k).bal.length bc) := hP2.L.cell 4
 have cb := hP2.balAt' (k := k) (by omega)
 rw [<- HA.out.1] at cb
 have fb := hP2.b.frozenAt k
 have hP3 := hP2.setBal rfl k (x.balAt k - x.fee - amount)
 rw [HA.out.2] at hP3
 have HP3 := Hd hP3
 have hk1 : k < (Ab x k).bal.length := by omega
 have hl1 : (Ab x k).bal.length <= 6 := by omega
 clear hP2 hP3 HA e1
 go_wp2_with fail
 refine (H2.out _ _ HP3.out).mono ?_
 rintro e w3 ⟨rfl, hP4⟩
 have HF : Hid (PE S W0 w3 g (J6 x k j amount) (.slice (some ⟨gb, 0, none⟩) (Ab x k).bal.length bc) vv ev) := hP4
 clear hP4 HP3 H2
 go_wp2
 go_ret
 exact ⟨rfl, HF.out⟩
theorem FC (v : VS) (n : Int) (w : World) (hv : Dj v) (a0 : 0 <= n) (a1 : n <= 1000000) :
  Calls Tryz.prog 150 #[.agg #[.int .i64 v.owner, .int .i64 v.rate, .int .i64 v.tokens, .int .i64 v.shares, .int .i64 v.comm, .int .i64 v.outs, .bool v.jailed, .bool v.inset], .int .i64 n] w fun e w' => e = .returned (.int .i64 (Af v n)) ∧ Below w.heap.size w w' := by
 have HB : Hid (∀ o, Below w.heap.size w (w.alloc o)) := fun o => (Below.refl _ _).alloc (Nat.le_refl _) o
 obtain ⟨h1, h2⟩ := Ho a0 a1 hv.t0 hv.t1
 obtain ⟨t0, t1, s0, s1⟩ := hv
 obtain ⟨R, hR⟩ : ∃ R, Af v n = R := ⟨_, rfl⟩
 rw [hR]
 unfold Af at hR
 obtain ⟨vo, vr, vt, vs, vc, vou, vj, vi⟩ := v
 simp only at *
 by_cases e1 : vs = 0
 ·subst e1
  have HR : Hid ((0 : Int) = R) := by rw [<- hR, if_pos rfl]; exact rfl
  clear hR
  go_enter Tryz.func150, Tryz.ntmps150
  go_wp2
  go_ret
  exact ⟨As HR.out, HB.out _⟩
 ·have e3 : (vs == 0) = false := by simp [e1]
  have e5 : 0 < vs := by omega
  have HR : Hid (n * vt / vs = R) := by rw [<- hR, if_neg e1]; exact rfl
  clear e1 hR
  go_enter Tryz.func150, Tryz.ntmps150
  go_wp2
  go_ret
  exact ⟨As HR.out, HB.out _⟩
end Go.Proofs.YtohjjgefklhmaaaGreatDoor
