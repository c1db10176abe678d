import Derived.Test.YtenjjneobkodbaaKBase
namespace Go.Proofs.Ytenjjneobkodbaa
open Go.ChangeShapes Go.WideShapes Go.ChangeAt Go.RowKit
set_option linter.unusedVariables false

/-- the cells of an engine -/
def eL (c : LC) (bv vv : Value) (sh : List Int) (ev : Value) : List Value := [.int .i64 c.top, .int .i64 c.mature, .int .i64 c.fee, .int .i64 c.height, bv, .int .i64 c.fees, .int .i64 c.pool, vv] ++ (ints sh ++ [ev])
theorem eL_sh (c : LC) (bv vv : Value) (sh : List Int) (ev : Value) (j : Nat) (h : j < sh.length) : (eL c bv vv sh ev)[8 + j]? = some (.int .i64 (sh.getD j 0)) := by
  unfold eL
  rw [List.getElem?_append_right (by simp), show 8 + j - ([.int .i64 c.top, .int .i64 c.mature, .int .i64 c.fee, .int .i64 c.height, bv, .int .i64 c.fees, .int .i64 c.pool, vv] : List Value).length = j by simp, List.getElem?_append_left (by simpa [ints] using h)]
  simp [ints, h]
theorem eL_set_sh (c : LC) (bv vv : Value) (sh : List Int) (ev : Value) (j : Nat) (y : Int) (h : j < sh.length) : (eL c bv vv sh ev).set (8 + j) (.int .i64 y) = eL c bv vv (sh.set j y) ev := by
  unfold eL
  rw [List.set_append_right _ _ (by simp), show 8 + j - ([.int .i64 c.top, .int .i64 c.mature, .int .i64 c.fee, .int .i64 c.height, bv, .int .i64 c.fees, .int .i64 c.pool, vv] : List Value).length = j by simp, List.set_append_left _ _ (by simpa [ints] using h), ints_set]
theorem eL_ev (c : LC) (bv vv : Value) (sh : List Int) (ev : Value) (h : sh.length = 30) : (eL c bv vv sh ev)[38]? = some ev := by
  unfold eL
  rw [List.getElem?_append_right (by simp), List.getElem?_append_right (by simp [ints, h])]
  simp [ints, h]
theorem eL_set_ev (c : LC) (bv vv : Value) (sh : List Int) (ev e' : Value) (h : sh.length = 30) : (eL c bv vv sh ev).set 38 e' = eL c bv vv sh e' := by
  unfold eL
  rw [List.set_append_right _ _ (by simp), List.set_append_right _ _ (by simp [ints, h])]
  simp [ints, h]

/-- an engine of the program in memory -/
structure PE (B0 : Nat) (W0 : World) (w : World) (g : Nat) (c : LC) (sh : List Int) (bv vv ev : Value) (vals : List VS) (ents : List ES) : Prop where
  fr : Below B0 W0 w
  hg : B0 ≤ g
  L : Has w g 52 (eL c bv vv sh ev)
  hs : sh.length = 30
  b : w.ownsRow B0 3 1 bv c.bal.length (ints c.bal)
  v : w.ownsRow B0 37 8 vv vals.length (vrow vals)
  e : w.ownsRow B0 35 4 ev ents.length (erow ents)

theorem PE.hsz {B0 : Nat} {W0 : World} {w : World} {g : Nat} {c : LC} {sh : List Int} {bv vv ev : Value} {vals : List VS} {ents : List ES} (h : PE B0 W0 w g c sh bv vv ev vals ents) : B0 ≤ w.heap.size := Nat.le_trans h.hg (Nat.le_of_lt h.L.lt)
theorem PE.eta {B0 : Nat} {W0 : World} {w w' : World} {g : Nat} {c : LC} {sh : List Int} {bv vv ev : Value} {vals : List VS} {ents : List ES} (h : PE B0 W0 w g c sh bv vv ev vals ents) (e1 : w'.heap = w.heap) (e2 : w'.os = w.os) (e3 : w'.tape = w.tape) (e4 : w'.output = w.output) : PE B0 W0 w' g c sh bv vv ev vals ents := by
  have ho : ∀ {base : Nat} {e : TypeId} {size : Nat} {v : Value} {n : Nat} {xs : List Value}, w.ownsRow base e size v n xs → w'.ownsRow base e size v n xs := fun h => by unfold World.ownsRow at *; rw [e1]; exact h
  exact ⟨⟨e2.trans h.fr.os, e3.trans h.fr.tape, e4.trans h.fr.output, by rw [e1]; exact h.fr.size, fun k hk => by rw [e1]; exact h.fr.block k hk⟩, h.hg, by unfold Has at *; rw [e1]; exact h.L, h.hs, ho h.b, ho h.v, ho h.e⟩
theorem PE.kp {B0 : Nat} {W0 : World} {S : Nat → Prop} {w w' : World} {g : Nat} {c : LC} {sh : List Int} {bv vv ev : Value} {vals : List VS} {ents : List ES} (h : PE B0 W0 w g c sh bv vv ev vals ents) (k : Kp S w w') (hS : ∀ b, b < w.heap.size → ¬ S b) : PE B0 W0 w' g c sh bv vv ev vals ents :=
  ⟨h.fr.trans (k.toBelow h.hsz (fun b hb => hS b (Nat.lt_of_lt_of_le hb h.hsz))), h.hg, h.L.kp k (hS g h.L.lt), h.hs, ownsRow_kp h.b k (fun b hb => hS b (h.b.lt b hb).2), ownsRow_kp h.v k (fun b hb => hS b (h.v.lt b hb).2), ownsRow_kp h.e k (fun b hb => hS b (h.e.lt b hb).2)⟩
theorem PE.below {B0 : Nat} {W0 : World} {w w' : World} {g : Nat} {c : LC} {sh : List Int} {bv vv ev : Value} {vals : List VS} {ents : List ES} (h : PE B0 W0 w g c sh bv vv ev vals ents) (k : Below w.heap.size w w') : PE B0 W0 w' g c sh bv vv ev vals ents :=
  h.kp (Kp.of_below k (fun _ => False)) (fun _ _ h => h)
theorem PE.drewN {B0 : Nat} {W0 : World} {w : World} {g : Nat} {c : LC} {sh : List Int} {bv vv ev : Value} {vals : List VS} {ents : List ES} (h : PE B0 W0 w g c sh bv vv ev vals ents) (n : Nat) : PE B0 W0 (w.drewN n) g c sh bv vv ev vals ents := ⟨below_drewN h.fr n, h.hg, h.L, h.hs, h.b, h.v, h.e⟩
/-- a number of the struct's head is written -/
theorem PE.setHead {B0 : Nat} {W0 : World} {w : World} {g : Nat} {c c' : LC} {sh : List Int} {bv vv ev : Value} {vals : List VS} {ents : List ES} (h : PE B0 W0 w g c sh bv vv ev vals ents) (i : Nat) (u : Value) (he : (eL c bv vv sh ev).set i u = eL c' bv vv sh ev) (hb : c'.bal = c.bal) : PE B0 W0 (w.setCell ⟨g, i, none⟩ u) g c' sh bv vv ev vals ents :=
  ⟨h.fr.setCell h.hg _, h.hg, by rw [← he]; exact h.L.set i u, h.hs, by rw [hb]; exact ownsRow_setCell h.b _ _ (fun e => Has.apart h.L h.b (by decide) e.symm), ownsRow_setCell h.v _ _ (fun e => Has.apart h.L h.v (by decide) e.symm), ownsRow_setCell h.e _ _ (fun e => Has.apart h.L h.e (by decide) e.symm)⟩
theorem PE.setSh {B0 : Nat} {W0 : World} {w : World} {g : Nat} {c : LC} {sh : List Int} {bv vv ev : Value} {vals : List VS} {ents : List ES} (h : PE B0 W0 w g c sh bv vv ev vals ents) (j : Nat) (y : Int) (hj : j < 30) : PE B0 W0 (w.setCell ⟨g, 8 + j, none⟩ (.int .i64 y)) g c (sh.set j y) bv vv ev vals ents :=
  ⟨h.fr.setCell h.hg _, h.hg, by rw [← eL_set_sh c bv vv sh ev j y (by rw [h.hs]; exact hj)]; exact h.L.set _ _, by rw [List.length_set]; exact h.hs, ownsRow_setCell h.b _ _ (fun e => Has.apart h.L h.b (by decide) e.symm), ownsRow_setCell h.v _ _ (fun e => Has.apart h.L h.v (by decide) e.symm), ownsRow_setCell h.e _ _ (fun e => Has.apart h.L h.e (by decide) e.symm)⟩
theorem PE.setBal {B0 : Nat} {W0 : World} {w : World} {g gb n cap : Nat} {c : LC} {sh : List Int} {vv ev : Value} {vals : List VS} {ents : List ES} (h : PE B0 W0 w g c sh (.slice (some ⟨gb, 0, none⟩) n cap) vv ev vals ents) (hn : n = c.bal.length) (k : Nat) (x : Int) : PE B0 W0 (w.setCell ⟨gb, k, none⟩ (.int .i64 x)) g (setB c k x) sh (.slice (some ⟨gb, 0, none⟩) n cap) vv ev vals ents := by
  subst hn
  have hne : g ≠ gb := fun e => Has.apart h.L h.b (by decide) (by rw [e]; rfl)
  refine ⟨h.fr.setCell (h.b.lt gb rfl).1 _, h.hg, h.L.other _ _ hne, h.hs, ?_, ownsRow_setCell h.v _ _ (row_ne h.v h.b (by decide)), ownsRow_setCell h.e _ _ (row_ne h.e h.b (by decide))⟩
  have := (h.b.stored k (.int .i64 x)).1
  rw [ints_set] at this
  simpa [setB] using this
theorem PE.setVal {B0 : Nat} {W0 : World} {w : World} {g gv n cap : Nat} {c : LC} {sh : List Int} {bv ev : Value} {vals vals' : List VS} {ents : List ES} (h : PE B0 W0 w g c sh bv (.slice (some ⟨gv, 0, none⟩) n cap) ev vals ents) (hn : n = vals.length) (i : Nat) (u : Value) (he : (vrow vals).set i u = vrow vals') (hl : vals'.length = vals.length) : PE B0 W0 (w.setCell ⟨gv, i, none⟩ u) g c sh bv (.slice (some ⟨gv, 0, none⟩) n cap) ev vals' ents := by
  subst hn
  have hne : g ≠ gv := fun e => Has.apart h.L h.v (by decide) (by rw [e]; rfl)
  refine ⟨h.fr.setCell (h.v.lt gv rfl).1 _, h.hg, h.L.other _ _ hne, h.hs, ownsRow_setCell h.b _ _ (row_ne h.b h.v (by decide)), ?_, ownsRow_setCell h.e _ _ (row_ne h.e h.v (by decide))⟩
  have := (h.v.stored i u).1
  rw [he] at this
  rw [hl]; exact this
theorem PE.setEv {B0 : Nat} {W0 : World} {w : World} {g : Nat} {c : LC} {sh : List Int} {bv vv ev ev' : Value} {vals : List VS} {ents ents' : List ES} (h : PE B0 W0 w g c sh bv vv ev vals ents) (he : w.ownsRow B0 35 4 ev' ents'.length (erow ents')) : PE B0 W0 (w.setCell ⟨g, 38, none⟩ ev') g c sh bv vv ev' vals ents' :=
  ⟨h.fr.setCell h.hg _, h.hg, by rw [← eL_set_ev c bv vv sh ev ev' h.hs]; exact h.L.set _ _, h.hs, ownsRow_setCell h.b _ _ (fun e => Has.apart h.L h.b (by decide) e.symm), ownsRow_setCell h.v _ _ (fun e => Has.apart h.L h.v (by decide) e.symm), ownsRow_setCell he _ _ (fun e => Has.apart h.L he (by decide) e.symm)⟩
theorem vrow_set (l : List VS) (k : Nat) (hk : k < l.length) (i : Nat) (u : Value) (x : VS) (hx : l[k].cells.set i u = x.cells) (hi : i < 8) : (vrow l).set (k * 8 + i) u = vrow (l.set k x) := by
  induction l generalizing k with
  | nil => simp at hk
  | cons v l ih =>
    cases k with
    | zero =>
      simp only [List.getElem_cons_zero] at hx
      simp only [Nat.zero_mul, Nat.zero_add, vrow, List.set_cons_zero]
      rw [List.set_append_left _ _ (by simpa [VS.cells] using hi), hx]
    | succ k =>
      simp only [List.getElem_cons_succ] at hx
      simp only [vrow, List.set_cons_succ]
      rw [List.set_append_right _ _ (by simp [VS.cells]; omega)]
      have e : (k + 1) * 8 + i - v.cells.length = k * 8 + i := by simp [VS.cells]; omega
      rw [e, ih k (by simpa using hk) hx]
end Go.Proofs.Ytenjjneobkodbaa
