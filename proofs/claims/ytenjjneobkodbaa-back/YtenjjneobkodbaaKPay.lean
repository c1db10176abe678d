import Derived.Test.YtenjjneobkodbaaKUnb2
namespace Go.Proofs.Ytenjjneobkodbaa
open Go.ChangeShapes Go.WideShapes Go.ChangeAt Go.RowKit
set_option linter.unusedVariables false

set_option maxHeartbeats 1000000 in
set_option maxRecDepth 100000 in
theorem kshare {B0 : Nat} {W0 : World} (g : Nat) (c : LC) (sh : List Int) (bv vv ev : Value) (vals : List VS) (ents : List ES) (w : World) (h : PE B0 W0 w g c sh bv vv ev vals ents) (hs0 : 0 ≤ c.fees) (hs1 : c.fees ≤ 1000000000) (hp0 : 0 ≤ c.pool) (hp1 : c.pool ≤ 1000000000) :
    Calls Try.prog 27 #[.pointer (some ⟨g, 0, none⟩)] w fun e w' => e = .returned (.tuple #[]) ∧ PE B0 W0 w' g { c with pool := c.pool + c.fees, fees := 0 } sh bv vv ev vals ents := by
  have c5 : w.cell? ⟨g, 5, none⟩ = some (.int .i64 c.fees) := h.L.cell 5
  have c6 : w.cell? ⟨g, 6, none⟩ = some (.int .i64 c.pool) := h.L.cell 6
  have f5 := h.L.frozen 5
  have f6 := h.L.frozen 6
  have HF : Hid (PE B0 W0 ((w.setCell ⟨g, 6, none⟩ (.int .i64 (c.pool + c.fees))).setCell ⟨g, 5, none⟩ (.int .i64 0)) g { c with pool := c.pool + c.fees, fees := 0 } sh bv vv ev vals ents) :=
    (h.setHead (c' := { c with pool := c.pool + c.fees }) 6 (.int .i64 (c.pool + c.fees)) rfl rfl).setHead (c' := { c with pool := c.pool + c.fees, fees := 0 }) 5 (.int .i64 0) rfl rfl
  clear h
  go_enter Try.func27, Try.ntmps27
  go_wp2
  go_region
  go_wp2
  go_end0
  exact ⟨rfl, HF.out.eta rfl rfl rfl rfl⟩

set_option maxHeartbeats 2000000 in
set_option maxRecDepth 100000 in
theorem kpay_paid {B0 : Nat} {W0 : World} (g : Nat) (c : LC) (sh : List Int) (bv vv ev : Value) (vals : List VS) (k : Nat) (j made t : Int) (w : World) (h : PE B0 W0 w g c sh bv vv ev vals [⟨k, j, made, t⟩]) (hl : c.bal.length ≤ 6) (hk : k < c.bal.length) (x : Int) (hx : c.bal.getD k 0 = x) (hx0 : 0 ≤ x) (hx1 : x ≤ 1000000000) (ht0 : 0 ≤ t) (ht1 : t ≤ 1000000) (hm0 : 0 ≤ made) (hm1 : made ≤ 1000) (hmm : 0 ≤ c.mature) (hmm2 : c.mature ≤ 1000) (heq : made + c.mature = c.height) :
    Calls Try.prog 28 #[.pointer (some ⟨g, 0, none⟩)] w fun e w' => e = .returned (.tuple #[]) ∧ ∃ ev', PE B0 W0 w' g (setB c k (x + t)) sh bv vv ev' vals [] := by
  obtain ⟨ba, bc, rfl⟩ := ownsRow_slice h.b
  obtain ⟨gb, rfl, _⟩ := ownsRow_some h.b (by omega)
  obtain ⟨ea, ec, (he : ev = .slice ea 1 ec)⟩ := ownsRow_slice h.e
  subst he
  obtain ⟨ge, rfl, _⟩ := ownsRow_some (show w.ownsRow B0 35 4 (.slice ea 1 ec) 1 (erow [⟨k, j, made, t⟩]) from h.e) (by omega)
  have c1 : w.cell? ⟨g, 1, none⟩ = some (.int .i64 c.mature) := h.L.cell 1
  have c3 : w.cell? ⟨g, 3, none⟩ = some (.int .i64 c.height) := h.L.cell 3
  have c4 : w.cell? ⟨g, 4, none⟩ = some (.slice (some ⟨gb, 0, none⟩) c.bal.length bc) := h.L.cell 4
  have c38 : w.cell? ⟨g, 38, none⟩ = some (.slice (some ⟨ge, 0, none⟩) 1 ec) := (h.L.cell 38).trans (eL_ev _ _ _ _ _ h.hs)
  have z0 : w.cell? ⟨ge, 0, none⟩ = some (.int .i64 k) := (show w.ownsRow B0 35 4 (.slice (some ⟨ge, 0, none⟩) 1 ec) 1 (erow [⟨k, j, made, t⟩]) from h.e).cellAt 0 (by omega)
  have z1 : w.cell? ⟨ge, 1, none⟩ = some (.int .i64 j) := (show w.ownsRow B0 35 4 (.slice (some ⟨ge, 0, none⟩) 1 ec) 1 (erow [⟨k, j, made, t⟩]) from h.e).cellAt 1 (by omega)
  have z2 : w.cell? ⟨ge, 2, none⟩ = some (.int .i64 made) := (show w.ownsRow B0 35 4 (.slice (some ⟨ge, 0, none⟩) 1 ec) 1 (erow [⟨k, j, made, t⟩]) from h.e).cellAt 2 (by omega)
  have z3 : w.cell? ⟨ge, 3, none⟩ = some (.int .i64 t) := (show w.ownsRow B0 35 4 (.slice (some ⟨ge, 0, none⟩) 1 ec) 1 (erow [⟨k, j, made, t⟩]) from h.e).cellAt 3 (by omega)
  have cb : w.cell? ⟨gb, k, none⟩ = some (.int .i64 x) := by
    rw [h.b.cellAt k (by omega), ← hx]; simp [ints, hk]
  have fb := h.b.frozenAt k
  have g1 := h.L.lt
  have g2 : gb < w.heap.size := (h.b.lt gb rfl).2
  have g3 : ge < w.heap.size := (h.e.lt ge rfl).2
  have hgne : g ≠ gb := fun e => Has.apart h.L h.b (by decide) (by rw [e]; rfl)
  have hgne' : gb ≠ g := fun e => hgne e.symm
  have HP : Hid (PE B0 W0 w g c sh (.slice (some ⟨gb, 0, none⟩) c.bal.length bc) vv (.slice (some ⟨ge, 0, none⟩) 1 ec) vals [⟨k, j, made, t⟩]) := h
  have e1 : (made + c.mature == c.height) = true := by simp [heq]
  clear h hx
  go_enter Try.func28, Try.ntmps28
  go_wp2
  go_loopw [2, 10] (fun st i wr => st = .slice none 0 0 ∧ ((i = .int .i64 0 ∧ wr = w) ∨ (i = .int .i64 1 ∧ PE B0 W0 wr g (setB c k (x + t)) sh (.slice (some ⟨gb, 0, none⟩) c.bal.length bc) vv (.slice (some ⟨ge, 0, none⟩) 1 ec) vals [⟨k, j, made, t⟩]))) (fun _ i _ => 1 - (intOf i).toNat)
  case atStart => exact ⟨rfl, .inl ⟨rfl, rfl⟩⟩
  case round =>
    obtain ⟨rfl, ⟨rfl, rfl⟩ | ⟨rfl, hP⟩⟩ := hrel
    · clear heq
      go_wp2
      go_quiet (fail)
      go_wp2
      go_region
      go_wp2
      refine And.intro ?_ ?_
      · have hq := ((HP.out.alloc (.cells #[.int .i64 k, .int .i64 j, .int .i64 made, .int .i64 t] 35)).drewN 0).setBal rfl k (x + t)
        first | exact ⟨rfl, .inr ⟨rfl, (hq.eta rfl rfl rfl rfl)⟩⟩ | ((repeat apply Exists.intro); exact ⟨⟨rfl, .inr ⟨rfl, (hq.eta rfl rfl rfl rfl)⟩⟩, rfl⟩)
      · simp [intOf]
    · have c38' : wr.cell? ⟨g, 38, none⟩ = some (.slice (some ⟨ge, 0, none⟩) 1 ec) := (hP.L.cell 38).trans (eL_ev _ _ _ _ _ hP.hs)
      have f38 := hP.L.frozen 38
      have HF : Hid (PE B0 W0 (wr.setCell ⟨g, 38, none⟩ (.slice none 0 0)) g (setB c k (x + t)) sh (.slice (some ⟨gb, 0, none⟩) c.bal.length bc) vv (.slice none 0 0) vals []) := hP.setEv (World.ownsRow_nil _ _ _ _)
      clear hP
      go_wp2
      go_end0
      exact ⟨rfl, _, HF.out⟩
end Go.Proofs.Ytenjjneobkodbaa
