import Derived.Test.YtenjjneobkodbaaKPay
namespace Go.Proofs.Ytenjjneobkodbaa
open Go.ChangeShapes Go.WideShapes Go.ChangeAt Go.RowKit
set_option linter.unusedVariables false

set_option maxHeartbeats 2000000 in
set_option maxRecDepth 100000 in
theorem kpay_stay {B0 : Nat} {W0 : World} (g : Nat) (c : LC) (sh : List Int) (bv vv ev : Value) (vals : List VS) (k : Nat) (j made t : Int) (w : World) (h : PE B0 W0 w g c sh bv vv ev vals [⟨k, j, made, t⟩]) (hl : c.bal.length ≤ 6) (hk : k < c.bal.length) (x : Int) (hx : c.bal.getD k 0 = x) (hx0 : 0 ≤ x) (hx1 : x ≤ 1000000000) (ht0 : 0 ≤ t) (ht1 : t ≤ 1000000) (hm0 : 0 ≤ made) (hm1 : made ≤ 1000) (hmm : 0 ≤ c.mature) (hmm2 : c.mature ≤ 1000) (heq : made + c.mature ≠ c.height) :
    Calls Try.prog 28 #[.pointer (some ⟨g, 0, none⟩)] w fun e w' => e = .returned (.tuple #[]) ∧ ∃ ev', PE B0 W0 w' g c sh bv vv ev' vals [⟨k, j, made, t⟩] := by
  obtain ⟨i5, hi5, hz50, hz51, hz52⟩ := info_parts info_entP
  obtain ⟨ba, bc, rfl⟩ := ownsRow_slice h.b
  obtain ⟨gb, rfl, _⟩ := ownsRow_some h.b (by omega)
  obtain ⟨ea, ec, (he : ev = .slice ea 1 ec)⟩ := ownsRow_slice h.e
  subst he
  obtain ⟨ge, rfl, _⟩ := ownsRow_some (show w.ownsRow B0 35 4 (.slice ea 1 ec) 1 (erow [⟨k, j, made, t⟩]) from h.e) (by omega)
  have c1 : w.cell? ⟨g, 1, none⟩ = some (.int .i64 c.mature) := h.L.cell 1
  have c3 : w.cell? ⟨g, 3, none⟩ = some (.int .i64 c.height) := h.L.cell 3
  have c4 : w.cell? ⟨g, 4, none⟩ = some (.slice (some ⟨gb, 0, none⟩) c.bal.length bc) := h.L.cell 4
  have c38 : w.cell? ⟨g, 38, none⟩ = some (.slice (some ⟨ge, 0, none⟩) 1 ec) := (h.L.cell 38).trans (eL_ev _ _ _ _ _ h.hs)
  have z0 : w.cell? ⟨ge, 0, none⟩ = some (.int .i64 k) := (show w.ownsRow B0 35 4 (.slice (some ⟨ge, 0, none⟩) 1 ec) 1 (erow [⟨k, j, made, t⟩]) from h.e).cellAt 0 (by omega)
  have z1 : w.cell? ⟨ge, 1, none⟩ = some (.int .i64 j) := (show w.ownsRow B0 35 4 (.slice (some ⟨ge, 0, none⟩) 1 ec) 1 (erow [⟨k, j, made, t⟩]) from h.e).cellAt 1 (by omega)
  have z2 : w.cell? ⟨ge, 2, none⟩ = some (.int .i64 made) := (show w.ownsRow B0 35 4 (.slice (some ⟨ge, 0, none⟩) 1 ec) 1 (erow [⟨k, j, made, t⟩]) from h.e).cellAt 2 (by omega)
  have z3 : w.cell? ⟨ge, 3, none⟩ = some (.int .i64 t) := (show w.ownsRow B0 35 4 (.slice (some ⟨ge, 0, none⟩) 1 ec) 1 (erow [⟨k, j, made, t⟩]) from h.e).cellAt 3 (by omega)
  have cb : w.cell? ⟨gb, k, none⟩ = some (.int .i64 x) := by
    rw [h.b.cellAt k (by omega), ← hx]; simp [ints, hk]
  have fb := h.b.frozenAt k
  have g1 := h.L.lt
  have g2 : gb < w.heap.size := (h.b.lt gb rfl).2
  have g3 : ge < w.heap.size := (h.e.lt ge rfl).2
  have hgne : g ≠ gb := fun e => Has.apart h.L h.b (by decide) (by rw [e]; rfl)
  have hgne' : gb ≠ g := fun e => hgne e.symm
  have HP : Hid (PE B0 W0 w g c sh (.slice (some ⟨gb, 0, none⟩) c.bal.length bc) vv (.slice (some ⟨ge, 0, none⟩) 1 ec) vals [⟨k, j, made, t⟩]) := h
  have e1 : (made + c.mature == c.height) = false := by simp [heq]
  clear h hx
  go_enter Try.func28, Try.ntmps28
  go_wp2
  go_loopw [2, 10] (fun st i wr => (i = .int .i64 0 ∧ wr.ownsRow wr.heap.size 35 4 st 0 [] ∧ wr = w) ∨ (i = .int .i64 1 ∧ wr.ownsRow B0 35 4 st 1 (erow [⟨k, j, made, t⟩]) ∧ PE B0 W0 wr g c sh (.slice (some ⟨gb, 0, none⟩) c.bal.length bc) vv (.slice (some ⟨ge, 0, none⟩) 1 ec) vals [⟨k, j, made, t⟩])) (fun _ i _ => 1 - (intOf i).toNat)
  case atStart => exact .inl ⟨rfl, World.ownsRow_nil _ _ _ _, rfl⟩
  case round =>
    obtain ⟨rfl, hst, rfl⟩ | ⟨rfl, hr, hP⟩ := hrel
    · clear heq
      obtain ⟨sa, sc, rfl⟩ := ownsRow_slice hst
      have HN : Hid (∀ b, (Value.slice sa 0 sc).ownBlock ≠ some b) := fun b hb => by have := hst.lt b hb; omega
      have HST : Hid (wr.ownsRow B0 35 4 (.slice sa 0 sc) 0 []) := ownsRow_base hst HP.out.hsz
      clear hst
      go_wp2
      go_quiet (fail)
      go_wp2_with (at_builtin; go_loud (refine wpList_append_sl2 rfl (.tmp 38) (.tmp 40) 30 rfl 35 i5 _ 4 32 Try.underlying30 hi5 hz50 hz51 hz52 rfl (by decide) B0 _ 0 [] rfl ((HST.out.alloc _).alloc _) (((HP.out.alloc _).drewN _).alloc _).hsz ⟨_, 0, none⟩ 1 1 [.int .i64 k, .int .i64 j, .int .i64 made, .int .i64 t] rfl (by rfl) (cell_newAt _ [.int .i64 k, .int .i64 j, .int .i64 made, .int .i64 t] _ _ (by simp [World.drewN])) (by simp [Value.oneCell']) (by decide) (by simp [maxLen]) (by omega) ?_))
      intro g5 cap5 v5 hown5 hgrow5 hor5 hold5
      have hq := ((HP.out.alloc (.cells #[.int .i64 k, .int .i64 j, .int .i64 made, .int .i64 t] 35)).drewN nq).alloc (.cells #[.int .i64 k, .int .i64 j, .int .i64 made, .int .i64 t] 35)
      have HQ : Hid (PE B0 W0 v5 g c sh (.slice (some ⟨gb, 0, none⟩) c.bal.length bc) vv (.slice (some ⟨ge, 0, none⟩) 1 ec) vals [⟨k, j, made, t⟩]) := by
        have hk := grown_kp hgrow5
        refine PE.kp (w := _) (hq.eta rfl rfl rfl rfl) hk (fun b _ h => ?_)
        exact HN.out b h.symm
      have HO : Hid (v5.ownsRow B0 35 4 (.slice (some ⟨g5, 0, none⟩) 1 cap5) 1 (erow [⟨k, j, made, t⟩])) := hown5
      clear hown5 hgrow5 hor5 hold5 hq
      go_wp2
      refine And.intro ?_ ?_
      · first | exact .inr ⟨rfl, HO.out, HQ.out⟩ | ((repeat apply Exists.intro); exact ⟨.inr ⟨rfl, HO.out, HQ.out⟩, rfl⟩)
      · simp [intOf]
    · have c38' : wr.cell? ⟨g, 38, none⟩ = some (.slice (some ⟨ge, 0, none⟩) 1 ec) := (hP.L.cell 38).trans (eL_ev _ _ _ _ _ hP.hs)
      have f38 := hP.L.frozen 38
      obtain ⟨sa, sc, rfl⟩ := ownsRow_slice hr
      have HF : Hid (PE B0 W0 (wr.setCell ⟨g, 38, none⟩ (.slice sa 1 sc)) g c sh (.slice (some ⟨gb, 0, none⟩) c.bal.length bc) vv (.slice sa 1 sc) vals [⟨k, j, made, t⟩]) := hP.setEv hr
      clear hP hr
      go_wp2
      go_end0
      exact ⟨rfl, _, HF.out⟩
end Go.Proofs.Ytenjjneobkodbaa
