import Derived.Test.YtenjjneobkodbaaKBond2
import Derived.Deep.RegionWith
import Derived.Deep.DeepCutAuto
namespace Go.Proofs.Ytenjjneobkodbaa
open Go.ChangeShapes Go.WideShapes Go.ChangeAt Go.RowKit
set_option linter.unusedVariables false

theorem info_entP : (Try.prog.info? 35).map (fun i => (i.zero, i.size, i.bytes)) = some (some (.agg #[.int .i64 0, .int .i64 0, .int .i64 0, .int .i64 0]), 4, 32) := by kernel_rfl
theorem size_entP : (Try.prog.info? 35).map (·.size) = some 4 := by kernel_rfl

set_option maxHeartbeats 1000000 in
set_option maxRecDepth 100000 in
theorem tokensFor_m (vo vr m vcm vou : Int) (vj vi : Bool) (k : Int) (w : World) (hm : 1 ≤ m) (hk : 0 ≤ k * m) (hk2 : k * m ≤ 1000000000000) :
    Calls Try.prog 38 #[.agg #[.int .i64 vo, .int .i64 vr, .int .i64 m, .int .i64 m, .int .i64 vcm, .int .i64 vou, .bool vj, .bool vi], .int .i64 k] w fun e w' => e = .returned (.int .i64 k) ∧ Below w.heap.size w w' := by
  have h1 : (m == 0) = false := by simp; omega
  have HB : Hid (∀ o, Below w.heap.size w (w.alloc o)) := fun o => (Below.refl _ _).alloc (Nat.le_refl _) o
  have HD : Hid (k * m / m = k) := Int.mul_ediv_cancel k (by omega)
  go_enter Try.func38, Try.ntmps38
  go_wp2
  go_ret
  refine ⟨ret_int ?_, HB.out _⟩
  exact HD.out

set_option maxHeartbeats 1000000 in
set_option maxRecDepth 100000 in
theorem kcount_any (g : Nat) (who val : Int) (ea : Option Addr) (ec : Nat) (w : World) (c38 : w.cell? ⟨g, 38, none⟩ = some (.slice ea 0 ec)) :
    Calls Try.prog 37 #[.pointer (some ⟨g, 0, none⟩), .int .i64 who, .int .i64 val] w fun e w' => e = .returned (.int .i64 0) ∧ w = w' := by
  go_enter Try.func37, Try.ntmps37
  go_wp2
  go_loop [7, 15] (fun n i => i = .int .i64 0 ∧ n = .int .i64 0) (fun _ _ => 0)
  case atStart => exact ⟨rfl, rfl⟩
  case round =>
    obtain ⟨rfl, rfl⟩ := hrel
    go_wp2
    go_ret
    exact ⟨rfl, rfl⟩

theorem PE.alloc {B0 : Nat} {W0 : World} {w : World} {g : Nat} {c : LC} {sh : List Int} {bv vv ev : Value} {vals : List VS} {ents : List ES} (h : PE B0 W0 w g c sh bv vv ev vals ents) (o : Obj) : PE B0 W0 (w.alloc o) g c sh bv vv ev vals ents := ⟨h.fr.alloc h.hsz o, h.hg, h.L.alloc o, h.hs, h.b.alloc o, h.v.alloc o, h.e.alloc o⟩
theorem PE.drew {B0 : Nat} {W0 : World} {w : World} {g : Nat} {c : LC} {sh : List Int} {bv vv ev : Value} {vals : List VS} {ents : List ES} (h : PE B0 W0 w g c sh bv vv ev vals ents) : PE B0 W0 w.drew g c sh bv vv ev vals ents := ⟨h.fr.drew, h.hg, h.L, h.hs, h.b, h.v, h.e⟩
theorem PE.push {B0 : Nat} {W0 : World} {w v5 : World} {g : Nat} {c : LC} {sh : List Int} {bv vv ev ev' : Value} {vals : List VS} {ents : List ES} {o : ES} (h : PE B0 W0 w g c sh bv vv ev vals ents) (hg : w.grownBy v5 ev.ownBlock) (hown : v5.ownsRow B0 35 4 ev' (ents.length + 1) (erow ents ++ o.cells)) :
    Has v5 g 52 (eL c bv vv sh ev) ∧ PE B0 W0 (v5.setCell ⟨g, 38, none⟩ ev') g c sh bv vv ev' vals (ents ++ [o]) := by
  have hL := grown_has hg h.L (Has.apart h.L h.e (by decide))
  have hb := h.b.kept hg (ownsRow_apart h.b h.e (by decide))
  have hv := h.v.kept hg (ownsRow_apart h.v h.e (by decide))
  refine ⟨hL, (h.fr.grown hg h.hsz (fun j hj => (h.e.lt j hj).1)).setCell h.hg _, h.hg, by rw [← eL_set_ev c bv vv sh ev ev' h.hs]; exact hL.set _ _, h.hs, ownsRow_setCell hb _ _ (fun e => Has.apart hL hb (by decide) e.symm), ownsRow_setCell hv _ _ (fun e => Has.apart hL hv (by decide) e.symm), ?_⟩
  rw [erow_snoc, List.length_append]
  exact ownsRow_setCell hown _ _ (fun e => Has.apart hL hown (by decide) e.symm)

set_option maxHeartbeats 2000000 in
set_option maxRecDepth 100000 in
theorem kaddEntry {B0 : Nat} {W0 : World} (g : Nat) (c : LC) (sh : List Int) (bv vv ev : Value) (vals : List VS) (ents : List ES) (k j : Nat) (t : Int) (w : World) (h : PE B0 W0 w g c sh bv vv ev vals ents) (ht : 1 ≤ t) (hl : ents.length ≤ 1000) :
    Calls Try.prog 20 #[.pointer (some ⟨g, 0, none⟩), .int .i64 k, .int .i64 j, .int .i64 t] w fun e w' => e = .returned (.tuple #[]) ∧ ∃ ev', PE B0 W0 w' g c sh bv vv ev' vals (ents ++ [⟨k, j, c.height, t⟩]) := by
  obtain ⟨i5, hi5, hz50, hz51, hz52⟩ := info_parts info_entP
  obtain ⟨ea, ec, rfl⟩ := ownsRow_slice h.e
  have c3 : w.cell? ⟨g, 3, none⟩ = some (.int .i64 c.height) := h.L.cell 3
  have c38 : w.cell? ⟨g, 38, none⟩ = some (.slice ea ents.length ec) := (h.L.cell 38).trans (eL_ev _ _ _ _ _ h.hs)
  have g1 := h.L.lt
  have g2 : g < w.heap.size + 1 := by omega
  have HP : Hid (PE B0 W0 w g c sh bv vv (.slice ea ents.length ec) vals ents) := h
  clear h
  go_enter Try.func20, Try.ntmps20
  go_wp2_with fail
  go_region_law (refine step_append_sl2 rfl (.tmp 14) (.tmp 23) 30 rfl 35 i5 _ 4 32 Try.underlying30 hi5 hz50 hz51 hz52 rfl (by decide) B0 (.slice ea ents.length ec) ents.length (erow ents) (by first | rfl | simp [Act.eval]) (HP.out.alloc _).e (HP.out.alloc _).hsz ⟨_, 0, none⟩ 1 1 [.int .i64 k, .int .i64 j, .int .i64 c.height, .int .i64 t] (by first | rfl | simp [Act.eval]) (by rfl) (cell_newAt _ [.int .i64 k, .int .i64 j, .int .i64 c.height, .int .i64 t] _ _ (by simp)) (by simp [Value.oneCell']) (by decide) (by simp [maxLen]; omega) (by omega) ?_; intro g5 cap5 v5 hown5 hgrow5 hor5 hold5; obtain ⟨hL5, hP5⟩ := ((HP.out.alloc _).drew).push (o := ⟨k, j, c.height, t⟩) hgrow5 hown5; have c38' : v5.cell? ⟨g, 38, none⟩ = some (.slice ea ents.length ec) := (hL5.cell 38).trans (eL_ev _ _ _ _ _ HP.out.hs); have f38' := hL5.frozen 38; have HP5 : Hid _ := hP5; clear hP5 hown5 hgrow5 hold5 hL5)
  all_goals
    go_wp2
    go_end0
    exact ⟨rfl, _, HP5.out⟩
end Go.Proofs.Ytenjjneobkodbaa
