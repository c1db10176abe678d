import Derived.Test.YtieccdjglbfiaaaBegunW
import Derived.Test.YtieccdjglbfiaaaWSt
import Derived.Deep.RegionWith
import Derived.Deep.DeepCutAuto
namespace Go.Proofs.Ytieccdjglbfiaaa
open Go.ChangeShapes Go.WideShapes Go.ChangeAt Go.RowKit
set_option linter.unusedVariables false

theorem off_of {w : World} {base : Nat} {e : TypeId} {size : Nat} {v : Value} {n : Nat} {xs : List Value} (h : w.ownsRow base e size v n xs) : IntSl.off v (fun k => w.heap.size ≤ k) := by
  intro a n c hv h0
  subst hv
  have := (h.lt a.block rfl).2
  omega
theorem info_eng : (Try.prog.info? 57).map (fun i => (i.zero, i.size, i.bytes)) = some (some (.pointer none), 1, 8) := by kernel_rfl

set_option maxHeartbeats 4000000 in
set_option maxRecDepth 100000 in
theorem fresh_any (base : Nat) (w0 : World) (gw : Nat) (vb vo vr : Value) (bs os rs : List Int) (t x : RowV) (l : Nat → List Value → Prop) (top mature fee : Int) (w : World) (hS : WSt base w0 w gw { v := vb, n := bs.length, xs := ints bs } { v := vo, n := os.length, xs := ints os } { v := vr, n := rs.length, xs := ints rs } t x l)
    (l1 : bs.length ≤ 1048000) (l2 : os.length ≤ 1048000) (l3 : rs.length ≤ 1048000) (l4 : x.n ≤ 1000000) :
    Calls Try.prog 29 #[.pointer (some ⟨gw, 0, none⟩), .int .i64 top, .int .i64 mature, .int .i64 fee] w fun e w' => e = .returned (.bool true) ∧
      ∃ x' : RowV, x'.n ≤ x.n + 1 ∧ WSt base w0 w' gw { v := vb, n := bs.length, xs := ints bs } { v := vo, n := os.length, xs := ints os } { v := vr, n := rs.length, xs := ints rs } t x' l := by
  obtain ⟨i5, hi5, hz50, hz51, hz52⟩ := info_parts info_eng
  have c0 : w.cell? ⟨gw, 0, none⟩ = some vb := hS.W.cell 0
  have c1 : w.cell? ⟨gw, 1, none⟩ = some vo := hS.W.cell 1
  have c2 : w.cell? ⟨gw, 2, none⟩ = some vr := hS.W.cell 2
  have HP : Hid (∀ n, Calls Try.prog 38 #[vb, vo, vr, .int .i64 top, .int .i64 mature, .int .i64 fee] (w.drewN n) fun e w' => ∃ p, e = .returned (.tuple #[.pointer p, .bool true]) ∧ Below w.heap.size w w') := fun n => by
    have hS' := hS.drewN n
    refine (begun_any vb vo vr bs os rs top mature fee (w.drewN n) (Rd.of_owns hS'.rb).ints (Rd.of_owns hS'.ro).ints (Rd.of_owns hS'.rr).ints (off_of hS'.rb) (off_of hS'.ro) (off_of hS'.rr) l1 l2 l3).mono ?_
    rintro e w' ⟨p, rfl, hb⟩
    exact ⟨p, rfl, (below_drewN (Below.refl _ _) n).trans hb⟩
  go_enter Try.func29, Try.ntmps29
  go_wp2_with fail
  go_cut [9, 10] (fun s9 s10 wx => ∃ p, s9 = .pointer p ∧ s10 = .bool true ∧ Below w.heap.size w wx)
  case first =>
    go_region_with (go_at_call 38; refine (HP.out 1).mono ?_; rintro e w' ⟨p, rfl, hb⟩)
    all_goals (go_wp2_with fail; go_meet; exact ⟨_, rfl, rfl, hb⟩)
  case rest =>
    obtain ⟨p, rfl, rfl, hb⟩ := hcut
    clear HP c0 c1 c2
    have hS2 := hS.below hb
    have c4 : wc.cell? ⟨gw, 4, none⟩ = some x.v := hS2.W.cell 4
    cases p with
    | none =>
      have HS : Hid (WSt base w0 wc gw { v := vb, n := bs.length, xs := ints bs } { v := vo, n := os.length, xs := ints os } { v := vr, n := rs.length, xs := ints rs } t x l) := hS2
      clear hS hS2
      go_wp2
      go_ret
      exact ⟨rfl, x, by omega, HS.out⟩
    | some q =>
      have g1 := hS2.W.lt
      go_wp2_with (at_builtin; go_loud (refine wpList_append_sl2 rfl (.tmp 36) (.tmp 38) 49 rfl 57 i5 _ 1 8 Try.underlying49 hi5 hz50 hz51 hz52 rfl (by decide) base x.v x.n x.xs rfl (hS2.alloc _).rx (hS2.alloc _).hsz ⟨_, 0, none⟩ 1 1 [.pointer (some q)] rfl (by rfl) (cell_newAt _ [.pointer (some q)] _ _ rfl) (by simp [Value.oneCell']) (by decide) (by simp [maxLen]; omega) (by omega) ?_))
      intro g5 cap5 v5 hown5 hgrow5 hor5 hold5
      obtain ⟨hW5, hS5⟩ := (hS2.alloc _).pushX hgrow5 hown5 (by rw [World.size_alloc]; exact hor5)
      have c4' : v5.cell? ⟨gw, 4, none⟩ = some x.v := hW5.cell 4
      have f4' := hW5.frozen 4
      have HS : Hid _ := hS5
      clear hS hS2 hS5 hown5 hgrow5 hold5 hW5
      go_wp2
      go_ret
      exact ⟨rfl, _, Nat.le_refl _, HS.out⟩
end Go.Proofs.Ytieccdjglbfiaaa
