import Derived.Test.YtohjjgefklhmaaaGreatDoorBegunWM
import Derived.Deep.RegionWith
import Derived.Deep.DeepCutAuto
namespace Go.Proofs.YtohjjgefklhmaaaGreatDoor
open Go.ChangeShapes Go.WideShapes Go.ChangeAt Go.RowKit
set_option linter.unusedVariables false

theorem off_of {w : World} {base : Nat} {e : TypeId} {size : Nat} {v : Value} {n : Nat} {xs : List Value} (h : w.ownsRow base e size v n xs) : IntSl.off v (fun k => w.heap.size ≤ k) := by
  intro a n c hv h0
  subst hv
  have := (h.lt a.block rfl).2
  omega
theorem info_engS : (Tryz.prog.info? 37).map (fun i => (i.zero, i.size, i.bytes)) = some (some (.pointer none), 1, 8) := by kernel_rfl

/-- what fresh leaves: the engines are as they were, or there is one more -/
def FPost (w w' : World) (i : Nat) (x x' : RowV) : Prop :=
  w.heap.size ≤ w'.heap.size ∧ (x' = x ∨ ∃ ge lab', x'.n = x.n + 1 ∧ x'.xs = x.xs ++ [.pointer (some ⟨ge, 0, none⟩)] ∧ (∀ k, k < w.heap.size → lab' k = ((0, 0) : Nat × Nat)) ∧ (∀ k, x'.v.ownBlock = some k → (lab' k).1 = 0) ∧ EInv w' lab' i ge 1)
theorem EInv.move {S : Nat → Prop} {w w' : World} {lab lab' : Nat → Nat × Nat} {i ge m : Nat} (h : EInv w lab i ge m) (k : Kp S w w') (hF : ∀ b, b < w.heap.size → (lab b).1 = i → ¬ S b ∧ lab' b = lab b) : EInv w' lab' i ge m := by
  obtain ⟨gx, gy, gl, hv, nh, hcs, mk, c, vals, h1, h2⟩ := h
  exact ⟨gx, gy, gl, hv, nh, hcs, mk, c, vals, h1.move k hF, h2⟩
set_option maxHeartbeats 4000000 in
set_option maxRecDepth 100000 in
theorem fresh_any (i : Nat) (hi : i ≠ 0) (base : Nat) (w0 : World) (gw : Nat) (vb vo vr : Value) (bs os rs : List Int) (t x : RowV) (l : Nat → Obj → Prop) (top mature fee : Int) (w : World) (hS : WSt base w0 w gw { v := vb, n := bs.length, xs := ints bs } { v := vo, n := os.length, xs := ints os } { v := vr, n := rs.length, xs := ints rs } t x l)
    (l1 : bs.length ≤ 1048000) (l2 : os.length ≤ 1048000) (l3 : rs.length ≤ 1048000) (l4 : x.n ≤ 1000000) :
    Calls Tryz.prog 14 #[.pointer (some ⟨gw, 0, none⟩), .int .i64 top, .int .i64 mature, .int .i64 fee] w fun e w' => e = .returned (.bool true) ∧
      ∃ x' : RowV, FPost w w' i x x' ∧ WSt base w0 w' gw { v := vb, n := bs.length, xs := ints bs } { v := vo, n := os.length, xs := ints os } { v := vr, n := rs.length, xs := ints rs } t x' l := by
  obtain ⟨i5, hi5, hz50, hz51, hz52⟩ := info_parts info_engS
  have c0 : w.cell? ⟨gw, 0, none⟩ = some vb := hS.W.cell 0
  have c1 : w.cell? ⟨gw, 1, none⟩ = some vo := hS.W.cell 1
  have c2 : w.cell? ⟨gw, 2, none⟩ = some vr := hS.W.cell 2
  have HP : Hid (∀ n, Calls Tryz.prog 20 #[vb, vo, vr, .int .i64 top, .int .i64 mature, .int .i64 fee] (w.drewN n) fun e w' => ∃ p, e = .returned (.tuple #[.pointer p, .bool true]) ∧ Below w.heap.size w w' ∧ MadeE w w' p i) := fun n => by
    have hS' := hS.drewN n
    refine (begun_any i hi vb vo vr bs os rs top mature fee (w.drewN n) (Rd.of_owns hS'.rb).ints (Rd.of_owns hS'.ro).ints (Rd.of_owns hS'.rr).ints (off_of hS'.rb) (off_of hS'.ro) (off_of hS'.rr) l1 l2 l3).mono ?_
    rintro e w' ⟨p, rfl, hb, hM⟩
    exact ⟨p, rfl, (below_drewN (Below.refl _ _) n).trans hb, hM⟩
  go_enter Tryz.func14, Tryz.ntmps14
  go_wp2_with fail
  go_cut [9, 10] (fun s9 s10 wx => ∃ p, s9 = .pointer p ∧ s10 = .bool true ∧ Below w.heap.size w wx ∧ MadeE w wx p i)
  case first =>
    go_region_with (go_at_call 20; refine (HP.out 1).mono ?_; rintro e w' ⟨p, rfl, hb, hM⟩)
    all_goals (go_wp2_with fail; go_meet; exact ⟨_, rfl, rfl, hb, hM⟩)
  case rest =>
    obtain ⟨p, rfl, rfl, hb, hM⟩ := hcut
    clear HP c0 c1 c2
    have hS2 := hS.below hb
    have c4 : wc.cell? ⟨gw, 4, none⟩ = some x.v := hS2.W.cell 4
    cases p with
    | none =>
      clear hM
      have HZ : Hid (w.heap.size ≤ wc.heap.size) := hb.size
      have HS : Hid (WSt base w0 wc gw { v := vb, n := bs.length, xs := ints bs } { v := vo, n := os.length, xs := ints os } { v := vr, n := rs.length, xs := ints rs } t x l) := hS2
      clear hS hS2
      go_wp2
      go_ret
      exact ⟨rfl, x, ⟨HZ.out, .inl rfl⟩, HS.out⟩
    | some q =>
      have g1 := hS2.W.lt
      obtain ⟨ge, hq, lab', hl0, hEI⟩ : ∃ ge, some q = some ⟨ge, 0, none⟩ ∧ ∃ lab', (∀ k, k < w.heap.size → lab' k = ((0, 0) : Nat × Nat)) ∧ EInv wc lab' i ge 1 := by
        rcases hM with h | h
        · cases h
        · exact h
      simp only [Option.some.injEq] at hq
      subst hq
      go_wp2_with (at_builtin; go_loud (refine wpList_append_sl2 rfl (.tmp 36) (.tmp 38) 31 rfl 37 i5 _ 1 8 Tryz.underlying31 hi5 hz50 hz51 hz52 rfl (by decide) base x.v x.n x.xs rfl (hS2.alloc _).rx (hS2.alloc _).hsz ⟨_, 0, none⟩ 1 1 [.pointer (some ⟨ge, 0, none⟩)] rfl (by rfl) (cell_newAt _ [.pointer (some ⟨ge, 0, none⟩)] _ _ rfl) (by simp [Value.oneCell']) (by decide) (by simp [maxLen]; omega) (by omega) ?_))
      intro g5 cap5 v5 hown5 hgrow5 hor5 hold5
      obtain ⟨hW5, hS5⟩ := (hS2.alloc _).pushX hgrow5 hown5 (by rw [World.size_alloc]; exact hor5)
      have c4' : v5.cell? ⟨gw, 4, none⟩ = some x.v := hW5.cell 4
      have f4' := hW5.frozen 4
      have HS : Hid _ := hS5
      have hgw := hS.W.lt
      have HE : Hid (∀ u, EInv (v5.setCell ⟨gw, 4, none⟩ u) (relab lab' wc.heap.size (0, 0)) i ge 1) := fun u => by
        refine hEI.move (((((Kp.refl (fun k => k = gw ∨ some k = x.v.ownBlock) wc).alloc _).trans ((grown_kp hgrow5).mono (fun k _ h => .inr h))).setCell (p := ⟨gw, 4, none⟩) (.inl rfl) u)) (fun b hb' hl => ⟨?_, relab_old hb'⟩)
        rintro (h | h)
        · subst h; rw [hl0 b hgw] at hl; exact hi hl.symm
        · rw [hl0 b (hS.rx.lt b h.symm).2] at hl; exact hi hl.symm
      have hsz := hb.size
      have HZ : Hid (∀ u, w.heap.size ≤ (v5.setCell ⟨gw, 4, none⟩ u).heap.size) := fun u => by
        have h1 := hgrow5.size
        simp only [World.size_alloc] at h1
        rw [size_setCell]; omega
      have Hl0 : Hid (∀ k, k < w.heap.size → relab lab' wc.heap.size (0, 0) k = ((0, 0) : Nat × Nat)) := fun k hk => (relab_old (by omega)).trans (hl0 k hk)
      have HR : Hid (∀ m c k, (Value.slice (some ⟨g5, 0, none⟩) m c).ownBlock = some k → (relab lab' wc.heap.size (0, 0) k).1 = 0) := fun m c k hk => by
        have e0 : g5 = k := by simpa [Value.ownBlock] using hk
        subst e0
        rcases hor5 with h | h
        · have h1 := (hS.rx.lt g5 h).2
          rw [relab_old (by omega), hl0 g5 h1]
        · rw [relab_new (by first | omega | (simp only [World.size_alloc] at h; omega))]
      clear hS hS2 hS5 hown5 hgrow5 hold5 hW5 hEI hl0 hM
      go_wp2
      go_ret
      exact ⟨rfl, _, ⟨HZ.out _, .inr ⟨ge, relab lab' wc.heap.size (0, 0), rfl, rfl, Hl0.out, HR.out _ _, HE.out _⟩⟩, HS.out⟩
end Go.Proofs.YtohjjgefklhmaaaGreatDoor

namespace Go.Proofs.YtohjjgefklhmaaaGreatDoor
open Go.ChangeShapes Go.WideShapes Go.ChangeAt Go.RowKit
set_option linter.unusedVariables false

/-- what 'owner' leaves of the beginning -/
def OPost (base : Nat) (w0 w' : World) (gw : Nat) (nb no nr : Nat) (t x : RowV) (l : Nat → Obj → Prop) : Prop :=
  ∃ vb vo vr bs os rs, List.length bs ≤ nb ∧ List.length os ≤ no ∧ List.length rs ≤ nr ∧
    WSt base w0 w' gw { v := vb, n := bs.length, xs := ints bs } { v := vo, n := os.length, xs := ints os } { v := vr, n := rs.length, xs := ints rs } t x l
theorem ints_push (bs : List Int) (a : Int) : ints bs ++ [.int .i64 a] = ints (bs ++ [a]) := by simp [ints]

set_option maxHeartbeats 4000000 in
set_option maxRecDepth 100000 in
theorem owner_1 (base : Nat) (w0 : World) (gw : Nat) (vb vo vr : Value) (bs os rs : List Int) (t x : RowV) (l : Nat → Obj → Prop) (X A B C D : Int) (s : ByteArray) (w : World) (hS : WSt base w0 w gw { v := vb, n := bs.length, xs := ints bs } { v := vo, n := os.length, xs := ints os } { v := vr, n := rs.length, xs := ints rs } t x l)
    (l1 : bs.length ≤ 1000000) (l2 : os.length ≤ 1000000) (l3 : rs.length ≤ 1000000) :
    Calls Tryz.prog 13 #[.pointer (some ⟨gw, 0, none⟩), .agg #[.int .i64 1, .int .i64 X, .int .i64 A, .int .i64 B, .int .i64 C, .int .i64 D, .string s]] w fun e w' => e = .returned (.bool true) ∧ OPost base w0 w' gw (bs.length + 1) (os.length + 1) (rs.length + 1) t x l := by
  obtain ⟨i1, hi1, hz10, hz11, hz12⟩ := info_parts info_int
  have g1 := hS.W.lt
  have g2 : gw < w.heap.size + 1 := by omega
  have c : w.cell? ⟨gw, 0, none⟩ = some vb := hS.W.cell 0
  have HS : Hid (WSt base w0 w gw { v := vb, n := bs.length, xs := ints bs } { v := vo, n := os.length, xs := ints os } { v := vr, n := rs.length, xs := ints rs } t x l) := hS
  clear hS
  go_enter Tryz.func13, Tryz.ntmps13
  go_wp2_with fail
  go_region_law (refine step_append_sl2 rfl (.tmp 13) (.tmp 16) 24 rfl 3 i1 _ 1 8 Tryz.underlying24 hi1 hz10 hz11 hz12 rfl (by decide) base vb bs.length (ints bs) (by first | rfl | simp [Act.eval]) ((HS.out.alloc _).alloc _).rb ((HS.out.alloc _).alloc _).hsz ⟨_, 0, none⟩ 1 1 [.int .i64 A] (by first | rfl | simp [Act.eval]) (by rfl) (cell_newAt _ [.int .i64 A] _ _ (by simp)) (by simp [Value.oneCell']) (by decide) (by simp [maxLen]; omega) (by omega) ?_; intro g5 cap5 v5 hown5 hgrow5 hor5 hold5; obtain ⟨hW5, hS5⟩ := (((HS.out.alloc _).alloc _).drew).pushB hgrow5 hown5 (by simpa using hor5); have c3' : v5.cell? ⟨gw, 0, none⟩ = some vb := hW5.cell 0; have f3' := hW5.frozen 0; have HS5 : Hid _ := hS5; clear hS5 hown5 hgrow5 hold5 hW5)
  all_goals
    go_wp2
    go_ret
    refine ⟨rfl, .slice (some ⟨g5, 0, none⟩) (bs.length + 1) cap5, vo, vr, bs ++ [A], os, rs, by simp, by simp, by simp, ?_⟩
    have h := HS5.out
    rw [ints_push] at h
    simpa using h

set_option maxHeartbeats 4000000 in
set_option maxRecDepth 100000 in
theorem owner_3 (base : Nat) (w0 : World) (gw : Nat) (vb vo vr : Value) (bs os rs : List Int) (t x : RowV) (l : Nat → Obj → Prop) (X A B C D : Int) (s : ByteArray) (w : World) (hS : WSt base w0 w gw { v := vb, n := bs.length, xs := ints bs } { v := vo, n := os.length, xs := ints os } { v := vr, n := rs.length, xs := ints rs } t x l)
    (l1 : bs.length ≤ 1000000) (l2 : os.length ≤ 1000000) (l3 : rs.length ≤ 1000000) :
    Calls Tryz.prog 13 #[.pointer (some ⟨gw, 0, none⟩), .agg #[.int .i64 3, .int .i64 X, .int .i64 A, .int .i64 B, .int .i64 C, .int .i64 D, .string s]] w fun e w' => e = .returned (.bool true) ∧ OPost base w0 w' gw (bs.length + 1) (os.length + 1) (rs.length + 1) t x l := by
  obtain ⟨i1, hi1, hz10, hz11, hz12⟩ := info_parts info_int
  have g1 := hS.W.lt
  have g2 : gw < w.heap.size + 1 := by omega
  have c : w.cell? ⟨gw, 2, none⟩ = some vr := hS.W.cell 2
  have HS : Hid (WSt base w0 w gw { v := vb, n := bs.length, xs := ints bs } { v := vo, n := os.length, xs := ints os } { v := vr, n := rs.length, xs := ints rs } t x l) := hS
  clear hS
  go_enter Tryz.func13, Tryz.ntmps13
  go_wp2_with fail
  go_region_law (refine step_append_sl2 rfl (.tmp 50) (.tmp 53) 24 rfl 3 i1 _ 1 8 Tryz.underlying24 hi1 hz10 hz11 hz12 rfl (by decide) base vr rs.length (ints rs) (by first | rfl | simp [Act.eval]) ((HS.out.alloc _).alloc _).rr ((HS.out.alloc _).alloc _).hsz ⟨_, 0, none⟩ 1 1 [.int .i64 A] (by first | rfl | simp [Act.eval]) (by rfl) (cell_newAt _ [.int .i64 A] _ _ (by simp)) (by simp [Value.oneCell']) (by decide) (by simp [maxLen]; omega) (by omega) ?_; intro g5 cap5 v5 hown5 hgrow5 hor5 hold5; obtain ⟨hW5, hS5⟩ := (((HS.out.alloc _).alloc _).drew).pushR hgrow5 hown5 (by simpa using hor5); have c3' : v5.cell? ⟨gw, 2, none⟩ = some vr := hW5.cell 2; have f3' := hW5.frozen 2; have HS5 : Hid _ := hS5; clear hS5 hown5 hgrow5 hold5 hW5)
  all_goals
    go_wp2
    go_ret
    refine ⟨rfl, vb, vo, .slice (some ⟨g5, 0, none⟩) (rs.length + 1) cap5, bs, os, rs ++ [A], by simp, by simp, by simp, ?_⟩
    have h := HS5.out
    rw [ints_push] at h
    simpa using h

set_option maxHeartbeats 4000000 in
set_option maxRecDepth 100000 in
theorem owner_4 (base : Nat) (w0 : World) (gw : Nat) (vb vo vr : Value) (bs os rs : List Int) (t x : RowV) (l : Nat → Obj → Prop) (X A B C D : Int) (s : ByteArray) (w : World) (hS : WSt base w0 w gw { v := vb, n := bs.length, xs := ints bs } { v := vo, n := os.length, xs := ints os } { v := vr, n := rs.length, xs := ints rs } t x l)
    (l1 : bs.length ≤ 1000000) (l2 : os.length ≤ 1000000) (l3 : rs.length ≤ 1000000) :
    Calls Tryz.prog 13 #[.pointer (some ⟨gw, 0, none⟩), .agg #[.int .i64 4, .int .i64 X, .int .i64 A, .int .i64 B, .int .i64 C, .int .i64 D, .string s]] w fun e w' => e = .returned (.bool true) ∧ OPost base w0 w' gw (bs.length + 1) (os.length + 1) (rs.length + 1) t x l := by
  have g1 := hS.W.lt
  have c0 : w.cell? ⟨gw, 0, none⟩ = some vb := hS.W.cell 0
  have c1 : w.cell? ⟨gw, 1, none⟩ = some vo := hS.W.cell 1
  have c2 : w.cell? ⟨gw, 2, none⟩ = some vr := hS.W.cell 2
  have f0 := hS.W.frozen 0
  have f1 := hS.W.frozen 1
  have f2 := hS.W.frozen 2
  have HS : Hid (WSt base w0 w gw { v := vb, n := bs.length, xs := ints bs } { v := vo, n := os.length, xs := ints os } { v := vr, n := rs.length, xs := ints rs } t x l) := hS
  clear hS
  go_enter Tryz.func13, Tryz.ntmps13
  go_wp2
  go_ret
  refine ⟨rfl, .slice none 0 0, .slice none 0 0, .slice none 0 0, [], [], [], by simp, by simp, by simp, ?_⟩
  exact HS.out.clear.alloc _

set_option maxHeartbeats 4000000 in
set_option maxRecDepth 100000 in
theorem owner_no (base : Nat) (w0 : World) (gw : Nat) (vb vo vr : Value) (bs os rs : List Int) (t x : RowV) (l : Nat → Obj → Prop) (X A B C D : Int) (s : ByteArray) (w : World) (hS : WSt base w0 w gw { v := vb, n := bs.length, xs := ints bs } { v := vo, n := os.length, xs := ints os } { v := vr, n := rs.length, xs := ints rs } t x l)
    (l1 : bs.length ≤ 1000000) (l2 : os.length ≤ 1000000) (l3 : rs.length ≤ 1000000) (k : Int) (k1 : (k == 1) = false) (k2 : (k == 2) = false) (k3 : (k == 3) = false) (k4 : (k == 4) = false) (k5 : (k == 5) = false) (k6 : (k == 6) = false) :
    Calls Tryz.prog 13 #[.pointer (some ⟨gw, 0, none⟩), .agg #[.int .i64 k, .int .i64 X, .int .i64 A, .int .i64 B, .int .i64 C, .int .i64 D, .string s]] w fun e w' => e = .returned (.bool false) ∧ OPost base w0 w' gw (bs.length + 1) (os.length + 1) (rs.length + 1) t x l := by
  have HS : Hid (WSt base w0 w gw { v := vb, n := bs.length, xs := ints bs } { v := vo, n := os.length, xs := ints os } { v := vr, n := rs.length, xs := ints rs } t x l) := hS
  clear hS
  go_enter Tryz.func13, Tryz.ntmps13
  go_wp2
  go_ret
  exact ⟨rfl, vb, vo, vr, bs, os, rs, by omega, by omega, by omega, HS.out.alloc _⟩

set_option maxHeartbeats 4000000 in
set_option maxRecDepth 100000 in
theorem owner_2 (base : Nat) (w0 : World) (gw : Nat) (vb vo vr : Value) (bs os rs : List Int) (t x : RowV) (l : Nat → Obj → Prop) (X A B C D : Int) (s : ByteArray) (w : World) (hS : WSt base w0 w gw { v := vb, n := bs.length, xs := ints bs } { v := vo, n := os.length, xs := ints os } { v := vr, n := rs.length, xs := ints rs } t x l)
    (l1 : bs.length ≤ 1000000) (l2 : os.length ≤ 1000000) (l3 : rs.length ≤ 1000000) :
    Calls Tryz.prog 13 #[.pointer (some ⟨gw, 0, none⟩), .agg #[.int .i64 2, .int .i64 X, .int .i64 A, .int .i64 B, .int .i64 C, .int .i64 D, .string s]] w fun e w' => e = .returned (.bool true) ∧ OPost base w0 w' gw (bs.length + 1) (os.length + 1) (rs.length + 1) t x l := by
  obtain ⟨i1, hi1, hz10, hz11, hz12⟩ := info_parts info_int
  have g1 := hS.W.lt
  have g2 : gw < w.heap.size + 1 := by omega
  have c : w.cell? ⟨gw, 1, none⟩ = some vo := hS.W.cell 1
  have HS : Hid (WSt base w0 w gw { v := vb, n := bs.length, xs := ints bs } { v := vo, n := os.length, xs := ints os } { v := vr, n := rs.length, xs := ints rs } t x l) := hS
  clear hS
  go_enter Tryz.func13, Tryz.ntmps13
  go_wp2_with fail
  go_cut [] (fun wx => ∃ vo', WSt base w0 wx gw { v := vb, n := bs.length, xs := ints bs } { v := vo', n := os.length + 1, xs := ints (os ++ [A]) } { v := vr, n := rs.length, xs := ints rs } t x l ∧ Has wx w.heap.size 27 [.int .i64 2, .int .i64 X, .int .i64 A, .int .i64 B, .int .i64 C, .int .i64 D, .string s])
  case first =>
    have hBx : Has (w.alloc (.cells #[.int .i64 2, .int .i64 X, .int .i64 A, .int .i64 B, .int .i64 C, .int .i64 D, .string s] 27)) w.heap.size 27 [.int .i64 2, .int .i64 X, .int .i64 A, .int .i64 B, .int .i64 C, .int .i64 D, .string s] := Has.newA w _ _
    have HBx : Hid (Has (w.alloc (.cells #[.int .i64 2, .int .i64 X, .int .i64 A, .int .i64 B, .int .i64 C, .int .i64 D, .string s] 27)) w.heap.size 27 [.int .i64 2, .int .i64 X, .int .i64 A, .int .i64 B, .int .i64 C, .int .i64 D, .string s]) := hBx
    clear hBx
    go_region_law (refine step_append_sl2 rfl (.tmp 26) (.tmp 29) 24 rfl 3 i1 _ 1 8 Tryz.underlying24 hi1 hz10 hz11 hz12 rfl (by decide) base vo os.length (ints os) (by first | rfl | simp [Act.eval]) ((HS.out.alloc _).alloc _).ro ((HS.out.alloc _).alloc _).hsz ⟨_, 0, none⟩ 1 1 [.int .i64 A] (by first | rfl | simp [Act.eval]) (by rfl) (cell_newAt _ [.int .i64 A] _ _ (by simp)) (by simp [Value.oneCell']) (by decide) (by simp [maxLen]; omega) (by omega) ?_; intro g5 cap5 v5 hown5 hgrow5 hor5 hold5; obtain ⟨hW5, hS5⟩ := (((HS.out.alloc _).alloc _).drew).pushO hgrow5 hown5 (by simpa using hor5); have c3' : v5.cell? ⟨gw, 1, none⟩ = some vo := hW5.cell 1; have f3' := hW5.frozen 1; have HS5 : Hid _ := hS5; have hO5 := ((grown_has hgrow5 ((HBx.out.alloc _).drew) (Has.apart HBx.out (HS.out.alloc _).ro (by decide))).other ⟨gw, 1, none⟩ (.slice (some ⟨g5, 0, none⟩) (os.length + 1) cap5) (by show w.heap.size ≠ gw; omega)); clear hS5 hown5 hgrow5 hold5 hW5)
    all_goals
      go_wp2_with fail
      go_meet
      have h := HS5.out
      rw [ints_push] at h
      exact ⟨_, h, hO5⟩
  case rest =>
    obtain ⟨vo', hS2, hO⟩ := hcut
    have HS2 : Hid (WSt base w0 wc gw { v := vb, n := bs.length, xs := ints bs } { v := vo', n := os.length + 1, xs := ints (os ++ [A]) } { v := vr, n := rs.length, xs := ints rs } t x l) := hS2
    have c2 : wc.cell? ⟨gw, 2, none⟩ = some vr := hS2.W.cell 2
    have o3 : wc.cell? ⟨w.heap.size, 3, none⟩ = some (.int .i64 B) := hO.cell 3
    have g3 := hS2.W.lt
    have g4 := hO.lt
    clear hS2 hO c HS
    go_wp2_with fail
    go_region_law (refine step_append_sl2 rfl (.tmp 37) (.tmp 40) 24 rfl 3 i1 _ 1 8 Tryz.underlying24 hi1 hz10 hz11 hz12 rfl (by decide) base vr rs.length (ints rs) (by first | rfl | simp [Act.eval]) (HS2.out.alloc _).rr (HS2.out.alloc _).hsz ⟨_, 0, none⟩ 1 1 [.int .i64 B] (by first | rfl | simp [Act.eval]) (by rfl) (cell_newAt _ [.int .i64 B] _ _ (by simp)) (by simp [Value.oneCell']) (by decide) (by simp [maxLen]; omega) (by omega) ?_; intro g5 cap5 v5 hown5 hgrow5 hor5 hold5; obtain ⟨hW5, hS5⟩ := ((HS2.out.alloc _).drew).pushR hgrow5 hown5 (by simpa using hor5); have c3' : v5.cell? ⟨gw, 2, none⟩ = some vr := hW5.cell 2; have f3' := hW5.frozen 2; have HS5 : Hid _ := hS5; clear hS5 hown5 hgrow5 hold5 hW5)
    all_goals
      go_wp2
      go_ret
      refine ⟨rfl, vb, vo', .slice (some ⟨g5, 0, none⟩) (rs.length + 1) cap5, bs, os ++ [A], rs ++ [B], by simp, by simp, by simp, ?_⟩
      have h := HS5.out
      rw [ints_push] at h
      simpa using h
end Go.Proofs.YtohjjgefklhmaaaGreatDoor
