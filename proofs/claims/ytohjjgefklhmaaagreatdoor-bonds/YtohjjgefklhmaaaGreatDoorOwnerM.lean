import Derived.Test.YtohjjgefklhmaaaGreatDoorWStM
import Derived.Deep.RegionWith
import Derived.Deep.DeepCutAuto
namespace Go.Proofs.YtohjjgefklhmaaaGreatDoor
open Go.ChangeShapes Go.WideShapes Go.ChangeAt Go.RowKit
set_option linter.unusedVariables false

/-- what 'owner' leaves of the beginning -/
def OPost (base : Nat) (w0 w' : World) (gw : Nat) (nb no nr : Nat) (t x : RowV) (l : Nat → Obj → Prop) : Prop :=
  ∃ vb vo vr bs os rs, List.length bs ≤ nb ∧ List.length os ≤ no ∧ List.length rs ≤ nr ∧
    WSt base w0 w' gw { v := vb, n := bs.length, xs := ints bs } { v := vo, n := os.length, xs := ints os } { v := vr, n := rs.length, xs := ints rs } t x l
theorem ints_push (bs : List Int) (a : Int) : ints bs ++ [.int .i64 a] = ints (bs ++ [a]) := by simp [ints]

set_option maxHeartbeats 4000000 in
set_option maxRecDepth 100000 in
theorem owner_1 (base : Nat) (w0 : World) (gw : Nat) (vb vo vr : Value) (bs os rs : List Int) (t x : RowV) (l : Nat → Obj → Prop) (X A B C D : Int) (s : ByteArray) (w : World) (hS : WSt base w0 w gw { v := vb, n := bs.length, xs := ints bs } { v := vo, n := os.length, xs := ints os } { v := vr, n := rs.length, xs := ints rs } t x l)
    (l1 : bs.length ≤ 1000000) (l2 : os.length ≤ 1000000) (l3 : rs.length ≤ 1000000) :
    Calls Tryz.prog 13 #[.pointer (some ⟨gw, 0, none⟩), .agg #[.int .i64 1, .int .i64 X, .int .i64 A, .int .i64 B, .int .i64 C, .int .i64 D, .string s]] w fun e w' => e = .returned (.bool true) ∧ OPost base w0 w' gw (bs.length + 1) (os.length + 1) (rs.length + 1) t x l := by
  obtain ⟨i1, hi1, hz10, hz11, hz12⟩ := info_parts info_int
  have g1 := hS.W.lt
  have g2 : gw < w.heap.size + 1 := by omega
  have c : w.cell? ⟨gw, 0, none⟩ = some vb := hS.W.cell 0
  have HS : Hid (WSt base w0 w gw { v := vb, n := bs.length, xs := ints bs } { v := vo, n := os.length, xs := ints os } { v := vr, n := rs.length, xs := ints rs } t x l) := hS
  clear hS
  go_enter Tryz.func13, Tryz.ntmps13
  go_wp2_with fail
  go_region_law (refine step_append_sl2 rfl (.tmp 13) (.tmp 16) 24 rfl 3 i1 _ 1 8 Tryz.underlying24 hi1 hz10 hz11 hz12 rfl (by decide) base vb bs.length (ints bs) (by first | rfl | simp [Act.eval]) ((HS.out.alloc _).alloc _).rb ((HS.out.alloc _).alloc _).hsz ⟨_, 0, none⟩ 1 1 [.int .i64 A] (by first | rfl | simp [Act.eval]) (by rfl) (cell_newAt _ [.int .i64 A] _ _ (by simp)) (by simp [Value.oneCell']) (by decide) (by simp [maxLen]; omega) (by omega) ?_; intro g5 cap5 v5 hown5 hgrow5 hor5 hold5; obtain ⟨hW5, hS5⟩ := (((HS.out.alloc _).alloc _).drew).pushB hgrow5 hown5 (by simpa using hor5); have c3' : v5.cell? ⟨gw, 0, none⟩ = some vb := hW5.cell 0; have f3' := hW5.frozen 0; have HS5 : Hid _ := hS5; clear hS5 hown5 hgrow5 hold5 hW5)
  all_goals
    go_wp2
    go_ret
    refine ⟨rfl, .slice (some ⟨g5, 0, none⟩) (bs.length + 1) cap5, vo, vr, bs ++ [A], os, rs, by simp, by simp, by simp, ?_⟩
    have h := HS5.out
    rw [ints_push] at h
    simpa using h

set_option maxHeartbeats 4000000 in
set_option maxRecDepth 100000 in
theorem owner_3 (base : Nat) (w0 : World) (gw : Nat) (vb vo vr : Value) (bs os rs : List Int) (t x : RowV) (l : Nat → Obj → Prop) (X A B C D : Int) (s : ByteArray) (w : World) (hS : WSt base w0 w gw { v := vb, n := bs.length, xs := ints bs } { v := vo, n := os.length, xs := ints os } { v := vr, n := rs.length, xs := ints rs } t x l)
    (l1 : bs.length ≤ 1000000) (l2 : os.length ≤ 1000000) (l3 : rs.length ≤ 1000000) :
    Calls Tryz.prog 13 #[.pointer (some ⟨gw, 0, none⟩), .agg #[.int .i64 3, .int .i64 X, .int .i64 A, .int .i64 B, .int .i64 C, .int .i64 D, .string s]] w fun e w' => e = .returned (.bool true) ∧ OPost base w0 w' gw (bs.length + 1) (os.length + 1) (rs.length + 1) t x l := by
  obtain ⟨i1, hi1, hz10, hz11, hz12⟩ := info_parts info_int
  have g1 := hS.W.lt
  have g2 : gw < w.heap.size + 1 := by omega
  have c : w.cell? ⟨gw, 2, none⟩ = some vr := hS.W.cell 2
  have HS : Hid (WSt base w0 w gw { v := vb, n := bs.length, xs := ints bs } { v := vo, n := os.length, xs := ints os } { v := vr, n := rs.length, xs := ints rs } t x l) := hS
  clear hS
  go_enter Tryz.func13, Tryz.ntmps13
  go_wp2_with fail
  go_region_law (refine step_append_sl2 rfl (.tmp 50) (.tmp 53) 24 rfl 3 i1 _ 1 8 Tryz.underlying24 hi1 hz10 hz11 hz12 rfl (by decide) base vr rs.length (ints rs) (by first | rfl | simp [Act.eval]) ((HS.out.alloc _).alloc _).rr ((HS.out.alloc _).alloc _).hsz ⟨_, 0, none⟩ 1 1 [.int .i64 A] (by first | rfl | simp [Act.eval]) (by rfl) (cell_newAt _ [.int .i64 A] _ _ (by simp)) (by simp [Value.oneCell']) (by decide) (by simp [maxLen]; omega) (by omega) ?_; intro g5 cap5 v5 hown5 hgrow5 hor5 hold5; obtain ⟨hW5, hS5⟩ := (((HS.out.alloc _).alloc _).drew).pushR hgrow5 hown5 (by simpa using hor5); have c3' : v5.cell? ⟨gw, 2, none⟩ = some vr := hW5.cell 2; have f3' := hW5.frozen 2; have HS5 : Hid _ := hS5; clear hS5 hown5 hgrow5 hold5 hW5)
  all_goals
    go_wp2
    go_ret
    refine ⟨rfl, vb, vo, .slice (some ⟨g5, 0, none⟩) (rs.length + 1) cap5, bs, os, rs ++ [A], by simp, by simp, by simp, ?_⟩
    have h := HS5.out
    rw [ints_push] at h
    simpa using h

set_option maxHeartbeats 4000000 in
set_option maxRecDepth 100000 in
theorem owner_4 (base : Nat) (w0 : World) (gw : Nat) (vb vo vr : Value) (bs os rs : List Int) (t x : RowV) (l : Nat → Obj → Prop) (X A B C D : Int) (s : ByteArray) (w : World) (hS : WSt base w0 w gw { v := vb, n := bs.length, xs := ints bs } { v := vo, n := os.length, xs := ints os } { v := vr, n := rs.length, xs := ints rs } t x l)
    (l1 : bs.length ≤ 1000000) (l2 : os.length ≤ 1000000) (l3 : rs.length ≤ 1000000) :
    Calls Tryz.prog 13 #[.pointer (some ⟨gw, 0, none⟩), .agg #[.int .i64 4, .int .i64 X, .int .i64 A, .int .i64 B, .int .i64 C, .int .i64 D, .string s]] w fun e w' => e = .returned (.bool true) ∧ OPost base w0 w' gw (bs.length + 1) (os.length + 1) (rs.length + 1) t x l := by
  have g1 := hS.W.lt
  have c0 : w.cell? ⟨gw, 0, none⟩ = some vb := hS.W.cell 0
  have c1 : w.cell? ⟨gw, 1, none⟩ = some vo := hS.W.cell 1
  have c2 : w.cell? ⟨gw, 2, none⟩ = some vr := hS.W.cell 2
  have f0 := hS.W.frozen 0
  have f1 := hS.W.frozen 1
  have f2 := hS.W.frozen 2
  have HS : Hid (WSt base w0 w gw { v := vb, n := bs.length, xs := ints bs } { v := vo, n := os.length, xs := ints os } { v := vr, n := rs.length, xs := ints rs } t x l) := hS
  clear hS
  go_enter Tryz.func13, Tryz.ntmps13
  go_wp2
  go_ret
  refine ⟨rfl, .slice none 0 0, .slice none 0 0, .slice none 0 0, [], [], [], by simp, by simp, by simp, ?_⟩
  exact HS.out.clear.alloc _

set_option maxHeartbeats 4000000 in
set_option maxRecDepth 100000 in
theorem owner_no (base : Nat) (w0 : World) (gw : Nat) (vb vo vr : Value) (bs os rs : List Int) (t x : RowV) (l : Nat → Obj → Prop) (X A B C D : Int) (s : ByteArray) (w : World) (hS : WSt base w0 w gw { v := vb, n := bs.length, xs := ints bs } { v := vo, n := os.length, xs := ints os } { v := vr, n := rs.length, xs := ints rs } t x l)
    (l1 : bs.length ≤ 1000000) (l2 : os.length ≤ 1000000) (l3 : rs.length ≤ 1000000) (k : Int) (k1 : (k == 1) = false) (k2 : (k == 2) = false) (k3 : (k == 3) = false) (k4 : (k == 4) = false) (k5 : (k == 5) = false) (k6 : (k == 6) = false) :
    Calls Tryz.prog 13 #[.pointer (some ⟨gw, 0, none⟩), .agg #[.int .i64 k, .int .i64 X, .int .i64 A, .int .i64 B, .int .i64 C, .int .i64 D, .string s]] w fun e w' => e = .returned (.bool false) ∧ OPost base w0 w' gw (bs.length + 1) (os.length + 1) (rs.length + 1) t x l := by
  have HS : Hid (WSt base w0 w gw { v := vb, n := bs.length, xs := ints bs } { v := vo, n := os.length, xs := ints os } { v := vr, n := rs.length, xs := ints rs } t x l) := hS
  clear hS
  go_enter Tryz.func13, Tryz.ntmps13
  go_wp2
  go_ret
  exact ⟨rfl, vb, vo, vr, bs, os, rs, by omega, by omega, by omega, HS.out.alloc _⟩

set_option maxHeartbeats 4000000 in
set_option maxRecDepth 100000 in
theorem owner_2 (base : Nat) (w0 : World) (gw : Nat) (vb vo vr : Value) (bs os rs : List Int) (t x : RowV) (l : Nat → Obj → Prop) (X A B C D : Int) (s : ByteArray) (w : World) (hS : WSt base w0 w gw { v := vb, n := bs.length, xs := ints bs } { v := vo, n := os.length, xs := ints os } { v := vr, n := rs.length, xs := ints rs } t x l)
    (l1 : bs.length ≤ 1000000) (l2 : os.length ≤ 1000000) (l3 : rs.length ≤ 1000000) :
    Calls Tryz.prog 13 #[.pointer (some ⟨gw, 0, none⟩), .agg #[.int .i64 2, .int .i64 X, .int .i64 A, .int .i64 B, .int .i64 C, .int .i64 D, .string s]] w fun e w' => e = .returned (.bool true) ∧ OPost base w0 w' gw (bs.length + 1) (os.length + 1) (rs.length + 1) t x l := by
  obtain ⟨i1, hi1, hz10, hz11, hz12⟩ := info_parts info_int
  have g1 := hS.W.lt
  have g2 : gw < w.heap.size + 1 := by omega
  have c : w.cell? ⟨gw, 1, none⟩ = some vo := hS.W.cell 1
  have HS : Hid (WSt base w0 w gw { v := vb, n := bs.length, xs := ints bs } { v := vo, n := os.length, xs := ints os } { v := vr, n := rs.length, xs := ints rs } t x l) := hS
  clear hS
  go_enter Tryz.func13, Tryz.ntmps13
  go_wp2_with fail
  go_cut [] (fun wx => ∃ vo', WSt base w0 wx gw { v := vb, n := bs.length, xs := ints bs } { v := vo', n := os.length + 1, xs := ints (os ++ [A]) } { v := vr, n := rs.length, xs := ints rs } t x l ∧ Has wx w.heap.size 27 [.int .i64 2, .int .i64 X, .int .i64 A, .int .i64 B, .int .i64 C, .int .i64 D, .string s])
  case first =>
    have hBx : Has (w.alloc (.cells #[.int .i64 2, .int .i64 X, .int .i64 A, .int .i64 B, .int .i64 C, .int .i64 D, .string s] 27)) w.heap.size 27 [.int .i64 2, .int .i64 X, .int .i64 A, .int .i64 B, .int .i64 C, .int .i64 D, .string s] := Has.newA w _ _
    have HBx : Hid (Has (w.alloc (.cells #[.int .i64 2, .int .i64 X, .int .i64 A, .int .i64 B, .int .i64 C, .int .i64 D, .string s] 27)) w.heap.size 27 [.int .i64 2, .int .i64 X, .int .i64 A, .int .i64 B, .int .i64 C, .int .i64 D, .string s]) := hBx
    clear hBx
    go_region_law (refine step_append_sl2 rfl (.tmp 26) (.tmp 29) 24 rfl 3 i1 _ 1 8 Tryz.underlying24 hi1 hz10 hz11 hz12 rfl (by decide) base vo os.length (ints os) (by first | rfl | simp [Act.eval]) ((HS.out.alloc _).alloc _).ro ((HS.out.alloc _).alloc _).hsz ⟨_, 0, none⟩ 1 1 [.int .i64 A] (by first | rfl | simp [Act.eval]) (by rfl) (cell_newAt _ [.int .i64 A] _ _ (by simp)) (by simp [Value.oneCell']) (by decide) (by simp [maxLen]; omega) (by omega) ?_; intro g5 cap5 v5 hown5 hgrow5 hor5 hold5; obtain ⟨hW5, hS5⟩ := (((HS.out.alloc _).alloc _).drew).pushO hgrow5 hown5 (by simpa using hor5); have c3' : v5.cell? ⟨gw, 1, none⟩ = some vo := hW5.cell 1; have f3' := hW5.frozen 1; have HS5 : Hid _ := hS5; have hO5 := ((grown_has hgrow5 ((HBx.out.alloc _).drew) (Has.apart HBx.out (HS.out.alloc _).ro (by decide))).other ⟨gw, 1, none⟩ (.slice (some ⟨g5, 0, none⟩) (os.length + 1) cap5) (by show w.heap.size ≠ gw; omega)); clear hS5 hown5 hgrow5 hold5 hW5)
    all_goals
      go_wp2_with fail
      go_meet
      have h := HS5.out
      rw [ints_push] at h
      exact ⟨_, h, hO5⟩
  case rest =>
    obtain ⟨vo', hS2, hO⟩ := hcut
    have HS2 : Hid (WSt base w0 wc gw { v := vb, n := bs.length, xs := ints bs } { v := vo', n := os.length + 1, xs := ints (os ++ [A]) } { v := vr, n := rs.length, xs := ints rs } t x l) := hS2
    have c2 : wc.cell? ⟨gw, 2, none⟩ = some vr := hS2.W.cell 2
    have o3 : wc.cell? ⟨w.heap.size, 3, none⟩ = some (.int .i64 B) := hO.cell 3
    have g3 := hS2.W.lt
    have g4 := hO.lt
    clear hS2 hO c HS
    go_wp2_with fail
    go_region_law (refine step_append_sl2 rfl (.tmp 37) (.tmp 40) 24 rfl 3 i1 _ 1 8 Tryz.underlying24 hi1 hz10 hz11 hz12 rfl (by decide) base vr rs.length (ints rs) (by first | rfl | simp [Act.eval]) (HS2.out.alloc _).rr (HS2.out.alloc _).hsz ⟨_, 0, none⟩ 1 1 [.int .i64 B] (by first | rfl | simp [Act.eval]) (by rfl) (cell_newAt _ [.int .i64 B] _ _ (by simp)) (by simp [Value.oneCell']) (by decide) (by simp [maxLen]; omega) (by omega) ?_; intro g5 cap5 v5 hown5 hgrow5 hor5 hold5; obtain ⟨hW5, hS5⟩ := ((HS2.out.alloc _).drew).pushR hgrow5 hown5 (by simpa using hor5); have c3' : v5.cell? ⟨gw, 2, none⟩ = some vr := hW5.cell 2; have f3' := hW5.frozen 2; have HS5 : Hid _ := hS5; clear hS5 hown5 hgrow5 hold5 hW5)
    all_goals
      go_wp2
      go_ret
      refine ⟨rfl, vb, vo', .slice (some ⟨g5, 0, none⟩) (rs.length + 1) cap5, bs, os ++ [A], rs ++ [B], by simp, by simp, by simp, ?_⟩
      have h := HS5.out
      rw [ints_push] at h
      simpa using h
end Go.Proofs.YtohjjgefklhmaaaGreatDoor
