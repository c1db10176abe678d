import Derived.Test.YtenjjneobkodbaaGreatOwner
import Derived.Test.YtenjjneobkodbaaGreatTurn
import Derived.Test.YtenjjneobkodbaaGreatFresh
import Derived.Test.YtenjjneobkodbaaGreatPlays
namespace Go.Proofs.YtenjjneobkodbaaGreat
open Go.ChangeShapes Go.WideShapes Go.ChangeAt Go.RowKit
set_option linter.unusedVariables false

/-- what holds between two steps; n: so many steps were played -/
def SInv (base : Nat) (w0 w : World) (gw n : Nat) (x : RowV) (l : Nat → Obj → Prop) : Prop :=
  ∃ vb vo vr tv bs os rs ts, List.length bs ≤ n ∧ List.length os ≤ n ∧ List.length rs ≤ n ∧ List.length ts ≤ n ∧ (∀ k (h : k < ts.length), ts[k].1.size ≤ 16384) ∧
    WSt base w0 w gw { v := vb, n := bs.length, xs := ints bs } { v := vo, n := os.length, xs := ints os } { v := vr, n := rs.length, xs := ints rs } { v := tv, n := ts.length, xs := trow ts } x l

set_option maxHeartbeats 4000000 in
set_option maxRecDepth 100000 in
theorem owner_5 (base : Nat) (w0 : World) (gw : Nat) (b o r x : RowV) (l : Nat → Obj → Prop) (tv : Value) (ts : List (ByteArray × Option Addr)) (X A B C D : Int) (s : ByteArray) (w : World) (hS : WSt base w0 w gw b o r { v := tv, n := ts.length, xs := trow ts } x l)
    (hts : ts.length ≤ 100000) (hsz : ∀ k (h : k < ts.length), ts[k].1.size ≤ 16384) (hs : s.size ≤ 16384) :
    Calls Tryz.prog 12 #[.pointer (some ⟨gw, 0, none⟩), .agg #[.int .i64 5, .int .i64 X, .int .i64 A, .int .i64 B, .int .i64 C, .int .i64 D, .string s]] w fun e w' => e = .returned (.bool true) ∧ TPost base w0 w' gw b o r x l (ts.length + 1) := by
  obtain ⟨ta, tc, (hta : tv = .slice ta ts.length tc)⟩ := ownsRow_slice hS.rt
  subst hta
  obtain ⟨i6, hi6, hz60, hz61, hz62⟩ := info_parts info_text
  have g1 := hS.W.lt
  have g2 : gw < w.heap.size + 1 := by omega
  have c : w.cell? ⟨gw, 3, none⟩ = some (.slice ta ts.length tc) := hS.W.cell 3
  have HS : Hid (WSt base w0 w gw b o r { v := .slice ta ts.length tc, n := ts.length, xs := trow ts } x l) := hS
  have HZ : Hid (∀ k (h : k < ts.length), ts[k].1.size ≤ 16384) := hsz
  clear hS hsz
  go_enter Tryz.func12, Tryz.ntmps12
  go_wp2_with fail
  go_region_law (refine step_append_sl2 rfl (.tmp 74) (.tmp 78) 30 rfl 42 i6 _ 2 24 Tryz.underlying30 hi6 hz60 hz61 hz62 rfl (by decide) base (.slice ta ts.length tc) ts.length (trow ts) (by first | rfl | simp [Act.eval]) ((HS.out.alloc _).alloc _).rt ((HS.out.alloc _).alloc _).hsz ⟨_, 0, none⟩ 1 1 [.string s, .pointer none] (by first | rfl | simp [Act.eval]) (by rfl) (cell_newAt _ [.string s, .pointer none] _ _ (by simp)) (by simp [Value.oneCell']) (by decide) (by simp [maxLen]; omega) (by omega) ?_; intro g5 cap5 v5 hown5 hgrow5 hor5 hold5; obtain ⟨hW5, hS5⟩ := (((HS.out.alloc _).alloc _).drew).pushT hgrow5 hown5 (by simpa using hor5); have c3' : v5.cell? ⟨gw, 3, none⟩ = some (.slice ta ts.length tc) := hW5.cell 3; have f3' := hW5.frozen 3; have HS5 : Hid _ := hS5; clear hS5 hown5 hgrow5 hold5 hW5)
  all_goals
    go_wp2
    go_ret
    refine ⟨rfl, .slice (some ⟨g5, 0, none⟩) (ts.length + 1) cap5, ts ++ [(s, none)], by simp, ?_, ?_⟩
    · exact texts_snoc HZ.out _ _ hs
    · rw [trow_snoc, List.length_append]; exact HS5.out

set_option maxHeartbeats 4000000 in
set_option maxRecDepth 100000 in
theorem owner_6 (base : Nat) (w0 : World) (gw : Nat) (b o r x : RowV) (l : Nat → Obj → Prop) (tv : Value) (ts : List (ByteArray × Option Addr)) (X A B C D : Int) (s : ByteArray) (w : World) (hS : WSt base w0 w gw b o r { v := tv, n := ts.length, xs := trow ts } x l)
    (hts : ts.length ≤ 100000) (hsz : ∀ k (h : k < ts.length), ts[k].1.size ≤ 16384) (hA : i64R A) (hB : i64R B) :
    Calls Tryz.prog 12 #[.pointer (some ⟨gw, 0, none⟩), .agg #[.int .i64 6, .int .i64 X, .int .i64 A, .int .i64 B, .int .i64 C, .int .i64 D, .string s]] w fun e w' => e = .returned (.bool true) ∧ TPost base w0 w' gw b o r x l (ts.length + 1) := by
  have HS : Hid (WSt base w0 w gw b o r { v := tv, n := ts.length, xs := trow ts } x l) := hS
  have HZ : Hid (∀ k (h : k < ts.length), ts[k].1.size ≤ 16384) := hsz
  have HA : Hid (i64R A ∧ i64R B) := ⟨hA, hB⟩
  clear hS hsz hA hB
  go_enter Tryz.func12, Tryz.ntmps12
  go_wp2_with fail
  refine (turned_any base w0 gw b o r x l tv ts A B C _ (HS.out.alloc _) hts HZ.out HA.out.1.1 HA.out.1.2 HA.out.2.1 HA.out.2.2).mono ?_
  rintro e w2 ⟨rfl, hT⟩
  have HT : Hid (TPost base w0 w2 gw b o r x l (ts.length + 1)) := hT
  clear hT
  go_wp2
  go_ret
  exact ⟨rfl, HT.out⟩

theorem SInv.mono {base : Nat} {w0 w : World} {gw n m : Nat} {x : RowV} {l : Nat → Obj → Prop} (h : SInv base w0 w gw n x l) (hm : n ≤ m) : SInv base w0 w gw m x l := by
  obtain ⟨vb, vo, vr, tv, bs, os, rs, ts, h1, h2, h3, h4, h6, h7⟩ := h
  exact ⟨vb, vo, vr, tv, bs, os, rs, ts, by omega, by omega, by omega, by omega, h6, h7⟩
theorem SInv.of_O {base : Nat} {w0 w : World} {gw n a b c : Nat} {tv : Value} {ts : List (ByteArray × Option Addr)} {x : RowV} {l : Nat → Obj → Prop} (h : OPost base w0 w gw a b c { v := tv, n := ts.length, xs := trow ts } x l) (ha : a ≤ n) (hb : b ≤ n) (hc : c ≤ n) (ht : ts.length ≤ n)
    (hz : ∀ k (h : k < ts.length), ts[k].1.size ≤ 16384) : SInv base w0 w gw n x l := by
  obtain ⟨vb, vo, vr, bs, os, rs, h1, h2, h3, h4⟩ := h
  exact ⟨vb, vo, vr, tv, bs, os, rs, ts, by omega, by omega, by omega, ht, hz, h4⟩
theorem SInv.of_T {base : Nat} {w0 w : World} {gw n m : Nat} {vb vo vr : Value} {bs os rs : List Int} {x : RowV} {l : Nat → Obj → Prop} (h : TPost base w0 w gw { v := vb, n := bs.length, xs := ints bs } { v := vo, n := os.length, xs := ints os } { v := vr, n := rs.length, xs := ints rs } x l m) (hm : m ≤ n) (hb : bs.length ≤ n) (ho : os.length ≤ n) (hr : rs.length ≤ n) : SInv base w0 w gw n x l := by
  obtain ⟨tv', ts', h1, h2, h3⟩ := h
  exact ⟨vb, vo, vr, tv', bs, os, rs, ts', hb, ho, hr, by omega, h2, h3⟩

/-- all kinds of 'owner' -/
theorem owner_all (base : Nat) (w0 : World) (gw n : Nat) (x : RowV) (l : Nat → Obj → Prop) (o : OpD) (w : World) (hS : SInv base w0 w gw n x l) (hn : n ≤ 50000) (ho : o.ok) (hs : o.s.size ≤ 16384) :
    Calls Tryz.prog 12 #[.pointer (some ⟨gw, 0, none⟩), .agg #[.int .i64 o.kind, .int .i64 o.x, .int .i64 o.a, .int .i64 o.b, .int .i64 o.c, .int .i64 o.d, .string o.s]] w fun e w' => BoolIff e (1 ≤ o.kind ∧ o.kind ≤ 6) ∧ SInv base w0 w' gw (n + 1) x l := by
  obtain ⟨vb, vo, vr, tv, bs, os, rs, ts, h1, h2, h3, h4, h6, h7⟩ := hS
  obtain ⟨kind, X, A, B, C, D, s⟩ := o
  obtain ⟨_, _, hA, hB, _, _⟩ := ho
  simp only at hA hB hs
  by_cases k1 : kind = 1
  · subst k1
    refine (owner_1 base w0 gw vb vo vr bs os rs _ x l X A B C D s w h7 (by omega) (by omega) (by omega)).mono ?_
    rintro e w' ⟨rfl, hP⟩
    exact ⟨BoolIff.tt (by simp), SInv.of_O hP (by omega) (by omega) (by omega) (by omega) h6⟩
  by_cases k2 : kind = 2
  · subst k2
    refine (owner_2 base w0 gw vb vo vr bs os rs _ x l X A B C D s w h7 (by omega) (by omega) (by omega)).mono ?_
    rintro e w' ⟨rfl, hP⟩
    exact ⟨BoolIff.tt (by simp), SInv.of_O hP (by omega) (by omega) (by omega) (by omega) h6⟩
  by_cases k3 : kind = 3
  · subst k3
    refine (owner_3 base w0 gw vb vo vr bs os rs _ x l X A B C D s w h7 (by omega) (by omega) (by omega)).mono ?_
    rintro e w' ⟨rfl, hP⟩
    exact ⟨BoolIff.tt (by simp), SInv.of_O hP (by omega) (by omega) (by omega) (by omega) h6⟩
  by_cases k4 : kind = 4
  · subst k4
    refine (owner_4 base w0 gw vb vo vr bs os rs _ x l X A B C D s w h7 (by omega) (by omega) (by omega)).mono ?_
    rintro e w' ⟨rfl, hP⟩
    exact ⟨BoolIff.tt (by simp), SInv.of_O hP (by omega) (by omega) (by omega) (by omega) h6⟩
  by_cases k5 : kind = 5
  · subst k5
    refine (owner_5 base w0 gw _ _ _ x l tv ts X A B C D s w h7 (by omega) h6 hs).mono ?_
    rintro e w' ⟨rfl, hP⟩
    exact ⟨BoolIff.tt (by simp), SInv.of_T hP (by omega) (by omega) (by omega) (by omega)⟩
  by_cases k6 : kind = 6
  · subst k6
    refine (owner_6 base w0 gw _ _ _ x l tv ts X A B C D s w h7 (by omega) h6 hA hB).mono ?_
    rintro e w' ⟨rfl, hP⟩
    exact ⟨BoolIff.tt (by simp), SInv.of_T hP (by omega) (by omega) (by omega) (by omega)⟩
  refine (owner_no base w0 gw vb vo vr bs os rs _ x l X A B C D s w h7 (by omega) (by omega) (by omega) kind (beq_eq_false_iff_ne.2 k1) (beq_eq_false_iff_ne.2 k2) (beq_eq_false_iff_ne.2 k3) (beq_eq_false_iff_ne.2 k4) (beq_eq_false_iff_ne.2 k5) (beq_eq_false_iff_ne.2 k6)).mono ?_
  rintro e w' ⟨rfl, hP⟩
  exact ⟨BoolIff.ff (by simp only; omega), SInv.of_O hP (by omega) (by omega) (by omega) (by omega) h6⟩
end Go.Proofs.YtenjjneobkodbaaGreat
