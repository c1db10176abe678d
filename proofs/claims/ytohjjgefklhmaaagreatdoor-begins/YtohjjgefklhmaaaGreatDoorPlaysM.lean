import Derived.Test.YtohjjgefklhmaaaGreatDoorTurnM
namespace Go.Proofs.YtohjjgefklhmaaaGreatDoor
open Go.ChangeShapes Go.WideShapes Go.ChangeAt Go.RowKit
set_option linter.unusedVariables false

/-- the kinds that are played -/
def Allow (ks : List Int) (k : Int) : Prop := k < 7 ∨ k ∈ ks
def AllOk (ks : List Int) (lo : List OpD) : Prop := ∀ k (h : k < lo.length), Allow ks lo[k].kind ∧ lo[k].ok ∧ lo[k].s.size ≤ 16384
/-- what is claimed of 'upTo' -/
def UpToSaid (B : Nat) (W0 : World) (ks : List Int) : Prop := ∀ (w : World) (lv : Value) (lo : List OpD), Below B W0 w → w.ownsRow 0 27 7 lv lo.length (oprow lo) → lo.length ≤ 16384 → AllOk ks lo →
  Calls Tryz.prog 11 #[lv] w fun e w' => e = .returned (.int .i64 (-1)) ∧ Below w.heap.size w w'
theorem AllOk.snoc {ks : List Int} {lo : List OpD} (h : AllOk ks lo) {o : OpD} (ho : Allow ks o.kind ∧ o.ok ∧ o.s.size ≤ 16384) : AllOk ks (lo ++ [o]) := by
  intro k hk
  by_cases hl : k < lo.length
  · rw [List.getElem_append_left hl]; exact h k hl
  · rw [List.getElem_append_right (by omega)]; simpa using ho
theorem info_op : (Tryz.prog.info? 27).map (fun i => (i.zero, i.size, i.bytes)) = some (some (.agg #[.int .i64 0, .int .i64 0, .int .i64 0, .int .i64 0, .int .i64 0, .int .i64 0, .string .empty]), 7, 64) := by kernel_rfl

set_option maxHeartbeats 4000000 in
set_option maxRecDepth 100000 in
theorem plays_any {B : Nat} {W0 : World} (hB0 : B ≤ W0.heap.size) (ks : List Int) (hup : UpToSaid B W0 ks) (v vk : Value) (ops : List OpD) (w : World) (hBw : Below B W0 w) (hv : OpSl w v ops) (hvk : IntSl w vk ks) (lk : ks.length ≤ 100) (hok : ∀ k (h : k < ops.length), ops[k].ok) (hl : ops.length ≤ 9000000000000000) (hs : ∀ k (h : k < ops.length), ops[k].s.size ≤ 9000000000000000) :
    Calls Tryz.prog 9 #[v, vk] w fun e w' => e = .returned (.bool true) ∧ Below w.heap.size w w' := by
  obtain ⟨a, cap, rfl, hx0⟩ := id hv
  obtain ⟨ak, capk, rfl, hxk⟩ := id hvk
  clear hx0 hxk
  obtain ⟨i5, hi5, hz50, hz51, hz52⟩ := info_parts info_op
  go_enter Tryz.func9, Tryz.ntmps9
  go_wp2_with fail
  refine (small_any _ ops _ hv hl hs).mono ?_
  rintro e w' ⟨⟨bs, rfl, hsm⟩, rfl⟩
  cases bs with
  | false =>
    clear hv hvk hok hs hsm hup
    go_wp2
    go_ret
    exact ⟨rfl, Below.refl _ _⟩
  | true =>
    obtain ⟨hlen, hsz⟩ := hsm rfl
    clear hsm hs hl
    go_wp2
    go_loopw [6, 7] (fun lv i wr => ∃ k : Nat, k ≤ ops.length ∧ i = .int .i64 k ∧ Below w.heap.size w wr ∧ ∃ lo, List.length lo ≤ k ∧ AllOk ks lo ∧ wr.ownsRow w.heap.size 27 7 lv lo.length (oprow lo)) (fun _ i _ => ops.length - (intOf i).toNat)
    case atStart => exact ⟨0, Nat.zero_le _, rfl, Below.refl _ _, [], Nat.zero_le _, fun k h => by simp at h, World.ownsRow_nil _ _ _ _⟩
    case round =>
      obtain ⟨k, hk, rfl, hbw, lo, hlo, hall, hown⟩ := hrel
      by_cases hlt : k < ops.length
      · obtain ⟨g, off, rfl, hc⟩ := (hv.below hbw (Nat.le_refl _)).get (by omega)
        have x0 := hc k hlt 0 (by omega)
        have x1 := hc k hlt 1 (by omega)
        have x2 := hc k hlt 2 (by omega)
        have x3 := hc k hlt 3 (by omega)
        have x4 := hc k hlt 4 (by omega)
        have x5 := hc k hlt 5 (by omega)
        have x6 := hc k hlt 6 (by omega)
        have hko := hok k hlt
        have hks := hsz k hlt
        generalize ops[k] = o at *
        simp only [OpD.cells, List.getElem?_cons_succ, List.getElem?_cons_zero, Nat.add_zero] at x0 x1 x2 x3 x4 x5 x6
        have HO : Hid (o.ok ∧ o.s.size ≤ 16384) := ⟨hko, hks⟩
        have HALL : Hid (AllOk ks lo) := hall
        have hvk2 := hvk.below hbw (Nat.le_refl _)
        have gl := World.block_lt_of_cell? wr _ x0
        clear hc hko hall hok hsz hup
        obtain ⟨la, lc, rfl⟩ := ownsRow_slice hown
        go_wp2
        go_loop [9, 10] (fun inn j => ∃ j2 : Nat, j2 ≤ ks.length ∧ j = .int .i64 j2 ∧ ∃ bb : Bool, inn = .bool bb ∧ (bb = true → Allow ks o.kind)) (fun _ j => ks.length - (intOf j).toNat)
        case atStart => exact ⟨0, Nat.zero_le _, rfl, _, rfl, fun h => .inl (by simpa using h)⟩
        case round =>
          obtain ⟨j2, hj2, rfl, bb, rfl, hbb⟩ := hrel
          have HBB : Hid (bb = true → Allow ks o.kind) := hbb
          clear hbb
          by_cases hltj : j2 < ks.length
          · cases bb with
            | true =>
              have HT : Hid (Allow ks o.kind) := HBB.out rfl
              clear HBB x0 x1 x2 x3 x4 x5 x6 hvk2
              go_wp2
              exact ⟨⟨j2 + 1, by omega, by go_num, true, rfl, fun _ => HT.out⟩, by simp [intOf]; omega⟩
            | false =>
              obtain ⟨a2, c2, he, hxk⟩ := hvk2
              simp only [Value.slice.injEq, true_and] at he
              obtain ⟨rfl, rfl⟩ := he
              obtain ⟨gk, rfl, hck⟩ := hxk (by omega)
              have y0 := hck j2 ks[j2] (by simp [hltj])
              have HT : Hid ((o.kind == ks[j2]) = true → Allow ks o.kind) := fun h => .inr (by rw [eq_of_beq h]; exact List.getElem_mem hltj)
              generalize ks[j2] = kj at *
              clear hck hxk HBB x0 x1 x2 x3 x4 x5 x6
              go_wp2
              exact ⟨⟨j2 + 1, by omega, by go_num, _, rfl, HT.out⟩, by simp [intOf]; omega⟩
          · cases bb with
            | true =>
              have HT : Hid (Allow ks o.kind) := HBB.out rfl
              clear HBB hvk2
              go_wp2_with (at_builtin; go_loud (refine wpList_append_sl2 rfl (.tmp 44) (.tmp 49) 22 rfl 27 i5 _ 7 64 Tryz.underlying22 hi5 hz50 hz51 hz52 rfl (by decide) w.heap.size _ lo.length (oprow lo) rfl (hown.alloc _) (Nat.le_trans hbw.size (by simp)) ⟨_, 0, none⟩ 1 1 o.cells rfl (by rfl) (cell_newAt _ o.cells _ _ rfl) (by simp [OpD.cells, Value.oneCell']) (by decide) (by simp [maxLen]; omega) (by omega) ?_))
              intro g5 cap5 v5 hown5 hgrow5 hor5 hold5
              have HB5 : Hid (Below w.heap.size w v5) := Below.grown (hbw.alloc hbw.size _) hgrow5 (Nat.le_trans hbw.size (by simp)) (fun j hj => (hown.lt j hj).1)
              have HO5 : Hid (v5.ownsRow w.heap.size 27 7 (.slice (some ⟨g5, 0, none⟩) (lo.length + 1) cap5) (lo ++ [o]).length (oprow (lo ++ [o]))) := by
                rw [oprow_snoc, List.length_append]; exact hown5
              clear hown5 hgrow5 hor5 hold5 x0 x1 x2 x3 x4 x5 x6
              go_wp2
              refine And.intro ?_ ?_
              · first | exact ⟨k + 1, by omega, by go_num, HB5.out, lo ++ [o], by simp; omega, HALL.out.snoc ⟨HT.out, HO.out.1, HO.out.2⟩, HO5.out⟩ | ((repeat apply Exists.intro); exact ⟨⟨k + 1, by omega, by go_num, HB5.out, lo ++ [o], by simp; omega, HALL.out.snoc ⟨HT.out, HO.out.1, HO.out.2⟩, HO5.out⟩, rfl⟩)
              · simp [intOf]; omega
            | false =>
              clear HBB hvk2
              go_wp2
              refine And.intro ?_ ?_
              · first | exact ⟨k + 1, by omega, by go_num, hbw, lo, by omega, HALL.out, hown⟩ | ((repeat apply Exists.intro); exact ⟨⟨k + 1, by omega, by go_num, hbw, lo, by omega, HALL.out, hown⟩, rfl⟩)
              · simp [intOf]; omega
      · have HO := ownsRow_base hown (Nat.zero_le _)
        go_wp2_with fail
        refine (hup _ _ lo (hBw.trans (hbw.mono (Nat.le_trans hB0 hBw.size))) HO (by omega) hall).mono ?_
        rintro e w2 ⟨rfl, hb2⟩
        have HB : Hid (Below w.heap.size w w2) := hbw.trans (hb2.mono hbw.size)
        clear hb2 hbw hown HO hall hv hvk hok hsz hup
        go_wp2
        go_ret
        exact ⟨rfl, HB.out⟩
end Go.Proofs.YtohjjgefklhmaaaGreatDoor

namespace Go.Proofs.YtohjjgefklhmaaaGreatDoor
open Go.ChangeShapes Go.WideShapes Go.ChangeAt Go.RowKit
set_option linter.unusedVariables false

/-- what holds between two steps; n: so many steps were played -/
def SInv (base : Nat) (w0 w : World) (gw n : Nat) (x : RowV) (l : Nat → Obj → Prop) : Prop :=
  ∃ vb vo vr tv bs os rs ts, List.length bs ≤ n ∧ List.length os ≤ n ∧ List.length rs ≤ n ∧ List.length ts ≤ n ∧ (∀ k (h : k < ts.length), ts[k].1.size ≤ 16384) ∧
    WSt base w0 w gw { v := vb, n := bs.length, xs := ints bs } { v := vo, n := os.length, xs := ints os } { v := vr, n := rs.length, xs := ints rs } { v := tv, n := ts.length, xs := trow ts } x l

set_option maxHeartbeats 4000000 in
set_option maxRecDepth 100000 in
theorem owner_5 (base : Nat) (w0 : World) (gw : Nat) (b o r x : RowV) (l : Nat → Obj → Prop) (tv : Value) (ts : List (ByteArray × Option Addr)) (X A B C D : Int) (s : ByteArray) (w : World) (hS : WSt base w0 w gw b o r { v := tv, n := ts.length, xs := trow ts } x l)
    (hts : ts.length ≤ 100000) (hsz : ∀ k (h : k < ts.length), ts[k].1.size ≤ 16384) (hs : s.size ≤ 16384) :
    Calls Tryz.prog 13 #[.pointer (some ⟨gw, 0, none⟩), .agg #[.int .i64 5, .int .i64 X, .int .i64 A, .int .i64 B, .int .i64 C, .int .i64 D, .string s]] w fun e w' => e = .returned (.bool true) ∧ TPost base w0 w' gw b o r x l (ts.length + 1) := by
  obtain ⟨ta, tc, (hta : tv = .slice ta ts.length tc)⟩ := ownsRow_slice hS.rt
  subst hta
  obtain ⟨i6, hi6, hz60, hz61, hz62⟩ := info_parts info_text
  have g1 := hS.W.lt
  have g2 : gw < w.heap.size + 1 := by omega
  have c : w.cell? ⟨gw, 3, none⟩ = some (.slice ta ts.length tc) := hS.W.cell 3
  have HS : Hid (WSt base w0 w gw b o r { v := .slice ta ts.length tc, n := ts.length, xs := trow ts } x l) := hS
  have HZ : Hid (∀ k (h : k < ts.length), ts[k].1.size ≤ 16384) := hsz
  clear hS hsz
  go_enter Tryz.func13, Tryz.ntmps13
  go_wp2_with fail
  go_region_law (refine step_append_sl2 rfl (.tmp 74) (.tmp 78) 30 rfl 42 i6 _ 2 24 Tryz.underlying30 hi6 hz60 hz61 hz62 rfl (by decide) base (.slice ta ts.length tc) ts.length (trow ts) (by first | rfl | simp [Act.eval]) ((HS.out.alloc _).alloc _).rt ((HS.out.alloc _).alloc _).hsz ⟨_, 0, none⟩ 1 1 [.string s, .pointer none] (by first | rfl | simp [Act.eval]) (by rfl) (cell_newAt _ [.string s, .pointer none] _ _ (by simp)) (by simp [Value.oneCell']) (by decide) (by simp [maxLen]; omega) (by omega) ?_; intro g5 cap5 v5 hown5 hgrow5 hor5 hold5; obtain ⟨hW5, hS5⟩ := (((HS.out.alloc _).alloc _).drew).pushT hgrow5 hown5 (by simpa using hor5); have c3' : v5.cell? ⟨gw, 3, none⟩ = some (.slice ta ts.length tc) := hW5.cell 3; have f3' := hW5.frozen 3; have HS5 : Hid _ := hS5; clear hS5 hown5 hgrow5 hold5 hW5)
  all_goals
    go_wp2
    go_ret
    refine ⟨rfl, .slice (some ⟨g5, 0, none⟩) (ts.length + 1) cap5, ts ++ [(s, none)], by simp, ?_, ?_⟩
    · exact texts_snoc HZ.out _ _ hs
    · rw [trow_snoc, List.length_append]; exact HS5.out

set_option maxHeartbeats 4000000 in
set_option maxRecDepth 100000 in
theorem owner_6 (base : Nat) (w0 : World) (gw : Nat) (b o r x : RowV) (l : Nat → Obj → Prop) (tv : Value) (ts : List (ByteArray × Option Addr)) (X A B C D : Int) (s : ByteArray) (w : World) (hS : WSt base w0 w gw b o r { v := tv, n := ts.length, xs := trow ts } x l)
    (hts : ts.length ≤ 100000) (hsz : ∀ k (h : k < ts.length), ts[k].1.size ≤ 16384) (hA : i64R A) (hB : i64R B) :
    Calls Tryz.prog 13 #[.pointer (some ⟨gw, 0, none⟩), .agg #[.int .i64 6, .int .i64 X, .int .i64 A, .int .i64 B, .int .i64 C, .int .i64 D, .string s]] w fun e w' => e = .returned (.bool true) ∧ TPost base w0 w' gw b o r x l (ts.length + 1) := by
  have HS : Hid (WSt base w0 w gw b o r { v := tv, n := ts.length, xs := trow ts } x l) := hS
  have HZ : Hid (∀ k (h : k < ts.length), ts[k].1.size ≤ 16384) := hsz
  have HA : Hid (i64R A ∧ i64R B) := ⟨hA, hB⟩
  clear hS hsz hA hB
  go_enter Tryz.func13, Tryz.ntmps13
  go_wp2_with fail
  refine (turned_any base w0 gw b o r x l tv ts A B C _ (HS.out.alloc _) hts HZ.out HA.out.1.1 HA.out.1.2 HA.out.2.1 HA.out.2.2).mono ?_
  rintro e w2 ⟨rfl, hT⟩
  have HT : Hid (TPost base w0 w2 gw b o r x l (ts.length + 1)) := hT
  clear hT
  go_wp2
  go_ret
  exact ⟨rfl, HT.out⟩

theorem SInv.mono {base : Nat} {w0 w : World} {gw n m : Nat} {x : RowV} {l : Nat → Obj → Prop} (h : SInv base w0 w gw n x l) (hm : n ≤ m) : SInv base w0 w gw m x l := by
  obtain ⟨vb, vo, vr, tv, bs, os, rs, ts, h1, h2, h3, h4, h6, h7⟩ := h
  exact ⟨vb, vo, vr, tv, bs, os, rs, ts, by omega, by omega, by omega, by omega, h6, h7⟩
theorem SInv.of_O {base : Nat} {w0 w : World} {gw n a b c : Nat} {tv : Value} {ts : List (ByteArray × Option Addr)} {x : RowV} {l : Nat → Obj → Prop} (h : OPost base w0 w gw a b c { v := tv, n := ts.length, xs := trow ts } x l) (ha : a ≤ n) (hb : b ≤ n) (hc : c ≤ n) (ht : ts.length ≤ n)
    (hz : ∀ k (h : k < ts.length), ts[k].1.size ≤ 16384) : SInv base w0 w gw n x l := by
  obtain ⟨vb, vo, vr, bs, os, rs, h1, h2, h3, h4⟩ := h
  exact ⟨vb, vo, vr, tv, bs, os, rs, ts, by omega, by omega, by omega, ht, hz, h4⟩
theorem SInv.of_T {base : Nat} {w0 w : World} {gw n m : Nat} {vb vo vr : Value} {bs os rs : List Int} {x : RowV} {l : Nat → Obj → Prop} (h : TPost base w0 w gw { v := vb, n := bs.length, xs := ints bs } { v := vo, n := os.length, xs := ints os } { v := vr, n := rs.length, xs := ints rs } x l m) (hm : m ≤ n) (hb : bs.length ≤ n) (ho : os.length ≤ n) (hr : rs.length ≤ n) : SInv base w0 w gw n x l := by
  obtain ⟨tv', ts', h1, h2, h3⟩ := h
  exact ⟨vb, vo, vr, tv', bs, os, rs, ts', hb, ho, hr, by omega, h2, h3⟩

/-- all kinds of 'owner' -/
theorem owner_all (base : Nat) (w0 : World) (gw n : Nat) (x : RowV) (l : Nat → Obj → Prop) (o : OpD) (w : World) (hS : SInv base w0 w gw n x l) (hn : n ≤ 50000) (ho : o.ok) (hs : o.s.size ≤ 16384) :
    Calls Tryz.prog 13 #[.pointer (some ⟨gw, 0, none⟩), .agg #[.int .i64 o.kind, .int .i64 o.x, .int .i64 o.a, .int .i64 o.b, .int .i64 o.c, .int .i64 o.d, .string o.s]] w fun e w' => BoolIff e (1 ≤ o.kind ∧ o.kind ≤ 6) ∧ SInv base w0 w' gw (n + 1) x l := by
  obtain ⟨vb, vo, vr, tv, bs, os, rs, ts, h1, h2, h3, h4, h6, h7⟩ := hS
  obtain ⟨kind, X, A, B, C, D, s⟩ := o
  obtain ⟨_, _, hA, hB, _, _⟩ := ho
  simp only at hA hB hs
  by_cases k1 : kind = 1
  · subst k1
    refine (owner_1 base w0 gw vb vo vr bs os rs _ x l X A B C D s w h7 (by omega) (by omega) (by omega)).mono ?_
    rintro e w' ⟨rfl, hP⟩
    exact ⟨BoolIff.tt (by simp), SInv.of_O hP (by omega) (by omega) (by omega) (by omega) h6⟩
  by_cases k2 : kind = 2
  · subst k2
    refine (owner_2 base w0 gw vb vo vr bs os rs _ x l X A B C D s w h7 (by omega) (by omega) (by omega)).mono ?_
    rintro e w' ⟨rfl, hP⟩
    exact ⟨BoolIff.tt (by simp), SInv.of_O hP (by omega) (by omega) (by omega) (by omega) h6⟩
  by_cases k3 : kind = 3
  · subst k3
    refine (owner_3 base w0 gw vb vo vr bs os rs _ x l X A B C D s w h7 (by omega) (by omega) (by omega)).mono ?_
    rintro e w' ⟨rfl, hP⟩
    exact ⟨BoolIff.tt (by simp), SInv.of_O hP (by omega) (by omega) (by omega) (by omega) h6⟩
  by_cases k4 : kind = 4
  · subst k4
    refine (owner_4 base w0 gw vb vo vr bs os rs _ x l X A B C D s w h7 (by omega) (by omega) (by omega)).mono ?_
    rintro e w' ⟨rfl, hP⟩
    exact ⟨BoolIff.tt (by simp), SInv.of_O hP (by omega) (by omega) (by omega) (by omega) h6⟩
  by_cases k5 : kind = 5
  · subst k5
    refine (owner_5 base w0 gw _ _ _ x l tv ts X A B C D s w h7 (by omega) h6 hs).mono ?_
    rintro e w' ⟨rfl, hP⟩
    exact ⟨BoolIff.tt (by simp), SInv.of_T hP (by omega) (by omega) (by omega) (by omega)⟩
  by_cases k6 : kind = 6
  · subst k6
    refine (owner_6 base w0 gw _ _ _ x l tv ts X A B C D s w h7 (by omega) h6 hA hB).mono ?_
    rintro e w' ⟨rfl, hP⟩
    exact ⟨BoolIff.tt (by simp), SInv.of_T hP (by omega) (by omega) (by omega) (by omega)⟩
  refine (owner_no base w0 gw vb vo vr bs os rs _ x l X A B C D s w h7 (by omega) (by omega) (by omega) kind (beq_eq_false_iff_ne.2 k1) (beq_eq_false_iff_ne.2 k2) (beq_eq_false_iff_ne.2 k3) (beq_eq_false_iff_ne.2 k4) (beq_eq_false_iff_ne.2 k5) (beq_eq_false_iff_ne.2 k6)).mono ?_
  rintro e w' ⟨rfl, hP⟩
  exact ⟨BoolIff.ff (by simp only; omega), SInv.of_O hP (by omega) (by omega) (by omega) (by omega) h6⟩
end Go.Proofs.YtohjjgefklhmaaaGreatDoor
