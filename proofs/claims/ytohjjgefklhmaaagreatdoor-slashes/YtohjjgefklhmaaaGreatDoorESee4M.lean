import Derived.Test.YtohjjgefklhmaaaGreatDoorGOk8M
namespace Go.Proofs.YtohjjgefklhmaaaGreatDoor
open Go.ChangeShapes Go.WideShapes Go.ChangeAt Go.RowKit
set_option linter.unusedVariables false

/-- the delegations of one account, of all accounts -/
def dRow (s : Nat → Nat → Int) (who : Nat) : Nat → List DS
  | 0 => []
  | k + 1 => if 0 < s who k then dRow s who k ++ [⟨who, k, s who k⟩] else dRow s who k
def dAll (s : Nat → Nat → Int) (nv : Nat) : Nat → List DS
  | 0 => []
  | n + 1 => dAll s nv n ++ dRow s n nv
theorem dRow_len (s : Nat → Nat → Int) (who k : Nat) : (dRow s who k).length ≤ k := by
  induction k with
  | zero => simp [dRow]
  | succ k ih =>
    unfold dRow
    split
    · rw [List.length_append, List.length_singleton]; omega
    · omega
theorem dAll_len0 (s : Nat → Nat → Int) (nv n : Nat) : (dAll s nv n).length ≤ n * nv := by
  induction n with
  | zero => simp [dAll]
  | succ n ih =>
    have := dRow_len s n nv
    unfold dAll
    rw [List.length_append, Nat.succ_mul]; omega
theorem dAll_len (s : Nat → Nat → Int) (nv k k2 : Nat) (h : k2 ≤ nv) : (dAll s nv k ++ dRow s k k2).length ≤ k * nv + k2 := by
  have h1 := dAll_len0 s nv k
  have h2 := dRow_len s k k2
  rw [List.length_append]; omega
theorem drow_snoc (l : List DS) (o : DS) : drow (l ++ [o]) = drow l ++ o.cells := by
  induction l with
  | nil => simp [drow]
  | cons v l ih => simp [drow, ih]
set_option maxHeartbeats 2000000 in
set_option maxRecDepth 100000 in
theorem kdelsX (g nb nv : Nat) (ba va : Option Addr) (bc vc : Nat) (s : Nat → Nat → Int) (w : World) (c4 : w.cell? ⟨g, 4, none⟩ = some (.slice ba nb bc)) (c7 : w.cell? ⟨g, 7, none⟩ = some (.slice va nv vc))
    (cz : ∀ k j, k < 6 → j < 5 → w.cell? ⟨g, 8 + k * 5 + j, none⟩ = some (.int .i64 (s k j))) (l1 : nb ≤ 6) (l2 : nv ≤ 5) :
    Calls Tryz.prog 92 #[.pointer (some ⟨g, 0, none⟩)] w fun e w' => ∃ dv, e = .returned dv ∧ w'.ownsRow w.heap.size 130 3 dv (dAll s nv nb).length (drow (dAll s nv nb)) ∧ Below w.heap.size w w' := by
  obtain ⟨i5, hi5, hz50, hz51, hz52⟩ := info_parts info_delP
  have hlt := World.block_lt_of_cell? w _ c4
  go_enter Tryz.func92, Tryz.ntmps92
  go_wp2
  go_loopw [3, 12] (fun l i wr => ∃ k : Nat, k ≤ nb ∧ i = .int .i64 k ∧ wr.ownsRow w.heap.size 130 3 l (dAll s nv k).length (drow (dAll s nv k)) ∧ Below w.heap.size w wr) (fun _ i _ => nb - (intOf i).toNat)
  case atStart => exact ⟨0, Nat.zero_le _, rfl, World.ownsRow_nil _ _ _ _, Below.refl _ _⟩
  case round =>
    obtain ⟨k, hk, rfl, hrow, hbw⟩ := hrel
    have HB : Hid (Below w.heap.size w wr) := hbw
    have HR : Hid (wr.ownsRow w.heap.size 130 3 u3 (dAll s nv k).length (drow (dAll s nv k))) := hrow
    have d7 : wr.cell? ⟨g, 7, none⟩ = some (.slice va nv vc) := by rw [hbw.cell (p := ⟨g, 7, none⟩) hlt]; exact c7
    by_cases hk1 : k < nb
    · clear hrow hbw
      go_wp2
      obtain ⟨wo, rfl⟩ : ∃ wo : World, wo = wr := ⟨_, rfl⟩
      go_loopw [3, 20] (fun l i wr => ∃ k2 : Nat, k2 ≤ nv ∧ i = .int .i64 k2 ∧ wr.ownsRow w.heap.size 130 3 l (dAll s nv k ++ dRow s k k2).length (drow (dAll s nv k ++ dRow s k k2)) ∧ Below w.heap.size w wr) (fun _ i _ => nv - (intOf i).toNat)
      case atStart => exact ⟨0, Nat.zero_le _, rfl, by simp only [dRow, List.append_nil]; exact HR.out, HB.out⟩
      case round =>
        clear HR HB
        obtain ⟨k2, hk2, rfl, hrow, hbw⟩ := hrel
        have hlen := dAll_len s nv k k2 hk2
        by_cases hlt2 : k2 < nv
        · have y := cz k k2 (by omega) (by omega)
          have y' : wr.cell? ⟨g, 8 + k * 5 + k2, none⟩ = some (.int .i64 (s k k2)) := by rw [hbw.cell (p := ⟨g, 8 + k * 5 + k2, none⟩) hlt]; exact y
          have HD1 : Hid (0 < s k k2 → dAll s nv k ++ dRow s k (k2 + 1) = (dAll s nv k ++ dRow s k k2) ++ [⟨k, k2, s k k2⟩]) := fun h => by
            show dAll s nv k ++ (if 0 < s k k2 then dRow s k k2 ++ [⟨k, k2, s k k2⟩] else dRow s k k2) = _
            rw [if_pos h, List.append_assoc]
          have HD2 : Hid (¬ 0 < s k k2 → dAll s nv k ++ dRow s k (k2 + 1) = dAll s nv k ++ dRow s k k2) := fun h => by
            show dAll s nv k ++ (if 0 < s k k2 then dRow s k k2 ++ [⟨k, k2, s k k2⟩] else dRow s k k2) = _
            rw [if_neg h]
          have hkk : k * nv ≤ 30 := Nat.le_trans (Nat.mul_le_mul_right nv (show k ≤ 6 by omega)) (by omega)
          generalize dAll s nv k ++ dRow s k k2 = L2 at *
          generalize hsv : s k k2 = sv at *
          clear hsv
          obtain ⟨n2, hn2⟩ : ∃ n2, n2 = L2.length := ⟨_, rfl⟩
          rw [← hn2] at hrow hlen
          have HN2 : Hid (n2 = L2.length) := hn2
          clear hn2
          obtain ⟨la, lc, rfl⟩ := ownsRow_slice hrow
          have HR : Hid (wr.ownsRow w.heap.size 130 3 (.slice la n2 lc) n2 (drow L2)) := hrow
          have HB : Hid (Below w.heap.size w wr) := hbw
          have hsz := hbw.size
          clear hrow hbw y
          by_cases hs : 0 < sv
          · go_wp2_with (at_builtin; go_loud (refine wpList_append_sl2 rfl (.tmp 33) (.tmp 38) 86 rfl 130 i5 _ 3 24 Tryz.underlying86 hi5 hz50 hz51 hz52 rfl (by decide) w.heap.size _ n2 (drow L2) rfl (HR.out.alloc _) (by simp; omega) ⟨_, 0, none⟩ 1 1 [.int .i64 k, .int .i64 k2, .int .i64 sv] rfl (by rfl) (cell_newAt _ [.int .i64 k, .int .i64 k2, .int .i64 sv] _ _ rfl) (by simp [Value.oneCell']) (by decide) (by simp [maxLen]; omega) (by omega) ?_))
            intro g5 cap5 v5 hown5 hgrow5 hor5 hold5
            have HB5 : Hid (Below w.heap.size w v5) := (HB.out.alloc HB.out.size _).grown hgrow5 (by simp; omega) (fun j hj => (HR.out.lt j hj).1)
            have HR5 : Hid (v5.ownsRow w.heap.size 130 3 (.slice (some ⟨g5, 0, none⟩) (n2 + 1) cap5) (dAll s nv k ++ dRow s k (k2 + 1)).length (drow (dAll s nv k ++ dRow s k (k2 + 1)))) := by
              rw [HD1.out hs, drow_snoc, List.length_append, ← HN2.out]; exact hown5
            clear hown5 hgrow5 hor5 hold5 HR HB
            go_wp2
            refine And.intro ?_ ?_
            · first | exact ⟨k2 + 1, by omega, by go_num, HR5.out, HB5.out⟩ | ((repeat apply Exists.intro); exact ⟨⟨k2 + 1, by omega, by go_num, HR5.out, HB5.out⟩, rfl⟩)
            · simp [intOf]; omega
          · have HR5 : Hid (wr.ownsRow w.heap.size 130 3 (.slice la n2 lc) (dAll s nv k ++ dRow s k (k2 + 1)).length (drow (dAll s nv k ++ dRow s k (k2 + 1)))) := by
              rw [HD2.out hs, ← HN2.out]; exact HR.out
            clear HR
            go_wp2
            refine And.intro ?_ ?_
            · first | exact ⟨k2 + 1, by omega, by go_num, HR5.out, HB.out⟩ | ((repeat apply Exists.intro); exact ⟨⟨k2 + 1, by omega, by go_num, HR5.out, HB.out⟩, rfl⟩)
            · simp [intOf]; omega
        · have ek : k2 = nv := by omega
          have HR : Hid (wr.ownsRow w.heap.size 130 3 u3 (dAll s nv (k + 1)).length (drow (dAll s nv (k + 1)))) := by
            rw [ek] at hrow; exact hrow
          have HB : Hid (Below w.heap.size w wr) := hbw
          clear hrow hbw ek
          go_wp2
          refine And.intro ?_ ?_
          · first | exact ⟨k + 1, by omega, by go_num, HR.out, HB.out⟩ | ((repeat apply Exists.intro); exact ⟨⟨k + 1, by omega, by go_num, HR.out, HB.out⟩, rfl⟩)
          · simp [intOf]; omega
    · have ek : k = nb := by omega
      rw [ek] at hrow
      obtain ⟨la, lc, rfl⟩ := ownsRow_slice hrow
      have HRf : Hid (wr.ownsRow w.heap.size 130 3 (.slice la (dAll s nv nb).length lc) (dAll s nv nb).length (drow (dAll s nv nb))) := hrow
      clear hrow HR hbw ek
      go_wp2
      go_ret
      exact ⟨_, rfl, HRf.out, HB.out⟩
end Go.Proofs.YtohjjgefklhmaaaGreatDoor

namespace Go.Proofs.YtohjjgefklhmaaaGreatDoor
open Go.ChangeShapes Go.WideShapes Go.ChangeAt Go.RowKit
set_option linter.unusedVariables false

/-- what See hands out, as far as it is looked at -/
def SeeR (w w' : World) (e : Ending) (x : EC) : Prop :=
  ∃ bv vv dv ev, e = .returned (.agg #[.int .i64 x.height, bv, .int .i64 x.fees, .int .i64 x.pool, .int .i64 (bondedN x.vals), .int .i64 (looseV x.vals + sumE x.ents), vv, dv, ev]) ∧
    w'.ownsRow w.heap.size 3 1 bv x.bal.length (ints x.bal) ∧ w'.ownsRow w.heap.size 122 8 vv x.vals.length (vrow x.vals) ∧ w'.ownsRow w.heap.size 125 4 ev x.ents.length (erow x.ents) ∧ w'.ownsRow w.heap.size 130 3 dv (dAll x.sh x.vals.length x.bal.length).length (drow (dAll x.sh x.vals.length x.bal.length)) ∧ Below w.heap.size w w'

set_option maxHeartbeats 2000000 in
set_option maxRecDepth 100000 in
theorem kseeR {S : Nat → Prop} {W0 : World} (g : Nat) (x : EC) (bv vv ev : Value) (w : World) (hC : PE S W0 w g x bv vv ev) (hB : VB x.vals) (hBe : EB x.ents) (l1 : x.bal.length ≤ 6) (l2 : x.vals.length ≤ 5) (l3 : x.ents.length ≤ 1000) :
    Calls Tryz.prog 42 #[.pointer (some ⟨g, 0, none⟩)] w fun e w' => SeeR w w' e x := by
  obtain ⟨ba, bc, rfl⟩ := ownsRow_slice hC.b
  obtain ⟨va, vc, rfl⟩ := ownsRow_slice hC.v
  obtain ⟨ea, ec, rfl⟩ := ownsRow_slice hC.e
  have c3 : w.cell? ⟨g, 3, none⟩ = some (.int .i64 x.height) := hC.L.cell 3
  have c4 : w.cell? ⟨g, 4, none⟩ = some (.slice ba x.bal.length bc) := hC.L.cell 4
  have c5 : w.cell? ⟨g, 5, none⟩ = some (.int .i64 x.fees) := hC.L.cell 5
  have c6 : w.cell? ⟨g, 6, none⟩ = some (.int .i64 x.pool) := hC.L.cell 6
  have hlt := hC.L.lt
  have hlt1 : g < w.heap.size + 1 := by omega
  have hlt2 : g < w.heap.size + 1 + 1 := by omega
  go_enter Tryz.func42, Tryz.ntmps42
  go_wp2_with fail
  go_region
  go_wp2_with fail
  refine (copyNumbers_any _ x.bal _ (((Rd.of_owns hC.b).ints).below (B := w.heap.size) (((Below.refl _ _).alloc (Nat.le_refl _) _).alloc (by simp) _).drew (Nat.le_refl _)) (by omega)).mono ?_
  rintro e w1 ⟨rfl, rfl⟩
  go_wp2_with fail
  have hR : Has (((w.alloc (.cells #[.int .i64 0, .slice none 0 0, .int .i64 0, .int .i64 0, .int .i64 0, .int .i64 0, .slice none 0 0, .slice none 0 0, .slice none 0 0] 89)).alloc (.cells #[.int .i64 x.height, .slice (some ⟨w.heap.size + 1 + 1, 0, none⟩) x.bal.length x.bal.length, .int .i64 x.fees, .int .i64 x.pool, .int .i64 0, .int .i64 0, .slice none 0 0, .slice none 0 0, .slice none 0 0] 89)).alloc (.cells (ints x.bal).toArray 3)).drew w.heap.size 89 [.int .i64 0, .slice none 0 0, .int .i64 0, .int .i64 0, .int .i64 0, .int .i64 0, .slice none 0 0, .slice none 0 0, .slice none 0 0] := (((Has.newA w _ _).alloc _).alloc _).drew
  have hV : Has (((w.alloc (.cells #[.int .i64 0, .slice none 0 0, .int .i64 0, .int .i64 0, .int .i64 0, .int .i64 0, .slice none 0 0, .slice none 0 0, .slice none 0 0] 89)).alloc (.cells #[.int .i64 x.height, .slice (some ⟨w.heap.size + 1 + 1, 0, none⟩) x.bal.length x.bal.length, .int .i64 x.fees, .int .i64 x.pool, .int .i64 0, .int .i64 0, .slice none 0 0, .slice none 0 0, .slice none 0 0] 89)).alloc (.cells (ints x.bal).toArray 3)).drew (w.heap.size + 1) 89 [.int .i64 x.height, .slice (some ⟨w.heap.size + 1 + 1, 0, none⟩) x.bal.length x.bal.length, .int .i64 x.fees, .int .i64 x.pool, .int .i64 0, .int .i64 0, .slice none 0 0, .slice none 0 0, .slice none 0 0] := by
    have h := (Has.newA (w.alloc (.cells #[.int .i64 0, .slice none 0 0, .int .i64 0, .int .i64 0, .int .i64 0, .int .i64 0, .slice none 0 0, .slice none 0 0, .slice none 0 0] 89)) 89 #[.int .i64 x.height, .slice (some ⟨w.heap.size + 1 + 1, 0, none⟩) x.bal.length x.bal.length, .int .i64 x.fees, .int .i64 x.pool, .int .i64 0, .int .i64 0, .slice none 0 0, .slice none 0 0, .slice none 0 0]).alloc (.cells (ints x.bal).toArray 3)
    rw [World.size_alloc] at h
    exact h.drew
  have hBl : (((w.alloc (.cells #[.int .i64 0, .slice none 0 0, .int .i64 0, .int .i64 0, .int .i64 0, .int .i64 0, .slice none 0 0, .slice none 0 0, .slice none 0 0] 89)).alloc (.cells #[.int .i64 x.height, .slice (some ⟨w.heap.size + 1 + 1, 0, none⟩) x.bal.length x.bal.length, .int .i64 x.fees, .int .i64 x.pool, .int .i64 0, .int .i64 0, .slice none 0 0, .slice none 0 0, .slice none 0 0] 89)).alloc (.cells (ints x.bal).toArray 3)).drew.ownsRow w.heap.size 3 1 (.slice (some ⟨w.heap.size + 1 + 1, 0, none⟩) x.bal.length x.bal.length) x.bal.length (ints x.bal) := by
    have h := ownsRow_new ((w.alloc (.cells #[.int .i64 0, .slice none 0 0, .int .i64 0, .int .i64 0, .int .i64 0, .int .i64 0, .slice none 0 0, .slice none 0 0, .slice none 0 0] 89)).alloc (.cells #[.int .i64 x.height, .slice (some ⟨w.heap.size + 1 + 1, 0, none⟩) x.bal.length x.bal.length, .int .i64 x.fees, .int .i64 x.pool, .int .i64 0, .int .i64 0, .slice none 0 0, .slice none 0 0, .slice none 0 0] 89)) 3 1 x.bal.length (ints x.bal) (by simp [ints]) (by simp [maxLen]; omega)
    simp only [World.size_alloc] at h
    exact ownsRow_base h (by omega)
  have hw : Below w.heap.size w (((w.alloc (.cells #[.int .i64 0, .slice none 0 0, .int .i64 0, .int .i64 0, .int .i64 0, .int .i64 0, .slice none 0 0, .slice none 0 0, .slice none 0 0] 89)).alloc (.cells #[.int .i64 x.height, .slice (some ⟨w.heap.size + 1 + 1, 0, none⟩) x.bal.length x.bal.length, .int .i64 x.fees, .int .i64 x.pool, .int .i64 0, .int .i64 0, .slice none 0 0, .slice none 0 0, .slice none 0 0] 89)).alloc (.cells (ints x.bal).toArray 3)).drew := ((((Below.refl _ _).alloc (Nat.le_refl _) _).alloc (by simp) _).alloc (by simp; omega) _).drew
  generalize (((w.alloc (.cells #[.int .i64 0, .slice none 0 0, .int .i64 0, .int .i64 0, .int .i64 0, .int .i64 0, .slice none 0 0, .slice none 0 0, .slice none 0 0] 89)).alloc (.cells #[.int .i64 x.height, .slice (some ⟨w.heap.size + 1 + 1, 0, none⟩) x.bal.length x.bal.length, .int .i64 x.fees, .int .i64 x.pool, .int .i64 0, .int .i64 0, .slice none 0 0, .slice none 0 0, .slice none 0 0] 89)).alloc (.cells (ints x.bal).toArray 3)).drew = wA at hR hV hBl hw ⊢
  generalize hbvv : Value.slice (some ⟨w.heap.size + 1 + 1, 0, none⟩) x.bal.length x.bal.length = bvn at hV hBl
  have hCw : ∀ {w'}, Below w.heap.size w w' → PE S W0 w' g x (.slice ba x.bal.length bc) (.slice va x.vals.length vc) (.slice ea x.ents.length ec) := fun hb => hC.below hb
  have hvw : ∀ {w'}, Below w.heap.size w w' → Rd w' (.slice va x.vals.length vc) x.vals.length 8 (vrow x.vals) := fun hb => (Rd.of_owns hC.v).below hb (Nat.le_refl _)
  have HCw : Hid (∀ {w'}, Below w.heap.size w w' → PE S W0 w' g x (.slice ba x.bal.length bc) (.slice va x.vals.length vc) (.slice ea x.ents.length ec)) := @hCw
  have Hvw : Hid (∀ {w'}, Below w.heap.size w w' → Rd w' (.slice va x.vals.length vc) x.vals.length 8 (vrow x.vals)) := @hvw
  clear hCw hvw hC c3 c4 c5 c6 hlt1 hlt2
  refine (pbonded_anyE g x.vals _ _ ((HCw.out hw).L.cell 7) (Hvw.out hw) hB (by omega)).mono ?_
  rintro e w1 ⟨rfl, hb1⟩
  have hR1 := hR.below hb1 hR.lt
  have hV1 := hV.below hb1 hV.lt
  have hBl1 := ownsRow_below hBl hb1 (Nat.le_refl _)
  have hw1 := hw.trans (hb1.mono hw.size)
  clear hR hV hBl hw hb1
  have p4 : w1.cell? ⟨w.heap.size + 1, 4, none⟩ = some (.int .i64 0) := hV1.cell 4
  have f4 := hV1.frozen 4
  have hne : bvn.ownBlock ≠ some (w.heap.size + 1) := by rw [← hbvv]; simp [Value.ownBlock]
  go_wp2_with fail
  have hR2 := hR1.other ⟨w.heap.size + 1, 4, none⟩ (.int .i64 (bondedN x.vals)) (by simp)
  have hV2 := hV1.set 4 (.int .i64 (bondedN x.vals))
  have hBl2 := ownsRow_setCell hBl1 ⟨w.heap.size + 1, 4, none⟩ (.int .i64 (bondedN x.vals)) hne
  have hw2 := hw1.setCell (p := ⟨w.heap.size + 1, 4, none⟩) (by simp) (.int .i64 (bondedN x.vals))
  clear hR1 hV1 hBl1 hw1 p4 f4
  refine (kloose g x.vals _ _ ((HCw.out hw2).L.cell 7) (.slice ea x.ents.length ec) x.ents ((HCw.out hw2).evAt) (Rd.of_owns (HCw.out hw2).e) hBe l3 (Hvw.out hw2) hB (by omega)).mono ?_
  rintro e w3 ⟨rfl, hb3⟩
  have hR3 := hR2.below hb3 hR2.lt
  have hV3 := hV2.below hb3 hV2.lt
  have hBl3 := ownsRow_below hBl2 hb3 (Nat.le_refl _)
  have hw3 := hw2.trans (hb3.mono hw2.size)
  clear hR2 hV2 hBl2 hw2 hb3
  have p5 : w3.cell? ⟨w.heap.size + 1, 5, none⟩ = some (.int .i64 0) := hV3.cell 5
  have f5 := hV3.frozen 5
  have q7 : w3.cell? ⟨g, 7, none⟩ = some (.slice va x.vals.length vc) := (HCw.out hw3).L.cell 7
  have hg1 : g ≠ w.heap.size + 1 := by omega
  have hg2 : w.heap.size + 1 ≠ g := by omega
  go_wp2_with fail
  have hR4 := hR3.other ⟨w.heap.size + 1, 5, none⟩ (.int .i64 (looseV x.vals + sumE x.ents)) (by simp)
  have hV4 := hV3.set 5 (.int .i64 (looseV x.vals + sumE x.ents))
  have hBl4 := ownsRow_setCell hBl3 ⟨w.heap.size + 1, 5, none⟩ (.int .i64 (looseV x.vals + sumE x.ents)) hne
  have hw4 := hw3.setCell (p := ⟨w.heap.size + 1, 5, none⟩) (by simp) (.int .i64 (looseV x.vals + sumE x.ents))
  clear hR3 hV3 hBl3 hw3 p5 f5 q7
  refine (copyValidators_any _ x.vals.length (vrow x.vals) _ (Hvw.out hw4) (by omega) (vrow_one _)).mono ?_
  rintro e w5 ⟨rfl, rfl⟩
  have hsz := hV4.lt
  have hR5 := hR4.alloc (.cells (vrow x.vals).toArray 122)
  have hV5 := hV4.alloc (.cells (vrow x.vals).toArray 122)
  have hBl5 := hBl4.alloc (.cells (vrow x.vals).toArray 122)
  have hw5 := hw4.alloc hw4.size (.cells (vrow x.vals).toArray 122)
  have hvr5 := ownsRow_base (ownsRow_new _ 122 8 x.vals.length (vrow x.vals) (vrow_length _) (by simp [maxLen]; omega)) hw4.size
  obtain ⟨vvn, hvvn⟩ : ∃ z, z = Value.slice (some ⟨((w3.setCell ⟨w.heap.size + 1, 5, none⟩ (.int .i64 (looseV x.vals + sumE x.ents)))).heap.size, 0, none⟩) x.vals.length x.vals.length := ⟨_, rfl⟩
  have hne5 : vvn.ownBlock ≠ some (w.heap.size + 1) := by rw [hvvn]; simp [Value.ownBlock]; simp at hsz; omega
  rw [← hvvn] at hvr5 ⊢
  generalize ((w3.setCell ⟨w.heap.size + 1, 5, none⟩ (.int .i64 (looseV x.vals + sumE x.ents))).alloc (.cells (vrow x.vals).toArray 122)) = w5 at hR5 hV5 hBl5 hw5 hvr5 ⊢
  clear hR4 hV4 hBl4 hw4 hsz
  have p6 : w5.cell? ⟨w.heap.size + 1, 6, none⟩ = some (.slice none 0 0) := hV5.cell 6
  have f6 := hV5.frozen 6
  obtain ⟨vva, vvc, hvs⟩ := ownsRow_slice hvr5
  clear hvvn
  subst hvs
  go_wp2_with fail
  have hR6 := hR5.other ⟨w.heap.size + 1, 6, none⟩ (.slice vva x.vals.length vvc) (by simp)
  have hV6 := hV5.set 6 (.slice vva x.vals.length vvc)
  have hBl6 := ownsRow_setCell hBl5 ⟨w.heap.size + 1, 6, none⟩ (.slice vva x.vals.length vvc) hne
  have hvr6 := ownsRow_setCell hvr5 ⟨w.heap.size + 1, 6, none⟩ (.slice vva x.vals.length vvc) hne5
  have hw6 := hw5.setCell (p := ⟨w.heap.size + 1, 6, none⟩) (by simp) (.slice vva x.vals.length vvc)
  clear hR5 hV5 hBl5 hvr5 hw5 p6 f6
  refine (kdelsX g x.bal.length x.vals.length ba va bc vc x.sh _ ((HCw.out hw6).L.cell 4) ((HCw.out hw6).L.cell 7) (fun k j hk hj => (HCw.out hw6).shAt hk hj) l1 l2).mono ?_
  rintro e w7 ⟨sd, rfl, hdr0, hb7⟩
  have hned : sd.ownBlock ≠ some (w.heap.size + 1) := fun e => by have h1 := (hdr0.lt _ e).1; have h2 := hV6.lt; omega
  have hned0 : sd.ownBlock ≠ some w.heap.size := fun e => by have h1 := (hdr0.lt _ e).1; have h2 := hV6.lt; omega
  have hdr7 := ownsRow_base hdr0 hw6.size
  clear hdr0
  obtain ⟨da, dc, rfl⟩ := ownsRow_slice hdr7
  have hR7 := hR6.below hb7 hR6.lt
  have hV7 := hV6.below hb7 hV6.lt
  have hBl7 := ownsRow_below hBl6 hb7 (Nat.le_refl _)
  have hvr7 := ownsRow_below hvr6 hb7 (Nat.le_refl _)
  have hw7 := hw6.trans (hb7.mono hw6.size)
  clear hR6 hV6 hBl6 hvr6 hw6 hb7
  have p7 : w7.cell? ⟨w.heap.size + 1, 7, none⟩ = some (.slice none 0 0) := hV7.cell 7
  have f7 := hV7.frozen 7
  have q38 : w7.cell? ⟨g, 73, none⟩ = some (.slice ea x.ents.length ec) := (HCw.out hw7).evAt
  go_wp2_with fail
  have hR8 := hR7.other ⟨w.heap.size + 1, 7, none⟩ (.slice da (dAll x.sh x.vals.length x.bal.length).length dc) (by simp)
  have hV8 := hV7.set 7 (.slice da (dAll x.sh x.vals.length x.bal.length).length dc)
  have hBl8 := ownsRow_setCell hBl7 ⟨w.heap.size + 1, 7, none⟩ (.slice da (dAll x.sh x.vals.length x.bal.length).length dc) hne
  have hvr8 := ownsRow_setCell hvr7 ⟨w.heap.size + 1, 7, none⟩ (.slice da (dAll x.sh x.vals.length x.bal.length).length dc) hne5
  have hdr8 := ownsRow_setCell hdr7 ⟨w.heap.size + 1, 7, none⟩ (.slice da (dAll x.sh x.vals.length x.bal.length).length dc) hned
  have hw8 := hw7.setCell (p := ⟨w.heap.size + 1, 7, none⟩) (by simp) (.slice da (dAll x.sh x.vals.length x.bal.length).length dc)
  clear hR7 hV7 hBl7 hvr7 hdr7 hw7 p7 f7 q38
  refine (copyEntries_anyE _ x.ents.length (erow x.ents) _ (Rd.of_owns (HCw.out hw8).e) (by omega) (erow_one _)).mono ?_
  rintro e w9 ⟨rfl, rfl⟩
  have hsz := hV8.lt
  have hR9 := hR8.alloc (.cells (erow x.ents).toArray 125)
  have hV9 := hV8.alloc (.cells (erow x.ents).toArray 125)
  have hBl9 := hBl8.alloc (.cells (erow x.ents).toArray 125)
  have hvr9 := hvr8.alloc (.cells (erow x.ents).toArray 125)
  have hdr9 := hdr8.alloc (.cells (erow x.ents).toArray 125)
  have hw9 := hw8.alloc hw8.size (.cells (erow x.ents).toArray 125)
  have her9 := ownsRow_base (ownsRow_new _ 125 4 x.ents.length (erow x.ents) (erow_length _) (by simp [maxLen]; omega)) hw8.size
  obtain ⟨een, heen⟩ : ∃ z, z = Value.slice (some ⟨((w7.setCell ⟨w.heap.size + 1, 7, none⟩ (.slice da (dAll x.sh x.vals.length x.bal.length).length dc))).heap.size, 0, none⟩) x.ents.length x.ents.length := ⟨_, rfl⟩
  have hne9 : een.ownBlock ≠ some (w.heap.size + 1) := by rw [heen]; simp [Value.ownBlock]; simp at hsz; omega
  have hne0 : een.ownBlock ≠ some w.heap.size := by rw [heen]; simp [Value.ownBlock]; simp at hsz; omega
  rw [← heen] at her9 ⊢
  generalize ((w7.setCell ⟨w.heap.size + 1, 7, none⟩ (.slice da (dAll x.sh x.vals.length x.bal.length).length dc)).alloc (.cells (erow x.ents).toArray 125)) = w9 at hR9 hV9 hBl9 hvr9 hdr9 hw9 her9 ⊢
  clear hR8 hV8 hBl8 hvr8 hdr8 hw8 hsz
  have p8 : w9.cell? ⟨w.heap.size + 1, 8, none⟩ = some (.slice none 0 0) := hV9.cell 8
  have f8 := hV9.frozen 8
  obtain ⟨eea, eec, hes⟩ := ownsRow_slice her9
  obtain ⟨bba, bbc, hbs⟩ := ownsRow_slice hBl9
  clear heen hbvv
  subst hes hbs
  have p0 : w9.cell? ⟨w.heap.size + 1, 0, none⟩ = some (.int .i64 x.height) := hV9.cell 0
  have p1 : w9.cell? ⟨w.heap.size + 1, 1, none⟩ = some (.slice bba x.bal.length bbc) := hV9.cell 1
  have p2 : w9.cell? ⟨w.heap.size + 1, 2, none⟩ = some (.int .i64 x.fees) := hV9.cell 2
  have p3 : w9.cell? ⟨w.heap.size + 1, 3, none⟩ = some (.int .i64 x.pool) := hV9.cell 3
  have p4 : w9.cell? ⟨w.heap.size + 1, 4, none⟩ = some (.int .i64 (bondedN x.vals)) := hV9.cell 4
  have p5 : w9.cell? ⟨w.heap.size + 1, 5, none⟩ = some (.int .i64 (looseV x.vals + sumE x.ents)) := hV9.cell 5
  have p6 : w9.cell? ⟨w.heap.size + 1, 6, none⟩ = some (.slice vva x.vals.length vvc) := hV9.cell 6
  have p7 : w9.cell? ⟨w.heap.size + 1, 7, none⟩ = some (.slice da (dAll x.sh x.vals.length x.bal.length).length dc) := hV9.cell 7
  have r0 : w9.cell? ⟨w.heap.size, 0, none⟩ = some (.int .i64 0) := hR9.cell 0
  have r1 : w9.cell? ⟨w.heap.size, 1, none⟩ = some (.slice none 0 0) := hR9.cell 1
  have r2 : w9.cell? ⟨w.heap.size, 2, none⟩ = some (.int .i64 0) := hR9.cell 2
  have r3 : w9.cell? ⟨w.heap.size, 3, none⟩ = some (.int .i64 0) := hR9.cell 3
  have r4 : w9.cell? ⟨w.heap.size, 4, none⟩ = some (.int .i64 0) := hR9.cell 4
  have r5 : w9.cell? ⟨w.heap.size, 5, none⟩ = some (.int .i64 0) := hR9.cell 5
  have r6 : w9.cell? ⟨w.heap.size, 6, none⟩ = some (.slice none 0 0) := hR9.cell 6
  have r7 : w9.cell? ⟨w.heap.size, 7, none⟩ = some (.slice none 0 0) := hR9.cell 7
  have r8 : w9.cell? ⟨w.heap.size, 8, none⟩ = some (.slice none 0 0) := hR9.cell 8
  have k0 := hR9.frozen 0
  have k1 := hR9.frozen 1
  have k2 := hR9.frozen 2
  have k3 := hR9.frozen 3
  have k4 := hR9.frozen 4
  have k5 := hR9.frozen 5
  have k6 := hR9.frozen 6
  have k7 := hR9.frozen 7
  have k8 := hR9.frozen 8
  go_wp2
  have neB : (Value.slice bba x.bal.length bbc).ownBlock ≠ some w.heap.size := fun h => Has.apart hR9 hBl9 (by decide) h.symm
  have neV : (Value.slice vva x.vals.length vvc).ownBlock ≠ some w.heap.size := fun h => Has.apart hR9 hvr9 (by decide) h.symm
  have zR : Has ((((((((((w9.setCell ⟨w.heap.size + 1, 8, none⟩ (.slice eea x.ents.length eec)).setCell ⟨w.heap.size, 0, none⟩ (.int .i64 x.height)).setCell ⟨w.heap.size, 1, none⟩ (.slice bba x.bal.length bbc)).setCell ⟨w.heap.size, 2, none⟩ (.int .i64 x.fees)).setCell ⟨w.heap.size, 3, none⟩ (.int .i64 x.pool)).setCell ⟨w.heap.size, 4, none⟩ (.int .i64 (bondedN x.vals))).setCell ⟨w.heap.size, 5, none⟩ (.int .i64 (looseV x.vals + sumE x.ents))).setCell ⟨w.heap.size, 6, none⟩ (.slice vva x.vals.length vvc)).setCell ⟨w.heap.size, 7, none⟩ (.slice da (dAll x.sh x.vals.length x.bal.length).length dc)).setCell ⟨w.heap.size, 8, none⟩ (.slice eea x.ents.length eec)) w.heap.size 89 [.int .i64 x.height, .slice bba x.bal.length bbc, .int .i64 x.fees, .int .i64 x.pool, .int .i64 (bondedN x.vals), .int .i64 (looseV x.vals + sumE x.ents), .slice vva x.vals.length vvc, .slice da (dAll x.sh x.vals.length x.bal.length).length dc, .slice eea x.ents.length eec] := ((((((((((hR9.other ⟨w.heap.size + 1, 8, none⟩ (.slice eea x.ents.length eec) (by simp)).set 0 (.int .i64 x.height)).set 1 (.slice bba x.bal.length bbc)).set 2 (.int .i64 x.fees)).set 3 (.int .i64 x.pool)).set 4 (.int .i64 (bondedN x.vals))).set 5 (.int .i64 (looseV x.vals + sumE x.ents))).set 6 (.slice vva x.vals.length vvc)).set 7 (.slice da (dAll x.sh x.vals.length x.bal.length).length dc)).set 8 (.slice eea x.ents.length eec))
  have zb := (ownsRow_setCell (ownsRow_setCell (ownsRow_setCell (ownsRow_setCell (ownsRow_setCell (ownsRow_setCell (ownsRow_setCell (ownsRow_setCell (ownsRow_setCell (ownsRow_setCell hBl9 ⟨w.heap.size + 1, 8, none⟩ (.slice eea x.ents.length eec) hne) ⟨w.heap.size, 0, none⟩ (.int .i64 x.height) neB) ⟨w.heap.size, 1, none⟩ (.slice bba x.bal.length bbc) neB) ⟨w.heap.size, 2, none⟩ (.int .i64 x.fees) neB) ⟨w.heap.size, 3, none⟩ (.int .i64 x.pool) neB) ⟨w.heap.size, 4, none⟩ (.int .i64 (bondedN x.vals)) neB) ⟨w.heap.size, 5, none⟩ (.int .i64 (looseV x.vals + sumE x.ents)) neB) ⟨w.heap.size, 6, none⟩ (.slice vva x.vals.length vvc) neB) ⟨w.heap.size, 7, none⟩ (.slice da (dAll x.sh x.vals.length x.bal.length).length dc) neB) ⟨w.heap.size, 8, none⟩ (.slice eea x.ents.length eec) neB)
  have zv := (ownsRow_setCell (ownsRow_setCell (ownsRow_setCell (ownsRow_setCell (ownsRow_setCell (ownsRow_setCell (ownsRow_setCell (ownsRow_setCell (ownsRow_setCell (ownsRow_setCell hvr9 ⟨w.heap.size + 1, 8, none⟩ (.slice eea x.ents.length eec) hne5) ⟨w.heap.size, 0, none⟩ (.int .i64 x.height) neV) ⟨w.heap.size, 1, none⟩ (.slice bba x.bal.length bbc) neV) ⟨w.heap.size, 2, none⟩ (.int .i64 x.fees) neV) ⟨w.heap.size, 3, none⟩ (.int .i64 x.pool) neV) ⟨w.heap.size, 4, none⟩ (.int .i64 (bondedN x.vals)) neV) ⟨w.heap.size, 5, none⟩ (.int .i64 (looseV x.vals + sumE x.ents)) neV) ⟨w.heap.size, 6, none⟩ (.slice vva x.vals.length vvc) neV) ⟨w.heap.size, 7, none⟩ (.slice da (dAll x.sh x.vals.length x.bal.length).length dc) neV) ⟨w.heap.size, 8, none⟩ (.slice eea x.ents.length eec) neV)
  have zd := (ownsRow_setCell (ownsRow_setCell (ownsRow_setCell (ownsRow_setCell (ownsRow_setCell (ownsRow_setCell (ownsRow_setCell (ownsRow_setCell (ownsRow_setCell (ownsRow_setCell hdr9 ⟨w.heap.size + 1, 8, none⟩ (.slice eea x.ents.length eec) hned) ⟨w.heap.size, 0, none⟩ (.int .i64 x.height) hned0) ⟨w.heap.size, 1, none⟩ (.slice bba x.bal.length bbc) hned0) ⟨w.heap.size, 2, none⟩ (.int .i64 x.fees) hned0) ⟨w.heap.size, 3, none⟩ (.int .i64 x.pool) hned0) ⟨w.heap.size, 4, none⟩ (.int .i64 (bondedN x.vals)) hned0) ⟨w.heap.size, 5, none⟩ (.int .i64 (looseV x.vals + sumE x.ents)) hned0) ⟨w.heap.size, 6, none⟩ (.slice vva x.vals.length vvc) hned0) ⟨w.heap.size, 7, none⟩ (.slice da (dAll x.sh x.vals.length x.bal.length).length dc) hned0) ⟨w.heap.size, 8, none⟩ (.slice eea x.ents.length eec) hned0)
  have ze := (ownsRow_setCell (ownsRow_setCell (ownsRow_setCell (ownsRow_setCell (ownsRow_setCell (ownsRow_setCell (ownsRow_setCell (ownsRow_setCell (ownsRow_setCell (ownsRow_setCell her9 ⟨w.heap.size + 1, 8, none⟩ (.slice eea x.ents.length eec) hne9) ⟨w.heap.size, 0, none⟩ (.int .i64 x.height) hne0) ⟨w.heap.size, 1, none⟩ (.slice bba x.bal.length bbc) hne0) ⟨w.heap.size, 2, none⟩ (.int .i64 x.fees) hne0) ⟨w.heap.size, 3, none⟩ (.int .i64 x.pool) hne0) ⟨w.heap.size, 4, none⟩ (.int .i64 (bondedN x.vals)) hne0) ⟨w.heap.size, 5, none⟩ (.int .i64 (looseV x.vals + sumE x.ents)) hne0) ⟨w.heap.size, 6, none⟩ (.slice vva x.vals.length vvc) hne0) ⟨w.heap.size, 7, none⟩ (.slice da (dAll x.sh x.vals.length x.bal.length).length dc) hne0) ⟨w.heap.size, 8, none⟩ (.slice eea x.ents.length eec) hne0)
  have zw := ((((((((((hw9.setCell (p := ⟨w.heap.size + 1, 8, none⟩) (by simp) (.slice eea x.ents.length eec)).setCell (p := ⟨w.heap.size, 0, none⟩) (Nat.le_refl _) (.int .i64 x.height)).setCell (p := ⟨w.heap.size, 1, none⟩) (Nat.le_refl _) (.slice bba x.bal.length bbc)).setCell (p := ⟨w.heap.size, 2, none⟩) (Nat.le_refl _) (.int .i64 x.fees)).setCell (p := ⟨w.heap.size, 3, none⟩) (Nat.le_refl _) (.int .i64 x.pool)).setCell (p := ⟨w.heap.size, 4, none⟩) (Nat.le_refl _) (.int .i64 (bondedN x.vals))).setCell (p := ⟨w.heap.size, 5, none⟩) (Nat.le_refl _) (.int .i64 (looseV x.vals + sumE x.ents))).setCell (p := ⟨w.heap.size, 6, none⟩) (Nat.le_refl _) (.slice vva x.vals.length vvc)).setCell (p := ⟨w.heap.size, 7, none⟩) (Nat.le_refl _) (.slice da (dAll x.sh x.vals.length x.bal.length).length dc)).setCell (p := ⟨w.heap.size, 8, none⟩) (Nat.le_refl _) (.slice eea x.ents.length eec))
  generalize ((((((((((w9.setCell ⟨w.heap.size + 1, 8, none⟩ (.slice eea x.ents.length eec)).setCell ⟨w.heap.size, 0, none⟩ (.int .i64 x.height)).setCell ⟨w.heap.size, 1, none⟩ (.slice bba x.bal.length bbc)).setCell ⟨w.heap.size, 2, none⟩ (.int .i64 x.fees)).setCell ⟨w.heap.size, 3, none⟩ (.int .i64 x.pool)).setCell ⟨w.heap.size, 4, none⟩ (.int .i64 (bondedN x.vals))).setCell ⟨w.heap.size, 5, none⟩ (.int .i64 (looseV x.vals + sumE x.ents))).setCell ⟨w.heap.size, 6, none⟩ (.slice vva x.vals.length vvc)).setCell ⟨w.heap.size, 7, none⟩ (.slice da (dAll x.sh x.vals.length x.bal.length).length dc)).setCell ⟨w.heap.size, 8, none⟩ (.slice eea x.ents.length eec)) = wF at zR zb zv zd ze zw ⊢
  have z0 : wF.cell? ⟨w.heap.size, 0, none⟩ = some (.int .i64 x.height) := zR.cell 0
  have z1 : wF.cell? ⟨w.heap.size, 1, none⟩ = some (.slice bba x.bal.length bbc) := zR.cell 1
  have z2 : wF.cell? ⟨w.heap.size, 2, none⟩ = some (.int .i64 x.fees) := zR.cell 2
  have z3 : wF.cell? ⟨w.heap.size, 3, none⟩ = some (.int .i64 x.pool) := zR.cell 3
  have z4 : wF.cell? ⟨w.heap.size, 4, none⟩ = some (.int .i64 (bondedN x.vals)) := zR.cell 4
  have z5 : wF.cell? ⟨w.heap.size, 5, none⟩ = some (.int .i64 (looseV x.vals + sumE x.ents)) := zR.cell 5
  have z6 : wF.cell? ⟨w.heap.size, 6, none⟩ = some (.slice vva x.vals.length vvc) := zR.cell 6
  have z7 : wF.cell? ⟨w.heap.size, 7, none⟩ = some (.slice da (dAll x.sh x.vals.length x.bal.length).length dc) := zR.cell 7
  have z8 : wF.cell? ⟨w.heap.size, 8, none⟩ = some (.slice eea x.ents.length eec) := zR.cell 8
  refine bodyPost_ret (v := .agg #[.int .i64 x.height, .slice bba x.bal.length bbc, .int .i64 x.fees, .int .i64 x.pool, .int .i64 (bondedN x.vals), .int .i64 (looseV x.vals + sumE x.ents), .slice vva x.vals.length vvc, .slice da (dAll x.sh x.vals.length x.bal.length).length dc, .slice eea x.ents.length eec]) (by simp [results, Tryz.results42, go_sem, z0, z1, z2, z3, z4, z5, z6, z7, z8]) rfl ?_
  exact ⟨_, _, _, _, rfl, zb, zv, ze, zd, zw⟩
end Go.Proofs.YtohjjgefklhmaaaGreatDoor

namespace Go.Proofs.YtohjjgefklhmaaaGreatDoor
open Go.ChangeShapes Go.WideShapes Go.ChangeAt Go.RowKit
set_option linter.unusedVariables false

/-- a new engine -/
def xN (bs os rs : List Int) (top mature fee : Int) : EC := { top := top, mature := mature, fee := fee, height := 0, fees := 0, pool := 0, bal := bs, tab := List.replicate 65 0, vals := vs0 os rs, ents := [] }
theorem sumL_sumI (l : List Int) : sumL l = sumI l := by
  have key : ∀ (l : List Int) (a : Int), l.foldl (· + ·) a = a + sumI l := by
    intro l
    induction l with
    | nil => intro a; simp [sumI]
    | cons b l ih => intro a; simp only [List.foldl_cons, ih, sumI]; omega
  unfold sumL; rw [key]; omega
theorem vs0_at (os rs : List Int) (j : Nat) (h : rs.length = os.length) (hj : j < os.length) : (vs0 os rs).getD j v0 = ⟨os.getD j 0, rs.getD j 0, 0, 0, 0, 0, false, false⟩ := by
  simp [vs0, List.getD, hj, h]
theorem vs0_sum (os rs : List Int) (f : VS → Int) (hf : ∀ o r, f ⟨o, r, 0, 0, 0, 0, false, false⟩ = 0) : sumV f (vs0 os rs) = 0 := by
  unfold sumV vs0
  induction os generalizing rs with
  | nil => simp [sumI]
  | cons o os ih =>
    cases rs with
    | nil => simp [sumI]
    | cons r rs => simp only [List.zipWith_cons_cons, List.map_cons, sumI, hf, ih rs]; rfl
theorem rep_getD (n i : Nat) : (List.replicate n (0 : Int)).getD i 0 = 0 := by
  simp only [List.getD, List.getElem?_replicate]
  split <;> rfl
theorem xN_fine {bs os rs : List Int} {top mature fee : Int} (h : GoodGen bs os rs top mature fee) : Fine (xN bs os rs top mature fee) ∧ (xN bs os rs top mature fee).tot = sumI bs ∧ (xN bs os rs top mature fee).vals.length = os.length := by
  obtain ⟨⟨g1, g2, g3, g4⟩, ⟨g5, g6, g7, g8, g9⟩, ⟨g10, g11, g12, g13, g14, g15⟩⟩ := h
  have hl : (vs0 os rs).length = os.length := vs0_length os rs g7
  have ht : (xN bs os rs top mature fee).tot = sumI bs := by
    show sumI bs + 0 + 0 + sumV (·.tokens) (vs0 os rs) + sumV (·.outs) (vs0 os rs) + sumI (List.map (·.amount) ([] : List ES)) = sumI bs
    rw [vs0_sum _ _ _ (fun _ _ => rfl), vs0_sum _ _ _ (fun _ _ => rfl)]
    simp [sumI]
  have hsh : ∀ k j, (xN bs os rs top mature fee).sh k j = 0 := fun k j => rep_getD 65 _
  have hpr : ∀ j, (xN bs os rs top mature fee).per j = 0 := fun j => rep_getD 65 _
  have hup : ∀ k j, (xN bs os rs top mature fee).upto k j = 0 := fun k j => rep_getD 65 _
  have hv : ∀ j, j < os.length → (xN bs os rs top mature fee).val j = ⟨os.getD j 0, rs.getD j 0, 0, 0, 0, 0, false, false⟩ := fun j hj => vs0_at os rs j g7 hj
  refine ⟨⟨g2, by show (vs0 os rs).length ≤ 5; omega, by simp [xN], g14, g15, g10, g11, g12, g13, Int.le_refl _, by show (0 : Int) ≤ 1000; omega, Int.le_refl _, by show (0 : Int) ≤ 1001; omega, fun k hk => ?_, Int.le_refl _, Int.le_refl _, fun j hj => ?_, fun e he => by simp [xN] at he, by rw [ht, ← sumL_sumI]; exact g4, fun k j _ _ => by rw [hsh]; exact Int.le_refl _, fun j hj => ?_, fun j _ => by rw [hpr]; exact ⟨Int.le_refl _, by show (0 : Int) ≤ 0 * _; simp⟩, fun k j _ _ => by rw [hup, hpr]; exact ⟨by decide, Int.le_refl _⟩, fun j hj => ?_⟩, ht, hl⟩
  · have hk' : k < bs.length := hk
    have := g3 k bs[k] hk' (List.getElem?_eq_getElem hk')
    have e : (xN bs os rs top mature fee).balAt k = bs[k] := by simp [xN, EC.balAt, hk']
    rw [e]; exact this.1
  · have hj' : j < os.length := by rw [← hl]; exact hj
    rw [hv j hj']
    have hr : j < rs.length := by omega
    have h9 := g9 j rs[j] hr (List.getElem?_eq_getElem hr)
    have e : rs.getD j 0 = rs[j] := by simp [hr]
    rw [e]
    exact ⟨Int.le_refl _, Int.le_refl _, by show (0 : Int) ≤ 1000000; decide, h9.1, h9.2, Int.le_refl _, Int.le_refl _, fun h => by simp at h, fun _ => rfl, fun _ => rfl⟩
  · have hj' : j < os.length := by rw [← hl]; exact hj
    rw [hv j hj']
    simp only [hsh]
    rfl
  · have hj' : j < os.length := by rw [← hl]; exact hj
    rw [hv j hj']
    simp only [hsh, Int.zero_mul]
    show (0 : Int) + 0 + 0 + 0 + 0 + 0 ≤ _
    decide
theorem begun_pe {w w' : World} {e : Ending} {bs os rs : List Int} {top mature fee : Int} (h : Begun w w' e bs os rs top mature fee) (hg : GoodGen bs os rs top mature fee) : ∃ g bv vv, e = .returned (.tuple #[.pointer (some ⟨g, 0, none⟩), .int .i64 0]) ∧ PE (fun k => w.heap.size ≤ k) w w' g (xN bs os rs top mature fee) bv vv (.slice none 0 0) := by
  obtain ⟨g, bv, vv, rfl, hge, hL, hb, hv, hb4⟩ := h
  have hl : (vs0 os rs).length = os.length := vs0_length os rs hg.2.1.2.2.1
  refine ⟨g, bv, vv, rfl, ⟨Kp.of_below hb4 _, fun k hk => hk, hge, hL, by simp [xN], ownsRow_base hb (Nat.zero_le _), ?_, World.ownsRow_nil _ _ _ _, fun k hk => (hb.lt k hk).1, fun k hk => (hv.lt k hk).1, fun k hk => by simp [Value.ownBlock] at hk⟩⟩
  show w'.ownsRow 0 122 8 vv (vs0 os rs).length (vrow (vs0 os rs))
  rw [hl]; exact ownsRow_base hv (Nat.zero_le _)

end Go.Proofs.YtohjjgefklhmaaaGreatDoor
