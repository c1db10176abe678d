import Derived.Test.YtohjjgefklhmaaaGSetM
namespace Go.Proofs.Ytohjjgefklhmaaa
open Go.ChangeShapes Go.WideShapes Go.ChangeAt Go.RowKit
set_option linter.unusedVariables false

/-- the delegations of one account, of all accounts -/
def dRow (s : Nat → Nat → Int) (who : Nat) : Nat → List DS
  | 0 => []
  | k + 1 => if 0 < s who k then dRow s who k ++ [⟨who, k, s who k⟩] else dRow s who k
def dAll (s : Nat → Nat → Int) (nv : Nat) : Nat → List DS
  | 0 => []
  | n + 1 => dAll s nv n ++ dRow s n nv
theorem dRow_len (s : Nat → Nat → Int) (who k : Nat) : (dRow s who k).length ≤ k := by
  induction k with
  | zero => simp [dRow]
  | succ k ih =>
    unfold dRow
    split
    · rw [List.length_append, List.length_singleton]; omega
    · omega
theorem dAll_len0 (s : Nat → Nat → Int) (nv n : Nat) : (dAll s nv n).length ≤ n * nv := by
  induction n with
  | zero => simp [dAll]
  | succ n ih =>
    have := dRow_len s n nv
    unfold dAll
    rw [List.length_append, Nat.succ_mul]; omega
theorem dAll_len (s : Nat → Nat → Int) (nv k k2 : Nat) (h : k2 ≤ nv) : (dAll s nv k ++ dRow s k k2).length ≤ k * nv + k2 := by
  have h1 := dAll_len0 s nv k
  have h2 := dRow_len s k k2
  rw [List.length_append]; omega
theorem drow_snoc (l : List DS) (o : DS) : drow (l ++ [o]) = drow l ++ o.cells := by
  induction l with
  | nil => simp [drow]
  | cons v l ih => simp [drow, ih]
set_option maxHeartbeats 2000000 in
set_option maxRecDepth 100000 in
theorem kdelsX (g nb nv : Nat) (ba va : Option Addr) (bc vc : Nat) (s : Nat → Nat → Int) (w : World) (c4 : w.cell? ⟨g, 4, none⟩ = some (.slice ba nb bc)) (c7 : w.cell? ⟨g, 7, none⟩ = some (.slice va nv vc))
    (cz : ∀ k j, k < 6 → j < 5 → w.cell? ⟨g, 8 + k * 5 + j, none⟩ = some (.int .i64 (s k j))) (l1 : nb ≤ 6) (l2 : nv ≤ 5) :
    Calls Try.prog 39 #[.pointer (some ⟨g, 0, none⟩)] w fun e w' => ∃ dv, e = .returned dv ∧ w'.ownsRow w.heap.size 75 3 dv (dAll s nv nb).length (drow (dAll s nv nb)) ∧ Below w.heap.size w w' := by
  obtain ⟨i5, hi5, hz50, hz51, hz52⟩ := info_parts info_delP
  have hlt := World.block_lt_of_cell? w _ c4
  go_enter Try.func39, Try.ntmps39
  go_wp2
  go_loopw [3, 12] (fun l i wr => ∃ k : Nat, k ≤ nb ∧ i = .int .i64 k ∧ wr.ownsRow w.heap.size 75 3 l (dAll s nv k).length (drow (dAll s nv k)) ∧ Below w.heap.size w wr) (fun _ i _ => nb - (intOf i).toNat)
  case atStart => exact ⟨0, Nat.zero_le _, rfl, World.ownsRow_nil _ _ _ _, Below.refl _ _⟩
  case round =>
    obtain ⟨k, hk, rfl, hrow, hbw⟩ := hrel
    have HB : Hid (Below w.heap.size w wr) := hbw
    have HR : Hid (wr.ownsRow w.heap.size 75 3 u3 (dAll s nv k).length (drow (dAll s nv k))) := hrow
    have d7 : wr.cell? ⟨g, 7, none⟩ = some (.slice va nv vc) := by rw [hbw.cell (p := ⟨g, 7, none⟩) hlt]; exact c7
    by_cases hk1 : k < nb
    · clear hrow hbw
      go_wp2
      obtain ⟨wo, rfl⟩ : ∃ wo : World, wo = wr := ⟨_, rfl⟩
      go_loopw [3, 20] (fun l i wr => ∃ k2 : Nat, k2 ≤ nv ∧ i = .int .i64 k2 ∧ wr.ownsRow w.heap.size 75 3 l (dAll s nv k ++ dRow s k k2).length (drow (dAll s nv k ++ dRow s k k2)) ∧ Below w.heap.size w wr) (fun _ i _ => nv - (intOf i).toNat)
      case atStart => exact ⟨0, Nat.zero_le _, rfl, by simp only [dRow, List.append_nil]; exact HR.out, HB.out⟩
      case round =>
        clear HR HB
        obtain ⟨k2, hk2, rfl, hrow, hbw⟩ := hrel
        have hlen := dAll_len s nv k k2 hk2
        by_cases hlt2 : k2 < nv
        · have y := cz k k2 (by omega) (by omega)
          have y' : wr.cell? ⟨g, 8 + k * 5 + k2, none⟩ = some (.int .i64 (s k k2)) := by rw [hbw.cell (p := ⟨g, 8 + k * 5 + k2, none⟩) hlt]; exact y
          have HD1 : Hid (0 < s k k2 → dAll s nv k ++ dRow s k (k2 + 1) = (dAll s nv k ++ dRow s k k2) ++ [⟨k, k2, s k k2⟩]) := fun h => by
            show dAll s nv k ++ (if 0 < s k k2 then dRow s k k2 ++ [⟨k, k2, s k k2⟩] else dRow s k k2) = _
            rw [if_pos h, List.append_assoc]
          have HD2 : Hid (¬ 0 < s k k2 → dAll s nv k ++ dRow s k (k2 + 1) = dAll s nv k ++ dRow s k k2) := fun h => by
            show dAll s nv k ++ (if 0 < s k k2 then dRow s k k2 ++ [⟨k, k2, s k k2⟩] else dRow s k k2) = _
            rw [if_neg h]
          have hkk : k * nv ≤ 30 := Nat.le_trans (Nat.mul_le_mul_right nv (show k ≤ 6 by omega)) (by omega)
          generalize dAll s nv k ++ dRow s k k2 = L2 at *
          generalize hsv : s k k2 = sv at *
          clear hsv
          obtain ⟨n2, hn2⟩ : ∃ n2, n2 = L2.length := ⟨_, rfl⟩
          rw [← hn2] at hrow hlen
          have HN2 : Hid (n2 = L2.length) := hn2
          clear hn2
          obtain ⟨la, lc, rfl⟩ := ownsRow_slice hrow
          have HR : Hid (wr.ownsRow w.heap.size 75 3 (.slice la n2 lc) n2 (drow L2)) := hrow
          have HB : Hid (Below w.heap.size w wr) := hbw
          have hsz := hbw.size
          clear hrow hbw y
          by_cases hs : 0 < sv
          · go_wp2_with (at_builtin; go_loud (refine wpList_append_sl2 rfl (.tmp 33) (.tmp 38) 39 rfl 75 i5 _ 3 24 Try.underlying39 hi5 hz50 hz51 hz52 rfl (by decide) w.heap.size _ n2 (drow L2) rfl (HR.out.alloc _) (by simp; omega) ⟨_, 0, none⟩ 1 1 [.int .i64 k, .int .i64 k2, .int .i64 sv] rfl (by rfl) (cell_newAt _ [.int .i64 k, .int .i64 k2, .int .i64 sv] _ _ rfl) (by simp [Value.oneCell']) (by decide) (by simp [maxLen]; omega) (by omega) ?_))
            intro g5 cap5 v5 hown5 hgrow5 hor5 hold5
            have HB5 : Hid (Below w.heap.size w v5) := (HB.out.alloc HB.out.size _).grown hgrow5 (by simp; omega) (fun j hj => (HR.out.lt j hj).1)
            have HR5 : Hid (v5.ownsRow w.heap.size 75 3 (.slice (some ⟨g5, 0, none⟩) (n2 + 1) cap5) (dAll s nv k ++ dRow s k (k2 + 1)).length (drow (dAll s nv k ++ dRow s k (k2 + 1)))) := by
              rw [HD1.out hs, drow_snoc, List.length_append, ← HN2.out]; exact hown5
            clear hown5 hgrow5 hor5 hold5 HR HB
            go_wp2
            refine And.intro ?_ ?_
            · first | exact ⟨k2 + 1, by omega, by go_num, HR5.out, HB5.out⟩ | ((repeat apply Exists.intro); exact ⟨⟨k2 + 1, by omega, by go_num, HR5.out, HB5.out⟩, rfl⟩)
            · simp [intOf]; omega
          · have HR5 : Hid (wr.ownsRow w.heap.size 75 3 (.slice la n2 lc) (dAll s nv k ++ dRow s k (k2 + 1)).length (drow (dAll s nv k ++ dRow s k (k2 + 1)))) := by
              rw [HD2.out hs, ← HN2.out]; exact HR.out
            clear HR
            go_wp2
            refine And.intro ?_ ?_
            · first | exact ⟨k2 + 1, by omega, by go_num, HR5.out, HB.out⟩ | ((repeat apply Exists.intro); exact ⟨⟨k2 + 1, by omega, by go_num, HR5.out, HB.out⟩, rfl⟩)
            · simp [intOf]; omega
        · have ek : k2 = nv := by omega
          have HR : Hid (wr.ownsRow w.heap.size 75 3 u3 (dAll s nv (k + 1)).length (drow (dAll s nv (k + 1)))) := by
            rw [ek] at hrow; exact hrow
          have HB : Hid (Below w.heap.size w wr) := hbw
          clear hrow hbw ek
          go_wp2
          refine And.intro ?_ ?_
          · first | exact ⟨k + 1, by omega, by go_num, HR.out, HB.out⟩ | ((repeat apply Exists.intro); exact ⟨⟨k + 1, by omega, by go_num, HR.out, HB.out⟩, rfl⟩)
          · simp [intOf]; omega
    · have ek : k = nb := by omega
      rw [ek] at hrow
      obtain ⟨la, lc, rfl⟩ := ownsRow_slice hrow
      have HRf : Hid (wr.ownsRow w.heap.size 75 3 (.slice la (dAll s nv nb).length lc) (dAll s nv nb).length (drow (dAll s nv nb))) := hrow
      clear hrow HR hbw ek
      go_wp2
      go_ret
      exact ⟨_, rfl, HRf.out, HB.out⟩
end Go.Proofs.Ytohjjgefklhmaaa
