import Derived.Test.YtenjjneobkodbaaGreatOps
namespace Go.Proofs.YtenjjneobkodbaaGreat
open Go.ChangeShapes Go.WideShapes Go.ChangeAt Go.RowKit
set_option linter.unusedVariables false

/-- the kinds that are played -/
def Allow (ks : List Int) (k : Int) : Prop := k < 7 ∨ k ∈ ks
def AllOk (ks : List Int) (lo : List OpD) : Prop := ∀ k (h : k < lo.length), Allow ks lo[k].kind ∧ lo[k].ok ∧ lo[k].s.size ≤ 16384
/-- what is claimed of 'upTo' -/
def UpToSaid (ks : List Int) : Prop := ∀ (w : World) (lv : Value) (lo : List OpD), w.ownsRow 0 27 7 lv lo.length (oprow lo) → lo.length ≤ 16384 → AllOk ks lo →
  Calls Tryz.prog 10 #[lv] w fun e w' => e = .returned (.int .i64 (-1)) ∧ Below w.heap.size w w'
theorem AllOk.snoc {ks : List Int} {lo : List OpD} (h : AllOk ks lo) {o : OpD} (ho : Allow ks o.kind ∧ o.ok ∧ o.s.size ≤ 16384) : AllOk ks (lo ++ [o]) := by
  intro k hk
  by_cases hl : k < lo.length
  · rw [List.getElem_append_left hl]; exact h k hl
  · rw [List.getElem_append_right (by omega)]; simpa using ho
theorem info_op : (Tryz.prog.info? 27).map (fun i => (i.zero, i.size, i.bytes)) = some (some (.agg #[.int .i64 0, .int .i64 0, .int .i64 0, .int .i64 0, .int .i64 0, .int .i64 0, .string .empty]), 7, 64) := by kernel_rfl

set_option maxHeartbeats 4000000 in
set_option maxRecDepth 100000 in
theorem plays_any (ks : List Int) (hup : UpToSaid ks) (v vk : Value) (ops : List OpD) (w : World) (hv : OpSl w v ops) (hvk : IntSl w vk ks) (lk : ks.length ≤ 100) (hok : ∀ k (h : k < ops.length), ops[k].ok) (hl : ops.length ≤ 9000000000000000) (hs : ∀ k (h : k < ops.length), ops[k].s.size ≤ 9000000000000000) :
    Calls Tryz.prog 8 #[v, vk] w fun e w' => e = .returned (.bool true) ∧ Below w.heap.size w w' := by
  obtain ⟨a, cap, rfl, hx0⟩ := id hv
  obtain ⟨ak, capk, rfl, hxk⟩ := id hvk
  clear hx0 hxk
  obtain ⟨i5, hi5, hz50, hz51, hz52⟩ := info_parts info_op
  go_enter Tryz.func8, Tryz.ntmps8
  go_wp2_with fail
  refine (small_any _ ops _ hv hl hs).mono ?_
  rintro e w' ⟨⟨bs, rfl, hsm⟩, rfl⟩
  cases bs with
  | false =>
    clear hv hvk hok hs hsm hup
    go_wp2
    go_ret
    exact ⟨rfl, Below.refl _ _⟩
  | true =>
    obtain ⟨hlen, hsz⟩ := hsm rfl
    clear hsm hs hl
    go_wp2
    go_loopw [6, 7] (fun lv i wr => ∃ k : Nat, k ≤ ops.length ∧ i = .int .i64 k ∧ Below w.heap.size w wr ∧ ∃ lo, List.length lo ≤ k ∧ AllOk ks lo ∧ wr.ownsRow w.heap.size 27 7 lv lo.length (oprow lo)) (fun _ i _ => ops.length - (intOf i).toNat)
    case atStart => exact ⟨0, Nat.zero_le _, rfl, Below.refl _ _, [], Nat.zero_le _, fun k h => by simp at h, World.ownsRow_nil _ _ _ _⟩
    case round =>
      obtain ⟨k, hk, rfl, hbw, lo, hlo, hall, hown⟩ := hrel
      by_cases hlt : k < ops.length
      · obtain ⟨g, off, rfl, hc⟩ := (hv.below hbw (Nat.le_refl _)).get (by omega)
        have x0 := hc k hlt 0 (by omega)
        have x1 := hc k hlt 1 (by omega)
        have x2 := hc k hlt 2 (by omega)
        have x3 := hc k hlt 3 (by omega)
        have x4 := hc k hlt 4 (by omega)
        have x5 := hc k hlt 5 (by omega)
        have x6 := hc k hlt 6 (by omega)
        have hko := hok k hlt
        have hks := hsz k hlt
        generalize ops[k] = o at *
        simp only [OpD.cells, List.getElem?_cons_succ, List.getElem?_cons_zero, Nat.add_zero] at x0 x1 x2 x3 x4 x5 x6
        have HO : Hid (o.ok ∧ o.s.size ≤ 16384) := ⟨hko, hks⟩
        have HALL : Hid (AllOk ks lo) := hall
        have hvk2 := hvk.below hbw (Nat.le_refl _)
        have gl := World.block_lt_of_cell? wr _ x0
        clear hc hko hall hok hsz hup
        obtain ⟨la, lc, rfl⟩ := ownsRow_slice hown
        go_wp2
        go_loop [9, 10] (fun inn j => ∃ j2 : Nat, j2 ≤ ks.length ∧ j = .int .i64 j2 ∧ ∃ bb : Bool, inn = .bool bb ∧ (bb = true → Allow ks o.kind)) (fun _ j => ks.length - (intOf j).toNat)
        case atStart => exact ⟨0, Nat.zero_le _, rfl, _, rfl, fun h => .inl (by simpa using h)⟩
        case round =>
          obtain ⟨j2, hj2, rfl, bb, rfl, hbb⟩ := hrel
          have HBB : Hid (bb = true → Allow ks o.kind) := hbb
          clear hbb
          by_cases hltj : j2 < ks.length
          · cases bb with
            | true =>
              have HT : Hid (Allow ks o.kind) := HBB.out rfl
              clear HBB x0 x1 x2 x3 x4 x5 x6 hvk2
              go_wp2
              exact ⟨⟨j2 + 1, by omega, by go_num, true, rfl, fun _ => HT.out⟩, by simp [intOf]; omega⟩
            | false =>
              obtain ⟨a2, c2, he, hxk⟩ := hvk2
              simp only [Value.slice.injEq, true_and] at he
              obtain ⟨rfl, rfl⟩ := he
              obtain ⟨gk, rfl, hck⟩ := hxk (by omega)
              have y0 := hck j2 ks[j2] (by simp [hltj])
              have HT : Hid ((o.kind == ks[j2]) = true → Allow ks o.kind) := fun h => .inr (by rw [eq_of_beq h]; exact List.getElem_mem hltj)
              generalize ks[j2] = kj at *
              clear hck hxk HBB x0 x1 x2 x3 x4 x5 x6
              go_wp2
              exact ⟨⟨j2 + 1, by omega, by go_num, _, rfl, HT.out⟩, by simp [intOf]; omega⟩
          · cases bb with
            | true =>
              have HT : Hid (Allow ks o.kind) := HBB.out rfl
              clear HBB hvk2
              go_wp2_with (at_builtin; go_loud (refine wpList_append_sl2 rfl (.tmp 44) (.tmp 49) 22 rfl 27 i5 _ 7 64 Tryz.underlying22 hi5 hz50 hz51 hz52 rfl (by decide) w.heap.size _ lo.length (oprow lo) rfl (hown.alloc _) (Nat.le_trans hbw.size (by simp)) ⟨_, 0, none⟩ 1 1 o.cells rfl (by rfl) (cell_newAt _ o.cells _ _ rfl) (by simp [OpD.cells, Value.oneCell']) (by decide) (by simp [maxLen]; omega) (by omega) ?_))
              intro g5 cap5 v5 hown5 hgrow5 hor5 hold5
              have HB5 : Hid (Below w.heap.size w v5) := Below.grown (hbw.alloc hbw.size _) hgrow5 (Nat.le_trans hbw.size (by simp)) (fun j hj => (hown.lt j hj).1)
              have HO5 : Hid (v5.ownsRow w.heap.size 27 7 (.slice (some ⟨g5, 0, none⟩) (lo.length + 1) cap5) (lo ++ [o]).length (oprow (lo ++ [o]))) := by
                rw [oprow_snoc, List.length_append]; exact hown5
              clear hown5 hgrow5 hor5 hold5 x0 x1 x2 x3 x4 x5 x6
              go_wp2
              refine And.intro ?_ ?_
              · first | exact ⟨k + 1, by omega, by go_num, HB5.out, lo ++ [o], by simp; omega, HALL.out.snoc ⟨HT.out, HO.out.1, HO.out.2⟩, HO5.out⟩ | ((repeat apply Exists.intro); exact ⟨⟨k + 1, by omega, by go_num, HB5.out, lo ++ [o], by simp; omega, HALL.out.snoc ⟨HT.out, HO.out.1, HO.out.2⟩, HO5.out⟩, rfl⟩)
              · simp [intOf]; omega
            | false =>
              clear HBB hvk2
              go_wp2
              refine And.intro ?_ ?_
              · first | exact ⟨k + 1, by omega, by go_num, hbw, lo, by omega, HALL.out, hown⟩ | ((repeat apply Exists.intro); exact ⟨⟨k + 1, by omega, by go_num, hbw, lo, by omega, HALL.out, hown⟩, rfl⟩)
              · simp [intOf]; omega
      · have HO := ownsRow_base hown (Nat.zero_le _)
        go_wp2_with fail
        refine (hup _ _ lo HO (by omega) hall).mono ?_
        rintro e w2 ⟨rfl, hb2⟩
        have HB : Hid (Below w.heap.size w w2) := hbw.trans (hb2.mono hbw.size)
        clear hb2 hbw hown HO hall hv hvk hok hsz hup
        go_wp2
        go_ret
        exact ⟨rfl, HB.out⟩
end Go.Proofs.YtenjjneobkodbaaGreat
