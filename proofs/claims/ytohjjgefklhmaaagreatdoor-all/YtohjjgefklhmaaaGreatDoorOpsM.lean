import Derived.Test.YtohjjgefklhmaaaGreatDoorWriteM
namespace Go.Proofs.YtohjjgefklhmaaaGreatDoor
open Go.ChangeShapes Go.WideShapes Go.ChangeAt Go.RowKit
set_option linter.unusedVariables false
set_option maxHeartbeats 40000000
set_option maxRecDepth 100000
variable {w : World} {B : Nat} {p : Prop}
structure OpD where
 kind : Int
 x : Int
 a : Int
 b : Int
 c : Int
 d : Int
 s : ByteArray
def OpD.cells (o : OpD) : List Value := [.int .i64 o.kind, .int .i64 o.x, .int .i64 o.a, .int .i64 o.b, .int .i64 o.c, .int .i64 o.d, .string o.s]
def Iq (n : Int) : Prop := -9223372036854775808 <= n ∧ n <= 9223372036854775807
def OpD.ok (o : OpD) : Prop := Iq o.kind ∧ Iq o.x ∧ Iq o.a ∧ Iq o.b ∧ Iq o.c ∧ Iq o.d
def Ex : List OpD -> List Value
 | [] => []
 | o :: l => o.cells ++ Ex l
theorem PY (l : List OpD) (k : Nat) (h : k < l.length) (i : Nat) (hi : i < 7) : (Ex l)[k * 7 + i]? = l[k].cells[i]? := by
 induction l generalizing k with
 | nil => simp at h
 | cons v l ih =>
  cases k with
  | zero => simp [Ex, List.getElem?_append_left (show i < v.cells.length by simpa [OpD.cells] using hi)]
  | succ k =>
   rw [Ex, List.getElem?_append_right (by simp [OpD.cells]; omega)]
   have e : (k + 1) * 7 + i - v.cells.length = k * 7 + i := by simp [OpD.cells]; omega
   rw [e, ih k (by simpa using h)]
   simp
theorem Mg (l : List OpD) (o : OpD) : Ex (l ++ [o]) = Ex l ++ o.cells := by
 induction l with
 | nil => simp [Ex]
 | cons v l ih => simp [Ex, ih]
def JY (w : World) (v : Value) (ops : List OpD) : Prop :=
 ∃ a cap, v = .slice a ops.length cap ∧ (0 < ops.length -> ∃ g off, a = some ⟨g, off, none⟩ ∧ ∀ k (h : k < ops.length), ∀ i, i < 7 -> w.cell? ⟨g, off + k * 7 + i, none⟩ = ops[k].cells[i]?)
theorem JY.get {a : Option Addr} {cap : Nat} {ops : List OpD} (h : JY w (.slice a ops.length cap) ops) (h0 : 0 < ops.length) : ∃ g off, a = some ⟨g, off, none⟩ ∧ ∀ k (h : k < ops.length), ∀ i, i < 7 -> w.cell? ⟨g, off + k * 7 + i, none⟩ = ops[k].cells[i]? := by
 obtain ⟨a', c', he, hx⟩ := h
 simp only [Value.slice.injEq, true_and] at he
 obtain ⟨rfl, rfl⟩ := he
 exact hx h0
theorem JY.below {w' : World} {v : Value} {ops : List OpD} (h : JY w v ops) (hb : Below B w w') (hB : w.heap.size <= B) : JY w' v ops := by
 obtain ⟨a, cap, rfl, hx⟩ := h
 refine ⟨a, cap, rfl, fun h0 => ?_⟩
 obtain ⟨g, off, rfl, hc⟩ := hx h0
 refine ⟨g, off, rfl, fun k hk i hi => ?_⟩
 have h1 := hc k hk i hi
 have h2 : ∃ u, ops[k].cells[i]? = some u := ⟨_, List.getElem?_eq_getElem (by simpa [OpD.cells] using hi)⟩
 obtain ⟨u, hu⟩ := h2
 rw [hb.cell (p := ⟨g, off + k * 7 + i, none⟩) (Nat.lt_of_lt_of_le (World.block_lt_of_cell? w _ (h1.trans hu)) hB)]
 exact h1
def Mn (ops : List OpD) : Prop := ops.length <= 16384 ∧ ∀ k (h : k < ops.length), ops[k].s.size <= 16384
def E3 (e : Ending) (p : Prop) : Prop := ∃ b, e = .returned (.bool b) ∧ (b = true -> p)
theorem E3.tt (h : p) : E3 (.returned (.bool true)) p := ⟨true, rfl, fun _ => h⟩
theorem E3.ff : E3 (.returned (.bool false)) p := ⟨false, rfl, fun h => by cases h⟩
theorem N9 (v : Value) (ops : List OpD) (w : World) (hv : JY w v ops) (hl : ops.length <= 9000000000000000) (hs : ∀ k (h : k < ops.length), ops[k].s.size <= 9000000000000000) :
  Calls Tryz.prog 10 #[v] w fun e w' => E3 e (Mn ops) ∧ w = w' := by
 obtain ⟨a, cap, rfl, hx0⟩ := id hv
 clear hx0
 by_cases hbig : 16384 < ops.length
 ·clear hv hs
  go_enter Tryz.func10, Tryz.ntmps10
  go_wp2
  go_ret
  exact ⟨E3.ff, rfl⟩
 ·go_enter Tryz.func10, Tryz.ntmps10
  go_wp2
  go_loop [3, 4] (fun n i => ∃ k : Nat, k <= ops.length ∧ i = .int .i64 k ∧ ∃ m : Nat, m <= 16384 ∧ n = .int .i64 m ∧ ∀ j (h : j < ops.length), j < k -> ops[j].s.size <= 16384) (fun _ i => ops.length - (intOf i).toNat)
  case atStart => exact ⟨0, Nat.zero_le _, rfl, ops.length, by omega, rfl, fun j _ h => by omega⟩
  case round =>
   obtain ⟨k, hk, rfl, m, hm, rfl, hA⟩ := hrel
   by_cases hlt : k < ops.length
   ·obtain ⟨g, off, rfl, hc⟩ := hv.get (by omega)
    have x6 := hc k hlt 6 (by omega)
    have hsk := hs k hlt
    have HA : Hid (ops[k].s.size <= 16384 -> ∀ j (h : j < ops.length), j < k + 1 -> ops[j].s.size <= 16384) := fun h0 j h h1 => by
     by_cases e : j = k
     ·subst e; exact h0
     ·exact hA j h (by omega)
    generalize ops[k] = o at *
    simp only [OpD.cells, List.getElem?_cons_succ, List.getElem?_cons_zero] at x6
    clear hc hA hv hs
    by_cases hov : 16384 < m + o.s.size
    ·go_wp2
     go_ret
     exact ⟨E3.ff, rfl⟩
    ·go_wp2
     go_round
     case rel => exact ⟨k + 1, by omega, by go_num, m + o.s.size, by omega, by go_num, HA.out (by omega)⟩
     case measure => simp [intOf]; omega
   ·have HA : Hid (Mn ops) := ⟨by omega, fun j h => hA j h (by omega)⟩
    clear hA hv hs
    go_wp2
    go_ret
    exact ⟨E3.tt HA.out, rfl⟩
def Jr (ks : List Int) (k : Int) : Prop := k < 7 ∨ k ∈ ks
def Lb (ks : List Int) (lo : List OpD) : Prop := ∀ k (h : k < lo.length), Jr ks lo[k].kind ∧ lo[k].ok ∧ lo[k].s.size <= 16384
def Fe (B : Nat) (W0 : World) (ks : List Int) : Prop := ∀ (w : World) (lv : Value) (lo : List OpD), Below B W0 w -> w.ownsRow 0 27 7 lv lo.length (Ex lo) -> lo.length <= 16384 -> Lb ks lo ->
 Calls Tryz.prog 11 #[lv] w fun e w' => e = .returned (.int .i64 (-1)) ∧ Below w.heap.size w w'
theorem Lb.snoc {ks : List Int} {lo : List OpD} (h : Lb ks lo) {o : OpD} (ho : Jr ks o.kind ∧ o.ok ∧ o.s.size <= 16384) : Lb ks (lo ++ [o]) := by
 intro k hk
 by_cases hl : k < lo.length
 ·rw [List.getElem_append_left hl]; exact h k hl
 ·rw [List.getElem_append_right (by omega)]; simpa using ho
theorem QV : (Tryz.prog.info? 27).map (fun i => (i.zero, i.size, i.bytes)) = some (some (.agg #[.int .i64 0, .int .i64 0, .int .i64 0, .int .i64 0, .int .i64 0, .int .i64 0, .string .empty]), 7, 64) := by kernel_rfl
theorem N3 {W0 : World} (hB0 : B <= W0.heap.size) (ks : List Int) (hup : Fe B W0 ks) (v vk : Value) (ops : List OpD) (w : World) (hBw : Below B W0 w) (hv : JY w v ops) (hvk : AM w vk ks) (lk : ks.length <= 100) (hok : ∀ k (h : k < ops.length), ops[k].ok) (hl : ops.length <= 9000000000000000) (hs : ∀ k (h : k < ops.length), ops[k].s.size <= 9000000000000000) :
  Calls Tryz.prog 9 #[v, vk] w fun e w' => e = .returned (.bool true) ∧ Below w.heap.size w w' := by
 obtain ⟨a, cap, rfl, hx0⟩ := id hv
 obtain ⟨ak, capk, rfl, hxk⟩ := id hvk
 clear hx0 hxk
 obtain ⟨i5, hi5, hz50, hz51, hz52⟩ := info_parts QV
 go_enter Tryz.func9, Tryz.ntmps9
 go_wp2_with fail
 refine (N9 _ ops _ hv hl hs).mono ?_
 rintro e w' ⟨⟨bs, rfl, hsm⟩, rfl⟩
 cases bs with
 | false =>
  clear hv hvk hok hs hsm hup
  go_wp2
  go_ret
  exact ⟨rfl, Below.refl _ _⟩
 | true =>
  obtain ⟨hlen, hsz⟩ := hsm rfl
  clear hsm hs hl
  go_wp2
  go_loopw [6, 7] (fun lv i wr => ∃ k : Nat, k <= ops.length ∧ i = .int .i64 k ∧ Below w.heap.size w wr ∧ ∃ lo, List.length lo <= k ∧ Lb ks lo ∧ wr.ownsRow w.heap.size 27 7 lv lo.length (Ex lo)) (fun _ i _ => ops.length - (intOf i).toNat)
  case atStart => exact ⟨0, Nat.zero_le _, rfl, Below.refl _ _, [], Nat.zero_le _, fun k h => by simp at h, World.ownsRow_nil _ _ _ _⟩
  case round =>
   obtain ⟨k, hk, rfl, hbw, lo, hlo, hall, hown⟩ := hrel
   by_cases hlt : k < ops.length
   ·obtain ⟨g, off, rfl, hc⟩ := (hv.below hbw (Nat.le_refl _)).get (by omega)
    have x0 := hc k hlt 0 (by omega)
    have x1 := hc k hlt 1 (by omega)
    have x2 := hc k hlt 2 (by omega)
    have x3 := hc k hlt 3 (by omega)
    have x4 := hc k hlt 4 (by omega)
    have x5 := hc k hlt 5 (by omega)
    have x6 := hc k hlt 6 (by omega)
    have hko := hok k hlt
    have hks := hsz k hlt
    generalize ops[k] = o at *
    simp only [OpD.cells, List.getElem?_cons_succ, List.getElem?_cons_zero, Nat.add_zero] at x0 x1 x2 x3 x4 x5 x6
    have HO : Hid (o.ok ∧ o.s.size <= 16384) := ⟨hko, hks⟩
    have HALL := Hd hall
    have hvk2 := hvk.below hbw (Nat.le_refl _)
    have gl := World.block_lt_of_cell? wr _ x0
    clear hc hko hall hok hsz hup
    obtain ⟨la, lc, rfl⟩ := Ac hown
    go_wp2
    go_loop [9, 10] (fun inn j => ∃ j2 : Nat, j2 <= ks.length ∧ j = .int .i64 j2 ∧ ∃ bb : Bool, inn = .bool bb ∧ (bb = true -> Jr ks o.kind)) (fun _ j => ks.length - (intOf j).toNat)
    case atStart => exact ⟨0, Nat.zero_le _, rfl, _, rfl, fun h => .inl (by simpa using h)⟩
    case round =>
     obtain ⟨j2, hj2, rfl, bb, rfl, hbb⟩ := hrel
     have HBB := Hd hbb
     clear hbb
     by_cases hltj : j2 < ks.length
     ·cases bb with
      | true =>
       have HT : Hid (Jr ks o.kind) := HBB.out rfl
       clear HBB x0 x1 x2 x3 x4 x5 x6 hvk2
       go_wp2
       exact ⟨⟨j2 + 1, by omega, by go_num, true, rfl, fun _ => HT.out⟩, by simp [intOf]; omega⟩
      | false =>
       obtain ⟨a2, c2, he, hxk⟩ := hvk2
       simp only [Value.slice.injEq, true_and] at he
       obtain ⟨rfl, rfl⟩ := he
       obtain ⟨gk, rfl, hck⟩ := hxk (by omega)
       have y0 := hck j2 ks[j2] (by simp [hltj])
       have HT : Hid ((o.kind == ks[j2]) = true -> Jr ks o.kind) := fun h => .inr (by rw [eq_of_beq h]; exact List.getElem_mem hltj)
       generalize ks[j2] = kj at *
       clear hck hxk HBB x0 x1 x2 x3 x4 x5 x6
       go_wp2
       exact ⟨⟨j2 + 1, by omega, by go_num, _, rfl, HT.out⟩, by simp [intOf]; omega⟩
     ·cases bb with
      | true =>
       have HT : Hid (Jr ks o.kind) := HBB.out rfl
       clear HBB hvk2
       go_wp2_with (at_builtin; go_loud (refine Ak rfl (.tmp 44) (.tmp 49) 22 rfl 27 i5 _ 7 64 Tryz.underlying22 hi5 hz50 hz51 hz52 rfl (by decide) w.heap.size _ lo.length (Ex lo) rfl (hown.alloc _) (Nat.le_trans hbw.size (by simp)) ⟨_, 0, none⟩ 1 1 o.cells rfl (by rfl) (Ap _ o.cells _ _ rfl) (by simp [OpD.cells, Value.oneCell']) (by decide) (by simp [maxLen]; omega) (by omega) ?_))
       intro g5 cap5 v5 hown5 hgrow5 hor5 hold5
       have HB5 : Hid (Below w.heap.size w v5) := Below.grown (hbw.alloc hbw.size _) hgrow5 (Nat.le_trans hbw.size (by simp)) (fun j hj => (hown.lt j hj).1)
       have HO5 : Hid (v5.ownsRow w.heap.size 27 7 (.slice (some ⟨g5, 0, none⟩) (lo.length + 1) cap5) (lo ++ [o]).length (Ex (lo ++ [o]))) := by
        rw [Mg, List.length_append]; exact hown5
       clear hown5 hgrow5 hor5 hold5 x0 x1 x2 x3 x4 x5 x6
       go_wp2
       refine And.intro ?_ ?_
       ·first | exact ⟨k + 1, by omega, by go_num, HB5.out, lo ++ [o], by simp; omega, HALL.out.snoc ⟨HT.out, HO.out.1, HO.out.2⟩, HO5.out⟩ | ((repeat apply Exists.intro); exact ⟨⟨k + 1, by omega, by go_num, HB5.out, lo ++ [o], by simp; omega, HALL.out.snoc ⟨HT.out, HO.out.1, HO.out.2⟩, HO5.out⟩, rfl⟩)
       ·simp [intOf]; omega
      | false =>
       clear HBB hvk2
       go_wp2
       refine And.intro ?_ ?_
       ·first | exact ⟨k + 1, by omega, by go_num, hbw, lo, by omega, HALL.out, hown⟩ | ((repeat apply Exists.intro); exact ⟨⟨k + 1, by omega, by go_num, hbw, lo, by omega, HALL.out, hown⟩, rfl⟩)
       ·simp [intOf]; omega
   ·have HO := Aj hown (Nat.zero_le _)
    go_wp2_with fail
    refine (hup _ _ lo (hBw.trans (hbw.mono (Nat.le_trans hB0 hBw.size))) HO (by omega) hall).mono ?_
    rintro e w2 ⟨rfl, hb2⟩
    have HB : Hid (Below w.heap.size w w2) := hbw.trans (hb2.mono hbw.size)
    clear hb2 hbw hown HO hall hv hvk hok hsz hup
    go_wp2
    go_ret
    exact ⟨rfl, HB.out⟩
end Go.Proofs.YtohjjgefklhmaaaGreatDoor
