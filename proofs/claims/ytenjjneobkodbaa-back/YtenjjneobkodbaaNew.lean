import Derived.Test.YtenjjneobkodbaaNewB
namespace Go.Proofs.Ytenjjneobkodbaa
open Go.ChangeShapes Go.WideShapes Go.ChangeAt Go.RowKit
set_option linter.unusedVariables false

theorem size_setCell' (w : World) (a : Addr) (v : Value) : (w.setCell a v).heap.size = w.heap.size := by simp [World.setCell]
/-- what New has made -/
def Begun (w w' : World) (e : Ending) (bs os rs : List Int) (top mature fee : Int) : Prop :=
  ∃ g bv vv, e = .returned (.tuple #[.pointer (some ⟨g, 0, none⟩), .int .i64 0]) ∧ w.heap.size ≤ g ∧
    Has w' g 52 [.int .i64 top, .int .i64 mature, .int .i64 fee, .int .i64 0, bv, .int .i64 0, .int .i64 0, vv, .int .i64 0, .int .i64 0, .int .i64 0, .int .i64 0, .int .i64 0, .int .i64 0, .int .i64 0, .int .i64 0, .int .i64 0, .int .i64 0, .int .i64 0, .int .i64 0, .int .i64 0, .int .i64 0, .int .i64 0, .int .i64 0, .int .i64 0, .int .i64 0, .int .i64 0, .int .i64 0, .int .i64 0, .int .i64 0, .int .i64 0, .int .i64 0, .int .i64 0, .int .i64 0, .int .i64 0, .int .i64 0, .int .i64 0, .int .i64 0, .slice none 0 0] ∧
    w'.ownsRow w.heap.size 3 1 bv bs.length (ints bs) ∧ w'.ownsRow w.heap.size 37 8 vv os.length (vrow (vs0 os rs)) ∧ Below w.heap.size w w'

set_option maxHeartbeats 2000000 in
set_option maxRecDepth 100000 in
theorem new_bad (vb vo vr : Value) (bs os rs : List Int) (top mature fee : Int) (w : World) (hb : IntSl w vb bs) (ho : IntSl w vo os) (hr : IntSl w vr rs)
    (l1 : bs.length ≤ 1048576) (l2 : os.length ≤ 1048576) (l3 : rs.length ≤ 1048576) (hbad : ¬ GoodGen bs os rs top mature fee) :
    Calls Try.prog 14 #[.agg #[vb, vo, vr, .int .i64 top, .int .i64 mature, .int .i64 fee]] w fun e w' => e = .returned (.tuple #[.pointer none, .int .i64 1]) ∧ Below w.heap.size w w' := by
  have hB : ∀ o, Below w.heap.size w (w.alloc o) := fun o => (Below.refl _ _).alloc (Nat.le_refl _) _
  have HB : Hid (¬ GoodGen bs os rs top mature fee) := hbad
  clear hbad
  go_enter Try.func14, Try.ntmps14
  go_wp2_with fail
  refine (goodGenesis_any vb vo vr bs os rs top mature fee _ (hb.below (hB _) (Nat.le_refl _)) (ho.below (hB _) (Nat.le_refl _)) (hr.below (hB _) (Nat.le_refl _)) l1 l2 l3).mono ?_
  rintro e w1 ⟨⟨b1, rfl, hb1⟩, hbb⟩
  obtain rfl : b1 = false := by
    cases b1 with
    | false => rfl
    | true => exact absurd (hb1.1 rfl) HB.out
  clear hb1
  go_wp2
  go_ret2
  exact ⟨rfl, (hB _).trans (hbb.mono (by simp))⟩

set_option maxHeartbeats 2000000 in
set_option maxRecDepth 100000 in
theorem new_good (vb vo vr : Value) (bs os rs : List Int) (top mature fee : Int) (w : World) (hb : IntSl w vb bs) (ho : IntSl w vo os) (hr : IntSl w vr rs)
    (l1 : bs.length ≤ 1048576) (l2 : os.length ≤ 1048576) (l3 : rs.length ≤ 1048576) (hgood : GoodGen bs os rs top mature fee) :
    Calls Try.prog 14 #[.agg #[vb, vo, vr, .int .i64 top, .int .i64 mature, .int .i64 fee]] w fun e w' => Begun w w' e bs os rs top mature fee := by
  have hB : ∀ o, Below w.heap.size w (w.alloc o) := fun o => (Below.refl _ _).alloc (Nat.le_refl _) _
  have HB : Hid (GoodGen bs os rs top mature fee) := hgood
  clear hgood
  obtain ⟨ab, cb, rfl, _⟩ := id hb
  obtain ⟨ao, co, rfl, _⟩ := id ho
  obtain ⟨ar, cr, rfl, _⟩ := id hr
  go_enter Try.func14, Try.ntmps14
  go_wp2_with fail
  refine (goodGenesis_any _ _ _ bs os rs top mature fee _ (hb.below (hB _) (Nat.le_refl _)) (ho.below (hB _) (Nat.le_refl _)) (hr.below (hB _) (Nat.le_refl _)) l1 l2 l3).mono ?_
  rintro e w1 ⟨⟨b1, rfl, hb1⟩, hbb⟩
  obtain rfl : b1 = true := hb1.2 HB.out
  clear hb1
  have hb1 := (hb.below (hB _) (Nat.le_refl _)).below hbb (Nat.le_refl _)
  have ho1 := (ho.below (hB _) (Nat.le_refl _)).below hbb (Nat.le_refl _)
  have hr1 := (hr.below (hB _) (Nat.le_refl _)).below hbb (Nat.le_refl _)
  have hw1 : Below w.heap.size w w1 := (hB _).trans (hbb.mono (by simp))
  obtain ⟨hc, hf⟩ := bcell hbb
  have hz : w.heap.size < w1.heap.size := by have := hbb.size; simp at this; omega
  simp only [World.size_alloc] at hc hf
  go_wp2_with fail
  have hE : ∀ o, Below w1.heap.size w1 (w1.alloc o) := fun o => (Below.refl _ _).alloc (Nat.le_refl _) _
  refine (copyNumbers_any _ bs _ (hb1.below (hE _) (Nat.le_refl _)) l1).mono ?_
  rintro e w2 ⟨rfl, rfl⟩
  go_wp2_with fail
  have hcE := Has.newA w1 52 #[.int .i64 top, .int .i64 mature, .int .i64 fee, .int .i64 0, .slice (some ⟨w1.heap.size + 1, 0, none⟩) bs.length bs.length, .int .i64 0, .int .i64 0, .slice none 0 0, .int .i64 0, .int .i64 0, .int .i64 0, .int .i64 0, .int .i64 0, .int .i64 0, .int .i64 0, .int .i64 0, .int .i64 0, .int .i64 0, .int .i64 0, .int .i64 0, .int .i64 0, .int .i64 0, .int .i64 0, .int .i64 0, .int .i64 0, .int .i64 0, .int .i64 0, .int .i64 0, .int .i64 0, .int .i64 0, .int .i64 0, .int .i64 0, .int .i64 0, .int .i64 0, .int .i64 0, .int .i64 0, .int .i64 0, .int .i64 0, .slice none 0 0]
  have hcE2 := hcE.alloc (.cells (ints bs).toArray 3)
  have hW2 : Below w1.heap.size w1 ((w1.alloc (.cells #[.int .i64 top, .int .i64 mature, .int .i64 fee, .int .i64 0, .slice (some ⟨w1.heap.size + 1, 0, none⟩) bs.length bs.length, .int .i64 0, .int .i64 0, .slice none 0 0, .int .i64 0, .int .i64 0, .int .i64 0, .int .i64 0, .int .i64 0, .int .i64 0, .int .i64 0, .int .i64 0, .int .i64 0, .int .i64 0, .int .i64 0, .int .i64 0, .int .i64 0, .int .i64 0, .int .i64 0, .int .i64 0, .int .i64 0, .int .i64 0, .int .i64 0, .int .i64 0, .int .i64 0, .int .i64 0, .int .i64 0, .int .i64 0, .int .i64 0, .int .i64 0, .int .i64 0, .int .i64 0, .int .i64 0, .int .i64 0, .slice none 0 0] 52)).alloc (.cells (ints bs).toArray 3)) := (((Below.refl _ _).alloc (Nat.le_refl _) _).alloc (by simp) _)
  refine (newValidators_any _ _ os rs _ (ho1.below hW2 (Nat.le_refl _)) (hr1.below hW2 (Nat.le_refl _)) HB.out.2.1.2.2.1 HB.out.2.1.2.1).mono ?_
  rintro e w3 ⟨x, rfl, hx3, hb3⟩
  obtain ⟨ax, cx, rfl⟩ := ownsRow_slice hx3
  have hcE3 := hcE2.below hb3 (by simp only [World.size_alloc]; omega)
  have hc7 := hcE3.cell 7
  have hf7 := hcE3.frozen 7
  simp only [List.getElem?_cons_succ, List.getElem?_cons_zero] at hc7
  have hbv := ownsRow_below (ownsRow_new (w1.alloc (.cells #[.int .i64 top, .int .i64 mature, .int .i64 fee, .int .i64 0, .slice (some ⟨w1.heap.size + 1, 0, none⟩) bs.length bs.length, .int .i64 0, .int .i64 0, .slice none 0 0, .int .i64 0, .int .i64 0, .int .i64 0, .int .i64 0, .int .i64 0, .int .i64 0, .int .i64 0, .int .i64 0, .int .i64 0, .int .i64 0, .int .i64 0, .int .i64 0, .int .i64 0, .int .i64 0, .int .i64 0, .int .i64 0, .int .i64 0, .int .i64 0, .int .i64 0, .int .i64 0, .int .i64 0, .int .i64 0, .int .i64 0, .int .i64 0, .int .i64 0, .int .i64 0, .int .i64 0, .int .i64 0, .int .i64 0, .int .i64 0, .slice none 0 0] 52)) 3 1 bs.length (ints bs) (by simp [ints]) (by simp [maxLen]; omega)) hb3 (Nat.le_refl _)
  simp only [World.size_alloc] at hx3 hbv hb3
  have hfin : Begun w (w3.setCell ⟨w1.heap.size, 7, none⟩ (.slice ax os.length cx)) (.returned (.tuple #[.pointer (some ⟨w1.heap.size, 0, none⟩), .int .i64 0])) bs os rs top mature fee := by
    refine ⟨w1.heap.size, .slice (some ⟨w1.heap.size + 1, 0, none⟩) bs.length bs.length, .slice ax os.length cx, rfl, by omega, ?_, ?_, ?_, ?_⟩
    · exact hcE3.set 7 _
    · exact ownsRow_base (ownsRow_setCell hbv _ _ (by simp [Value.ownBlock])) (by omega)
    · rw [← valsOf_vs0]
      refine ownsRow_base (ownsRow_setCell hx3 _ _ ?_) (by omega)
      intro h
      have := (hx3.lt _ h).1
      simp at this
      omega
    · exact ((hw1.trans (hW2.mono (by omega))).trans (hb3.mono (by omega))).setCell (by simp; omega) _
  have HF : Hid (Begun w (w3.setCell ⟨w1.heap.size, 7, none⟩ (.slice ax os.length cx)) (.returned (.tuple #[.pointer (some ⟨w1.heap.size, 0, none⟩), .int .i64 0])) bs os rs top mature fee) := hfin
  clear hfin hx3 hbv hcE hcE2 hcE3 hW2
  go_wp2
  go_ret2
  exact HF.out
end Go.Proofs.Ytenjjneobkodbaa
