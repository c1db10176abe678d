import Derived.Test.YtieccdjglbfiaaaView
namespace Go.Proofs.Ytieccdjglbfiaaa
open Go.ChangeShapes Go.WideShapes Go.ChangeAt Go.RowKit
set_option linter.unusedVariables false

theorem bcell {W w1 : World} {B : Nat} (hb : Below B W w1) : (∀ b o, b < B → w1.cell? ⟨b, o, none⟩ = W.cell? ⟨b, o, none⟩) ∧ (∀ b o, b < B → w1.frozen? ⟨b, o, none⟩ = W.frozen? ⟨b, o, none⟩) :=
  ⟨fun b o h => hb.cell (p := ⟨b, o, none⟩) h, fun b o h => hb.frozen (p := ⟨b, o, none⟩) h⟩

/-- the validators of a beginning -/
def vs0 (os rs : List Int) : List VS := List.zipWith (fun o r => { owner := o, rate := r, tokens := 0, shares := 0, comm := 0, outs := 0, jailed := false, inset := false }) os rs
theorem valsOf_vs0 (os rs : List Int) : valsOf os rs = vrow (vs0 os rs) := by
  induction os generalizing rs with
  | nil => simp [valsOf, vs0, vrow]
  | cons o os ih =>
    cases rs with
    | nil => simp [valsOf, vs0, vrow]
    | cons r rs => simp [valsOf, vs0, vrow, ih rs, valCells, VS.cells]
theorem vs0_length (os rs : List Int) (h : rs.length = os.length) : (vs0 os rs).length = os.length := by simp [vs0, h]

theorem ownsRow_slice {w : World} {base : Nat} {e : TypeId} {size : Nat} {v : Value} {n : Nat} {xs : List Value} (h : w.ownsRow base e size v n xs) : ∃ a cap, v = .slice a n cap := by
  rcases h.2 with ⟨rfl, rfl⟩ | ⟨g, cap, cur, rfl, _⟩
  · exact ⟨none, 0, rfl⟩
  · exact ⟨_, cap, rfl⟩
theorem ownsRow_new (w : World) (e : TypeId) (size n : Nat) (L : List Value) (hl : L.length = n * size) (hn : n ≤ maxLen) :
    (w.alloc (.cells L.toArray e)).ownsRow w.heap.size e size (.slice (some ⟨w.heap.size, 0, none⟩) n n) n L :=
  ⟨hl, .inr ⟨w.heap.size, n, L.toArray, rfl, Nat.le_refl _, heap_alloc_new w _, Nat.le_refl _, hn, by simpa using hl, by simp [← hl]⟩⟩
theorem ownsRow_below {w w' : World} {B base : Nat} {e : TypeId} {size : Nat} {v : Value} {n : Nat} {xs : List Value} (h : w.ownsRow base e size v n xs) (hb : Below B w w') (hB : w.heap.size ≤ B) : w'.ownsRow base e size v n xs :=
  h.kept (row := none) ⟨hb.os, hb.tape, hb.output, hb.size, fun k hk _ => hb.block k (by omega)⟩ (by cases hv : v.ownBlock <;> simp)
theorem ownsRow_setCell {w : World} {base : Nat} {e : TypeId} {size : Nat} {v : Value} {n : Nat} {xs : List Value} (h : w.ownsRow base e size v n xs) (p : Addr) (u : Value) (hp : v.ownBlock ≠ some p.block) : (w.setCell p u).ownsRow base e size v n xs :=
  h.kept (row := some p.block) ⟨rfl, rfl, rfl, by simp [World.setCell], fun k hk hn => Below.heap_setCell _ _ _ _ (fun e => hn (by rw [e]))⟩ (by
    cases hv : v.ownBlock with
    | none => simp
    | some b => right; rw [hv] at hp; exact hp)

theorem ownsRow_apart {w : World} {base base' : Nat} {e e' : TypeId} {size size' : Nat} {v v' : Value} {n n' : Nat} {xs xs' : List Value} (h : w.ownsRow base e size v n xs) (h' : w.ownsRow base' e' size' v' n' xs') (hne : e ≠ e') :
    v.ownBlock = none ∨ v.ownBlock ≠ v'.ownBlock := by
  rcases h.2 with ⟨rfl, rfl⟩ | ⟨g, cap, cur, rfl, _, hg, _⟩
  · exact .inl rfl
  · right
    rcases h'.2 with ⟨rfl, rfl⟩ | ⟨g', cap', cur', rfl, _, hg', _⟩
    · simp [Value.ownBlock]
    · simp only [Value.ownBlock, ne_eq, Option.some.injEq]
      intro e0
      subst e0
      rw [hg] at hg'
      simp only [Option.some.injEq, Obj.cells.injEq] at hg'
      exact hne hg'.2.1
theorem Has.apart {w : World} {g : Nat} {e e' : TypeId} {L : List Value} {base size : Nat} {v : Value} {n : Nat} {xs : List Value} (h : Has w g e L) (h' : w.ownsRow base e' size v n xs) (hne : e ≠ e') : some g ≠ v.ownBlock := by
  rcases h'.2 with ⟨rfl, rfl⟩ | ⟨g', cap', cur', rfl, _, hg', _⟩
  · simp [Value.ownBlock]
  · simp only [Value.ownBlock, ne_eq, Option.some.injEq]
    intro e0
    subst e0
    unfold Has at h
    rw [h] at hg'
    simp only [Option.some.injEq, Obj.cells.injEq] at hg'
    exact hne hg'.2.1
theorem vs0_snoc (os rs : List Int) (h : rs.length = os.length) (k : Nat) (hk : k < os.length) :
    vrow (vs0 (os.take (k + 1)) (rs.take (k + 1))) = vrow (vs0 (os.take k) (rs.take k)) ++ valCells os[k] (rs[k]'(by omega)) := by
  rw [← valsOf_vs0, ← valsOf_vs0, valsOf_snoc os rs h k hk]

/-- what New has made -/
def Begun (w w' : World) (e : Ending) (bs os rs : List Int) (fee : Int) : Prop :=
  ∃ g bv vv, e = .returned (.tuple #[.pointer (some ⟨g, 0, none⟩), .int .i64 0]) ∧ w.heap.size ≤ g ∧
    Has w' g 46 [.int .i64 fee, .int .i64 0, bv, .int .i64 0, .int .i64 0, vv] ∧
    w'.ownsRow w.heap.size 3 1 bv bs.length (ints bs) ∧ w'.ownsRow w.heap.size 62 8 vv os.length (vrow (vs0 os rs)) ∧ Below w.heap.size w w'

set_option maxHeartbeats 2000000 in
set_option maxRecDepth 100000 in
theorem new_bad (vb vo vr : Value) (bs os rs : List Int) (top mature fee : Int) (w : World) (hb : IntSl w vb bs) (ho : IntSl w vo os) (hr : IntSl w vr rs)
    (l1 : bs.length ≤ 1048576) (l2 : os.length ≤ 1048576) (l3 : rs.length ≤ 1048576) (hbad : ¬ GoodGen bs os rs top mature fee) :
    Calls Try.prog 19 #[.agg #[vb, vo, vr, .int .i64 top, .int .i64 mature, .int .i64 fee]] w fun e w' => e = .returned (.tuple #[.pointer none, .int .i64 1]) ∧ Below w.heap.size w w' := by
  have hB : ∀ o, Below w.heap.size w (w.alloc o) := fun o => (Below.refl _ _).alloc (Nat.le_refl _) _
  have HB : Hid (¬ GoodGen bs os rs top mature fee) := hbad
  clear hbad
  go_enter Try.func19, Try.ntmps19
  go_wp2_with fail
  refine (goodGenesis_any vb vo vr bs os rs top mature fee _ (hb.below (hB _) (Nat.le_refl _)) (ho.below (hB _) (Nat.le_refl _)) (hr.below (hB _) (Nat.le_refl _)) l1 l2 l3).mono ?_
  rintro e w1 ⟨⟨b1, rfl, hb1⟩, hbb⟩
  obtain rfl : b1 = false := by
    cases b1 with
    | false => rfl
    | true => exact absurd (hb1.1 rfl) HB.out
  clear hb1
  go_wp2
  go_ret2
  exact ⟨rfl, (hB _).trans (hbb.mono (by simp))⟩

set_option maxHeartbeats 2000000 in
set_option maxRecDepth 100000 in
theorem new_good (vb vo vr : Value) (bs os rs : List Int) (top mature fee : Int) (w : World) (hb : IntSl w vb bs) (ho : IntSl w vo os) (hr : IntSl w vr rs)
    (l1 : bs.length ≤ 1048576) (l2 : os.length ≤ 1048576) (l3 : rs.length ≤ 1048576) (hgood : GoodGen bs os rs top mature fee) :
    Calls Try.prog 19 #[.agg #[vb, vo, vr, .int .i64 top, .int .i64 mature, .int .i64 fee]] w fun e w' => Begun w w' e bs os rs fee := by
  have hB : ∀ o, Below w.heap.size w (w.alloc o) := fun o => (Below.refl _ _).alloc (Nat.le_refl _) _
  have HB : Hid (GoodGen bs os rs top mature fee) := hgood
  clear hgood
  obtain ⟨ab, cb, rfl, _⟩ := id hb
  obtain ⟨ao, co, rfl, _⟩ := id ho
  obtain ⟨ar, cr, rfl, _⟩ := id hr
  go_enter Try.func19, Try.ntmps19
  go_wp2_with fail
  refine (goodGenesis_any _ _ _ bs os rs top mature fee _ (hb.below (hB _) (Nat.le_refl _)) (ho.below (hB _) (Nat.le_refl _)) (hr.below (hB _) (Nat.le_refl _)) l1 l2 l3).mono ?_
  rintro e w1 ⟨⟨b1, rfl, hb1⟩, hbb⟩
  obtain rfl : b1 = true := hb1.2 HB.out
  clear hb1
  have hb1 := (hb.below (hB _) (Nat.le_refl _)).below hbb (Nat.le_refl _)
  have ho1 := (ho.below (hB _) (Nat.le_refl _)).below hbb (Nat.le_refl _)
  have hr1 := (hr.below (hB _) (Nat.le_refl _)).below hbb (Nat.le_refl _)
  have hw1 : Below w.heap.size w w1 := (hB _).trans (hbb.mono (by simp))
  obtain ⟨hc, hf⟩ := bcell hbb
  have hz : w.heap.size < w1.heap.size := by have := hbb.size; simp at this; omega
  simp only [World.size_alloc] at hc hf
  go_wp2_with fail
  have hE : ∀ o, Below w1.heap.size w1 (w1.alloc o) := fun o => (Below.refl _ _).alloc (Nat.le_refl _) _
  refine (copyNumbers_any _ bs _ (hb1.below (hE _) (Nat.le_refl _)) l1).mono ?_
  rintro e w2 ⟨rfl, rfl⟩
  go_wp2_with fail
  refine (newValidators_any _ _ os rs _ ((ho1.below (hE _) (Nat.le_refl _)).below ((Below.refl _ _).alloc (Nat.le_refl _) _) (by simp)) ((hr1.below (hE _) (Nat.le_refl _)).below ((Below.refl _ _).alloc (Nat.le_refl _) _) (by simp)) HB.out.2.1.2.2.1 HB.out.2.1.2.1).mono ?_
  rintro e w3 ⟨x, rfl, hx3, hb3⟩
  obtain ⟨ax, cx, rfl⟩ := ownsRow_slice hx3
  have hcE := Has.newA w1 46 #[.int .i64 fee, .int .i64 0, .slice (some ⟨w1.heap.size + 1, 0, none⟩) bs.length bs.length, .int .i64 0, .int .i64 0, .slice none 0 0]
  have hcE3 := (hcE.alloc (.cells (ints bs).toArray 3)).below hb3 (by simp only [World.size_alloc]; omega)
  have hc5 := hcE3.cell 5
  have hf5 := hcE3.frozen 5
  simp only [List.getElem?_cons_succ, List.getElem?_cons_zero] at hc5
  have hbv := ownsRow_below (ownsRow_new (w1.alloc (.cells #[.int .i64 fee, .int .i64 0, .slice (some ⟨w1.heap.size + 1, 0, none⟩) bs.length bs.length, .int .i64 0, .int .i64 0, .slice none 0 0] 46)) 3 1 bs.length (ints bs) (by simp [ints]) (by simp [maxLen]; omega)) hb3 (Nat.le_refl _)
  simp only [World.size_alloc] at hx3 hbv hb3
  have hfin : Begun w (w3.setCell ⟨w1.heap.size, 5, none⟩ (.slice ax os.length cx)) (.returned (.tuple #[.pointer (some ⟨w1.heap.size, 0, none⟩), .int .i64 0])) bs os rs fee := by
    refine ⟨w1.heap.size, .slice (some ⟨w1.heap.size + 1, 0, none⟩) bs.length bs.length, .slice ax os.length cx, rfl, by omega, ?_, ?_, ?_, ?_⟩
    · exact hcE3.set 5 _
    · exact ownsRow_base (ownsRow_setCell hbv _ _ (by simp [Value.ownBlock])) (by omega)
    · rw [← valsOf_vs0]
      refine ownsRow_base (ownsRow_setCell hx3 _ _ ?_) (by omega)
      intro h
      have := (hx3.lt _ h).1
      simp at this
      omega
    · exact ((hw1.trans (((Below.refl w.heap.size w1).alloc (by omega) _).alloc (by simp; omega) _)).trans (hb3.mono (by omega))).setCell (by simp; omega) _
  have HF : Hid (Begun w (w3.setCell ⟨w1.heap.size, 5, none⟩ (.slice ax os.length cx)) (.returned (.tuple #[.pointer (some ⟨w1.heap.size, 0, none⟩), .int .i64 0])) bs os rs fee) := hfin
  clear hfin hx3 hbv hcE hcE3
  go_wp2
  go_ret2
  exact HF.out
end Go.Proofs.Ytieccdjglbfiaaa
