import Derived.Test.YtohjjgefklhmaaaGreatDoorDoes2M
namespace Go.Proofs.YtohjjgefklhmaaaGreatDoor
open Go.ChangeShapes Go.WideShapes Go.ChangeAt Go.RowKit
set_option linter.unusedVariables false

/-- an engine of the script, behind m readings at most -/
def EInv (w : World) (lab : Nat → Nat × Nat) (i ge m : Nat) : Prop :=
  ∃ gx gy gl hv nh hcs mk c vals, EI w lab i ge gx gy gl hv nh hcs mk c c c vals ∧ GoodC c ∧ ZV vals ∧ 1 ≤ vals.length ∧ vals.length ≤ 5 ∧ 0 ≤ mk ∧ mk ≤ 2000 * (m : Int) ∧ nh ≤ 2 * m
/-- what begun has made -/
def MadeE (w w' : World) (p : Option Addr) (i : Nat) : Prop := p = none ∨ ∃ ge, p = some ⟨ge, 0, none⟩ ∧ ∃ lab', (∀ k, k < w.heap.size → lab' k = ((0, 0) : Nat × Nat)) ∧ EInv w' lab' i ge 1
/-- the labels of a new engine -/
def newlab (lab : Nat → Nat × Nat) (i a b c d : Nat) : Nat → Nat × Nat := fun k => if k < a then lab k else if k < b then (i, 1) else if k < c then (i, 3) else if k < d then (i, 2) else (i, 4)
theorem newlab_0 {lab : Nat → Nat × Nat} {i a b c d k : Nat} (h : k < a) : newlab lab i a b c d k = lab k := if_pos h
theorem newlab_1 {lab : Nat → Nat × Nat} {i a b c d k : Nat} (h : a ≤ k) (h2 : k < b) : newlab lab i a b c d k = (i, 1) := by unfold newlab; rw [if_neg (by omega), if_pos h2]
theorem newlab_3 {lab : Nat → Nat × Nat} {i a b c d k : Nat} (h : a ≤ k) (h1 : b ≤ k) (h2 : k < c) : newlab lab i a b c d k = (i, 3) := by unfold newlab; rw [if_neg (by omega), if_neg (by omega), if_pos h2]
theorem newlab_2 {lab : Nat → Nat × Nat} {i a b c d k : Nat} (h : a ≤ k) (h1 : b ≤ k) (h3 : c ≤ k) (h2 : k < d) : newlab lab i a b c d k = (i, 2) := by unfold newlab; rw [if_neg (by omega), if_neg (by omega), if_neg (by omega), if_pos h2]
theorem newlab_4 {lab : Nat → Nat × Nat} {i a b c d k : Nat} (h : a ≤ k) (h1 : b ≤ k) (h3 : c ≤ k) (h2 : d ≤ k) : newlab lab i a b c d k = (i, 4) := by unfold newlab; rw [if_neg (by omega), if_neg (by omega), if_neg (by omega), if_neg (by omega)]

set_option maxHeartbeats 4000000 in
set_option maxRecDepth 100000 in
theorem begun_any (i : Nat) (hi : i ≠ 0) (vb vo vr : Value) (bs os rs : List Int) (top mature fee : Int) (w : World) (hb : IntSl w vb bs) (ho : IntSl w vo os) (hr : IntSl w vr rs)
    (fb : IntSl.off vb (fun k => w.heap.size ≤ k)) (fo : IntSl.off vo (fun k => w.heap.size ≤ k)) (fr : IntSl.off vr (fun k => w.heap.size ≤ k))
    (l1 : bs.length ≤ 1048000) (l2 : os.length ≤ 1048000) (l3 : rs.length ≤ 1048000) :
    Calls Tryz.prog 20 #[vb, vo, vr, .int .i64 top, .int .i64 mature, .int .i64 fee] w fun e w' => ∃ p, e = .returned (.tuple #[.pointer p, .bool true]) ∧ Below w.heap.size w w' ∧ MadeE w w' p i := by
  obtain ⟨ab, cb, rfl, xb0⟩ := id hb
  obtain ⟨ao, co, rfl, xo0⟩ := id ho
  obtain ⟨ar, cr, rfl, xr0⟩ := id hr
  clear xb0 xo0 xr0
  go_enter Tryz.func20, Tryz.ntmps20
  go_wp2_with fail
  refine (spare_any _ bs _ hb (by omega)).mono ?_
  rintro e w1 ⟨rfl, hA, hb1⟩
  go_wp2_with fail
  refine (spare_any _ os _ (ho.below hb1 (Nat.le_refl _)) (by omega)).mono ?_
  rintro e w2 ⟨rfl, hBn, hb2⟩
  have hb2' : Below w.heap.size w w2 := hb1.trans (hb2.mono hb1.size)
  go_wp2_with fail
  refine (spare_any _ rs _ (hr.below hb2' (Nat.le_refl _)) (by omega)).mono ?_
  rintro e w3 ⟨rfl, hC, hb3⟩
  have hb3' : Below w.heap.size w w3 := hb2'.trans (hb3.mono hb2'.size)
  have hA3 := (hA.below hb2 hA.lt).below hb3 (Nat.lt_of_lt_of_le hA.lt hb2.size)
  have hB3 := hBn.below hb3 hBn.lt
  have g1 := hA.lt
  have g2 := hBn.lt
  have g3 := hC.lt
  have s1 := hb1.size
  have s2 := hb2.size
  have s3 := hb3.size
  go_wp2_with fail
  by_cases hgood : GoodGen bs os rs top mature fee
  case neg =>
    refine (new_bad _ _ _ bs os rs top mature fee _ (IntSl.of_has hA3) (IntSl.of_has hB3) (IntSl.of_has hC) (by omega) (by omega) (by omega) hgood).mono ?_
    rintro e w4 ⟨rfl, hb4⟩
    have hb4' : Below w.heap.size w w4 := hb3'.trans (hb4.mono hb3'.size)
    go_wp2_with fail
    refine (still_any _ _ bs _ (hA3.below hb4 (by omega)) (hb.below hb4' (Nat.le_refl _)) (fun a n c h h' => fb a n c h (by omega)) (by omega)).mono ?_
    rintro e w5 ⟨rfl, hk5⟩
    have hb5' : Below w.heap.size w w5 := Kp.below hb4' hk5 (Nat.le_refl _) (fun k hk => by omega)
    go_wp2_with fail
    refine (still_any _ _ os _ ((hB3.below hb4 (by omega)).kp hk5 (by omega)) (ho.below hb5' (Nat.le_refl _)) (fun a n c h h' => fo a n c h (by omega)) (by omega)).mono ?_
    rintro e w6 ⟨rfl, hk6⟩
    have hb6' : Below w.heap.size w w6 := Kp.below hb5' hk6 (Nat.le_refl _) (fun k hk => by omega)
    go_wp2_with fail
    refine (still_any _ _ rs _ (((hC.below hb4 (by omega)).kp hk5 (by omega)).kp hk6 (by omega)) (hr.below hb6' (Nat.le_refl _)) (fun a n c h h' => fr a n c h (by omega)) (by omega)).mono ?_
    rintro e w7 ⟨rfl, hk7⟩
    have hb7' : Below w.heap.size w w7 := Kp.below hb6' hk7 (Nat.le_refl _) (fun k hk => by omega)
    go_wp2_with fail
    refine (begin_any _ _ _ bs os rs top mature fee _ (hb.below hb7' (Nat.le_refl _)) (ho.below hb7' (Nat.le_refl _)) (hr.below hb7' (Nat.le_refl _)) (by omega) (by omega) (by omega)).mono ?_
    rintro e w8 (⟨_, rfl, hb8⟩ | ⟨hno, _⟩)
    case inr => exact absurd hno hgood
    have HB : Hid (Below w.heap.size w w8) := hb7'.trans (hb8.mono hb7'.size)
    clear hA hBn hC hA3 hB3 hb ho hr fb fo fr hb1 hb2 hb3 hb2' hb3' hb4 hb4' hb5' hb6' hb7' hk5 hk6 hk7 hb8 hgood
    go_wp2_with (go_at_call 30; refine (num_any _ _).mono ?_; rintro e w' ⟨rfl, rfl⟩)
    go_ret2
    exact ⟨none, rfl, HB.out, .inl rfl⟩
  have HG : Hid (GoodGen bs os rs top mature fee) := hgood
  have gl1 : bs.length ≤ 6 := hgood.1.2.1
  have gl2 : os.length ≤ 5 := hgood.2.1.2.1
  have gl3 : (vs0 os rs).length = os.length := vs0_length os rs hgood.2.1.2.2.1
  refine (new_good _ _ _ bs os rs top mature fee _ (IntSl.of_has hA3) (IntSl.of_has hB3) (IntSl.of_has hC) (by omega) (by omega) (by omega) hgood).mono ?_
  clear hgood
  rintro e w4 ⟨gx, xb, xv, rfl, hgx, hX4, hxb4, hxv4, hb4⟩
  have hb4' : Below w.heap.size w w4 := hb3'.trans (hb4.mono hb3'.size)
  go_wp2_with fail
  refine (still_any _ _ bs _ (hA3.below hb4 (by omega)) (hb.below hb4' (Nat.le_refl _)) (fun a n c h h' => fb a n c h (by omega)) (by omega)).mono ?_
  rintro e w5 ⟨rfl, hk5⟩
  have hb5' : Below w.heap.size w w5 := Kp.below hb4' hk5 (Nat.le_refl _) (fun k hk => by omega)
  go_wp2_with fail
  refine (still_any _ _ os _ ((hB3.below hb4 (by omega)).kp hk5 (by omega)) (ho.below hb5' (Nat.le_refl _)) (fun a n c h h' => fo a n c h (by omega)) (by omega)).mono ?_
  rintro e w6 ⟨rfl, hk6⟩
  have hb6' : Below w.heap.size w w6 := Kp.below hb5' hk6 (Nat.le_refl _) (fun k hk => by omega)
  go_wp2_with fail
  refine (still_any _ _ rs _ (((hC.below hb4 (by omega)).kp hk5 (by omega)).kp hk6 (by omega)) (hr.below hb6' (Nat.le_refl _)) (fun a n c h h' => fr a n c h (by omega)) (by omega)).mono ?_
  rintro e w7 ⟨rfl, hk7⟩
  have hb7' : Below w.heap.size w w7 := Kp.below hb6' hk7 (Nat.le_refl _) (fun k hk => by omega)
  have hX7 := ((hX4.kp hk5 (by omega)).kp hk6 (by omega)).kp hk7 (by omega)
  have hxb7 := ownsRow_kp (ownsRow_kp (ownsRow_kp hxb4 hk5 (fun b h => by have := (hxb4.lt b h).1; omega)) hk6 (fun b h => by have := (hxb4.lt b h).1; omega)) hk7 (fun b h => by have := (hxb4.lt b h).1; omega)
  have hxv7 := ownsRow_kp (ownsRow_kp (ownsRow_kp hxv4 hk5 (fun b h => by have := (hxv4.lt b h).1; omega)) hk6 (fun b h => by have := (hxv4.lt b h).1; omega)) hk7 (fun b h => by have := (hxv4.lt b h).1; omega)
  go_wp2_with fail
  refine (begin_any _ _ _ bs os rs top mature fee _ (hb.below hb7' (Nat.le_refl _)) (ho.below hb7' (Nat.le_refl _)) (hr.below hb7' (Nat.le_refl _)) (by omega) (by omega) (by omega)).mono ?_
  rintro e w8 (⟨hno, _⟩ | ⟨_, gl, rfl, lb, lv, hgl, hL8, hlb8, hlv8, hb8⟩)
  case inl => exact absurd HG.out hno
  have hb8' : Below w.heap.size w w8 := hb7'.trans (hb8.mono hb7'.size)
  go_wp2_with (first | (go_at_call 30; refine (num_any _ _).mono ?_; rintro e w' ⟨rfl, rfl⟩) | fail)
  refine (new_good _ _ _ bs os rs top mature fee _ (hb.below hb8' (Nat.le_refl _)) (ho.below hb8' (Nat.le_refl _)) (hr.below hb8' (Nat.le_refl _)) (by omega) (by omega) (by omega) HG.out).mono ?_
  rintro e w9 ⟨gy, yb, yv, rfl, hgy, hY9, hyb9, hyv9, hb9⟩
  have hb9' : Below w.heap.size w w9 := hb8'.trans (hb9.mono hb8'.size)
  have hb79 : Below w7.heap.size w7 w9 := hb8.trans (hb9.mono hb8.size)
  have hs9 := hb9.size
  have hs8 := hb8.size
  have hs7 := hb7'.size
  have hEI : ∀ (lab : Nat → Nat × Nat) (i : Nat), EI (w9.alloc (.cells #[.pointer (some ⟨gx, 0, none⟩), .pointer (some ⟨gy, 0, none⟩), .pointer (some ⟨gl, 0, none⟩), .slice none 0 0, .int .i64 0] 54)) (newlab lab i w.heap.size w7.heap.size w8.heap.size w9.heap.size) i w9.heap.size gx gy gl (.slice none 0 0) 0 [] 0 { top := top, mature := mature, fee := fee, height := 0, fees := 0, pool := 0, bal := bs } { top := top, mature := mature, fee := fee, height := 0, fees := 0, pool := 0, bal := bs } { top := top, mature := mature, fee := fee, height := 0, fees := 0, pool := 0, bal := bs } (vs0 os rs) := fun lab i => by
    have hx9 := ownsRow_below hxv7 hb79 (Nat.le_refl _)
    have hxb9 := ownsRow_below hxb7 hb79 (Nat.le_refl _)
    have hlv9 := ownsRow_below hlv8 hb9 (Nat.le_refl _)
    have hlb9 := ownsRow_below hlb8 hb9 (Nat.le_refl _)
    refine ⟨Has.newA w9 _ _, newlab_4 (by omega) (by omega) (by omega) (Nat.le_refl _), EngF.mk' (bv := xb) (vv := xv) ((hX7.below hb79 hX7.lt).alloc _) ((ownsRow_base hxb9 (Nat.zero_le _)).alloc _) ?_ (newlab_1 (by omega) hX7.lt) (fun k hk => newlab_1 (by have := (hxb7.lt k hk).1; omega) (hxb7.lt k hk).2) (fun k hk => newlab_1 (by have := (hxv7.lt k hk).1; omega) (hxv7.lt k hk).2) (vs0_ZR HG.out),
      EngF.mk' (bv := yb) (vv := yv) (hY9.alloc _) ((ownsRow_base hyb9 (Nat.zero_le _)).alloc _) ?_ (newlab_2 (by omega) (by omega) hgy hY9.lt) (fun k hk => newlab_2 (by have := (hyb9.lt k hk).1; omega) (by have := (hyb9.lt k hk).1; omega) (hyb9.lt k hk).1 (hyb9.lt k hk).2) (fun k hk => newlab_2 (by have := (hyv9.lt k hk).1; omega) (by have := (hyv9.lt k hk).1; omega) (hyv9.lt k hk).1 (hyv9.lt k hk).2) (vs0_ZR HG.out),
      ⟨lb, lv, .slice none 0 0, ⟨⟨(hL8.below hb9 hL8.lt).alloc _, (ownsRow_base hlb9 (Nat.zero_le _)).alloc _⟩, ?_, World.ownsRow_nil _ _ _ _⟩, newlab_3 (by omega) hgl hL8.lt, fun k hk => newlab_3 (by have := (hlb8.lt k hk).1; omega) (hlb8.lt k hk).1 (hlb8.lt k hk).2, fun k hk => newlab_3 (by have := (hlv8.lt k hk).1; omega) (hlv8.lt k hk).1 (hlv8.lt k hk).2, fun k hk => by simp [Value.ownBlock] at hk⟩,
      World.ownsRow_nil _ _ _ _, fun k hk => by simp [Value.ownBlock] at hk, fun j hj => by omega⟩
    · rw [gl3]; exact (ownsRow_base hx9 (Nat.zero_le _)).alloc _
    · rw [gl3]; exact (ownsRow_base hyv9 (Nat.zero_le _)).alloc _
    · rw [gl3]; exact (ownsRow_base hlv9 (Nat.zero_le _)).alloc _
  have HEI : Hid (∀ (lab : Nat → Nat × Nat) (i : Nat), EI (w9.alloc (.cells #[.pointer (some ⟨gx, 0, none⟩), .pointer (some ⟨gy, 0, none⟩), .pointer (some ⟨gl, 0, none⟩), .slice none 0 0, .int .i64 0] 54)) (newlab lab i w.heap.size w7.heap.size w8.heap.size w9.heap.size) i w9.heap.size gx gy gl (.slice none 0 0) 0 [] 0 { top := top, mature := mature, fee := fee, height := 0, fees := 0, pool := 0, bal := bs } { top := top, mature := mature, fee := fee, height := 0, fees := 0, pool := 0, bal := bs } { top := top, mature := mature, fee := fee, height := 0, fees := 0, pool := 0, bal := bs } (vs0 os rs)) := hEI
  have HB9 : Hid (Below w.heap.size w w9) := hb9'
  clear hEI hA hBn hC hA3 hB3 hb ho hr fb fo fr hb1 hb2 hb3 hb2' hb3' hb4 hb4' hb5' hb6' hb7' hb8' hb9' hk5 hk6 hk7 hb8 hb9 hX4 hxb4 hxv4 hX7 hxb7 hxv7 hL8 hlb8 hlv8 hY9 hyb9 hyv9 hb79
  have hgc := GoodC.begin HG.out
  have hgz := vs0_ZV os rs
  have gl4 : 1 ≤ os.length := HG.out.2.1.1
  go_wp2_with fail
  refine (ereads (HEI.out (fun _ => (0, 0)) i) hgc hgz (by omega) (by omega) (by omega) (by omega) gx (esee (HEI.out (fun _ => (0, 0)) i).X hgc hgz (by omega))).mono ?_
  rintro e w10 ⟨rfl, lab5, hv5, hcs5, hI5, hL5, hK5⟩
  have HF : Hid (Below w.heap.size w w10) := by
    refine ⟨hK5.os.trans HB9.out.os, hK5.tape.trans HB9.out.tape, hK5.output.trans HB9.out.output, Nat.le_trans HB9.out.size (Nat.le_trans (by simp) hK5.size), fun k hk => ?_⟩
    have hk9 : k < w9.heap.size := Nat.lt_of_lt_of_le hk HB9.out.size
    rw [hK5.block k (by simp only [World.size_alloc]; omega) (by rw [newlab_0 hk]; exact fun e => hi e.symm), Below.heap_alloc _ _ _ hk9]
    exact HB9.out.block k hk
  have HM : Hid (MadeE w w10 (some ⟨w9.heap.size, 0, none⟩) i) := by
    refine .inr ⟨_, rfl, lab5, fun k hk => ?_, gx, gy, gl, hv5, 0 + 2, hcs5, 0 + 1000 + 1000, _, vs0 os rs, hI5, hgc, hgz, by omega, by omega, by omega, by omega, by omega⟩
    rw [hL5 k (by simp only [World.size_alloc]; omega)]
    exact newlab_0 hk
  clear hI5 hL5 hK5 HEI
  go_wp2
  go_ret2
  exact ⟨_, rfl, HF.out, HM.out⟩
end Go.Proofs.YtohjjgefklhmaaaGreatDoor

namespace Go.Proofs.YtohjjgefklhmaaaGreatDoor
open Go.ChangeShapes Go.WideShapes Go.ChangeAt Go.RowKit
set_option linter.unusedVariables false

theorem Has.ne_type {w : World} {g g' : Nat} {e e' : TypeId} {L L' : List Value} (h : Has w g e L) (h' : Has w g' e' L') (hne : e ≠ e') : g ≠ g' := by
  intro h0
  subst h0
  unfold Has at h h'
  rw [h] at h'
  simp only [Option.some.injEq, Obj.cells.injEq] at h'
  exact hne h'.2.1
/-- two rows lie apart -/
def Df (v v' : Value) : Prop := ∀ k, v.ownBlock = some k → v'.ownBlock ≠ some k
theorem Df.symm {v v' : Value} (h : Df v v') : Df v' v := fun k h1 h2 => h k h2 h1
theorem Df.kept {v v' : Value} (h : Df v v') : v.ownBlock = none ∨ v.ownBlock ≠ v'.ownBlock := by
  cases hv : v.ownBlock with
  | none => exact .inl rfl
  | some k => exact .inr (fun e => h k hv e.symm)
theorem Df.nil (v : Value) : Df (.slice none 0 0) v := fun k h => by simp [Value.ownBlock] at h
theorem Df.grow {w : World} {v v' : Value} {base : Nat} {e : TypeId} {size n : Nat} {xs : List Value} {g m cap : Nat} (h : Df v v') (h' : w.ownsRow base e size v' n xs) (hor : v.ownBlock = some g ∨ w.heap.size ≤ g) : Df (.slice (some ⟨g, 0, none⟩) m cap) v' := by
  intro k hk hk'
  have e0 : g = k := by simpa [Value.ownBlock] using hk
  subst e0
  rcases hor with h0 | h0
  · exact h g h0 hk'
  · have := (h'.lt g hk').2; omega

/-- a block in which no row of the script's world lies -/
structure Aside (gw : Nat) (b o r t x : Value) (g : Nat) : Prop where
  w : g ≠ gw
  b : b.ownBlock ≠ some g
  o : o.ownBlock ≠ some g
  r : r.ownBlock ≠ some g
  t : t.ownBlock ≠ some g
  x : x.ownBlock ≠ some g
theorem heap_lt {w : World} {g : Nat} {ob : Obj} (h : w.heap[g]? = some ob) : g < w.heap.size := (Array.getElem?_eq_some_iff.1 h).1
theorem heap_alloc {w : World} {g : Nat} {ob : Obj} (h : w.heap[g]? = some ob) (o : Obj) : (w.alloc o).heap[g]? = some ob := by
  rw [← h]; exact Below.heap_alloc _ _ _ (heap_lt h)
theorem heap_below {w w' : World} {g : Nat} {ob : Obj} (h : w.heap[g]? = some ob) (hb : Below w.heap.size w w') : w'.heap[g]? = some ob := (hb.block g (heap_lt h)).trans h
theorem heap_push {w w2 : World} {row : Option Nat} {g : Nat} {ob : Obj} (hg : w.grownBy w2 row) (h : w.heap[g]? = some ob) (hr : row ≠ some g) (p : Addr) (u : Value) (hp : g ≠ p.block) : (w2.setCell p u).heap[g]? = some ob := by
  rw [Below.heap_setCell _ _ _ _ hp, hg.block g (heap_lt h) (fun e => hr e.symm)]; exact h
theorem new_ne {w : World} {v : Value} {g g' m cap : Nat} {ob : Obj} (h : w.heap[g]? = some ob) (hv : v.ownBlock ≠ some g) (hor : v.ownBlock = some g' ∨ w.heap.size ≤ g') : (Value.slice (some ⟨g', 0, none⟩) m cap).ownBlock ≠ some g := by
  intro e
  have e0 : g' = g := by simpa [Value.ownBlock] using e
  subst e0
  rcases hor with h0 | h0
  · exact hv h0
  · have := heap_lt h; omega

/-- the script's world: what the caller owns; blocks that are kept -/
structure WSt (base : Nat) (w0 w : World) (gw : Nat) (b o r t x : RowV) (l : Nat → Obj → Prop) : Prop where
  fr : Below base w0 w
  hgw : base ≤ gw
  W : Has w gw 33 [b.v, o.v, r.v, t.v, x.v]
  dbo : Df b.v o.v
  dbr : Df b.v r.v
  dor : Df o.v r.v
  rb : w.ownsRow base 3 1 b.v b.n b.xs
  ro : w.ownsRow base 3 1 o.v o.n o.xs
  rr : w.ownsRow base 3 1 r.v r.n r.xs
  rt : w.ownsRow base 42 2 t.v t.n t.xs
  rx : w.ownsRow base 37 1 x.v x.n x.xs
  rl : ∀ g ob, l g ob → w.heap[g]? = some ob ∧ Aside gw b.v o.v r.v t.v x.v g

theorem WSt.hsz {base : Nat} {w0 w : World} {gw : Nat} {b o r t x : RowV} {l : Nat → Obj → Prop} (m : WSt base w0 w gw b o r t x l) : base ≤ w.heap.size := Nat.le_trans m.hgw (Nat.le_of_lt m.W.lt)
theorem WSt.kept {base : Nat} {w0 w : World} {gw : Nat} {b o r t x : RowV} {l l' : Nat → Obj → Prop} (m : WSt base w0 w gw b o r t x l) (h : ∀ g ob, l' g ob → w.heap[g]? = some ob ∧ Aside gw b.v o.v r.v t.v x.v g) : WSt base w0 w gw b o r t x l' :=
  ⟨m.fr, m.hgw, m.W, m.dbo, m.dbr, m.dor, m.rb, m.ro, m.rr, m.rt, m.rx, h⟩
theorem WSt.alloc {base : Nat} {w0 w : World} {gw : Nat} {b o r t x : RowV} {l : Nat → Obj → Prop} (m : WSt base w0 w gw b o r t x l) (ob : Obj) : WSt base w0 (w.alloc ob) gw b o r t x l :=
  ⟨m.fr.alloc m.hsz ob, m.hgw, m.W.alloc ob, m.dbo, m.dbr, m.dor, m.rb.alloc ob, m.ro.alloc ob, m.rr.alloc ob, m.rt.alloc ob, m.rx.alloc ob, fun g ob' h => ⟨heap_alloc (m.rl g ob' h).1 ob, (m.rl g ob' h).2⟩⟩
theorem WSt.drew {base : Nat} {w0 w : World} {gw : Nat} {b o r t x : RowV} {l : Nat → Obj → Prop} (m : WSt base w0 w gw b o r t x l) : WSt base w0 w.drew gw b o r t x l :=
  ⟨m.fr.drew, m.hgw, m.W, m.dbo, m.dbr, m.dor, m.rb, m.ro, m.rr, m.rt, m.rx, m.rl⟩
theorem WSt.drewN {base : Nat} {w0 w : World} {gw : Nat} {b o r t x : RowV} {l : Nat → Obj → Prop} (m : WSt base w0 w gw b o r t x l) (n : Nat) : WSt base w0 (w.drewN n) gw b o r t x l :=
  ⟨below_drewN m.fr n, m.hgw, m.W, m.dbo, m.dbr, m.dor, m.rb, m.ro, m.rr, m.rt, m.rx, m.rl⟩
theorem WSt.below {base : Nat} {w0 w w' : World} {gw : Nat} {b o r t x : RowV} {l : Nat → Obj → Prop} (m : WSt base w0 w gw b o r t x l) (hb : Below w.heap.size w w') : WSt base w0 w' gw b o r t x l :=
  ⟨m.fr.trans (hb.mono m.hsz), m.hgw, m.W.below hb m.W.lt, m.dbo, m.dbr, m.dor, ownsRow_below m.rb hb (Nat.le_refl _), ownsRow_below m.ro hb (Nat.le_refl _), ownsRow_below m.rr hb (Nat.le_refl _), ownsRow_below m.rt hb (Nat.le_refl _), ownsRow_below m.rx hb (Nat.le_refl _), fun g ob h => ⟨heap_below (m.rl g ob h).1 hb, (m.rl g ob h).2⟩⟩

theorem WSt.pushB {base : Nat} {w0 w : World} {gw : Nat} {b o r t x : RowV} {l : Nat → Obj → Prop} (m : WSt base w0 w gw b o r t x l) {w2 : World} {g nn cap : Nat} {ys : List Value} (hg : w.grownBy w2 b.v.ownBlock) (hn : w2.ownsRow base 3 1 (.slice (some ⟨g, 0, none⟩) nn cap) nn ys) (hor : b.v.ownBlock = some g ∨ w.heap.size ≤ g) :
    Has w2 gw 33 [b.v, o.v, r.v, t.v, x.v] ∧ WSt base w0 (w2.setCell ⟨gw, 0, none⟩ (.slice (some ⟨g, 0, none⟩) nn cap)) gw { v := (.slice (some ⟨g, 0, none⟩) nn cap), n := nn, xs := ys } o r t x l := by
  have hW := grown_has hg m.W (Has.apart m.W m.rb (by decide))
  exact ⟨hW, (m.fr.grown hg m.hsz (fun j hj => (m.rb.lt j hj).1)).setCell m.hgw _, m.hgw, hW.set 0 _, m.dbo.grow m.ro hor, m.dbr.grow m.rr hor, m.dor, ownsRow_setCell hn _ _ (fun h => Has.apart (grown_has hg m.W (Has.apart m.W m.rb (by decide))) hn (by decide) h.symm), ownsRow_setCell (m.ro.kept hg m.dbo.symm.kept) _ _ (fun h => Has.apart m.W m.ro (by decide) h.symm), ownsRow_setCell (m.rr.kept hg m.dbr.symm.kept) _ _ (fun h => Has.apart m.W m.rr (by decide) h.symm), ownsRow_setCell (m.rt.kept hg (ownsRow_apart m.rt m.rb (by decide))) _ _ (fun h => Has.apart m.W m.rt (by decide) h.symm), ownsRow_setCell (m.rx.kept hg (ownsRow_apart m.rx m.rb (by decide))) _ _ (fun h => Has.apart m.W m.rx (by decide) h.symm), fun g' ob h => ⟨heap_push hg (m.rl g' ob h).1 (m.rl g' ob h).2.b _ _ (m.rl g' ob h).2.w, ⟨(m.rl g' ob h).2.w, new_ne (m.rl g' ob h).1 (m.rl g' ob h).2.b hor, (m.rl g' ob h).2.o, (m.rl g' ob h).2.r, (m.rl g' ob h).2.t, (m.rl g' ob h).2.x⟩⟩⟩

theorem WSt.pushO {base : Nat} {w0 w : World} {gw : Nat} {b o r t x : RowV} {l : Nat → Obj → Prop} (m : WSt base w0 w gw b o r t x l) {w2 : World} {g nn cap : Nat} {ys : List Value} (hg : w.grownBy w2 o.v.ownBlock) (hn : w2.ownsRow base 3 1 (.slice (some ⟨g, 0, none⟩) nn cap) nn ys) (hor : o.v.ownBlock = some g ∨ w.heap.size ≤ g) :
    Has w2 gw 33 [b.v, o.v, r.v, t.v, x.v] ∧ WSt base w0 (w2.setCell ⟨gw, 1, none⟩ (.slice (some ⟨g, 0, none⟩) nn cap)) gw b { v := (.slice (some ⟨g, 0, none⟩) nn cap), n := nn, xs := ys } r t x l := by
  have hW := grown_has hg m.W (Has.apart m.W m.ro (by decide))
  exact ⟨hW, (m.fr.grown hg m.hsz (fun j hj => (m.ro.lt j hj).1)).setCell m.hgw _, m.hgw, hW.set 1 _, (m.dbo.symm.grow m.rb hor).symm, m.dbr, m.dor.grow m.rr hor, ownsRow_setCell (m.rb.kept hg m.dbo.kept) _ _ (fun h => Has.apart m.W m.rb (by decide) h.symm), ownsRow_setCell hn _ _ (fun h => Has.apart (grown_has hg m.W (Has.apart m.W m.ro (by decide))) hn (by decide) h.symm), ownsRow_setCell (m.rr.kept hg m.dor.symm.kept) _ _ (fun h => Has.apart m.W m.rr (by decide) h.symm), ownsRow_setCell (m.rt.kept hg (ownsRow_apart m.rt m.ro (by decide))) _ _ (fun h => Has.apart m.W m.rt (by decide) h.symm), ownsRow_setCell (m.rx.kept hg (ownsRow_apart m.rx m.ro (by decide))) _ _ (fun h => Has.apart m.W m.rx (by decide) h.symm), fun g' ob h => ⟨heap_push hg (m.rl g' ob h).1 (m.rl g' ob h).2.o _ _ (m.rl g' ob h).2.w, ⟨(m.rl g' ob h).2.w, (m.rl g' ob h).2.b, new_ne (m.rl g' ob h).1 (m.rl g' ob h).2.o hor, (m.rl g' ob h).2.r, (m.rl g' ob h).2.t, (m.rl g' ob h).2.x⟩⟩⟩

theorem WSt.pushR {base : Nat} {w0 w : World} {gw : Nat} {b o r t x : RowV} {l : Nat → Obj → Prop} (m : WSt base w0 w gw b o r t x l) {w2 : World} {g nn cap : Nat} {ys : List Value} (hg : w.grownBy w2 r.v.ownBlock) (hn : w2.ownsRow base 3 1 (.slice (some ⟨g, 0, none⟩) nn cap) nn ys) (hor : r.v.ownBlock = some g ∨ w.heap.size ≤ g) :
    Has w2 gw 33 [b.v, o.v, r.v, t.v, x.v] ∧ WSt base w0 (w2.setCell ⟨gw, 2, none⟩ (.slice (some ⟨g, 0, none⟩) nn cap)) gw b o { v := (.slice (some ⟨g, 0, none⟩) nn cap), n := nn, xs := ys } t x l := by
  have hW := grown_has hg m.W (Has.apart m.W m.rr (by decide))
  exact ⟨hW, (m.fr.grown hg m.hsz (fun j hj => (m.rr.lt j hj).1)).setCell m.hgw _, m.hgw, hW.set 2 _, m.dbo, (m.dbr.symm.grow m.rb hor).symm, (m.dor.symm.grow m.ro hor).symm, ownsRow_setCell (m.rb.kept hg m.dbr.kept) _ _ (fun h => Has.apart m.W m.rb (by decide) h.symm), ownsRow_setCell (m.ro.kept hg m.dor.kept) _ _ (fun h => Has.apart m.W m.ro (by decide) h.symm), ownsRow_setCell hn _ _ (fun h => Has.apart (grown_has hg m.W (Has.apart m.W m.rr (by decide))) hn (by decide) h.symm), ownsRow_setCell (m.rt.kept hg (ownsRow_apart m.rt m.rr (by decide))) _ _ (fun h => Has.apart m.W m.rt (by decide) h.symm), ownsRow_setCell (m.rx.kept hg (ownsRow_apart m.rx m.rr (by decide))) _ _ (fun h => Has.apart m.W m.rx (by decide) h.symm), fun g' ob h => ⟨heap_push hg (m.rl g' ob h).1 (m.rl g' ob h).2.r _ _ (m.rl g' ob h).2.w, ⟨(m.rl g' ob h).2.w, (m.rl g' ob h).2.b, (m.rl g' ob h).2.o, new_ne (m.rl g' ob h).1 (m.rl g' ob h).2.r hor, (m.rl g' ob h).2.t, (m.rl g' ob h).2.x⟩⟩⟩

theorem WSt.pushT {base : Nat} {w0 w : World} {gw : Nat} {b o r t x : RowV} {l : Nat → Obj → Prop} (m : WSt base w0 w gw b o r t x l) {w2 : World} {g nn cap : Nat} {ys : List Value} (hg : w.grownBy w2 t.v.ownBlock) (hn : w2.ownsRow base 42 2 (.slice (some ⟨g, 0, none⟩) nn cap) nn ys) (hor : t.v.ownBlock = some g ∨ w.heap.size ≤ g) :
    Has w2 gw 33 [b.v, o.v, r.v, t.v, x.v] ∧ WSt base w0 (w2.setCell ⟨gw, 3, none⟩ (.slice (some ⟨g, 0, none⟩) nn cap)) gw b o r { v := (.slice (some ⟨g, 0, none⟩) nn cap), n := nn, xs := ys } x l := by
  have hW := grown_has hg m.W (Has.apart m.W m.rt (by decide))
  exact ⟨hW, (m.fr.grown hg m.hsz (fun j hj => (m.rt.lt j hj).1)).setCell m.hgw _, m.hgw, hW.set 3 _, m.dbo, m.dbr, m.dor, ownsRow_setCell (m.rb.kept hg (ownsRow_apart m.rb m.rt (by decide))) _ _ (fun h => Has.apart m.W m.rb (by decide) h.symm), ownsRow_setCell (m.ro.kept hg (ownsRow_apart m.ro m.rt (by decide))) _ _ (fun h => Has.apart m.W m.ro (by decide) h.symm), ownsRow_setCell (m.rr.kept hg (ownsRow_apart m.rr m.rt (by decide))) _ _ (fun h => Has.apart m.W m.rr (by decide) h.symm), ownsRow_setCell hn _ _ (fun h => Has.apart (grown_has hg m.W (Has.apart m.W m.rt (by decide))) hn (by decide) h.symm), ownsRow_setCell (m.rx.kept hg (ownsRow_apart m.rx m.rt (by decide))) _ _ (fun h => Has.apart m.W m.rx (by decide) h.symm), fun g' ob h => ⟨heap_push hg (m.rl g' ob h).1 (m.rl g' ob h).2.t _ _ (m.rl g' ob h).2.w, ⟨(m.rl g' ob h).2.w, (m.rl g' ob h).2.b, (m.rl g' ob h).2.o, (m.rl g' ob h).2.r, new_ne (m.rl g' ob h).1 (m.rl g' ob h).2.t hor, (m.rl g' ob h).2.x⟩⟩⟩

theorem WSt.pushX {base : Nat} {w0 w : World} {gw : Nat} {b o r t x : RowV} {l : Nat → Obj → Prop} (m : WSt base w0 w gw b o r t x l) {w2 : World} {g nn cap : Nat} {ys : List Value} (hg : w.grownBy w2 x.v.ownBlock) (hn : w2.ownsRow base 37 1 (.slice (some ⟨g, 0, none⟩) nn cap) nn ys) (hor : x.v.ownBlock = some g ∨ w.heap.size ≤ g) :
    Has w2 gw 33 [b.v, o.v, r.v, t.v, x.v] ∧ WSt base w0 (w2.setCell ⟨gw, 4, none⟩ (.slice (some ⟨g, 0, none⟩) nn cap)) gw b o r t { v := (.slice (some ⟨g, 0, none⟩) nn cap), n := nn, xs := ys } l := by
  have hW := grown_has hg m.W (Has.apart m.W m.rx (by decide))
  exact ⟨hW, (m.fr.grown hg m.hsz (fun j hj => (m.rx.lt j hj).1)).setCell m.hgw _, m.hgw, hW.set 4 _, m.dbo, m.dbr, m.dor, ownsRow_setCell (m.rb.kept hg (ownsRow_apart m.rb m.rx (by decide))) _ _ (fun h => Has.apart m.W m.rb (by decide) h.symm), ownsRow_setCell (m.ro.kept hg (ownsRow_apart m.ro m.rx (by decide))) _ _ (fun h => Has.apart m.W m.ro (by decide) h.symm), ownsRow_setCell (m.rr.kept hg (ownsRow_apart m.rr m.rx (by decide))) _ _ (fun h => Has.apart m.W m.rr (by decide) h.symm), ownsRow_setCell (m.rt.kept hg (ownsRow_apart m.rt m.rx (by decide))) _ _ (fun h => Has.apart m.W m.rt (by decide) h.symm), ownsRow_setCell hn _ _ (fun h => Has.apart (grown_has hg m.W (Has.apart m.W m.rx (by decide))) hn (by decide) h.symm), fun g' ob h => ⟨heap_push hg (m.rl g' ob h).1 (m.rl g' ob h).2.x _ _ (m.rl g' ob h).2.w, ⟨(m.rl g' ob h).2.w, (m.rl g' ob h).2.b, (m.rl g' ob h).2.o, (m.rl g' ob h).2.r, (m.rl g' ob h).2.t, new_ne (m.rl g' ob h).1 (m.rl g' ob h).2.x hor⟩⟩⟩

theorem WSt.clear {base : Nat} {w0 w : World} {gw : Nat} {b o r t x : RowV} {l : Nat → Obj → Prop} (m : WSt base w0 w gw b o r t x l) : WSt base w0 (((w.setCell ⟨gw, 0, none⟩ (.slice none 0 0)).setCell ⟨gw, 1, none⟩ (.slice none 0 0)).setCell ⟨gw, 2, none⟩ (.slice none 0 0)) gw RowV.nil RowV.nil RowV.nil t x l := by
  have ht : t.v.ownBlock ≠ some gw := fun h => Has.apart m.W m.rt (by decide) h.symm
  have hx : x.v.ownBlock ≠ some gw := fun h => Has.apart m.W m.rx (by decide) h.symm
  exact ⟨((m.fr.setCell m.hgw _).setCell m.hgw _).setCell m.hgw _, m.hgw, ((m.W.set 0 _).set 1 _).set 2 _, Df.nil _, Df.nil _, Df.nil _, World.ownsRow_nil _ _ _ _, World.ownsRow_nil _ _ _ _, World.ownsRow_nil _ _ _ _, ownsRow_setCell (ownsRow_setCell (ownsRow_setCell m.rt _ _ ht) _ _ ht) _ _ ht, ownsRow_setCell (ownsRow_setCell (ownsRow_setCell m.rx _ _ hx) _ _ hx) _ _ hx, fun g' ob h => ⟨by rw [Below.heap_setCell _ _ _ _ (m.rl g' ob h).2.w, Below.heap_setCell _ _ _ _ (m.rl g' ob h).2.w, Below.heap_setCell _ _ _ _ (m.rl g' ob h).2.w]; exact (m.rl g' ob h).1, ⟨(m.rl g' ob h).2.w, by simp [RowV.nil, Value.ownBlock], by simp [RowV.nil, Value.ownBlock], by simp [RowV.nil, Value.ownBlock], (m.rl g' ob h).2.t, (m.rl g' ob h).2.x⟩⟩⟩
end Go.Proofs.YtohjjgefklhmaaaGreatDoor
