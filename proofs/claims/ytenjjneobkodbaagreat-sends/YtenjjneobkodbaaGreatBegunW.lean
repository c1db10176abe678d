import Derived.Test.YtenjjneobkodbaaGreatTwin
namespace Go.Proofs.YtenjjneobkodbaaGreat
open Go.ChangeShapes Go.WideShapes Go.ChangeAt Go.RowKit
set_option linter.unusedVariables false

/-- an engine of the script, behind m readings at most -/
def EInv (w : World) (lab : Nat → Nat × Nat) (i ge m : Nat) : Prop :=
  ∃ gx gy gl hv nh hcs mk c vals, EI w lab i ge gx gy gl hv nh hcs mk c c c vals ∧ GoodC c ∧ ZV vals ∧ 1 ≤ vals.length ∧ vals.length ≤ 5 ∧ 0 ≤ mk ∧ mk ≤ 2000 * (m : Int) ∧ nh ≤ 2 * m
/-- what begun has made -/
def MadeE (w w' : World) (p : Option Addr) (i : Nat) : Prop := p = none ∨ ∃ ge, p = some ⟨ge, 0, none⟩ ∧ ∃ lab', (∀ k, k < w.heap.size → lab' k = ((0, 0) : Nat × Nat)) ∧ EInv w' lab' i ge 1
/-- the labels of a new engine -/
def newlab (lab : Nat → Nat × Nat) (i a b c d : Nat) : Nat → Nat × Nat := fun k => if k < a then lab k else if k < b then (i, 1) else if k < c then (i, 3) else if k < d then (i, 2) else (i, 4)
theorem newlab_0 {lab : Nat → Nat × Nat} {i a b c d k : Nat} (h : k < a) : newlab lab i a b c d k = lab k := if_pos h
theorem newlab_1 {lab : Nat → Nat × Nat} {i a b c d k : Nat} (h : a ≤ k) (h2 : k < b) : newlab lab i a b c d k = (i, 1) := by unfold newlab; rw [if_neg (by omega), if_pos h2]
theorem newlab_3 {lab : Nat → Nat × Nat} {i a b c d k : Nat} (h : a ≤ k) (h1 : b ≤ k) (h2 : k < c) : newlab lab i a b c d k = (i, 3) := by unfold newlab; rw [if_neg (by omega), if_neg (by omega), if_pos h2]
theorem newlab_2 {lab : Nat → Nat × Nat} {i a b c d k : Nat} (h : a ≤ k) (h1 : b ≤ k) (h3 : c ≤ k) (h2 : k < d) : newlab lab i a b c d k = (i, 2) := by unfold newlab; rw [if_neg (by omega), if_neg (by omega), if_neg (by omega), if_pos h2]
theorem newlab_4 {lab : Nat → Nat × Nat} {i a b c d k : Nat} (h : a ≤ k) (h1 : b ≤ k) (h3 : c ≤ k) (h2 : d ≤ k) : newlab lab i a b c d k = (i, 4) := by unfold newlab; rw [if_neg (by omega), if_neg (by omega), if_neg (by omega), if_neg (by omega)]

set_option maxHeartbeats 4000000 in
set_option maxRecDepth 100000 in
theorem begun_any (i : Nat) (hi : i ≠ 0) (vb vo vr : Value) (bs os rs : List Int) (top mature fee : Int) (w : World) (hb : IntSl w vb bs) (ho : IntSl w vo os) (hr : IntSl w vr rs)
    (fb : IntSl.off vb (fun k => w.heap.size ≤ k)) (fo : IntSl.off vo (fun k => w.heap.size ≤ k)) (fr : IntSl.off vr (fun k => w.heap.size ≤ k))
    (l1 : bs.length ≤ 1048000) (l2 : os.length ≤ 1048000) (l3 : rs.length ≤ 1048000) :
    Calls Tryz.prog 19 #[vb, vo, vr, .int .i64 top, .int .i64 mature, .int .i64 fee] w fun e w' => ∃ p, e = .returned (.tuple #[.pointer p, .bool true]) ∧ Below w.heap.size w w' ∧ MadeE w w' p i := by
  obtain ⟨ab, cb, rfl, xb0⟩ := id hb
  obtain ⟨ao, co, rfl, xo0⟩ := id ho
  obtain ⟨ar, cr, rfl, xr0⟩ := id hr
  clear xb0 xo0 xr0
  go_enter Tryz.func19, Tryz.ntmps19
  go_wp2_with fail
  refine (spare_any _ bs _ hb (by omega)).mono ?_
  rintro e w1 ⟨rfl, hA, hb1⟩
  go_wp2_with fail
  refine (spare_any _ os _ (ho.below hb1 (Nat.le_refl _)) (by omega)).mono ?_
  rintro e w2 ⟨rfl, hBn, hb2⟩
  have hb2' : Below w.heap.size w w2 := hb1.trans (hb2.mono hb1.size)
  go_wp2_with fail
  refine (spare_any _ rs _ (hr.below hb2' (Nat.le_refl _)) (by omega)).mono ?_
  rintro e w3 ⟨rfl, hC, hb3⟩
  have hb3' : Below w.heap.size w w3 := hb2'.trans (hb3.mono hb2'.size)
  have hA3 := (hA.below hb2 hA.lt).below hb3 (Nat.lt_of_lt_of_le hA.lt hb2.size)
  have hB3 := hBn.below hb3 hBn.lt
  have g1 := hA.lt
  have g2 := hBn.lt
  have g3 := hC.lt
  have s1 := hb1.size
  have s2 := hb2.size
  have s3 := hb3.size
  go_wp2_with fail
  by_cases hgood : GoodGen bs os rs top mature fee
  case neg =>
    refine (new_bad _ _ _ bs os rs top mature fee _ (IntSl.of_has hA3) (IntSl.of_has hB3) (IntSl.of_has hC) (by omega) (by omega) (by omega) hgood).mono ?_
    rintro e w4 ⟨rfl, hb4⟩
    have hb4' : Below w.heap.size w w4 := hb3'.trans (hb4.mono hb3'.size)
    go_wp2_with fail
    refine (still_any _ _ bs _ (hA3.below hb4 (by omega)) (hb.below hb4' (Nat.le_refl _)) (fun a n c h h' => fb a n c h (by omega)) (by omega)).mono ?_
    rintro e w5 ⟨rfl, hk5⟩
    have hb5' : Below w.heap.size w w5 := Kp.below hb4' hk5 (Nat.le_refl _) (fun k hk => by omega)
    go_wp2_with fail
    refine (still_any _ _ os _ ((hB3.below hb4 (by omega)).kp hk5 (by omega)) (ho.below hb5' (Nat.le_refl _)) (fun a n c h h' => fo a n c h (by omega)) (by omega)).mono ?_
    rintro e w6 ⟨rfl, hk6⟩
    have hb6' : Below w.heap.size w w6 := Kp.below hb5' hk6 (Nat.le_refl _) (fun k hk => by omega)
    go_wp2_with fail
    refine (still_any _ _ rs _ (((hC.below hb4 (by omega)).kp hk5 (by omega)).kp hk6 (by omega)) (hr.below hb6' (Nat.le_refl _)) (fun a n c h h' => fr a n c h (by omega)) (by omega)).mono ?_
    rintro e w7 ⟨rfl, hk7⟩
    have hb7' : Below w.heap.size w w7 := Kp.below hb6' hk7 (Nat.le_refl _) (fun k hk => by omega)
    go_wp2_with fail
    refine (begin_any _ _ _ bs os rs top mature fee _ (hb.below hb7' (Nat.le_refl _)) (ho.below hb7' (Nat.le_refl _)) (hr.below hb7' (Nat.le_refl _)) (by omega) (by omega) (by omega)).mono ?_
    rintro e w8 (⟨_, rfl, hb8⟩ | ⟨hno, _⟩)
    case inr => exact absurd hno hgood
    have HB : Hid (Below w.heap.size w w8) := hb7'.trans (hb8.mono hb7'.size)
    clear hA hBn hC hA3 hB3 hb ho hr fb fo fr hb1 hb2 hb3 hb2' hb3' hb4 hb4' hb5' hb6' hb7' hk5 hk6 hk7 hb8 hgood
    go_wp2_with (go_at_call 29; refine (num_any _ _).mono ?_; rintro e w' ⟨rfl, rfl⟩)
    go_ret2
    exact ⟨none, rfl, HB.out, .inl rfl⟩
  have HG : Hid (GoodGen bs os rs top mature fee) := hgood
  have gl1 : bs.length ≤ 6 := hgood.1.2.1
  have gl2 : os.length ≤ 5 := hgood.2.1.2.1
  have gl3 : (vs0 os rs).length = os.length := vs0_length os rs hgood.2.1.2.2.1
  refine (new_good _ _ _ bs os rs top mature fee _ (IntSl.of_has hA3) (IntSl.of_has hB3) (IntSl.of_has hC) (by omega) (by omega) (by omega) hgood).mono ?_
  clear hgood
  rintro e w4 ⟨gx, xb, xv, rfl, hgx, hX4, hxb4, hxv4, hb4⟩
  have hb4' : Below w.heap.size w w4 := hb3'.trans (hb4.mono hb3'.size)
  go_wp2_with fail
  refine (still_any _ _ bs _ (hA3.below hb4 (by omega)) (hb.below hb4' (Nat.le_refl _)) (fun a n c h h' => fb a n c h (by omega)) (by omega)).mono ?_
  rintro e w5 ⟨rfl, hk5⟩
  have hb5' : Below w.heap.size w w5 := Kp.below hb4' hk5 (Nat.le_refl _) (fun k hk => by omega)
  go_wp2_with fail
  refine (still_any _ _ os _ ((hB3.below hb4 (by omega)).kp hk5 (by omega)) (ho.below hb5' (Nat.le_refl _)) (fun a n c h h' => fo a n c h (by omega)) (by omega)).mono ?_
  rintro e w6 ⟨rfl, hk6⟩
  have hb6' : Below w.heap.size w w6 := Kp.below hb5' hk6 (Nat.le_refl _) (fun k hk => by omega)
  go_wp2_with fail
  refine (still_any _ _ rs _ (((hC.below hb4 (by omega)).kp hk5 (by omega)).kp hk6 (by omega)) (hr.below hb6' (Nat.le_refl _)) (fun a n c h h' => fr a n c h (by omega)) (by omega)).mono ?_
  rintro e w7 ⟨rfl, hk7⟩
  have hb7' : Below w.heap.size w w7 := Kp.below hb6' hk7 (Nat.le_refl _) (fun k hk => by omega)
  have hX7 := ((hX4.kp hk5 (by omega)).kp hk6 (by omega)).kp hk7 (by omega)
  have hxb7 := ownsRow_kp (ownsRow_kp (ownsRow_kp hxb4 hk5 (fun b h => by have := (hxb4.lt b h).1; omega)) hk6 (fun b h => by have := (hxb4.lt b h).1; omega)) hk7 (fun b h => by have := (hxb4.lt b h).1; omega)
  have hxv7 := ownsRow_kp (ownsRow_kp (ownsRow_kp hxv4 hk5 (fun b h => by have := (hxv4.lt b h).1; omega)) hk6 (fun b h => by have := (hxv4.lt b h).1; omega)) hk7 (fun b h => by have := (hxv4.lt b h).1; omega)
  go_wp2_with fail
  refine (begin_any _ _ _ bs os rs top mature fee _ (hb.below hb7' (Nat.le_refl _)) (ho.below hb7' (Nat.le_refl _)) (hr.below hb7' (Nat.le_refl _)) (by omega) (by omega) (by omega)).mono ?_
  rintro e w8 (⟨hno, _⟩ | ⟨_, gl, rfl, lb, lv, hgl, hL8, hlb8, hlv8, hb8⟩)
  case inl => exact absurd HG.out hno
  have hb8' : Below w.heap.size w w8 := hb7'.trans (hb8.mono hb7'.size)
  go_wp2_with (first | (go_at_call 29; refine (num_any _ _).mono ?_; rintro e w' ⟨rfl, rfl⟩) | fail)
  refine (new_good _ _ _ bs os rs top mature fee _ (hb.below hb8' (Nat.le_refl _)) (ho.below hb8' (Nat.le_refl _)) (hr.below hb8' (Nat.le_refl _)) (by omega) (by omega) (by omega) HG.out).mono ?_
  rintro e w9 ⟨gy, yb, yv, rfl, hgy, hY9, hyb9, hyv9, hb9⟩
  have hb9' : Below w.heap.size w w9 := hb8'.trans (hb9.mono hb8'.size)
  have hb79 : Below w7.heap.size w7 w9 := hb8.trans (hb9.mono hb8.size)
  have hs9 := hb9.size
  have hs8 := hb8.size
  have hs7 := hb7'.size
  have hEI : ∀ (lab : Nat → Nat × Nat) (i : Nat), EI (w9.alloc (.cells #[.pointer (some ⟨gx, 0, none⟩), .pointer (some ⟨gy, 0, none⟩), .pointer (some ⟨gl, 0, none⟩), .slice none 0 0, .int .i64 0] 54)) (newlab lab i w.heap.size w7.heap.size w8.heap.size w9.heap.size) i w9.heap.size gx gy gl (.slice none 0 0) 0 [] 0 { top := top, mature := mature, fee := fee, height := 0, fees := 0, pool := 0, bal := bs } { top := top, mature := mature, fee := fee, height := 0, fees := 0, pool := 0, bal := bs } { top := top, mature := mature, fee := fee, height := 0, fees := 0, pool := 0, bal := bs } (vs0 os rs) := fun lab i => by
    have hx9 := ownsRow_below hxv7 hb79 (Nat.le_refl _)
    have hxb9 := ownsRow_below hxb7 hb79 (Nat.le_refl _)
    have hlv9 := ownsRow_below hlv8 hb9 (Nat.le_refl _)
    have hlb9 := ownsRow_below hlb8 hb9 (Nat.le_refl _)
    refine ⟨Has.newA w9 _ _, newlab_4 (by omega) (by omega) (by omega) (Nat.le_refl _), ⟨xb, xv, ⟨(hX7.below hb79 hX7.lt).alloc _, (ownsRow_base hxb9 (Nat.zero_le _)).alloc _⟩, ?_, newlab_1 (by omega) hX7.lt, fun k hk => newlab_1 (by have := (hxb7.lt k hk).1; omega) (hxb7.lt k hk).2, fun k hk => newlab_1 (by have := (hxv7.lt k hk).1; omega) (hxv7.lt k hk).2⟩,
      ⟨yb, yv, ⟨hY9.alloc _, (ownsRow_base hyb9 (Nat.zero_le _)).alloc _⟩, ?_, newlab_2 (by omega) (by omega) hgy hY9.lt, fun k hk => newlab_2 (by have := (hyb9.lt k hk).1; omega) (by have := (hyb9.lt k hk).1; omega) (hyb9.lt k hk).1 (hyb9.lt k hk).2, fun k hk => newlab_2 (by have := (hyv9.lt k hk).1; omega) (by have := (hyv9.lt k hk).1; omega) (hyv9.lt k hk).1 (hyv9.lt k hk).2⟩,
      ⟨lb, lv, .slice none 0 0, ⟨⟨(hL8.below hb9 hL8.lt).alloc _, (ownsRow_base hlb9 (Nat.zero_le _)).alloc _⟩, ?_, World.ownsRow_nil _ _ _ _⟩, newlab_3 (by omega) hgl hL8.lt, fun k hk => newlab_3 (by have := (hlb8.lt k hk).1; omega) (hlb8.lt k hk).1 (hlb8.lt k hk).2, fun k hk => newlab_3 (by have := (hlv8.lt k hk).1; omega) (hlv8.lt k hk).1 (hlv8.lt k hk).2, fun k hk => by simp [Value.ownBlock] at hk⟩,
      World.ownsRow_nil _ _ _ _, fun k hk => by simp [Value.ownBlock] at hk, fun j hj => by omega⟩
    · rw [gl3]; exact (ownsRow_base hx9 (Nat.zero_le _)).alloc _
    · rw [gl3]; exact (ownsRow_base hyv9 (Nat.zero_le _)).alloc _
    · rw [gl3]; exact (ownsRow_base hlv9 (Nat.zero_le _)).alloc _
  have HEI : Hid (∀ (lab : Nat → Nat × Nat) (i : Nat), EI (w9.alloc (.cells #[.pointer (some ⟨gx, 0, none⟩), .pointer (some ⟨gy, 0, none⟩), .pointer (some ⟨gl, 0, none⟩), .slice none 0 0, .int .i64 0] 54)) (newlab lab i w.heap.size w7.heap.size w8.heap.size w9.heap.size) i w9.heap.size gx gy gl (.slice none 0 0) 0 [] 0 { top := top, mature := mature, fee := fee, height := 0, fees := 0, pool := 0, bal := bs } { top := top, mature := mature, fee := fee, height := 0, fees := 0, pool := 0, bal := bs } { top := top, mature := mature, fee := fee, height := 0, fees := 0, pool := 0, bal := bs } (vs0 os rs)) := hEI
  have HB9 : Hid (Below w.heap.size w w9) := hb9'
  clear hEI hA hBn hC hA3 hB3 hb ho hr fb fo fr hb1 hb2 hb3 hb2' hb3' hb4 hb4' hb5' hb6' hb7' hb8' hb9' hk5 hk6 hk7 hb8 hb9 hX4 hxb4 hxv4 hX7 hxb7 hxv7 hL8 hlb8 hlv8 hY9 hyb9 hyv9 hb79
  have hgc := GoodC.begin HG.out
  have hgz := vs0_ZV os rs
  have gl4 : 1 ≤ os.length := HG.out.2.1.1
  go_wp2_with fail
  refine (ereads (HEI.out (fun _ => (0, 0)) i) hgc hgz (by omega) (by omega) (by omega) (by omega) gx (esee (HEI.out (fun _ => (0, 0)) i).X hgc hgz (by omega))).mono ?_
  rintro e w10 ⟨rfl, lab5, hv5, hcs5, hI5, hL5, hK5⟩
  have HF : Hid (Below w.heap.size w w10) := by
    refine ⟨hK5.os.trans HB9.out.os, hK5.tape.trans HB9.out.tape, hK5.output.trans HB9.out.output, Nat.le_trans HB9.out.size (Nat.le_trans (by simp) hK5.size), fun k hk => ?_⟩
    have hk9 : k < w9.heap.size := Nat.lt_of_lt_of_le hk HB9.out.size
    rw [hK5.block k (by simp only [World.size_alloc]; omega) (by rw [newlab_0 hk]; exact fun e => hi e.symm), Below.heap_alloc _ _ _ hk9]
    exact HB9.out.block k hk
  have HM : Hid (MadeE w w10 (some ⟨w9.heap.size, 0, none⟩) i) := by
    refine .inr ⟨_, rfl, lab5, fun k hk => ?_, gx, gy, gl, hv5, 0 + 2, hcs5, 0 + 1000 + 1000, _, vs0 os rs, hI5, hgc, hgz, by omega, by omega, by omega, by omega, by omega⟩
    rw [hL5 k (by simp only [World.size_alloc]; omega)]
    exact newlab_0 hk
  clear hI5 hL5 hK5 HEI
  go_wp2
  go_ret2
  exact ⟨_, rfl, HF.out, HM.out⟩
end Go.Proofs.YtenjjneobkodbaaGreat
