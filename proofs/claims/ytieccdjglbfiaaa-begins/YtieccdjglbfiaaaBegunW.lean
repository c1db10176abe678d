import Derived.Test.YtieccdjglbfiaaaReads
namespace Go.Proofs.Ytieccdjglbfiaaa
open Go.ChangeShapes Go.WideShapes Go.ChangeAt Go.RowKit
set_option linter.unusedVariables false

/-- a beginning, as it is seen -/
def S0 (bs os rs : List Int) : ViewS := { height := 0, bal := bs, fees := 0, pool := 0, bonded := 0, loose := 0, vals := vs0 os rs, dels := [], ents := [] }
theorem vs0_get (os rs : List Int) (k : Nat) (h : k < (vs0 os rs).length) : (vs0 os rs)[k].tokens = 0 ∧ (vs0 os rs)[k].inset = false := by
  simp [vs0]
theorem vs0_VB (os rs : List Int) : VB (vs0 os rs) := fun k h => by rw [(vs0_get os rs k h).1]; omega
theorem bonded0 (l : List VS) (h : ∀ k (hk : k < l.length), l[k].tokens = 0 ∧ l[k].inset = false) (k : Nat) (hk : k ≤ l.length) : bondedN (l.take k) = 0 ∧ looseV (l.take k) = 0 := by
  induction k with
  | zero => simp [bondedN, looseV]
  | succ k ih =>
    have h1 := h k (by omega)
    have h2 := ih (by omega)
    rw [bondedN_snoc l k (by omega), looseV_snoc l k (by omega), h1.1, h1.2, h2.1, h2.2]
    simp
theorem vs0_sums (os rs : List Int) : bondedN (vs0 os rs) = 0 ∧ looseV (vs0 os rs) = 0 := by
  have h := bonded0 (vs0 os rs) (vs0_get os rs) (vs0 os rs).length (Nat.le_refl _)
  rwa [List.take_of_length_le (Nat.le_refl _)] at h

set_option maxHeartbeats 4000000 in
set_option maxRecDepth 100000 in
theorem begun_any (vb vo vr : Value) (bs os rs : List Int) (top mature fee : Int) (w : World) (hb : IntSl w vb bs) (ho : IntSl w vo os) (hr : IntSl w vr rs)
    (fb : IntSl.off vb (fun k => w.heap.size ≤ k)) (fo : IntSl.off vo (fun k => w.heap.size ≤ k)) (fr : IntSl.off vr (fun k => w.heap.size ≤ k))
    (l1 : bs.length ≤ 1048000) (l2 : os.length ≤ 1048000) (l3 : rs.length ≤ 1048000) :
    Calls Try.prog 38 #[vb, vo, vr, .int .i64 top, .int .i64 mature, .int .i64 fee] w fun e w' => ∃ p, e = .returned (.tuple #[.pointer p, .bool true]) ∧ Below w.heap.size w w' := by
  obtain ⟨ab, cb, rfl, xb0⟩ := id hb
  obtain ⟨ao, co, rfl, xo0⟩ := id ho
  obtain ⟨ar, cr, rfl, xr0⟩ := id hr
  clear xb0 xo0 xr0
  go_enter Try.func38, Try.ntmps38
  go_wp2_with fail
  refine (spare_any _ bs _ hb (by omega)).mono ?_
  rintro e w1 ⟨rfl, hA, hb1⟩
  go_wp2_with fail
  refine (spare_any _ os _ (ho.below hb1 (Nat.le_refl _)) (by omega)).mono ?_
  rintro e w2 ⟨rfl, hBn, hb2⟩
  have hb2' : Below w.heap.size w w2 := hb1.trans (hb2.mono hb1.size)
  go_wp2_with fail
  refine (spare_any _ rs _ (hr.below hb2' (Nat.le_refl _)) (by omega)).mono ?_
  rintro e w3 ⟨rfl, hC, hb3⟩
  have hb3' : Below w.heap.size w w3 := hb2'.trans (hb3.mono hb2'.size)
  have hA3 := (hA.below hb2 hA.lt).below hb3 (Nat.lt_of_lt_of_le hA.lt hb2.size)
  have hB3 := hBn.below hb3 hBn.lt
  have g1 := hA.lt
  have g2 := hBn.lt
  have g3 := hC.lt
  have s1 := hb1.size
  have s2 := hb2.size
  have s3 := hb3.size
  go_wp2_with fail
  by_cases hgood : GoodGen bs os rs top mature fee
  case neg =>
    refine (new_bad _ _ _ bs os rs top mature fee _ (IntSl.of_has hA3) (IntSl.of_has hB3) (IntSl.of_has hC) (by omega) (by omega) (by omega) hgood).mono ?_
    rintro e w4 ⟨rfl, hb4⟩
    have hb4' : Below w.heap.size w w4 := hb3'.trans (hb4.mono hb3'.size)
    go_wp2_with fail
    refine (still_any _ _ bs _ (hA3.below hb4 (by omega)) (hb.below hb4' (Nat.le_refl _)) (fun a n c h h' => fb a n c h (by omega)) (by omega)).mono ?_
    rintro e w5 ⟨rfl, hk5⟩
    have hb5' : Below w.heap.size w w5 := Kp.below hb4' hk5 (Nat.le_refl _) (fun k hk => by omega)
    go_wp2_with fail
    refine (still_any _ _ os _ ((hB3.below hb4 (by omega)).kp hk5 (by omega)) (ho.below hb5' (Nat.le_refl _)) (fun a n c h h' => fo a n c h (by omega)) (by omega)).mono ?_
    rintro e w6 ⟨rfl, hk6⟩
    have hb6' : Below w.heap.size w w6 := Kp.below hb5' hk6 (Nat.le_refl _) (fun k hk => by omega)
    go_wp2_with fail
    refine (still_any _ _ rs _ (((hC.below hb4 (by omega)).kp hk5 (by omega)).kp hk6 (by omega)) (hr.below hb6' (Nat.le_refl _)) (fun a n c h h' => fr a n c h (by omega)) (by omega)).mono ?_
    rintro e w7 ⟨rfl, hk7⟩
    have hb7' : Below w.heap.size w w7 := Kp.below hb6' hk7 (Nat.le_refl _) (fun k hk => by omega)
    go_wp2_with fail
    refine (begin_any _ _ _ bs os rs top mature fee _ (hb.below hb7' (Nat.le_refl _)) (ho.below hb7' (Nat.le_refl _)) (hr.below hb7' (Nat.le_refl _)) (by omega) (by omega) (by omega)).mono ?_
    rintro e w8 (⟨_, rfl, hb8⟩ | ⟨hno, _⟩)
    case inr => exact absurd hno hgood
    have HB : Hid (Below w.heap.size w w8) := hb7'.trans (hb8.mono hb7'.size)
    clear hA hBn hC hA3 hB3 hb ho hr fb fo fr hb1 hb2 hb3 hb2' hb3' hb4 hb4' hb5' hb6' hb7' hk5 hk6 hk7 hb8 hgood
    go_wp2_with (go_at_call 48; refine (num_any _ _).mono ?_; rintro e w' ⟨rfl, rfl⟩)
    go_ret2
    exact ⟨none, rfl, HB.out⟩
  have HG : Hid (GoodGen bs os rs top mature fee) := hgood
  have gl1 : bs.length ≤ 6 := hgood.1.2.1
  have gl2 : os.length ≤ 5 := hgood.2.1.2.1
  have gl3 : (vs0 os rs).length = os.length := vs0_length os rs hgood.2.1.2.2.1
  refine (new_good _ _ _ bs os rs top mature fee _ (IntSl.of_has hA3) (IntSl.of_has hB3) (IntSl.of_has hC) (by omega) (by omega) (by omega) hgood).mono ?_
  clear hgood
  rintro e w4 ⟨gx, xb, xv, rfl, hgx, hX4, hxb4, hxv4, hb4⟩
  have hb4' : Below w.heap.size w w4 := hb3'.trans (hb4.mono hb3'.size)
  go_wp2_with fail
  refine (still_any _ _ bs _ (hA3.below hb4 (by omega)) (hb.below hb4' (Nat.le_refl _)) (fun a n c h h' => fb a n c h (by omega)) (by omega)).mono ?_
  rintro e w5 ⟨rfl, hk5⟩
  have hb5' : Below w.heap.size w w5 := Kp.below hb4' hk5 (Nat.le_refl _) (fun k hk => by omega)
  go_wp2_with fail
  refine (still_any _ _ os _ ((hB3.below hb4 (by omega)).kp hk5 (by omega)) (ho.below hb5' (Nat.le_refl _)) (fun a n c h h' => fo a n c h (by omega)) (by omega)).mono ?_
  rintro e w6 ⟨rfl, hk6⟩
  have hb6' : Below w.heap.size w w6 := Kp.below hb5' hk6 (Nat.le_refl _) (fun k hk => by omega)
  go_wp2_with fail
  refine (still_any _ _ rs _ (((hC.below hb4 (by omega)).kp hk5 (by omega)).kp hk6 (by omega)) (hr.below hb6' (Nat.le_refl _)) (fun a n c h h' => fr a n c h (by omega)) (by omega)).mono ?_
  rintro e w7 ⟨rfl, hk7⟩
  have hb7' : Below w.heap.size w w7 := Kp.below hb6' hk7 (Nat.le_refl _) (fun k hk => by omega)
  have hX7 := ((hX4.kp hk5 (by omega)).kp hk6 (by omega)).kp hk7 (by omega)
  have hxb7 := ownsRow_kp (ownsRow_kp (ownsRow_kp hxb4 hk5 (fun b h => by have := (hxb4.lt b h).1; omega)) hk6 (fun b h => by have := (hxb4.lt b h).1; omega)) hk7 (fun b h => by have := (hxb4.lt b h).1; omega)
  have hxv7 := ownsRow_kp (ownsRow_kp (ownsRow_kp hxv4 hk5 (fun b h => by have := (hxv4.lt b h).1; omega)) hk6 (fun b h => by have := (hxv4.lt b h).1; omega)) hk7 (fun b h => by have := (hxv4.lt b h).1; omega)
  go_wp2_with fail
  refine (begin_any _ _ _ bs os rs top mature fee _ (hb.below hb7' (Nat.le_refl _)) (ho.below hb7' (Nat.le_refl _)) (hr.below hb7' (Nat.le_refl _)) (by omega) (by omega) (by omega)).mono ?_
  rintro e w8 (⟨hno, _⟩ | ⟨_, gl, rfl, lb, lv, hgl, hL8, hlb8, hlv8, hb8⟩)
  case inl => exact absurd HG.out hno
  have hb8' : Below w.heap.size w w8 := hb7'.trans (hb8.mono hb7'.size)
  go_wp2_with (first | (go_at_call 48; refine (num_any _ _).mono ?_; rintro e w' ⟨rfl, rfl⟩) | fail)
  refine (new_good _ _ _ bs os rs top mature fee _ (hb.below hb8' (Nat.le_refl _)) (ho.below hb8' (Nat.le_refl _)) (hr.below hb8' (Nat.le_refl _)) (by omega) (by omega) (by omega) HG.out).mono ?_
  rintro e w9 ⟨gy, yb, yv, rfl, hgy, hY9, hyb9, hyv9, hb9⟩
  have hb9' : Below w.heap.size w w9 := hb8'.trans (hb9.mono hb8'.size)
  have hb79 : Below w7.heap.size w7 w9 := hb8.trans (hb9.mono hb8.size)
  have hEng : ∀ o, EngAt (w9.alloc o) gx fee (S0 bs os rs) := fun o =>
    ⟨xb, xv, (hX7.below hb79 hX7.lt).alloc o, (ownsRow_base (ownsRow_below hxb7 hb79 (Nat.le_refl _)) (Nat.zero_le _)).alloc o, by
      have := (ownsRow_base (ownsRow_below hxv7 hb79 (Nat.le_refl _)) (Nat.zero_le _)).alloc o
      show (w9.alloc o).ownsRow 0 62 8 xv (vs0 os rs).length (vrow (vs0 os rs))
      rw [gl3]; exact this, rfl, rfl, rfl, rfl⟩
  have hLed : ∀ o, LedRd (w9.alloc o) gl (S0 bs os rs) := fun o =>
    ⟨_, _, _, lb, lv, _, _, [], (hL8.below hb9 hL8.lt).alloc o, Rd.of_owns ((ownsRow_below hlb8 hb9 (Nat.le_refl _)).alloc o), by
      have := Rd.of_owns ((ownsRow_below hlv8 hb9 (Nat.le_refl _)).alloc o)
      show Rd (w9.alloc o) lv (vs0 os rs).length 8 (vrow (vs0 os rs))
      rw [gl3]; exact this, ⟨rfl, none, 0, rfl, fun h => by simp [S0] at h⟩, ⟨rfl, none, 0, rfl, fun h => by simp [S0] at h⟩, fun k p h => by simp [S0, dprow] at h⟩
  have HEng : Hid (∀ o, EngAt (w9.alloc o) gx fee (S0 bs os rs)) := hEng
  have HLed : Hid (∀ o, LedRd (w9.alloc o) gl (S0 bs os rs)) := hLed
  have HB9 : Hid (Below w.heap.size w w9) := hb9'
  clear hEng hLed hA hBn hC hA3 hB3 hb ho hr fb fo fr hb1 hb2 hb3 hb2' hb3' hb4 hb4' hb5' hb6' hb7' hb8' hb9' hk5 hk6 hk7 hb8 hb9 hX4 hxb4 hxv4 hX7 hxb7 hxv7 hL8 hlb8 hlv8 hY9 hyb9 hyv9 hb79
  go_wp2_with fail
  have hsums := vs0_sums os rs
  refine (reads_any w9.heap.size gl gx (.pointer (some ⟨gx, 0, none⟩)) (.pointer (some ⟨gy, 0, none⟩)) (.slice none 0 0) 0 [] 0 fee (S0 bs os rs) _ (Has.newA w9 _ _) (HEng.out _) (HLed.out _) (World.ownsRow_nil _ _ _ _) (fun j hj => by omega) (by omega) (by omega) (by omega)
    (by show bs.length ≤ 1000; omega) (by show (vs0 os rs).length ≤ 1000; omega) (Nat.zero_le _) (Nat.zero_le _) (vs0_VB os rs) (fun k h => by simp [S0] at h) (by show (0 : Int) = bondedN (vs0 os rs); rw [hsums.1]) (by show (0 : Int) = looseV (vs0 os rs) + sumE []; rw [hsums.2]; rfl)).mono ?_
  rintro e w10 ⟨rfl, hM⟩
  obtain ⟨hv', b1, v1, d1, e1, b2, v2, d2, e2, k1, k2, k3, k4, k5, k6, k7, k8⟩ := hM
  have HF : Hid (Below w.heap.size w w10) := by
    have hs := HB9.out.size
    refine (HB9.out.alloc hs _).trans ⟨k7.os, k7.tape, k7.output, k7.size, fun k hk => k7.block k (by simp only [World.size_alloc]; omega) ?_⟩
    rintro (h | h | h)
    · omega
    · simp only [World.size_alloc] at h; omega
    · simp [Value.ownBlock] at h
  clear k1 k2 k3 k4 k5 k6 k7 k8 hsums
  go_wp2
  go_ret2
  exact ⟨_, rfl, HF.out⟩
end Go.Proofs.Ytieccdjglbfiaaa
