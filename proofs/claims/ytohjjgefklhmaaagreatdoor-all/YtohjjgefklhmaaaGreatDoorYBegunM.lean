import Derived.Test.YtohjjgefklhmaaaGreatDoorYDoes2M
import Derived.Test.YtohjjgefklhmaaaGreatDoorWStM
import Derived.Test.YtohjjgefklhmaaaGreatDoorBeginM
import Derived.Deep.RegionWith
import Derived.Deep.DeepCutAuto
namespace Go.Proofs.YtohjjgefklhmaaaGreatDoor
open Go.ChangeShapes Go.WideShapes Go.ChangeAt Go.RowKit
set_option linter.unusedVariables false
set_option maxHeartbeats 40000000
set_option maxRecDepth 100000
variable {bs os rs : List Int} {top mature fee : Int} {w : World} {lab : Nat -> Nat × Nat} {i a b c d k : Nat}
theorem QR (hg : Bm bs os rs top mature fee) : CP (xN bs os rs top mature fee) := by
 obtain ⟨⟨g1, g2, g3, g4⟩, ⟨g5, g6, g7, g8, g9⟩, _⟩ := hg
 have hl : (vs0 os rs).length = os.length := F8 os rs g7
 refine ⟨g1, by show 1 <= (vs0 os rs).length; omega, fun o ho => ?_, fun k j _ _ _ => Rr 65 _, ⟨fun e he => by simp [xN] at he, by simp [xN], fun e he => by simp [xN] at he, fun e he => by simp [xN] at he, fun a b => by simp [xN, AD]⟩⟩
 obtain ⟨v, hv, rfl⟩ := List.mem_map.1 ho
 obtain ⟨j, hj, rfl⟩ := List.getElem_of_mem hv
 have hj' : j < os.length := by have : j < (vs0 os rs).length := hj; omega
 have e := Hs os rs j g7 hj'
 have e2 : (vs0 os rs).getD j v0 = (xN bs os rs top mature fee).vals[j] := by
  have hj2 : j < (vs0 os rs).length := hj
  show (vs0 os rs).getD j v0 = (vs0 os rs)[j]'hj2
  rw [List.getD_eq_getElem?_getD, List.getElem?_eq_getElem hj2]; rfl
 rw [<- e2, e]
 have e3 : os.getD j 0 = os[j] := by simp [hj']
 simp only [e3]
 have := g8 j os[j] hj' (List.getElem?_eq_getElem hj')
 exact ⟨os[j].toNat, by omega, by show os[j].toNat < bs.length; omega⟩
theorem QK (hg : Bm bs os rs top mature fee) : AB (xN bs os rs top mature fee) := ⟨(QS hg).1, Rs hg, QR hg⟩
theorem RY (bs os rs : List Int) (top mature fee : Int) : A8 (xN bs os rs top mature fee) [] :=
 ⟨by simp, fun d hd => (by cases hd), fun k j _ _ hs => by
  have : (xN bs os rs top mature fee).sh k j = 0 := Rr 65 _
  omega⟩
def Ey (w : World) (lab : Nat -> Nat × Nat) (i ge m : Nat) : Prop :=
 ∃ gx gy gl hv nh hcs mk x, EI w lab i ge gx gy gl hv nh hcs mk x x x ∧ AB x ∧ 0 <= mk ∧ mk <= 2000 * (m : Int) ∧ nh <= 2 * m
theorem Bh.mk' {F : Nat -> Prop} {g : Nat} {x : EC} {bv vv ev : Value} (hL : Has w g 111 (eL x bv vv ev)) (ht : x.tab.length = 65) (hb : w.ownsRow 0 3 1 bv x.bal.length (Ai x.bal)) (hv : w.ownsRow 0 122 8 vv x.vals.length (A5 x.vals)) (he : w.ownsRow 0 125 4 ev x.ents.length (Bi x.ents)) (f1 : F g) (f2 : ∀ k, bv.ownBlock = some k -> F k) (f3 : ∀ k, vv.ownBlock = some k -> F k) (f4 : ∀ k, ev.ownBlock = some k -> F k) : Bh F w g x := by
 refine ⟨bv, vv, ev, ⟨Kp.refl _ _, fun k hk => .inr hk, .inl (.inl rfl), hL, ht, hb, hv, he, fun k hk => .inl (.inr (.inl hk)), fun k hk => .inl (.inr (.inr (.inl hk))), fun k hk => .inl (.inr (.inr (.inr hk)))⟩, ?_⟩
 rintro k (rfl | hk | hk | hk)
 ·exact f1
 ·exact f2 k hk
 ·exact f3 k hk
 ·exact f4 k hk
def MH (w w' : World) (p : Option Addr) (i : Nat) : Prop := p = none ∨ ∃ ge, p = some ⟨ge, 0, none⟩ ∧ ∃ lab', (∀ k, k < w.heap.size -> lab' k = ((0, 0) : Nat × Nat)) ∧ Ey w' lab' i ge 1
def El (lab : Nat -> Nat × Nat) (i a b c d : Nat) : Nat -> Nat × Nat := fun k => if k < a then lab k else if k < b then (i, 1) else if k < c then (i, 3) else if k < d then (i, 2) else (i, 4)
theorem KO (h : k < a) : El lab i a b c d k = lab k := if_pos h
theorem IL (h : a <= k) (h2 : k < b) : El lab i a b c d k = (i, 1) := by unfold El; rw [if_neg (by omega), if_pos h2]
theorem IQ (h : a <= k) (h1 : b <= k) (h2 : k < c) : El lab i a b c d k = (i, 3) := by unfold El; rw [if_neg (by omega), if_neg (by omega), if_pos h2]
theorem Ii (h : a <= k) (h1 : b <= k) (h3 : c <= k) (h2 : k < d) : El lab i a b c d k = (i, 2) := by unfold El; rw [if_neg (by omega), if_neg (by omega), if_neg (by omega), if_pos h2]
theorem PJ (h : a <= k) (h1 : b <= k) (h3 : c <= k) (h2 : d <= k) : El lab i a b c d k = (i, 4) := by unfold El; rw [if_neg (by omega), if_neg (by omega), if_neg (by omega), if_neg (by omega)]
theorem Nf (i : Nat) (hi : i ≠ 0) (vb vo vr : Value) (bs os rs : List Int) (top mature fee : Int) (w : World) (hb : AM w vb bs) (ho : AM w vo os) (hr : AM w vr rs)
  (fb : AM.off vb (fun k => w.heap.size <= k)) (fo : AM.off vo (fun k => w.heap.size <= k)) (fr : AM.off vr (fun k => w.heap.size <= k))
  (l1 : bs.length <= 1048000) (l2 : os.length <= 1048000) (l3 : rs.length <= 1048000) :
  Calls Tryz.prog 20 #[vb, vo, vr, .int .i64 top, .int .i64 mature, .int .i64 fee] w fun e w' => ∃ p, e = .returned (.tuple #[.pointer p, .bool true]) ∧ Below w.heap.size w w' ∧ MH w w' p i := by
 obtain ⟨ab, cb, rfl, xb0⟩ := id hb
 obtain ⟨ao, co, rfl, xo0⟩ := id ho
 obtain ⟨ar, cr, rfl, xr0⟩ := id hr
 clear xb0 xo0 xr0
 go_enter Tryz.func20, Tryz.ntmps20
 go_wp2_with fail
 refine (GK _ bs _ hb (by omega)).mono ?_
 rintro e w1 ⟨rfl, hA, hb1⟩
 go_wp2_with fail
 refine (GK _ os _ (ho.below hb1 (Nat.le_refl _)) (by omega)).mono ?_
 rintro e w2 ⟨rfl, hBn, hb2⟩
 have hb2' : Below w.heap.size w w2 := hb1.trans (hb2.mono hb1.size)
 go_wp2_with fail
 refine (GK _ rs _ (hr.below hb2' (Nat.le_refl _)) (by omega)).mono ?_
 rintro e w3 ⟨rfl, hC, hb3⟩
 have hb3' : Below w.heap.size w w3 := hb2'.trans (hb3.mono hb2'.size)
 have hA3 := (hA.below hb2 hA.lt).below hb3 (Nat.lt_of_lt_of_le hA.lt hb2.size)
 have hB3 := hBn.below hb3 hBn.lt
 have g1 := hA.lt
 have g2 := hBn.lt
 have g3 := hC.lt
 have s1 := hb1.size
 have s2 := hb2.size
 have s3 := hb3.size
 go_wp2_with fail
 by_cases hgood : Bm bs os rs top mature fee
 case neg =>
  refine (MC _ _ _ bs os rs top mature fee _ (AM.of_has hA3) (AM.of_has hB3) (AM.of_has hC) (by omega) (by omega) (by omega) hgood).mono ?_
  rintro e w4 ⟨rfl, hb4⟩
  have hb4' : Below w.heap.size w w4 := hb3'.trans (hb4.mono hb3'.size)
  go_wp2_with fail
  refine (DZ _ _ bs _ (hA3.below hb4 (by omega)) (hb.below hb4' (Nat.le_refl _)) (fun a n c h h' => fb a n c h (by omega)) (by omega)).mono ?_
  rintro e w5 ⟨rfl, hk5⟩
  have hb5' : Below w.heap.size w w5 := Kp.below hb4' hk5 (Nat.le_refl _) (fun k hk => by omega)
  go_wp2_with fail
  refine (DZ _ _ os _ ((hB3.below hb4 (by omega)).kp hk5 (by omega)) (ho.below hb5' (Nat.le_refl _)) (fun a n c h h' => fo a n c h (by omega)) (by omega)).mono ?_
  rintro e w6 ⟨rfl, hk6⟩
  have hb6' : Below w.heap.size w w6 := Kp.below hb5' hk6 (Nat.le_refl _) (fun k hk => by omega)
  go_wp2_with fail
  refine (DZ _ _ rs _ (((hC.below hb4 (by omega)).kp hk5 (by omega)).kp hk6 (by omega)) (hr.below hb6' (Nat.le_refl _)) (fun a n c h h' => fr a n c h (by omega)) (by omega)).mono ?_
  rintro e w7 ⟨rfl, hk7⟩
  have hb7' : Below w.heap.size w w7 := Kp.below hb6' hk7 (Nat.le_refl _) (fun k hk => by omega)
  go_wp2_with fail
  refine (JQ _ _ _ bs os rs top mature fee _ (hb.below hb7' (Nat.le_refl _)) (ho.below hb7' (Nat.le_refl _)) (hr.below hb7' (Nat.le_refl _)) (by omega) (by omega) (by omega)).mono ?_
  rintro e w8 (⟨_, rfl, hb8⟩ | ⟨hno, _⟩)
  case inr => exact absurd hno hgood
  have HB : Hid (Below w.heap.size w w8) := hb7'.trans (hb8.mono hb7'.size)
  clear hA hBn hC hA3 hB3 hb ho hr fb fo fr hb1 hb2 hb3 hb2' hb3' hb4 hb4' hb5' hb6' hb7' hk5 hk6 hk7 hb8 hgood
  go_wp2_with (go_at_call 30; refine (DV _ _).mono ?_; rintro e w' ⟨rfl, rfl⟩)
  go_ret2
  exact ⟨none, rfl, HB.out, .inl rfl⟩
 have HG := Hd hgood
 have gl1 : bs.length <= 6 := hgood.1.2.1
 have gl2 : os.length <= 5 := hgood.2.1.2.1
 have gl3 : (vs0 os rs).length = os.length := FV os rs hgood.2.1.2.2.1
 refine (IC _ _ _ bs os rs top mature fee _ (AM.of_has hA3) (AM.of_has hB3) (AM.of_has hC) (by omega) (by omega) (by omega) hgood).mono ?_
 clear hgood
 rintro e w4 ⟨gx, xb, xv, rfl, hgx, hX4, hxb4, hxv4, hb4⟩
 have hb4' : Below w.heap.size w w4 := hb3'.trans (hb4.mono hb3'.size)
 go_wp2_with fail
 refine (DZ _ _ bs _ (hA3.below hb4 (by omega)) (hb.below hb4' (Nat.le_refl _)) (fun a n c h h' => fb a n c h (by omega)) (by omega)).mono ?_
 rintro e w5 ⟨rfl, hk5⟩
 have hb5' : Below w.heap.size w w5 := Kp.below hb4' hk5 (Nat.le_refl _) (fun k hk => by omega)
 go_wp2_with fail
 refine (DZ _ _ os _ ((hB3.below hb4 (by omega)).kp hk5 (by omega)) (ho.below hb5' (Nat.le_refl _)) (fun a n c h h' => fo a n c h (by omega)) (by omega)).mono ?_
 rintro e w6 ⟨rfl, hk6⟩
 have hb6' : Below w.heap.size w w6 := Kp.below hb5' hk6 (Nat.le_refl _) (fun k hk => by omega)
 go_wp2_with fail
 refine (DZ _ _ rs _ (((hC.below hb4 (by omega)).kp hk5 (by omega)).kp hk6 (by omega)) (hr.below hb6' (Nat.le_refl _)) (fun a n c h h' => fr a n c h (by omega)) (by omega)).mono ?_
 rintro e w7 ⟨rfl, hk7⟩
 have hb7' : Below w.heap.size w w7 := Kp.below hb6' hk7 (Nat.le_refl _) (fun k hk => by omega)
 have hX7 := ((hX4.kp hk5 (by omega)).kp hk6 (by omega)).kp hk7 (by omega)
 have hxb7 := Al (Al (Al hxb4 hk5 (fun b h => by have := (hxb4.lt b h).1; omega)) hk6 (fun b h => by have := (hxb4.lt b h).1; omega)) hk7 (fun b h => by have := (hxb4.lt b h).1; omega)
 have hxv7 := Al (Al (Al hxv4 hk5 (fun b h => by have := (hxv4.lt b h).1; omega)) hk6 (fun b h => by have := (hxv4.lt b h).1; omega)) hk7 (fun b h => by have := (hxv4.lt b h).1; omega)
 go_wp2_with fail
 refine (JQ _ _ _ bs os rs top mature fee _ (hb.below hb7' (Nat.le_refl _)) (ho.below hb7' (Nat.le_refl _)) (hr.below hb7' (Nat.le_refl _)) (by omega) (by omega) (by omega)).mono ?_
 rintro e w8 (⟨hno, _⟩ | ⟨_, gl, rfl, lb, lv, hgl, hL8, hlb8, hlv8, hb8⟩)
 case inl => exact absurd HG.out hno
 have hb8' : Below w.heap.size w w8 := hb7'.trans (hb8.mono hb7'.size)
 go_wp2_with (first | (go_at_call 30; refine (DV _ _).mono ?_; rintro e w' ⟨rfl, rfl⟩) | fail)
 refine (IC _ _ _ bs os rs top mature fee _ (hb.below hb8' (Nat.le_refl _)) (ho.below hb8' (Nat.le_refl _)) (hr.below hb8' (Nat.le_refl _)) (by omega) (by omega) (by omega) HG.out).mono ?_
 rintro e w9 ⟨gy, yb, yv, rfl, hgy, hY9, hyb9, hyv9, hb9⟩
 have hb9' : Below w.heap.size w w9 := hb8'.trans (hb9.mono hb8'.size)
 have hb79 : Below w7.heap.size w7 w9 := hb8.trans (hb9.mono hb8.size)
 have hs9 := hb9.size
 have hs8 := hb8.size
 have hs7 := hb7'.size
 have hEI : ∀ (lab : Nat -> Nat × Nat) (i : Nat), EI (w9.alloc (.cells #[.pointer (some ⟨gx, 0, none⟩), .pointer (some ⟨gy, 0, none⟩), .pointer (some ⟨gl, 0, none⟩), .slice none 0 0, .int .i64 0] 54)) (El lab i w.heap.size w7.heap.size w8.heap.size w9.heap.size) i w9.heap.size gx gy gl (.slice none 0 0) 0 [] 0 (xN bs os rs top mature fee) (xN bs os rs top mature fee) (xN bs os rs top mature fee) := fun lab i => by
  have hx9 := Ar hxv7 hb79 (Nat.le_refl _)
  have hxb9 := Ar hxb7 hb79 (Nat.le_refl _)
  have hlv9 := Ar hlv8 hb9 (Nat.le_refl _)
  have hlb9 := Ar hlb8 hb9 (Nat.le_refl _)
  have nil5 : ∀ (u : World) (F : Nat -> Prop), ∀ k, (Value.slice none 0 0).ownBlock = some k -> F k := fun u F k hk => by simp [Value.ownBlock] at hk
  have hxv : (xN bs os rs top mature fee).vals.length = os.length := gl3
  refine ⟨Has.newA w9 _ _, PJ (by omega) (by omega) (by omega) (Nat.le_refl _), Bh.mk' (bv := xb) (vv := xv) (ev := .slice none 0 0) ((hX7.below hb79 hX7.lt).alloc _) (by simp [xN]) ((Aj hxb9 (Nat.zero_le _)).alloc _) ?_ (World.ownsRow_nil _ _ _ _) (IL (by omega) hX7.lt) (fun k hk => IL (by have := (hxb7.lt k hk).1; omega) (hxb7.lt k hk).2) (fun k hk => IL (by have := (hxv7.lt k hk).1; omega) (hxv7.lt k hk).2) (nil5 w9 _),
   Bh.mk' (bv := yb) (vv := yv) (ev := .slice none 0 0) (hY9.alloc _) (by simp [xN]) ((Aj hyb9 (Nat.zero_le _)).alloc _) ?_ (World.ownsRow_nil _ _ _ _) (Ii (by omega) (by omega) hgy hY9.lt) (fun k hk => Ii (by have := (hyb9.lt k hk).1; omega) (by have := (hyb9.lt k hk).1; omega) (hyb9.lt k hk).1 (hyb9.lt k hk).2) (fun k hk => Ii (by have := (hyv9.lt k hk).1; omega) (by have := (hyv9.lt k hk).1; omega) (hyv9.lt k hk).1 (hyv9.lt k hk).2) (nil5 w9 _),
   ⟨lb, lv, .slice none 0 0, .slice none 0 0, [], ⟨Kp.refl _ _, .inl (IQ (by omega) hgl hL8.lt), fun k hk => .inl (IQ (by have := (hlb8.lt k hk).1; omega) (hlb8.lt k hk).1 (hlb8.lt k hk).2), fun k hk => .inl (IQ (by have := (hlv8.lt k hk).1; omega) (hlv8.lt k hk).1 (hlv8.lt k hk).2), nil5 w9 _, nil5 w9 _, fun i hi => (by cases hi), ⟨(hL8.below hb9 hL8.lt).alloc _, (Aj hlb9 (Nat.zero_le _)).alloc _⟩, ?_, World.ownsRow_nil _ _ _ _, fun i hi => (by cases hi), World.ownsRow_nil _ _ _ _⟩, RY _ _ _ _ _ _⟩,
   World.ownsRow_nil _ _ _ _, nil5 w9 _, fun j hj => by omega⟩
  ·rw [hxv]; exact (Aj hx9 (Nat.zero_le _)).alloc _
  ·rw [hxv]; exact (Aj hyv9 (Nat.zero_le _)).alloc _
  ·rw [hxv]; exact (Aj hlv9 (Nat.zero_le _)).alloc _
 have HEI := Hd hEI
 have HB9 := Hd hb9'
 clear hEI hA hBn hC hA3 hB3 hb ho hr fb fo fr hb1 hb2 hb3 hb2' hb3' hb4 hb4' hb5' hb6' hb7' hb8' hb9' hk5 hk6 hk7 hb8 hb9 hX4 hxb4 hxv4 hX7 hxb7 hxv7 hL8 hlb8 hlv8 hY9 hyb9 hyv9 hb79
 have hgc := QK HG.out
 go_wp2_with fail
 refine (IG (HEI.out (fun _ => (0, 0)) i) hgc (by omega) (by omega) (by omega) gx (Qq (HEI.out (fun _ => (0, 0)) i).X hgc)).mono ?_
 rintro e w10 ⟨rfl, lab5, hv5, hcs5, hI5, hL5, hK5⟩
 have HF : Hid (Below w.heap.size w w10) := by
  refine ⟨hK5.os.trans HB9.out.os, hK5.tape.trans HB9.out.tape, hK5.output.trans HB9.out.output, Nat.le_trans HB9.out.size (Nat.le_trans (by simp) hK5.size), fun k hk => ?_⟩
  have hk9 : k < w9.heap.size := Nat.lt_of_lt_of_le hk HB9.out.size
  rw [hK5.block k (by simp only [World.size_alloc]; omega) (by rw [KO hk]; exact fun e => hi e.symm), Below.heap_alloc _ _ _ hk9]
  exact HB9.out.block k hk
 have HM : Hid (MH w w10 (some ⟨w9.heap.size, 0, none⟩) i) := by
  refine .inr ⟨_, rfl, lab5, fun k hk => ?_, gx, gy, gl, hv5, 0 + 2, hcs5, 0 + 1000 + 1000, _, hI5, hgc, by omega, by omega, by omega⟩
  rw [hL5 k (by simp only [World.size_alloc]; omega)]
  exact KO hk
 clear hI5 hL5 hK5 HEI
 go_wp2
 go_ret2
 exact ⟨_, rfl, HF.out, HM.out⟩
theorem Lt {base : Nat} {e : TypeId} {size : Nat} {v : Value} {n : Nat} {xs : List Value} (h : w.ownsRow base e size v n xs) : AM.off v (fun k => w.heap.size <= k) := by
 intro a n c hv h0
 subst hv
 have := (h.lt a.block rfl).2
 omega
theorem Jh : (Tryz.prog.info? 37).map (fun i => (i.zero, i.size, i.bytes)) = some (some (.pointer none), 1, 8) := by kernel_rfl
def K8 (w w' : World) (i : Nat) (x x' : RowV) : Prop :=
 w.heap.size <= w'.heap.size ∧ (x' = x ∨ ∃ ge lab', x'.n = x.n + 1 ∧ x'.xs = x.xs ++ [.pointer (some ⟨ge, 0, none⟩)] ∧ (∀ k, k < w.heap.size -> lab' k = ((0, 0) : Nat × Nat)) ∧ (∀ k, x'.v.ownBlock = some k -> (lab' k).1 = 0) ∧ Ey w' lab' i ge 1)
theorem Ey.move {S : Nat -> Prop} {w' : World} {lab' : Nat -> Nat × Nat} {ge m : Nat} (h : Ey w lab i ge m) (k : Kp S w w') (hF : ∀ b, b < w.heap.size -> (lab b).1 = i -> ¬ S b ∧ lab' b = lab b) : Ey w' lab' i ge m := by
 obtain ⟨gx, gy, gl, hv, nh, hcs, mk, x, h1, h2⟩ := h
 exact ⟨gx, gy, gl, hv, nh, hcs, mk, x, h1.move k hF, h2⟩
theorem Jl (i : Nat) (hi : i ≠ 0) (base : Nat) (w0 : World) (gw : Nat) (vb vo vr : Value) (bs os rs : List Int) (t x : RowV) (l : Nat -> Obj -> Prop) (top mature fee : Int) (w : World) (hS : WSt base w0 w gw { v := vb, n := bs.length, xs := Ai bs } { v := vo, n := os.length, xs := Ai os } { v := vr, n := rs.length, xs := Ai rs } t x l)
  (l1 : bs.length <= 1048000) (l2 : os.length <= 1048000) (l3 : rs.length <= 1048000) (l4 : x.n <= 1000000) :
  Calls Tryz.prog 14 #[.pointer (some ⟨gw, 0, none⟩), .int .i64 top, .int .i64 mature, .int .i64 fee] w fun e w' => e = .returned (.bool true) ∧
   ∃ x' : RowV, K8 w w' i x x' ∧ WSt base w0 w' gw { v := vb, n := bs.length, xs := Ai bs } { v := vo, n := os.length, xs := Ai os } { v := vr, n := rs.length, xs := Ai rs } t x' l := by
 obtain ⟨i5, hi5, hz50, hz51, hz52⟩ := info_parts Jh
 have c0 : w.cell? ⟨gw, 0, none⟩ = some vb := hS.W.cell 0
 have c1 : w.cell? ⟨gw, 1, none⟩ = some vo := hS.W.cell 1
 have c2 : w.cell? ⟨gw, 2, none⟩ = some vr := hS.W.cell 2
 have HP : Hid (∀ n, Calls Tryz.prog 20 #[vb, vo, vr, .int .i64 top, .int .i64 mature, .int .i64 fee] (w.drewN n) fun e w' => ∃ p, e = .returned (.tuple #[.pointer p, .bool true]) ∧ Below w.heap.size w w' ∧ MH w w' p i) := fun n => by
  have hS' := hS.drewN n
  refine (Nf i hi vb vo vr bs os rs top mature fee (w.drewN n) (Rd.of_owns hS'.rb).ints (Rd.of_owns hS'.ro).ints (Rd.of_owns hS'.rr).ints (Lt hS'.rb) (Lt hS'.ro) (Lt hS'.rr) l1 l2 l3).mono ?_
  rintro e w' ⟨p, rfl, hb, hM⟩
  exact ⟨p, rfl, (below_drewN (Below.refl _ _) n).trans hb, hM⟩
 go_enter Tryz.func14, Tryz.ntmps14
 go_wp2_with fail
 go_cut [9, 10] (fun s9 s10 wx => ∃ p, s9 = .pointer p ∧ s10 = .bool true ∧ Below w.heap.size w wx ∧ MH w wx p i)
 case first =>
  go_region_with (go_at_call 20; refine (HP.out 1).mono ?_; rintro e w' ⟨p, rfl, hb, hM⟩)
  all_goals (go_wp2_with fail; go_meet; exact ⟨_, rfl, rfl, hb, hM⟩)
 case rest =>
  obtain ⟨p, rfl, rfl, hb, hM⟩ := hcut
  clear HP c0 c1 c2
  have hS2 := hS.below hb
  have c4 : wc.cell? ⟨gw, 4, none⟩ = some x.v := hS2.W.cell 4
  cases p with
  | none =>
   clear hM
   have HZ := Hd hb.size
   have HS := Hd hS2
   clear hS hS2
   go_wp2
   go_ret
   exact ⟨rfl, x, ⟨HZ.out, .inl rfl⟩, HS.out⟩
  | some q =>
   have g1 := hS2.W.lt
   obtain ⟨ge, hq, lab', hl0, hEI⟩ : ∃ ge, some q = some ⟨ge, 0, none⟩ ∧ ∃ lab', (∀ k, k < w.heap.size -> lab' k = ((0, 0) : Nat × Nat)) ∧ Ey wc lab' i ge 1 := by
    rcases hM with h | h
    ·cases h
    ·exact h
   simp only [Option.some.injEq] at hq
   subst hq
   go_wp2_with (at_builtin; go_loud (refine Ak rfl (.tmp 36) (.tmp 38) 31 rfl 37 i5 _ 1 8 Tryz.underlying31 hi5 hz50 hz51 hz52 rfl (by decide) base x.v x.n x.xs rfl (hS2.alloc _).rx (hS2.alloc _).hsz ⟨_, 0, none⟩ 1 1 [.pointer (some ⟨ge, 0, none⟩)] rfl (by rfl) (Ap _ [.pointer (some ⟨ge, 0, none⟩)] _ _ rfl) (by simp [Value.oneCell']) (by decide) (by simp [maxLen]; omega) (by omega) ?_))
   intro g5 cap5 v5 hown5 hgrow5 hor5 hold5
   obtain ⟨hW5, hS5⟩ := (hS2.alloc _).pushX hgrow5 hown5 (by rw [World.size_alloc]; exact hor5)
   have c4' : v5.cell? ⟨gw, 4, none⟩ = some x.v := hW5.cell 4
   have f4' := hW5.frozen 4
   have HS : Hid _ := hS5
   have hgw := hS.W.lt
   have HE : Hid (∀ u, Ey (v5.setCell ⟨gw, 4, none⟩ u) (Cu lab' wc.heap.size (0, 0)) i ge 1) := fun u => by
    refine hEI.move (((((Kp.refl (fun k => k = gw ∨ some k = x.v.ownBlock) wc).alloc _).trans ((C7 hgrow5).mono (fun k _ h => .inr h))).setCell (p := ⟨gw, 4, none⟩) (.inl rfl) u)) (fun b hb' hl => ⟨?_, A0 hb'⟩)
    rintro (h | h)
    ·subst h; rw [hl0 b hgw] at hl; exact hi hl.symm
    ·rw [hl0 b (hS.rx.lt b h.symm).2] at hl; exact hi hl.symm
   have hsz := hb.size
   have HZ : Hid (∀ u, w.heap.size <= (v5.setCell ⟨gw, 4, none⟩ u).heap.size) := fun u => by
    have h1 := hgrow5.size
    simp only [World.size_alloc] at h1
    rw [Ci]; omega
   have Hl0 : Hid (∀ k, k < w.heap.size -> Cu lab' wc.heap.size (0, 0) k = ((0, 0) : Nat × Nat)) := fun k hk => (A0 (by omega)).trans (hl0 k hk)
   have HR : Hid (∀ m c k, (Value.slice (some ⟨g5, 0, none⟩) m c).ownBlock = some k -> (Cu lab' wc.heap.size (0, 0) k).1 = 0) := fun m c k hk => by
    have e0 : g5 = k := by simpa [Value.ownBlock] using hk
    subst e0
    rcases hor5 with h | h
    ·have h1 := (hS.rx.lt g5 h).2
     rw [A0 (by omega), hl0 g5 h1]
    ·rw [B4 (by first | omega | (simp only [World.size_alloc] at h; omega))]
   clear hS hS2 hS5 hown5 hgrow5 hold5 hW5 hEI hl0 hM
   go_wp2
   go_ret
   exact ⟨rfl, _, ⟨HZ.out _, .inr ⟨ge, Cu lab' wc.heap.size (0, 0), rfl, rfl, Hl0.out, HR.out _ _, HE.out _⟩⟩, HS.out⟩
end Go.Proofs.YtohjjgefklhmaaaGreatDoor
