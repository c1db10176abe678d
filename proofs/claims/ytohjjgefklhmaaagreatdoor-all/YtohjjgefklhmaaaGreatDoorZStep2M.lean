import Derived.Test.YtohjjgefklhmaaaGreatDoorZImpM
import Derived.ShutString
import Derived.ChangeOld
import Derived.Below
import Derived.Deep.Slices
import Derived.SizedLaws
namespace Go.Proofs.YtohjjgefklhmaaaGreatDoor
open Go.ChangeShapes Go.WideShapes Go.ChangeAt Go.RowKit
set_option linter.unusedVariables false
set_option maxHeartbeats 40000000
set_option maxRecDepth 100000
variable {base gw n : Nat} {w0 w W : World} {H : Type} {spare : Nat -> Bool} {held : Bool}
theorem SE.up {m : Nat} {x : RowV} {es : List Nat} {lab : Nat -> Nat × Nat} (h : Da base w0 w gw n x (KL lab w) (TxQ w lab)) (hn : x.n = es.length) (hx : x.xs = Ld es) (hl : es.length <= n) (hb : ∀ k, k < base -> (lab k).1 = 0) (hE : ∀ i (h : i < es.length), Ey w lab (i + 1) es[i] n) (hm : n <= m) : SE base w0 w gw m :=
 ⟨x, es, lab, h.mono hm, hn, hx, by omega, hb, fun i hi => (hE i hi).mono hm⟩
theorem P1 (Bt base : Nat) (w0 : World) (gw n : Nat) (o : OpD) (w : World) (hIt : BU Bt w0) (hBb : Bt <= base) (hS : SE base w0 w gw n) (hn : n <= 40000) (ho : o.ok) (hs : o.s.size <= 16384) (hk : o.kind <= 22) :
  Calls Tryz.prog 12 #[.pointer (some ⟨gw, 0, none⟩), .agg #[.int .i64 o.kind, .int .i64 o.x, .int .i64 o.a, .int .i64 o.b, .int .i64 o.c, .int .i64 o.d, .string o.s]] w fun e w' => e = .returned (.bool true) ∧ SE base w0 w' gw (n + 2) := by
 obtain ⟨x, es, lab, hI, hxn, hxx, hel, hb0, hEE⟩ := hS
 have HS1 : Hid (Da base w0 (w.alloc (.cells #[.int .i64 o.kind, .int .i64 o.x, .int .i64 o.a, .int .i64 o.b, .int .i64 o.c, .int .i64 o.d, .string o.s] 27)) gw n x (fun g ob => KL lab w g ob ∨ (g = w.heap.size ∧ ob = .cells #[.int .i64 o.kind, .int .i64 o.x, .int .i64 o.a, .int .i64 o.b, .int .i64 o.c, .int .i64 o.d, .string o.s] 27)) (TxQ w lab)) := hI.box _
 have HIt := Hd hIt
 have HO := Hd ho
 have HI0 := Hd hI
 have Hb0 := Hd hb0
 have HE0 := Hd hEE
 have Hxx := Hd hxx
 have HXN := Hd hxn
 have hxle : x.n <= 40000 := by omega
 clear hI ho hb0 hEE hxx hxn hIt
 obtain ⟨kind, X, A, B, C, D, s⟩ := o
 simp only at hs hk HS1
 go_enter Tryz.func12, Tryz.ntmps12
 go_wp2_with fail
 refine (Nt base w0 gw n x _ (TxQ w lab) (fun _ => .inl rfl) ⟨kind, X, A, B, C, D, s⟩ _ HS1.out (by omega) HO.out hs).mono ?_
 rintro e w2 ⟨⟨b, rfl, hb⟩, hS2⟩
 simp only at hb
 have hX : Has w2 w.heap.size 27 [.int .i64 kind, .int .i64 X, .int .i64 A, .int .i64 B, .int .i64 C, .int .i64 D, .string s] := hS2.rl (.inr ⟨rfl, rfl⟩)
 obtain ⟨hI2, hb2, hE2, hz2⟩ := SE.owned HI0.out Hb0.out HE0.out hS2
 clear hS2 HI0 Hb0 HE0 HS1
 generalize Cu lab w.heap.size (0, 0) = lab2 at hI2 hb2 hE2
 have Hb2 := Hd hb2
 have HE2 := Hd hE2
 have HI2 := Hd hI2
 have HU : Hid (SE base w0 w2 gw (n + 2)) := SE.up hI2 HXN.out Hxx.out (by omega) hb2 (fun i hi => (hE2 i hi).mono (by omega)) (by omega)
 clear hb2 hE2 hz2
 cases b with
 | true =>
  clear hI2 hb hX
  go_wp2
  go_ret
  exact ⟨rfl, HU.out⟩
 | false =>
  have hb' : ¬ (1 <= kind ∧ kind <= 6) := fun h => by have := hb.2 h; cases this
  have y0 : w2.cell? ⟨w.heap.size, 0, none⟩ = some (.int .i64 kind) := hX.cell 0
  have y1 : w2.cell? ⟨w.heap.size, 1, none⟩ = some (.int .i64 X) := hX.cell 1
  have y2 : w2.cell? ⟨w.heap.size, 2, none⟩ = some (.int .i64 A) := hX.cell 2
  have y3 : w2.cell? ⟨w.heap.size, 3, none⟩ = some (.int .i64 B) := hX.cell 3
  have y4 : w2.cell? ⟨w.heap.size, 4, none⟩ = some (.int .i64 C) := hX.cell 4
  have y5 : w2.cell? ⟨w.heap.size, 5, none⟩ = some (.int .i64 D) := hX.cell 5
  have y6 : w2.cell? ⟨w.heap.size, 6, none⟩ = some (.string s) := hX.cell 6
  clear hb hX
  obtain ⟨vb, vo, vr, tv, bs, os, rs, ts, h1, h2, h3, h4, h6, h7⟩ := hI2
  have H6 := Hd h6
  have H7 := Hd h7
  clear h6
  by_cases k7 : kind = 7
  ·subst k7
   clear hk hb' h7
   go_wp2_with fail
   refine (Jl (es.length + 1) (by omega) base w0 gw vb vo vr bs os rs _ x _ A B C _ H7.out (by omega) (by omega) (by omega) (by omega)).mono ?_
   rintro e w3 ⟨rfl, x', hx', hW⟩
   have HF : Hid (SE base w0 w3 gw (n + 2)) := SE.freshed H7.out hW h1 h2 h3 h4 H6.out HXN.out Hxx.out hel Hb2.out HE2.out hx'
   clear hW H7 H6 y0 y1 y2 y3 y4 y5 y6 HI2 HU
   go_wp2
   go_ret
   exact ⟨rfl, HF.out⟩
  by_cases k8 : kind = 8
  ·subst k8
   clear hk hb' k7 h7
   go_wp2_with fail
   refine (Jl (es.length + 1) (by omega) base w0 gw vb vo vr bs os rs _ x _ A B 0 _ H7.out (by omega) (by omega) (by omega) (by omega)).mono ?_
   rintro e w3 ⟨rfl, x', hx', hW⟩
   have HF : Hid (SE base w0 w3 gw (n + 2)) := SE.freshed H7.out hW h1 h2 h3 h4 H6.out HXN.out Hxx.out hel Hb2.out HE2.out hx'
   clear hW H7 H6 y0 y1 y2 y3 y4 y5 y6 HI2 HU
   go_wp2
   go_ret
   exact ⟨rfl, HF.out⟩
  by_cases k21 : kind = 21
  ·subst k21
   have hrA := HO.out.2.2.1
   simp only at hrA
   clear hk hb' k7 k8 h7
   go_wp2_with fail
   refine (JV Bt (HIt.out.on (HI2.out.fr.mono hBb)) (Nat.le_trans hBb H7.out.hsz) (es.length + 1) (by omega) base w0 gw _ _ _ x tv ts A H7.out (by omega) H6.out (by omega) hrA.1 hrA.2).mono ?_
   rintro e w3 ⟨rfl, x', hx', hW⟩
   have HF : Hid (SE base w0 w3 gw (n + 2)) := SE.freshed H7.out hW h1 h2 h3 h4 H6.out HXN.out Hxx.out hel Hb2.out HE2.out hx'
   clear hW H7 H6 y0 y1 y2 y3 y4 y5 y6 HI2 HU
   go_wp2
   go_ret
   exact ⟨rfl, HF.out⟩
  have e7 : (kind == 7) = false := beq_eq_false_iff_ne.2 k7
  have e8 : (kind == 8) = false := beq_eq_false_iff_ne.2 k8
  have e21 : (kind == 21) = false := beq_eq_false_iff_ne.2 (by omega)
  obtain ⟨xa, xc, hxv⟩ := Ac h7.rx
  have c4 : w2.cell? ⟨gw, 4, none⟩ = some (.slice xa x.n xc) := by rw [<- hxv]; exact h7.W.cell 4
  by_cases hx0 : x.n = 0
  ·have ex : ((x.n : Int) == 0) = true := by rw [beq_iff_eq]; omega
   clear hx0 h7 hxv H7 H6
   go_wp2
   go_ret
   exact ⟨rfl, HU.out⟩
  have ex : ((x.n : Int) == 0) = false := by rw [beq_eq_false_iff_ne]; omega
  by_cases hk0 : kind <= 0
  ·clear k7 k8 hk hb' h7 hxv H7 H6 hx0
   go_wp2
   go_ret
   exact ⟨rfl, HU.out⟩
  have hk9 : 9 <= kind := by omega
  have hk22 : kind <= 22 := by omega
  have hkk : kind = 20 ∨ 9 <= kind ∧ (kind <= 19 ∨ kind = 22) := by omega
  have HKK := Hd hkk
  clear hkk
  have hxp : 1 <= (x.n : Int) := by omega
  obtain ⟨r1, r2⟩ := D9 X x.n hxp
  obtain ⟨j, hj⟩ := Int.eq_ofNat_of_zero_le r1
  have hjx : j < x.n := by omega
  have hje : j < es.length := by have := HXN.out; omega
  obtain ⟨gr, hgr, _⟩ := Ag (hxv ▸ h7.rx) (by omega)
  subst hgr
  have cx : w2.cell? ⟨gr, j, none⟩ = some (.pointer (some ⟨es[j], 0, none⟩)) := by
   have := (hxv ▸ h7.rx : w2.ownsRow base _ 1 (.slice (some ⟨gr, 0, none⟩) x.n xc) x.n x.xs).cellAt j (by omega)
   rw [this, Hxx.out]
   simp [Ld, hje]
  have HJ := Hd hj
  have HD : Hid (kind ≠ 20 -> ∀ m, Calls Tryz.prog 18 #[.pointer (some ⟨es[j], 0, none⟩), .agg #[.int .i64 kind, .int .i64 X, .int .i64 A, .int .i64 B, .int .i64 C, .int .i64 D, .string s]] (w2.drewN m) fun e w' => e = .returned (.bool true) ∧ SE base w0 w' gw (n + 2)) := fun hne m => by
   have hkk := HKK.out
   refine (Sk ⟨kind, X, A, B, C, D, s⟩ Bt (HIt.out.on ((below_drewN HI2.out.fr m).mono hBb)) (Nat.le_trans hBb H7.out.hsz) (fun k hk => Hb2.out k (by omega)) ((HE2.out j hje).move ((Kp.refl (fun _ => False) w2).drewN m) (fun b _ _ => ⟨fun h => h, rfl⟩)) (by omega) (by omega) (by simp only; omega) (by simp only; omega)).mono ?_
   rintro e w3 ⟨rfl, lab3, q1, q2, q3⟩
   exact ⟨rfl, SE.done H7.out h1 h2 h3 (by omega) H6.out HXN.out Hxx.out hel Hb2.out HE2.out (by omega) j hje (((Kp.refl _ w2).drewN m).trans q3) q2 (q1.mono (by omega))⟩
  have HE : Hid (∀ m, Calls Tryz.prog 17 #[.pointer (some ⟨gw, 0, none⟩), .pointer (some ⟨es[j], 0, none⟩)] (w2.drewN m) fun e w' => e = .returned (.bool true) ∧ SE base w0 w' gw (n + 2)) := fun m => by
   obtain ⟨gx, gy, gl, hv, nh, hcs, mk, z, e1, e2, e6, e7', e8'⟩ := (HE2.out j hje).move ((Kp.refl (fun _ => False) w2).drewN m) (fun b _ _ => ⟨fun h => h, rfl⟩)
   have hbs := H7.out.hsz
   refine (J3 Bt (HIt.out.on ((below_drewN HI2.out.fr m).mono hBb)) (Nat.le_trans hBb hbs) e1 e2 e6 (by omega) (by omega) (by omega) base w0 gw _ _ _ x tv ts (H7.out.drewN m) (by omega) (H6.out.move ((Kp.refl (fun _ => False) w2).drewN m) (fun b _ _ => ⟨fun h => h, rfl⟩))).mono ?_
   rintro e w3 ⟨rfl, w4, lab4, tv4, ts4, t1, t2, t3, t4, t5, t6⟩
   obtain ⟨lab5, q1, q2, q3⟩ := t6.inv e6 e7' e8'
   refine ⟨rfl, SE.done t2 h1 h2 h3 (by omega) t3 HXN.out Hxx.out hel (fun k hk => ?_) (fun i hi => ?_) (by omega) j hje q3 q2 (q1.mono (by omega))⟩
   ·have e3 : lab4 k = lab2 k := t4 k (show k < w2.heap.size by omega)
    rw [e3]; exact Hb2.out k hk
   ·refine (HE2.out i hi).move (((Kp.refl (fun k => (lab2 k).1 = 0) w2).drewN m).trans t5) (fun b hb hl => ⟨fun e => by rw [e] at hl; omega, t4 b hb⟩)
  have hX1 := HO.out.2.1.1
  have hX2 := HO.out.2.1.2
  simp only at hX1 hX2
  have hxm : (x.n : Int) <= 9223372036854775807 := by omega
  clear k7 k8 k21 hk hb' h7 hxv H7 H6 hx0 HU HI2 HE2 Hb2 hj r1 r2 hk0
  go_wp2_with fail
  generalize es[j] = ge at *
  go_cut [6] (fun s6 wx => s6 = .pointer (some ⟨ge, 0, none⟩) ∧ ∃ m, wx = w2.drewN m)
  case first =>
   go_region_with (go_at_call 16; refine (Gp _ _ _ hX1 hX2 hxp hxm).mono ?_; rintro e w' ⟨rfl, rfl⟩; rw [HJ.out])
   all_goals (go_wp2_with fail; go_meet; exact ⟨rfl, 1, rfl⟩)
  case rest =>
   obtain ⟨rfl, m, rfl⟩ := hcut
   by_cases k20 : kind = 20
   ·have e20 : (kind == 20) = true := by simp [k20]
    clear HD k20 HKK
    go_wp2_with fail
    refine (HE.out m).mono ?_
    rintro e w3 ⟨rfl, hF⟩
    have HF := Hd hF
    clear hF HE
    go_wp2
    go_ret
    exact ⟨rfl, HF.out⟩
   ·have e20 : (kind == 20) = false := by simp [k20]
    clear HE HKK
    go_wp2_with fail
    refine (HD.out k20 m).mono ?_
    rintro e w3 ⟨rfl, hF⟩
    have HF := Hd hF
    clear hF HD
    go_wp2
    go_ret
    exact ⟨rfl, HF.out⟩
theorem SE.fr (h : SE base w0 w gw n) : Below base w0 w := by
 obtain ⟨x, es, lab, h1, _⟩ := h
 exact h1.fr
theorem Ql (B : Nat) (W0 : World) (hI : BU B W0) (hB0 : B <= W0.heap.size) : Fe B W0 [7, 8, 9, 10, 11, 12, 13, 14, 15, 16, 17, 18, 19, 20, 21, 22] := by
 intro w lv lo hBw hown hlen hall
 have HIt : Hid (BU B w ∧ B <= w.heap.size) := ⟨hI.on hBw, Nat.le_trans hB0 hBw.size⟩
 clear hI hB0 hBw
 obtain ⟨la, lc, rfl⟩ := Ac hown
 have HALL := Hd hall
 clear hall
 have HS0 : Hid (SE w.heap.size w (w.alloc (.cells #[.slice none 0 0, .slice none 0 0, .slice none 0 0, .slice none 0 0, .slice none 0 0] 33)) w.heap.size (2 * 0)) := by
  refine ⟨RowV.nil, [], fun _ => (0, 0), ⟨.slice none 0 0, .slice none 0 0, .slice none 0 0, .slice none 0 0, [], [], [], [], Nat.le_refl _, Nat.le_refl _, Nat.le_refl _, Nat.le_refl _, fun k h => by simp at h, ?_⟩, rfl, rfl, Nat.le_refl _, fun _ _ => rfl, fun i h => by simp at h⟩
  exact ⟨(Below.refl _ _).alloc (Nat.le_refl _) _, Nat.le_refl _, Has.newA w _ _, Df.nil _, Df.nil _, Df.nil _, World.ownsRow_nil _ _ _ _, World.ownsRow_nil _ _ _ _, World.ownsRow_nil _ _ _ _, World.ownsRow_nil _ _ _ _, World.ownsRow_nil _ _ _ _, fun g ob h => absurd rfl h.1⟩
 have HC : Hid (0 < lo.length -> ∃ g, la = some ⟨g, 0, none⟩ ∧ ∃ L, Has w g 27 L ∧ ∀ j, j < lo.length * 7 -> L[j]? = (Ex lo)[j]?) := by
  intro h0
  rcases hown.2 with ⟨_, h1⟩ | ⟨g, cap, cur, h1, h2, h3, h4, h5, h6, h7⟩
  ·omega
  ·simp only [Value.slice.injEq, true_and] at h1
   refine ⟨g, h1.1, cur.toList, by unfold Has; rw [Array.toArray_toList]; exact h3, fun j hj => ?_⟩
   rw [<- h7, List.getElem?_take, if_pos hj]
 clear hown
 go_enter Tryz.func11, Tryz.ntmps11
 go_wp2
 go_loopw [4] (fun i wr => ∃ k : Nat, k <= lo.length ∧ i = .int .i64 k ∧ SE w.heap.size w wr w.heap.size (2 * k)) (fun i _ => lo.length - (intOf i).toNat)
 case atStart => exact ⟨0, Nat.zero_le _, rfl, HS0.out⟩
 case round =>
  clear HS0
  obtain ⟨k, hk, rfl, hS⟩ := hrel
  by_cases hlt : k < lo.length
  ·obtain ⟨g, rfl, L, hL, hLc⟩ := HC.out (by omega)
   have hL2 := hL.below hS.fr hL.lt
   have z : ∀ i, i < 7 -> wr.cell? ⟨g, k * 7 + i, none⟩ = lo[k].cells[i]? := fun i hi => by rw [hL2.cell, hLc _ (by omega), PY lo k hlt i hi]
   have z0 := z 0 (by omega)
   have z1 := z 1 (by omega)
   have z2 := z 2 (by omega)
   have z3 := z 3 (by omega)
   have z4 := z 4 (by omega)
   have z5 := z 5 (by omega)
   have z6 := z 6 (by omega)
   have hal := HALL.out k hlt
   generalize lo[k] = o at *
   simp only [OpD.cells, List.getElem?_cons_succ, List.getElem?_cons_zero, Nat.add_zero] at z0 z1 z2 z3 z4 z5 z6
   have HO := Hd hal
   have HS := Hd hS
   clear z hL2 hLc hL hal hS
   go_wp2_with fail
   refine (P1 B w.heap.size w w.heap.size (2 * k) o _ HIt.out.1 HIt.out.2 HS.out (by omega) HO.out.2.1 HO.out.2.2 (by
    rcases HO.out.1 with h | h
    ·omega
    ·simp at h; omega)).mono ?_
   rintro e w2 ⟨rfl, hS2⟩
   have HS2 := Hd hS2
   clear hS2 HS HO z0 z1 z2 z3 z4 z5 z6
   go_wp2
   refine And.intro ?_ ?_
   ·first | exact ⟨k + 1, by omega, by go_num, HS2.out⟩ | ((repeat apply Exists.intro); exact ⟨⟨k + 1, by omega, by go_num, HS2.out⟩, rfl⟩)
   ·simp [intOf]; omega
  ·have HF := Hd hS.fr
   clear hS
   go_wp2
   go_ret
   exact ⟨rfl, HF.out⟩
theorem Ll {B : Nat} {W0 : World} {ks ks' : List Int} (h : Fe B W0 ks) (hs : ∀ k, k ∈ ks' -> k ∈ ks) : Fe B W0 ks' := fun w lv lo h0 h1 h2 h3 => h w lv lo h0 h1 h2 (fun k hk => ⟨(h3 k hk).1.imp_right (hs _), (h3 k hk).2⟩)
theorem own0 : ownKnob Tryz.prog.godebug = none := by kernel_rfl
theorem Qn : laidOutB Tryz.prog = true := by kernel_rfl
theorem KI : Tryz.prog.cellsOf 27 = 7 := by kernel_rfl
theorem NX : Tryz.prog.cellsOf 3 = 1 := by kernel_rfl
theorem N5 : Tryz.prog.cellsOf 9 = 1 := by kernel_rfl
theorem SL {α : Type} (l : List α) (h : l.length = 7) : ∃ a b c d e f g, l = [a, b, c, d, e, f, g] := by
 match l, h with
 | [a, b, c, d, e, f, g], _ => exact ⟨a, b, c, d, e, f, g, rfl⟩
theorem Er {enc : TypeId × Value -> H} {c : Value} {x : DataW H × List MemPlace} (h : DataW.trod enc Tryz.prog W base spare held n 3 [c] = some x) : ∃ k, c = .int .i64 k ∧ Iq k := by
 obtain ⟨k, hc, _, hw⟩ := DataW.trod_int Tryz.underlying3 h
 refine ⟨k, by simpa using hc, ?_⟩
 have hx : -9223372036854775808 <= k ∧ k <= 9223372036854775807 := by simpa [Lit.wf, IntKind.min, IntKind.max, IntKind.signed, IntKind.bits] using hw
 exact hx
theorem QT {enc : TypeId × Value -> H} {cs : List Value} {x : DataW H × List MemPlace} (h : DataW.trod enc Tryz.prog W base spare held n 27 cs = some x) :
  ∃ (o : OpD) (d0 d1 d2 d3 d4 d5 : DataW H), cs = o.cells ∧ o.ok ∧ x.1 = .agg [d0, d1, d2, d3, d4, d5, .lit (.string o.s.data.toList)] := by
 obtain ⟨xs, m, rfl, rfl, hl, hlen, hf⟩ := DataW.trod_struct Tryz.underlying27 h
 rw [KI] at hl
 obtain ⟨c0, c1, c2, c3, c4, c5, c6, rfl⟩ := SL cs hl
 obtain ⟨x0, x1, x2, x3, x4, x5, x6, rfl⟩ := SL xs hlen
 have f0 := hf 0 _ rfl
 have f1 := hf 1 _ rfl
 have f2 := hf 2 _ rfl
 have f3 := hf 3 _ rfl
 have f4 := hf 4 _ rfl
 have f5 := hf 5 _ rfl
 have f6 := hf 6 _ rfl
 simp [NX, N5] at f0 f1 f2 f3 f4 f5 f6
 obtain ⟨k0, rfl, w0⟩ := Er f0
 obtain ⟨k1, rfl, w1⟩ := Er f1
 obtain ⟨k2, rfl, w2⟩ := Er f2
 obtain ⟨k3, rfl, w3⟩ := Er f3
 obtain ⟨k4, rfl, w4⟩ := Er f4
 obtain ⟨k5, rfl, w5⟩ := Er f5
 obtain ⟨s, hc, hx6, hs⟩ := DataW.trod_string Tryz.underlying9 f6
 simp at hc
 subst hc
 exact ⟨⟨k0, k1, k2, k3, k4, k5, s⟩, x0.1, x1.1, x2.1, x3.1, x4.1, x5.1, rfl, ⟨w0, w1, w2, w3, w4, w5⟩, by simp [hx6]⟩
theorem GT {P : Program} {e : TypeId} {d : DataW H} : ∀ {l : List (DataW H)}, d ∈ l -> ∀ n, n ∈ d.weights P e -> n ∈ DataW.weightsAll P e l
 | x :: l, h, n, hn => by
  simp only [DataW.weightsAll, List.mem_append]
  rcases List.mem_cons.1 h with rfl | h
  ·exact .inl hn
  ·exact .inr (GT h n hn)
 | [], h, _, _ => by cases h
theorem NY (d0 d1 d2 d3 d4 d5 : DataW H) (l : List UInt8) : l.length ∈ (DataW.agg [d0, d1, d2, d3, d4, d5, .lit (.string l)]).weights Tryz.prog 27 := by
 simp only [DataW.weights, Tryz.underlying27]
 simp [DataW.weightsEach, DataW.weights]
theorem K3 {enc : TypeId × Value -> H} {v : Value} {d : DataW H} {ps : List MemPlace} (h : DataW.Trod enc Tryz.prog W 0 (fun _ => true) true 22 v d ps) (hz : ∀ n, n ∈ d.weights Tryz.prog 22 -> n <= reachBytes)
  (hsl : ∃ a n c, v = .slice a n c) :
  ∃ ops, JY W v ops ∧ (∀ k (h : k < ops.length), ops[k].ok) ∧ ops.length <= 9000000000000000 ∧ ∀ k (h : k < ops.length), ops[k].s.size <= 9000000000000000 := by
 obtain ⟨a0, n0, c0, rfl⟩ := hsl
 obtain ⟨fuel, hf⟩ := h
 rcases Deep.open_slice Tryz.underlying22 hf with ⟨hcs, _⟩ | ⟨a, len, cap, m, n, D, Pl, hcs, _, hl, hm, hmm, hx, hel⟩
 ·simp [Value.cells] at hcs
  obtain ⟨rfl, rfl, rfl⟩ := hcs
  exact ⟨[], ⟨none, 0, rfl, fun h => by simp at h⟩, fun k h => by simp at h, by simp, fun k h => by simp at h⟩
 ·simp [Value.cells] at hcs
  obtain ⟨rfl, rfl, rfl⟩ := hcs
  simp only [if_true] at hmm
  subst hmm
  have hd : d = .slice ((List.range n0).map D) ((List.range (m - n0)).map fun j => D (n0 + j)) := congrArg Prod.fst hx
  have hw : ∀ k, k ∈ (DataW.slice ((List.range n0).map D) ((List.range (m - n0)).map fun j => D (n0 + j))).weights Tryz.prog 22 -> k <= reachBytes := by rw [<- hd]; exact hz
  have hel2 : ∀ i, i < n0 -> ∃ o : OpD, (∀ j, j < 7 -> W.cell? (a.add (i * 7 + j)) = o.cells[j]?) ∧ o.ok ∧ o.s.size <= reachBytes := by
   intro i hi
   obtain ⟨cs', hc1, hc2⟩ := hel i (by omega)
   rw [KI] at hc1
   obtain ⟨_, _, hcell⟩ := World.cells?_some hc1
   obtain ⟨o, d0, d1, d2, d3, d4, d5, rfl, hok, hdat⟩ := QT hc2
   refine ⟨o, fun j hj => ?_, hok, ?_⟩
   ·rw [<- hcell j hj, Deep.add_add]
   ·have h1 := hw o.s.data.toList.length (by
     simp only [DataW.weights, Tryz.underlying22]
     refine List.mem_cons_of_mem _ (List.mem_append_left _ (GT (d := D i) (List.mem_map.2 ⟨i, List.mem_range.2 hi, rfl⟩) _ ?_))
     rw [show D i = _ from hdat]
     exact NY _ _ _ _ _ _ _)
    simpa using h1
  obtain ⟨f, hfo⟩ := @Deep.choose_lt OpD ⟨⟨0, 0, 0, 0, 0, 0, .empty⟩⟩ n0 _ hel2
  have hrb : reachBytes <= 140737488355328 := by decide
  refine ⟨(List.range n0).map f, ⟨some a, m, by simp, fun h0 => ?_⟩, fun k h => ?_, ?_, fun k h => ?_⟩
  ·have h00 : 0 < n0 := by simpa using h0
   obtain ⟨b, off, spot⟩ := a
   have hsp : spot = none := by
    have h1 := (hfo 0 h00).1 0 (by omega)
    have h2 : W.cell? ((⟨b, off, spot⟩ : Addr).add (0 * 7 + 0)) = some (.int .i64 (f 0).kind) := h1
    simpa [Addr.add] using World.cell?_spot h2
   subst hsp
   refine ⟨b, off, rfl, fun k hk i hi => ?_⟩
   have hk' : k < n0 := by simpa using hk
   have h1 := (hfo k hk').1 i hi
   rw [Addr.add_lit] at h1
   rw [Nat.add_assoc, h1]
   simp
  ·have hk' : k < n0 := by simpa using h
   simpa using (hfo k hk').2.1
  ·have h1 := hw ((((List.range n0).map D).length + ((List.range (m - n0)).map fun j => D (n0 + j)).length) * Tryz.prog.bytesOf 27) (by simp only [DataW.weights, Tryz.underlying22]; exact List.mem_cons_self)
   have hb : Tryz.prog.bytesOf 27 = 64 := by kernel_rfl
   rw [hb] at h1
   simp at h1 ⊢
   omega
  ·have hk' : k < n0 := by simpa using h
   have h1 := (hfo k hk').2.2
   simp
   omega
end Go.Proofs.YtohjjgefklhmaaaGreatDoor
