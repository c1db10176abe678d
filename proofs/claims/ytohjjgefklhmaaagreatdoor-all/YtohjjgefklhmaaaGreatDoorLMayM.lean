import Derived.Test.YtohjjgefklhmaaaGreatDoorLAtM
import Derived.StillTailTactics
namespace Go.Proofs.YtohjjgefklhmaaaGreatDoor
open Go.ChangeShapes Go.WideShapes Go.ChangeAt Go.RowKit
set_option linter.unusedVariables false
set_option linter.unusedSimpArgs false
set_option maxHeartbeats 40000000
set_option maxRecDepth 100000
variable {B : Nat} {w W0 : World} {v : Value} {l : List Int} {F0 : Nat -> Prop} {c : LC} {vals : List VS} {ds : List (DA × Value)} {who : Int}
def ud (sh : Int) (l : List PS) : Int × Int := l.foldl (fun p o => (p.1 * o.shares + o.of * sh * p.2, p.2 * o.shares)) (0, 1)
theorem QF (sh : Int) (l : List PS) (k : Nat) (h : k < l.length) : ud sh (l.take (k + 1)) = ((ud sh (l.take k)).1 * l[k].shares + l[k].of * sh * (ud sh (l.take k)).2, (ud sh (l.take k)).2 * l[k].shares) := by
 unfold ud; rw [Cv _ _ l k h]
def LA (sh : Int) (l : List PS) (w : Int) : Bool := !decide ((ud sh l).1 < w * (ud sh l).2) && decide ((ud sh l).1 < (w + 2) * (ud sh l).2)
def PB (l : List PS) : Prop := ∀ k (h : k < l.length), 0 <= l[k].of ∧ l[k].of <= 1000000000 ∧ 0 <= l[k].shares ∧ l[k].shares <= 1000000000
theorem Big.sl (h : Big B w v l) : AM w v l := (Rd.of_owns h.row).ints
theorem Big.below {w' : World} (h : Big B w v l) (hb : Below w.heap.size w w') : Big B w' v l := ⟨Ar h.row hb (Nat.le_refl _), h.dg, h.nm⟩
theorem Big.base {B' : Nat} (h : Big B w v l) (hb : B' <= B) : Big B' w v l := ⟨Aj h.row hb, h.dg, h.nm⟩
theorem Big.drewN (h : Big B w v l) (n : Nat) : Big B (w.drewN n) v l := ⟨h.row, h.dg, h.nm⟩
theorem QI (pl : Value) (who val sh : Int) (pv : Value) (parts : List PS) (q : Int) (w : World) (hp : Rd w pv parts.length 2 (Dh parts)) (hb : PB parts) (hl : parts.length <= 1000) (s0 : 0 <= sh) (s1 : sh <= 1000000000) (q0 : 0 <= q) (q1 : q <= 1000000000) :
  Calls Tryz.prog 52 #[pl, .agg #[.int .i64 who, .int .i64 val, .int .i64 sh, pv], .int .i64 q] w fun e w' => e = .returned (.bool (LA sh parts q)) ∧ Below w.heap.size w w' := by
 obtain ⟨pa, pc, rfl⟩ := hp.form
 have HP := Hd hp
 have HA : Hid (∀ o, Below w.heap.size w (w.alloc o)) := fun o => (Below.refl _ _).alloc (Nat.le_refl _) o
 have HX : Hid (Has (w.alloc (.cells #[.int .i64 who, .int .i64 val, .int .i64 sh, .slice pa parts.length pc] 84)) w.heap.size 84 [.int .i64 who, .int .i64 val, .int .i64 sh, .slice pa parts.length pc]) := Has.newA w _ _
 clear hp
 go_enter Tryz.func52, Tryz.ntmps52
 go_wp2_with fail
 refine (Fi 0 _ (by omega) (by omega)).mono ?_
 rintro e w1 ⟨v1, l1, rfl, hu, hud, hul, hb1⟩
 have hb1' := (HA.out _).trans (hb1.mono (by simp))
 go_wp2_with fail
 refine (Fi 1 _ (by omega) (by omega)).mono ?_
 rintro e w2 ⟨v2, l2, rfl, hd, hdd, hdl, hb2⟩
 have hb2' := hb1'.trans (hb2.mono hb1'.size)
 have hX2 := (HX.out.below hb1 HX.out.lt).below hb2 (Nat.lt_of_lt_of_le HX.out.lt hb1.size)
 have hs1 := hb1'.size
 have HU : Hid (Big w.heap.size w2 v1 l1 ∧ Av l1 = 0 ∧ l1.length <= 5) := ⟨(hu.below hb2).base (by simp), hud, hul⟩
 have HD : Hid (Big w.heap.size w2 v2 l2 ∧ Av l2 = 1 ∧ l2.length <= 5) := ⟨hd.base hs1, hdd, hdl⟩
 have HB2 := Hd hb2'
 have HX2 := Hd hX2
 clear hu hud hul hd hdd hdl hb1 hb2 hb1' hb2' hX2 HX HA hs1
 go_wp2_with fail
 go_loopw [7, 8, 9] (fun up dn i wr => ∃ (n : Nat) (lu ld : List Int), i = .int .i64 n ∧ n <= parts.length ∧ Big w.heap.size wr up lu ∧ Big w.heap.size wr dn ld ∧ Av lu = (ud sh (parts.take n)).1 ∧ Av ld = (ud sh (parts.take n)).2 ∧ lu.length <= 5 + 6200 * n ∧ ld.length <= 5 + 6 * n ∧ Below w2.heap.size w2 wr) (fun _ _ i _ => parts.length - (intOf i).toNat)
 case atStart => exact ⟨0, l1, l2, rfl, Nat.zero_le _, HU.out.1, HD.out.1, HU.out.2.1, HD.out.2.1, by have := HU.out.2.2; omega, by have := HD.out.2.2; omega, Below.refl _ _⟩
 case round =>
  clear HU HD
  obtain ⟨n, lu, ld, rfl, hn, hu, hd, hud, hdd, hul, hdl, hbw⟩ := hrel
  have hX := HX2.out.below hbw HX2.out.lt
  have x2 : wr.cell? ⟨w.heap.size, 2, none⟩ = some (.int .i64 sh) := hX.cell 2
  have x3 : wr.cell? ⟨w.heap.size, 3, none⟩ = some (.slice pa parts.length pc) := hX.cell 3
  have hbW : Below w.heap.size w wr := HB2.out.trans (hbw.mono HB2.out.size)
  have hszW := hbW.size
  by_cases hlt : n < parts.length
  ·have hp' := HP.out.below hbW (Nat.le_refl _)
   obtain ⟨gp, rfl, hc⟩ := hp'.get (by omega)
   have y0 := hc _ _ (Hu parts n hlt 0 (by omega))
   have y1 := hc _ _ (Hu parts n hlt 1 (by omega))
   rw [Nat.add_zero] at y0
   obtain ⟨o0, o1, p0, p1⟩ := hb n hlt
   have HS : Hid (ud sh (parts.take (n + 1)) = ((ud sh (parts.take n)).1 * parts[n].shares + parts[n].of * sh * (ud sh (parts.take n)).2, (ud sh (parts.take n)).2 * parts[n].shares)) := QF sh parts n hlt
   have hgp : gp < wr.heap.size := World.block_lt_of_cell? wr _ y0
   have hgx : w.heap.size < wr.heap.size := hX.lt
   generalize parts[n] = po at *
   obtain ⟨pof, psh⟩ := po
   simp only at o0 o1 p0 p1 y0 y1 HS
   obtain ⟨m0, m1⟩ := IV o0 o1 s0 s1
   have HUd : Hid (Big w.heap.size wr u7 lu ∧ Av lu = (ud sh (parts.take n)).1 ∧ lu.length <= 5 + 6200 * n) := ⟨hu, hud, hul⟩
   have HDd : Hid (Big w.heap.size wr u8 ld ∧ Av ld = (ud sh (parts.take n)).2 ∧ ld.length <= 5 + 6 * n) := ⟨hd, hdd, hdl⟩
   have HBw := Hd hbw
   clear hu hud hul hd hdd hdl hc hp' hbW
   go_wp2_with fail
   refine (Fi psh _ p0 (by omega)).mono ?_
   rintro e w3 ⟨vs, ls, rfl, hsB, hsd, hsl, hb3⟩
   have hX3 := hX.below hb3 hX.lt
   have x2' : w3.cell? ⟨w.heap.size, 2, none⟩ = some (.int .i64 sh) := hX3.cell 2
   have x3' : w3.cell? ⟨w.heap.size, 3, none⟩ = some (.slice (some ⟨gp, 0, none⟩) parts.length pc) := hX3.cell 3
   have y0' : w3.cell? ⟨gp, n * 2, none⟩ = some (.int .i64 pof) := by rw [hb3.cell (p := ⟨gp, n * 2, none⟩) hgp]; exact y0
   have HNd : Hid (∀ m, Calls Tryz.prog 101 #[.int .i64 (pof * sh)] (w3.drewN m) fun e w' => ∃ v l, e = .returned v ∧ Big w3.heap.size w' v l ∧ Av l = pof * sh ∧ l.length <= 5 ∧ Below w3.heap.size w3 w') := fun m => by
    refine (Fi (pof * sh) (w3.drewN m) m0 (by omega)).mono ?_
    rintro e w' ⟨v, l, rfl, h1, h2, h3, h4⟩
    exact ⟨v, l, rfl, h1, h2, h3, (below_drewN (Below.refl _ _) m).trans h4⟩
   have HSs : Hid (Big w.heap.size w3 vs ls ∧ Av ls = psh ∧ ls.length <= 5) := ⟨hsB.base hszW, hsd, hsl⟩
   have HB3 := Hd hb3
   clear hsB hsd hsl hb3 hX3 x2 x3 y0 y1 hX
   go_wp2_with fail
   refine wp_region_still_tail 9 (by kernel_rfl) (by kernel_rfl) ?_
   simp only [List.take_succ_cons, List.take_zero, List.drop_succ_cons, List.drop_zero]
   repeat still_step
   refine wpStill_nil ?_
   go_wp2_with fail
   refine (HNd.out 1).mono ?_
   rintro e w4 ⟨vq, lq, rfl, k1, k2, k3, k4⟩
   have hz3 := HB3.out.size
   have hz4 := k4.size
   have hU4 := (HUd.out.1.below HB3.out).below k4
   have hD4 := (HDd.out.1.below HB3.out).below k4
   have hS4 := HSs.out.1.below k4
   have hQ4 : Big w.heap.size w4 vq lq := k1.base (by omega)
   have hul := HUd.out.2.2
   have hdl := HDd.out.2.2
   have hsl := HSs.out.2.2
   have HB4 : Hid (Below w2.heap.size w2 w4) := (HBw.out.trans (HB3.out.mono HBw.out.size)).trans (k4.mono (by have := HBw.out.size; omega))
   clear k1 k4 HNd HB3 HBw
   go_wp2_with fail
   refine (En _ _ lu ls _ hU4.sl hS4.sl hU4.dg hS4.dg (by omega) (by omega)).mono ?_
   rintro e w5 ⟨va, lA, rfl, hA5, hAd, hAl, hb5⟩
   have hD5 := hD4.below hb5
   have hS5 := hS4.below hb5
   have hQ5 := hQ4.below hb5
   have hA5' := hA5.base (show w.heap.size <= w4.heap.size by have := HB4.out.size; have := HB2.out.size; omega)
   have HB5 : Hid (Below w2.heap.size w2 w5) := HB4.out.trans (hb5.mono HB4.out.size)
   clear hU4 hD4 hS4 hQ4 hA5 hb5 HB4
   go_wp2_with fail
   refine (En _ _ lq ld _ hQ5.sl hD5.sl hQ5.dg hD5.dg (by omega) (by omega)).mono ?_
   rintro e w6 ⟨vb, lB, rfl, hB6, hBd, hBl, hb6⟩
   have hD6 := hD5.below hb6
   have hS6 := hS5.below hb6
   have hA6 := hA5'.below hb6
   have hB6' := hB6.base (show w.heap.size <= w5.heap.size by have := HB5.out.size; have := HB2.out.size; omega)
   have HB6 : Hid (Below w2.heap.size w2 w6) := HB5.out.trans (hb6.mono HB5.out.size)
   clear hD5 hS5 hQ5 hA5' hB6 hb6 HB5
   go_wp2_with fail
   refine (OE _ _ lA lB _ hA6.sl hB6'.sl hA6.dg hB6'.dg hA6.nm hB6'.nm (by omega) (by omega)).mono ?_
   rintro e w7 ⟨vc, lC, rfl, hC7, hCd, hCl, hb7⟩
   have hD7 := hD6.below hb7
   have hS7 := hS6.below hb7
   have hC7' := hC7.base (show w.heap.size <= w6.heap.size by have := HB6.out.size; have := HB2.out.size; omega)
   have HB7 : Hid (Below w2.heap.size w2 w7) := HB6.out.trans (hb7.mono HB6.out.size)
   clear hD6 hS6 hA6 hB6' hC7 hb7 HB6
   go_wp2_with fail
   refine (En _ _ ld ls _ hD7.sl hS7.sl hD7.dg hS7.dg (by omega) (by omega)).mono ?_
   rintro e w8 ⟨vd, lD, rfl, hD8, hDd, hDl, hb8⟩
   have HC8 : Hid (Big w.heap.size w8 vc lC) := hC7'.below hb8
   have HD8 : Hid (Big w.heap.size w8 vd lD) := hD8.base (by have := HB7.out.size; have := HB2.out.size; omega)
   have HB8 : Hid (Below w2.heap.size w2 w8) := HB7.out.trans (hb8.mono HB7.out.size)
   have HV : Hid (Av lC = (ud sh (parts.take (n + 1))).1 ∧ Av lD = (ud sh (parts.take (n + 1))).2) := by
    rw [HS.out]
    exact ⟨by rw [hCd, hAd, hBd, HUd.out.2.1, HSs.out.2.1, k2, HDd.out.2.1], by rw [hDd, HDd.out.2.1, HSs.out.2.1]⟩
   have HLn : Hid (lC.length <= 5 + 6200 * (n + 1) ∧ lD.length <= 5 + 6 * (n + 1)) := by
    show lC.length <= 5 + 6200 * (n + 1) ∧ lD.length <= 5 + 6 * (n + 1)
    omega
   clear hC7' hD8 hb8 hD7 hS7 HB7 hCd hAd hBd hDd k2 HUd HDd HSs hul hdl hsl hAl hBl hCl hDl
   go_wp2
   refine And.intro ?_ ?_
   ·first | exact ⟨n + 1, lC, lD, by go_num, by omega, HC8.out, HD8.out, HV.out.1, HV.out.2, HLn.out.1, HLn.out.2, HB8.out⟩ | ((repeat apply Exists.intro); exact ⟨⟨n + 1, lC, lD, by go_num, by omega, HC8.out, HD8.out, HV.out.1, HV.out.2, HLn.out.1, HLn.out.2, HB8.out⟩, rfl⟩)
   ·simp [intOf]; omega
  ·have HUd : Hid (Big w.heap.size wr u7 lu ∧ Av lu = (ud sh parts).1 ∧ lu.length <= 5 + 6200 * n) := ⟨hu, by rw [hud, List.take_of_length_le (by omega)], hul⟩
   have HDd : Hid (Big w.heap.size wr u8 ld ∧ Av ld = (ud sh parts).2 ∧ ld.length <= 5 + 6 * n) := ⟨hd, by rw [hdd, List.take_of_length_le (by omega)], hdl⟩
   have HBW := Hd hbW
   clear hu hud hul hd hdd hdl hbw hbW hX
   go_wp2_with fail
   refine (Fi q _ q0 (by omega)).mono ?_
   rintro e w3 ⟨v3, l3, rfl, h3, h3d, h3l, hb3⟩
   have hU3 := HUd.out.1.below hb3
   have hD3 := HDd.out.1.below hb3
   have h3' := h3.base (show w.heap.size <= wr.heap.size by have := HBW.out.size; omega)
   have HB3 : Hid (Below w.heap.size w w3) := HBW.out.trans (hb3.mono HBW.out.size)
   have hul := HUd.out.2.2
   have hdl := HDd.out.2.2
   clear h3 hb3 HBW
   go_wp2_with fail
   refine (Fi (q + 2) _ (by omega) (by omega)).mono ?_
   rintro e w4 ⟨v4, l4, rfl, h4, h4d, h4l, hb4⟩
   have hU4 := hU3.below hb4
   have hD4 := hD3.below hb4
   have h34 := h3'.below hb4
   have h4' := h4.base (show w.heap.size <= w3.heap.size by have := HB3.out.size; omega)
   have HB4 : Hid (Below w.heap.size w w4) := HB3.out.trans (hb4.mono HB3.out.size)
   clear h4 hb4 hU3 hD3 h3' HB3
   go_wp2_with fail
   refine (En _ _ l3 ld _ h34.sl hD4.sl h34.dg hD4.dg (by omega) (by omega)).mono ?_
   rintro e w5 ⟨v5, l5, rfl, h5, h5d, h5l, hb5⟩
   have hU5 := hU4.below hb5
   have hD5 := hD4.below hb5
   have h45 := h4'.below hb5
   have h5' := h5.base (show w.heap.size <= w4.heap.size by have := HB4.out.size; omega)
   have HB5 : Hid (Below w.heap.size w w5) := HB4.out.trans (hb5.mono HB4.out.size)
   clear h5 hb5 hU4 hD4 h34 h4' HB4
   go_wp2_with fail
   refine (En _ _ l4 ld _ h45.sl hD5.sl h45.dg hD5.dg (by omega) (by omega)).mono ?_
   rintro e w6 ⟨v6, l6, rfl, h6, h6d, h6l, hb6⟩
   have hU6 := hU5.below hb6
   have h56 := h5'.below hb6
   have h6' := h6.base (show w.heap.size <= w5.heap.size by have := HB5.out.size; omega)
   have HB6 : Hid (Below w.heap.size w w6) := HB5.out.trans (hb6.mono HB5.out.size)
   clear h6 hb6 hU5 hD5 h45 h5' HB5
   go_wp2_with fail
   have HF : Hid (LA sh parts q = (!decide (Av lu < Av l5) && decide (Av lu < Av l6))) := by
    show LA sh parts q = _
    unfold LA
    rw [h5d, h6d, h3d, h4d, HUd.out.2.1, HDd.out.2.1]
   clear h5d h6d h3d h4d
   refine (Jo _ _ l5 lu _ h56.sl hU6.sl h56.dg hU6.dg h56.nm hU6.nm (by omega) (by omega)).mono ?_
   rintro e w7 ⟨rfl, m7, rfl⟩
   go_wp2_with fail
   refine (Jo _ _ l6 lu _ (h6'.drewN m7).sl (hU6.drewN m7).sl h6'.dg hU6.dg h6'.nm hU6.nm (by omega) (by omega)).mono ?_
   rintro e w8 ⟨rfl, m8, rfl⟩
   have HB8 : Hid (∀ n, Below w.heap.size w (w6.drewN n)) := fun n => below_drewN HB6.out n
   generalize decide (Av lu < Av l5) = b5 at *
   generalize decide (Av lu < Av l6) = b6 at *
   clear hU6 h56 h6' HB6 HUd HDd
   cases b5 <;> cases b6 <;> go_wp2 <;> (go_ret; exact ⟨II HF.out.symm, HB8.out _⟩)
theorem Hp (g : Nat) (c : LC) (bv vv dv ev : Value) (vals : List VS) (ds : List (DA × Value)) (ents : List ES) (who : Int) (w : World) (h : LF F0 W0 w g c bv vv dv ev vals ds ents) (hb : LBd c) :
  Calls Tryz.prog 124 #[.pointer (some ⟨g, 0, none⟩), .int .i64 who] w fun e w' => e = .returned (.int .i64 (Ah c who).1) ∧ LF F0 W0 w' g (Ah c who).2 bv vv dv ev vals ds ents :=
 (F1 g c bv vv dv ev who w h.C hb).mono (by rintro e w' ⟨h1, h2, h3⟩; exact ⟨h1, h.core h2 h3⟩)
def FW (c : LC) (vals : List VS) (ds : List (DA × Value)) (who v : Int) : Int :=
 if inN who 0 ((c.bal.length : Int) - 1) = true then
  if inN v 0 ((vals.length : Int) - 1) = true then
   if atF ds who v < 0 then 6 else 0
  else 3
 else 2
theorem Jp (g : Nat) (c : LC) (bv vv dv ev : Value) (vals : List VS) (ds : List (DA × Value)) (ents : List ES) (who v : Int) (w : World) (h : LF F0 W0 w g c bv vv dv ev vals ds ents) (lb : c.bal.length <= 1000) (lv : vals.length <= 1000) (ld : ds.length <= 900) :
  Calls Tryz.prog 50 #[.pointer (some ⟨g, 0, none⟩), .int .i64 who, .int .i64 v] w fun e w' => e = .returned (.int .i64 (FW c vals ds who v)) ∧ w = w' := by
 have HA : Hid (Calls Tryz.prog 99 #[.pointer (some ⟨g, 0, none⟩), .int .i64 who] w fun e w' => e = .returned (.bool (inN who 0 ((c.bal.length : Int) - 1))) ∧ w = w') := Bv g c bv vv dv ev who w h.C lb
 have HV : Hid (Calls Tryz.prog 100 #[.pointer (some ⟨g, 0, none⟩), .int .i64 v] w fun e w' => e = .returned (.bool (inN v 0 ((vals.length : Int) - 1))) ∧ w = w') := DG g vv vals v w (h.lvals lv)
 have HAt : Hid (Calls Tryz.prog 51 #[.pointer (some ⟨g, 0, none⟩), .int .i64 who, .int .i64 v] w fun e w' => e = .returned (.int .i64 (atF ds who v)) ∧ w = w') := Db g _ ds who v w (h.C.L.cell 8) (Rd.of_owns h.d) (by omega)
 generalize hR : FW c vals ds who v = R
 have HR := Hd hR
 clear hR h
 unfold FW at HR
 generalize inN who 0 ((c.bal.length : Int) - 1) = b1 at *
 generalize inN v 0 ((vals.length : Int) - 1) = b2 at *
 generalize atF ds who v = q at *
 cases b1 with
 | false =>
  go_enter Tryz.func50, Tryz.ntmps50
  go_wp2_with fail
  refine HA.out.mono ?_
  rintro e w' ⟨rfl, rfl⟩
  clear HA HV HAt
  go_wp2
  go_ret
  rw [<- HR.out]; exact ⟨rfl, rfl⟩
 | true =>
  rw [if_pos rfl] at HR
  cases b2 with
  | false =>
   go_enter Tryz.func50, Tryz.ntmps50
   go_wp2_with fail
   refine HA.out.mono ?_
   rintro e w' ⟨rfl, rfl⟩
   clear HA HAt
   go_wp2_with fail
   refine HV.out.mono ?_
   rintro e w' ⟨rfl, rfl⟩
   clear HV
   go_wp2
   go_ret
   rw [<- HR.out]; exact ⟨rfl, rfl⟩
  | true =>
   rw [if_pos rfl] at HR
   go_enter Tryz.func50, Tryz.ntmps50
   go_wp2_with fail
   refine HA.out.mono ?_
   rintro e w' ⟨rfl, rfl⟩
   clear HA
   go_wp2_with fail
   refine HV.out.mono ?_
   rintro e w' ⟨rfl, rfl⟩
   clear HV
   go_wp2_with fail
   refine HAt.out.mono ?_
   rintro e w' ⟨rfl, rfl⟩
   clear HAt
   by_cases hq : q < 0
   ·rw [if_pos hq] at HR
    go_wp2
    go_ret
    rw [<- HR.out]; exact ⟨rfl, rfl⟩
   ·rw [if_neg hq] at HR
    go_wp2
    go_ret
    rw [<- HR.out]; exact ⟨rfl, rfl⟩
theorem Nj {v : Int} (h : FW c vals ds who v = 0) : ∃ kw k i : Nat, who = kw ∧ v = k ∧ kw < c.bal.length ∧ k < vals.length ∧ ∃ hi : i < ds.length, atF ds who v = i ∧ ds[i].1.who = who ∧ ds[i].1.val = v := by
 unfold FW at h
 split at h <;> rename_i h1
 ·split at h <;> rename_i h2
  ·split at h <;> rename_i h3
   ·simp at h
   ·obtain ⟨a1, a2⟩ := AQ.1 h1
    obtain ⟨b1, b2⟩ := AQ.1 h2
    obtain ⟨kw, rfl⟩ := Int.eq_ofNat_of_zero_le a1
    obtain ⟨k, rfl⟩ := Int.eq_ofNat_of_zero_le b1
    rcases Dt ds kw k with ⟨hat, _⟩ | ⟨i, hi, hat, _, q1, q2⟩
    ·omega
    ·exact ⟨kw, k, i, rfl, rfl, by omega, by omega, hi, hat, q1, q2⟩
  ·simp at h
 ·simp at h
def C0 (c : LC) (vals : List VS) (ds : List (DA × Value)) (who v q : Int) : Int × LC × List VS × List (DA × Value) :=
 if (Ah c who).1 = 0 then
  if FW (Ah c who).2 vals ds who v = 0 then (0, Bf (Ah c who).2 who.toNat ((Ah c who).2.bal.getD who.toNat 0 + q), AS vals v.toNat q, AW ds (atF ds who v).toNat)
  else (FW (Ah c who).2 vals ds who v, (Ah c who).2, vals, ds)
 else ((Ah c who).1, (Ah c who).2, vals, ds)
theorem JZ (g : Nat) (c : LC) (bv vv dv ev : Value) (vals : List VS) (ds : List (DA × Value)) (ents : List ES) (who v q : Int) (w : World) (h : LF F0 W0 w g c bv vv dv ev vals ds ents) (hb : Gx c vals ds) (q0 : 0 <= q) (q1 : q <= 1000000000000) :
  Calls Tryz.prog 69 #[.pointer (some ⟨g, 0, none⟩), .int .i64 who, .int .i64 v, .int .i64 q] w fun e w' => e = .returned (.int .i64 (C0 c vals ds who v q).1) ∧ LF F0 W0 w' g (C0 c vals ds who v q).2.1 bv vv dv ev (C0 c vals ds who v q).2.2.1 (C0 c vals ds who v q).2.2.2 ents := by
 obtain ⟨hcl, hcb, hcw⟩ := B7 hb who
 have HCh : Hid _ := Hp g c bv vv dv ev vals ds ents who w h hb.hc
 have lb : (Ah c who).2.bal.length <= 1000 := by rw [hcl]; exact hb.hc.len
 generalize hR : C0 c vals ds who v q = R
 have HR := Hd hR
 clear hR
 unfold C0 at HR
 cases hr : Ah c who with
 | mk r1 c1 =>
 rw [hr] at hcl hcb hcw lb HCh HR
 simp only at hcl hcb hcw lb HCh HR
 clear hr h
 have lv := hb.lv
 have ld := hb.ld
 go_enter Tryz.func69, Tryz.ntmps69
 go_wp2_with fail
 refine Calls.mono HCh.out ?_
 rintro e w1 ⟨rfl, h1⟩
 clear HCh
 have HL := Hd h1
 clear h1
 by_cases h0 : r1 = 0
 case neg =>
  rw [if_neg h0] at HR
  have e0 : (r1 == 0) = false := by simp [h0]
  clear hcb hcw h0
  go_wp2
  go_ret
  rw [<- HR.out]; exact ⟨rfl, HL.out⟩
 subst h0
 rw [if_pos rfl] at HR
 have HA : Hid (Calls Tryz.prog 50 #[.pointer (some ⟨g, 0, none⟩), .int .i64 who, .int .i64 v] w1 fun e w' => e = .returned (.int .i64 (FW c1 vals ds who v)) ∧ w1 = w') := Jp g c1 bv vv dv ev vals ds ents who v w1 HL.out lb lv ld
 by_cases hz : FW c1 vals ds who v = 0
 case neg =>
  rw [if_neg hz] at HR
  have e0 : (FW c1 vals ds who v == 0) = false := by simp [hz]
  generalize FW c1 vals ds who v = r2 at *
  clear hcb hcw hz
  go_wp2_with fail
  refine HA.out.mono ?_
  rintro e w' ⟨rfl, rfl⟩
  clear HA
  go_wp2
  go_ret
  rw [<- HR.out]; exact ⟨rfl, HL.out⟩
 rw [if_pos hz] at HR
 rw [hz] at HA
 obtain ⟨kw, k, i, rfl, rfl, hkw, hk, hi, hat, hw, hv⟩ := Nj hz
 rw [hat] at HR
 simp only [Int.toNat_natCast] at HR
 have HAt : Hid (Calls Tryz.prog 51 #[.pointer (some ⟨g, 0, none⟩), .int .i64 kw, .int .i64 k] w1 fun e w' => e = .returned (.int .i64 i) ∧ w1 = w') := by
  have := Db g _ ds kw k w1 (HL.out.C.L.cell 8) (Rd.of_owns HL.out.d) (by omega)
  rw [hat] at this
  exact this
 obtain ⟨t0, t1, s0, s1, o0, o1⟩ := hb.v k hk
 have hbk := hcb kw hkw
 have hgd : c1.bal.getD kw 0 = c1.bal[kw] := by simp [List.getD, hkw]
 rw [<- hgd] at hbk
 have HP : Hid (Calls Tryz.prog 133 #[.pointer (some ⟨g, 0, none⟩), .int .i64 i, .int .i64 q] w1 fun e w' => e = .returned (.tuple #[]) ∧ LF F0 W0 w' g (Bf c1 kw (c1.bal.getD kw 0 + q)) bv vv dv ev (AS vals k q) (AW ds i) ents) := by
  rw [A9 vals k hk q, BA ds i hi]
  exact Fb g c1 bv vv dv ev vals ds ents i kw k q w1 HL.out hi hw hv hkw hk lb lv (by omega) _ rfl (by omega) (by omega) q0 q1 o0 o1
 generalize Bf c1 kw (c1.bal.getD kw 0 + q) = c2 at *
 generalize AS vals k q = V2 at *
 generalize AW ds i = D2 at *
 clear hz hcb hcw hw hv hat hbk hgd
 go_wp2_with fail
 refine HA.out.mono ?_
 rintro e w' ⟨rfl, rfl⟩
 clear HA
 go_wp2_with fail
 refine HAt.out.mono ?_
 rintro e w' ⟨rfl, rfl⟩
 clear HAt
 go_wp2_with fail
 refine HP.out.mono ?_
 rintro e w2 ⟨rfl, h2⟩
 have H2 : Hid _ := h2
 clear h2 HP HL
 go_wp2
 go_ret
 rw [<- HR.out]; exact ⟨rfl, H2.out⟩
def M4 (vals : List VS) (who v : Int) : Int :=
 if inN v 0 ((vals.length : Int) - 1) = true then
  if (vals.getD v.toNat ⟨0, 0, 0, 0, 0, 0, false, false⟩).owner = who then 0 else 10
 else 3
def CB (c : LC) (vals : List VS) (who v : Int) : Int := if (Ah c who).1 = 0 then M4 vals who v else (Ah c who).1
theorem MX {v : Int} (h : M4 vals who v = 0) : ∃ k : Nat, v = k ∧ ∃ hk : k < vals.length, vals[k].owner = who := by
 unfold M4 at h
 split at h <;> rename_i h1
 ·obtain ⟨b1, b2⟩ := AQ.1 h1
  obtain ⟨k, rfl⟩ := Int.eq_ofNat_of_zero_le b1
  have hk : k < vals.length := by omega
  split at h <;> rename_i h2
  ·exact ⟨k, rfl, hk, by simpa [List.getD, hk] using h2⟩
  ·simp at h
 ·simp at h
theorem JF (g : Nat) (c : LC) (bv vv dv ev : Value) (vals : List VS) (ds : List (DA × Value)) (ents : List ES) (who v : Int) (w : World) (h : LF F0 W0 w g c bv vv dv ev vals ds ents) (hb : Gx c vals ds) :
  Calls Tryz.prog 134 #[.pointer (some ⟨g, 0, none⟩), .int .i64 who, .int .i64 v] w fun e w' => e = .returned (.int .i64 (CB c vals who v)) ∧ LF F0 W0 w' g (Ah c who).2 bv vv dv ev vals ds ents := by
 have HCh : Hid _ := Hp g c bv vv dv ev vals ds ents who w h hb.hc
 generalize hR : CB c vals who v = R
 have HR := Hd hR
 clear hR
 unfold CB at HR
 cases hr : Ah c who with
 | mk r1 c1 =>
 rw [hr] at HCh HR
 simp only at HCh HR
 clear hr h
 have lv := hb.lv
 go_enter Tryz.func134, Tryz.ntmps134
 go_wp2_with fail
 refine Calls.mono HCh.out ?_
 rintro e w1 ⟨rfl, h1⟩
 clear HCh
 have HL := Hd h1
 clear h1
 by_cases h0 : r1 = 0
 case neg =>
  rw [if_neg h0] at HR
  have e0 : (r1 == 0) = false := by simp [h0]
  clear h0
  go_wp2
  go_ret
  rw [<- HR.out]; exact ⟨rfl, HL.out⟩
 subst h0
 rw [if_pos rfl] at HR
 unfold M4 at HR
 have HV : Hid (Calls Tryz.prog 100 #[.pointer (some ⟨g, 0, none⟩), .int .i64 v] w1 fun e w' => e = .returned (.bool (inN v 0 ((vals.length : Int) - 1))) ∧ w1 = w') := DG g vv vals v w1 (HL.out.lvals lv)
 by_cases hin : inN v 0 ((vals.length : Int) - 1) = true
 case neg =>
  have hin' : inN v 0 ((vals.length : Int) - 1) = false := by simpa using hin
  rw [if_neg hin] at HR
  rw [hin'] at HV
  clear hin hin'
  go_wp2_with fail
  refine HV.out.mono ?_
  rintro e w' ⟨rfl, rfl⟩
  clear HV
  go_wp2
  go_ret
  rw [<- HR.out]; exact ⟨rfl, HL.out⟩
 rw [if_pos hin] at HR
 rw [hin] at HV
 obtain ⟨p1, p2⟩ := AQ.1 hin
 obtain ⟨k, rfl⟩ := Int.eq_ofNat_of_zero_le p1
 have hk : k < vals.length := by omega
 clear hin p1 p2
 have hgv : vals.getD k ⟨0, 0, 0, 0, 0, 0, false, false⟩ = vals[k] := by simp [List.getD, hk]
 simp only [Int.toNat_natCast, hgv] at HR
 obtain ⟨va, vc, rfl⟩ := Ac HL.out.v
 obtain ⟨gv, rfl, _⟩ := Ag HL.out.v (by omega)
 have c7 : w1.cell? ⟨g, 7, none⟩ = some (.slice (some ⟨gv, 0, none⟩) vals.length vc) := HL.out.C.L.cell 7
 have z0 : w1.cell? ⟨gv, k * 8, none⟩ = some (.int .i64 vals[k].owner) := by
  have := (HL.out.v.cellAt (k * 8 + 0) (by omega)).trans (An vals k hk 0 (by omega))
  simpa [VS.cells] using this
 generalize vals[k].owner = ow at *
 go_wp2_with fail
 refine HV.out.mono ?_
 rintro e w' ⟨rfl, rfl⟩
 clear HV hgv
 by_cases ho : ow = who
 ·rw [if_pos ho] at HR
  subst ho
  go_wp2
  go_ret
  rw [<- HR.out]; exact ⟨rfl, HL.out⟩
 ·rw [if_neg ho] at HR
  have e0 : (ow == who) = false := by simp [ho]
  go_wp2
  go_ret
  rw [<- HR.out]; exact ⟨rfl, HL.out⟩
def Ia (vals : List VS) (k : Nat) : List VS := vals.modify k (fun x => { x with outs := x.outs - x.comm, comm := 0 })
theorem OO (vals : List VS) (k : Nat) (h : k < vals.length) : Ia vals k = vals.set k { vals[k] with outs := vals[k].outs - vals[k].comm, comm := 0 } := by
 unfold Ia
 apply List.ext_getElem?
 intro i
 rw [List.getElem?_modify, List.getElem?_set]
 by_cases e : k = i
 ·subst e; simp [h]
 ·simp [e]
def D0 (c : LC) (vals : List VS) (who v : Int) : Int × LC × List VS :=
 if CB c vals who v = 0 then (0, Bf (Ah c who).2 who.toNat ((Ah c who).2.bal.getD who.toNat 0 + (vals.getD v.toNat ⟨0, 0, 0, 0, 0, 0, false, false⟩).comm), Ia vals v.toNat)
 else (CB c vals who v, (Ah c who).2, vals)
theorem Hh (hb : Gx c vals ds) {who v : Int} (h : CB c vals who v = 0) : ∃ kw k : Nat, who = kw ∧ v = k ∧ kw < (Ah c who).2.bal.length ∧ ∃ hk : k < vals.length, vals[k].owner = who := by
 unfold CB at h
 split at h <;> rename_i h1
 ·obtain ⟨hcl, hcb, hcw⟩ := B7 hb who
  obtain ⟨kw, rfl, hkw⟩ := hcw h1
  obtain ⟨k, rfl, hk, ho⟩ := MX h
  exact ⟨kw, k, rfl, rfl, by omega, hk, ho⟩
 ·exact absurd h h1
theorem Ks (g : Nat) (c : LC) (bv vv dv ev : Value) (vals : List VS) (ds : List (DA × Value)) (ents : List ES) (who v : Int) (w : World) (h : LF F0 W0 w g c bv vv dv ev vals ds ents) (hb : Gx c vals ds) (hm : ∀ k (h : k < vals.length), 0 <= vals[k].comm ∧ vals[k].comm <= 1000000000000) :
  Calls Tryz.prog 70 #[.pointer (some ⟨g, 0, none⟩), .int .i64 who, .int .i64 v] w fun e w' => e = .returned (.int .i64 (D0 c vals who v).1) ∧ LF F0 W0 w' g (D0 c vals who v).2.1 bv vv dv ev (D0 c vals who v).2.2 ds ents := by
 have HOw : Hid _ := JF g c bv vv dv ev vals ds ents who v w h hb
 obtain ⟨hcl, hcb, hcw⟩ := B7 hb who
 have lb : (Ah c who).2.bal.length <= 1000 := by rw [hcl]; exact hb.hc.len
 have lv := hb.lv
 generalize hR : D0 c vals who v = R
 have HR := Hd hR
 clear hR
 unfold D0 at HR
 by_cases hz : CB c vals who v = 0
 case neg =>
  rw [if_neg hz] at HR
  have e0 : (CB c vals who v == 0) = false := by simp [hz]
  generalize CB c vals who v = r at *
  clear hcb hcw hz h
  go_enter Tryz.func70, Tryz.ntmps70
  go_wp2_with fail
  refine Calls.mono HOw.out ?_
  rintro e w1 ⟨rfl, h1⟩
  have HL : Hid _ := h1
  clear HOw h1
  go_wp2
  go_ret
  rw [<- HR.out]; exact ⟨rfl, HL.out⟩
 obtain ⟨kw, k, rfl, rfl, hkw, hk, ho⟩ := Hh hb hz
 rw [if_pos hz] at HR
 rw [hz] at HOw
 obtain ⟨t0, t1, s0, s1, o0, o1⟩ := hb.v k hk
 obtain ⟨m0, m1⟩ := hm k hk
 have hbk := hcb kw hkw
 have hgv : vals.getD k ⟨0, 0, 0, 0, 0, 0, false, false⟩ = vals[k] := by simp [List.getD, hk]
 simp only [Int.toNat_natCast, hgv] at HR
 generalize (Ah c (kw : Int)).2 = c1 at *
 have hgd : c1.bal.getD kw 0 = c1.bal[kw] := by simp [List.getD, hkw]
 rw [<- hgd] at hbk
 obtain ⟨b0, b1⟩ := hbk
 clear hcb hcw hz h hgv hgd
 go_enter Tryz.func70, Tryz.ntmps70
 go_wp2_with fail
 refine Calls.mono HOw.out ?_
 rintro e w1 ⟨rfl, h1⟩
 clear HOw
 obtain ⟨ba, bc, rfl⟩ := Ac h1.C.b
 obtain ⟨gb, rfl, _⟩ := Ag h1.C.b (by omega)
 obtain ⟨va, vc, rfl⟩ := Ac h1.v
 obtain ⟨gv, rfl, _⟩ := Ag h1.v (by omega)
 have c4 : w1.cell? ⟨g, 4, none⟩ = some (.slice (some ⟨gb, 0, none⟩) c1.bal.length bc) := h1.C.L.cell 4
 have c7 : w1.cell? ⟨g, 7, none⟩ = some (.slice (some ⟨gv, 0, none⟩) vals.length vc) := h1.C.L.cell 7
 have cb : w1.cell? ⟨gb, kw, none⟩ = some (.int .i64 (c1.bal.getD kw 0)) := by
  rw [h1.C.b.cellAt kw (by omega)]; simp [Ai, hkw]
 have fb := h1.C.b.frozenAt kw
 have z4 : w1.cell? ⟨gv, k * 8 + 4, none⟩ = some (.int .i64 vals[k].comm) := by
  have := (h1.v.cellAt (k * 8 + 4) (by omega)).trans (An vals k hk 4 (by omega))
  simpa [VS.cells] using this
 have z5 : w1.cell? ⟨gv, k * 8 + 5, none⟩ = some (.int .i64 vals[k].outs) := by
  have := (h1.v.cellAt (k * 8 + 5) (by omega)).trans (An vals k hk 5 (by omega))
  simpa [VS.cells] using this
 have f4 := h1.v.frozenAt (k * 8 + 4)
 have f5 := h1.v.frozenAt (k * 8 + 5)
 have n1 : g ≠ gb := fun e => Has.apart h1.C.L h1.C.b (by decide) (by rw [e]; rfl)
 have n2 : g ≠ gv := fun e => Has.apart h1.C.L h1.v (by decide) (by rw [e]; rfl)
 have n4 : gb ≠ gv := fun e => Bd h1.C.b h1.v (by decide) (by rw [e]; rfl)
 have n1' := n1.symm
 have n2' := n2.symm
 have n4' := n4.symm
 have hF := (h1.setBal rfl kw (c1.bal.getD kw 0 + vals[k].comm)).setVal rfl (k * 8 + 5) (.int .i64 (vals[k].outs - vals[k].comm)) (vals' := vals.set k { vals[k] with outs := vals[k].outs - vals[k].comm }) (Lm vals k hk 5 _ _ rfl (by omega)) (by simp)
 have hF2 := hF.setVal (by simp) (k * 8 + 4) (.int .i64 0) (vals' := Ia vals k) (by
  rw [OO vals k hk]
  have := Lm (vals.set k { vals[k] with outs := vals[k].outs - vals[k].comm }) k (by simpa using hk) 4 (.int .i64 0) { vals[k] with outs := vals[k].outs - vals[k].comm, comm := 0 } (by simp [VS.cells]) (by omega)
  rw [this, List.set_set]) (by simp [Ia])
 have HF : Hid _ := hF2
 clear hF hF2 h1
 generalize Ia vals k = V2 at *
 generalize vals[k].outs = zo at *
 generalize vals[k].comm = zc at *
 generalize Bf c1 kw (c1.bal.getD kw 0 + zc) = c2 at *
 generalize c1.bal.getD kw 0 = zb at *
 go_wp2_with fail
 go_region
 go_wp2_with fail
 go_region
 go_wp2
 try (go_region; go_wp2)
 go_ret
 rw [<- HR.out]; exact ⟨rfl, HF.out.eta rfl rfl rfl rfl⟩
def JE (vals : List VS) (k : Nat) : List VS := vals.modify k (fun x => { x with jailed := false })
theorem OJ (vals : List VS) (k : Nat) (h : k < vals.length) : JE vals k = vals.set k { vals[k] with jailed := false } := by
 unfold JE
 apply List.ext_getElem?
 intro i
 rw [List.getElem?_modify, List.getElem?_set]
 by_cases e : k = i
 ·subst e; simp [h]
 ·simp [e]
def IP (c : LC) (vals : List VS) (who v : Int) : Int × LC × List VS :=
 if CB c vals who v = 0 then
  if (vals.getD v.toNat ⟨0, 0, 0, 0, 0, 0, false, false⟩).jailed = true then (0, (Ah c who).2, JE vals v.toNat) else (11, (Ah c who).2, vals)
 else (CB c vals who v, (Ah c who).2, vals)
theorem Nb (g : Nat) (c : LC) (bv vv dv ev : Value) (vals : List VS) (ds : List (DA × Value)) (ents : List ES) (who v : Int) (w : World) (h : LF F0 W0 w g c bv vv dv ev vals ds ents) (hb : Gx c vals ds) :
  Calls Tryz.prog 72 #[.pointer (some ⟨g, 0, none⟩), .int .i64 who, .int .i64 v] w fun e w' => e = .returned (.int .i64 (IP c vals who v).1) ∧ LF F0 W0 w' g (IP c vals who v).2.1 bv vv dv ev (IP c vals who v).2.2 ds ents := by
 have HOw : Hid _ := JF g c bv vv dv ev vals ds ents who v w h hb
 have lv := hb.lv
 generalize hR : IP c vals who v = R
 have HR := Hd hR
 clear hR
 unfold IP at HR
 by_cases hz : CB c vals who v = 0
 case neg =>
  rw [if_neg hz] at HR
  have e0 : (CB c vals who v == 0) = false := by simp [hz]
  generalize CB c vals who v = r at *
  clear hz h
  go_enter Tryz.func72, Tryz.ntmps72
  go_wp2_with fail
  refine Calls.mono HOw.out ?_
  rintro e w1 ⟨rfl, h1⟩
  have HL : Hid _ := h1
  clear HOw h1
  go_wp2
  go_ret
  rw [<- HR.out]; exact ⟨rfl, HL.out⟩
 obtain ⟨kw, k, rfl, rfl, hkw, hk, ho⟩ := Hh hb hz
 rw [if_pos hz] at HR
 rw [hz] at HOw
 have hgv : vals.getD k ⟨0, 0, 0, 0, 0, 0, false, false⟩ = vals[k] := by simp [List.getD, hk]
 simp only [Int.toNat_natCast, hgv] at HR
 generalize (Ah c (kw : Int)).2 = c1 at *
 clear hz h hgv
 go_enter Tryz.func72, Tryz.ntmps72
 go_wp2_with fail
 refine Calls.mono HOw.out ?_
 rintro e w1 ⟨rfl, h1⟩
 clear HOw
 obtain ⟨va, vc, rfl⟩ := Ac h1.v
 obtain ⟨gv, rfl, _⟩ := Ag h1.v (by omega)
 have c7 : w1.cell? ⟨g, 7, none⟩ = some (.slice (some ⟨gv, 0, none⟩) vals.length vc) := h1.C.L.cell 7
 have z6 : w1.cell? ⟨gv, k * 8 + 6, none⟩ = some (.bool vals[k].jailed) := by
  have := (h1.v.cellAt (k * 8 + 6) (by omega)).trans (An vals k hk 6 (by omega))
  simpa [VS.cells] using this
 have f6 := h1.v.frozenAt (k * 8 + 6)
 have HF : Hid _ := h1.setVal rfl (k * 8 + 6) (.bool false) (vals' := JE vals k) (by rw [OJ vals k hk]; exact Lm vals k hk 6 _ _ rfl (by omega)) (by simp [JE])
 have HL : Hid _ := h1
 clear h1
 generalize JE vals k = V2 at *
 generalize vals[k].jailed = zj at *
 cases zj with
 | false =>
  rw [if_neg (by decide)] at HR
  go_wp2
  go_ret
  rw [<- HR.out]; exact ⟨rfl, HL.out⟩
 | true =>
  rw [if_pos rfl] at HR
  clear HL
  go_wp2
  try (go_region; go_wp2)
  go_ret
  rw [<- HR.out]; exact ⟨rfl, HF.out.eta rfl rfl rfl rfl⟩
end Go.Proofs.YtohjjgefklhmaaaGreatDoor
