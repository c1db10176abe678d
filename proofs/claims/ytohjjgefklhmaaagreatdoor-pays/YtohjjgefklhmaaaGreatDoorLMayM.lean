import Derived.Test.YtohjjgefklhmaaaGreatDoorLLeave4M
import Derived.StillTailTactics
namespace Go.Proofs.YtohjjgefklhmaaaGreatDoor
open Go.ChangeShapes Go.WideShapes Go.ChangeAt Go.RowKit
set_option linter.unusedVariables false


/-- what a delegation with these shares is due, as a fraction: up, down -/
def ud (sh : Int) (l : List PS) : Int × Int := l.foldl (fun p o => (p.1 * o.shares + o.of * sh * p.2, p.2 * o.shares)) (0, 1)
theorem ud_snoc (sh : Int) (l : List PS) (k : Nat) (h : k < l.length) : ud sh (l.take (k + 1)) = ((ud sh (l.take k)).1 * l[k].shares + l[k].of * sh * (ud sh (l.take k)).2, (ud sh (l.take k)).2 * l[k].shares) := by
  unfold ud; rw [foldl_snoc _ _ l k h]
/-- may w be paid? -/
def mayF (sh : Int) (l : List PS) (w : Int) : Bool := !decide ((ud sh l).1 < w * (ud sh l).2) && decide ((ud sh l).1 < (w + 2) * (ud sh l).2)
/-- bounds of parts -/
def PB (l : List PS) : Prop := ∀ k (h : k < l.length), 0 ≤ l[k].of ∧ l[k].of ≤ 1000000000 ∧ 0 ≤ l[k].shares ∧ l[k].shares ≤ 1000000000

theorem Big.sl {B : Nat} {w : World} {v : Value} {l : List Int} (h : Big B w v l) : IntSl w v l := (Rd.of_owns h.row).ints
theorem Big.below {B : Nat} {w w' : World} {v : Value} {l : List Int} (h : Big B w v l) (hb : Below w.heap.size w w') : Big B w' v l := ⟨ownsRow_below h.row hb (Nat.le_refl _), h.dg, h.nm⟩
theorem Big.base {B B' : Nat} {w : World} {v : Value} {l : List Int} (h : Big B w v l) (hb : B' ≤ B) : Big B' w v l := ⟨ownsRow_base h.row hb, h.dg, h.nm⟩
theorem Big.drewN {B : Nat} {w : World} {v : Value} {l : List Int} (h : Big B w v l) (n : Nat) : Big B (w.drewN n) v l := ⟨h.row, h.dg, h.nm⟩

set_option maxHeartbeats 40000000 in
set_option maxRecDepth 100000 in
theorem may_any (pl : Value) (who val sh : Int) (pv : Value) (parts : List PS) (q : Int) (w : World) (hp : Rd w pv parts.length 2 (prow parts)) (hb : PB parts) (hl : parts.length ≤ 1000) (s0 : 0 ≤ sh) (s1 : sh ≤ 1000000000) (q0 : 0 ≤ q) (q1 : q ≤ 1000000000) :
    Calls Tryz.prog 52 #[pl, .agg #[.int .i64 who, .int .i64 val, .int .i64 sh, pv], .int .i64 q] w fun e w' => e = .returned (.bool (mayF sh parts q)) ∧ Below w.heap.size w w' := by
  obtain ⟨pa, pc, rfl⟩ := hp.form
  have HP : Hid (Rd w (.slice pa parts.length pc) parts.length 2 (prow parts)) := hp
  have HA : Hid (∀ o, Below w.heap.size w (w.alloc o)) := fun o => (Below.refl _ _).alloc (Nat.le_refl _) o
  have HX : Hid (Has (w.alloc (.cells #[.int .i64 who, .int .i64 val, .int .i64 sh, .slice pa parts.length pc] 84)) w.heap.size 84 [.int .i64 who, .int .i64 val, .int .i64 sh, .slice pa parts.length pc]) := Has.newA w _ _
  clear hp
  go_enter Tryz.func52, Tryz.ntmps52
  go_wp2_with fail
  refine (nat_any 0 _ (by omega) (by omega)).mono ?_
  rintro e w1 ⟨v1, l1, rfl, hu, hud, hul, hb1⟩
  have hb1' := (HA.out _).trans (hb1.mono (by simp))
  go_wp2_with fail
  refine (nat_any 1 _ (by omega) (by omega)).mono ?_
  rintro e w2 ⟨v2, l2, rfl, hd, hdd, hdl, hb2⟩
  have hb2' := hb1'.trans (hb2.mono hb1'.size)
  have hX2 := (HX.out.below hb1 HX.out.lt).below hb2 (Nat.lt_of_lt_of_le HX.out.lt hb1.size)
  have hs1 := hb1'.size
  have HU : Hid (Big w.heap.size w2 v1 l1 ∧ dval l1 = 0 ∧ l1.length ≤ 5) := ⟨(hu.below hb2).base (by simp), hud, hul⟩
  have HD : Hid (Big w.heap.size w2 v2 l2 ∧ dval l2 = 1 ∧ l2.length ≤ 5) := ⟨hd.base hs1, hdd, hdl⟩
  have HB2 : Hid (Below w.heap.size w w2) := hb2'
  have HX2 : Hid (Has w2 w.heap.size 84 [.int .i64 who, .int .i64 val, .int .i64 sh, .slice pa parts.length pc]) := hX2
  clear hu hud hul hd hdd hdl hb1 hb2 hb1' hb2' hX2 HX HA hs1
  go_wp2_with fail
  go_loopw [7, 8, 9] (fun up dn i wr => ∃ (n : Nat) (lu ld : List Int), i = .int .i64 n ∧ n ≤ parts.length ∧ Big w.heap.size wr up lu ∧ Big w.heap.size wr dn ld ∧ dval lu = (ud sh (parts.take n)).1 ∧ dval ld = (ud sh (parts.take n)).2 ∧ lu.length ≤ 5 + 6200 * n ∧ ld.length ≤ 5 + 6 * n ∧ Below w2.heap.size w2 wr) (fun _ _ i _ => parts.length - (intOf i).toNat)
  case atStart => exact ⟨0, l1, l2, rfl, Nat.zero_le _, HU.out.1, HD.out.1, HU.out.2.1, HD.out.2.1, by have := HU.out.2.2; omega, by have := HD.out.2.2; omega, Below.refl _ _⟩
  case round =>
    clear HU HD
    obtain ⟨n, lu, ld, rfl, hn, hu, hd, hud, hdd, hul, hdl, hbw⟩ := hrel
    have hX := HX2.out.below hbw HX2.out.lt
    have x2 : wr.cell? ⟨w.heap.size, 2, none⟩ = some (.int .i64 sh) := hX.cell 2
    have x3 : wr.cell? ⟨w.heap.size, 3, none⟩ = some (.slice pa parts.length pc) := hX.cell 3
    have hbW : Below w.heap.size w wr := HB2.out.trans (hbw.mono HB2.out.size)
    have hszW := hbW.size
    by_cases hlt : n < parts.length
    · have hp' := HP.out.below hbW (Nat.le_refl _)
      obtain ⟨gp, rfl, hc⟩ := hp'.get (by omega)
      have y0 := hc _ _ (prow_at parts n hlt 0 (by omega))
      have y1 := hc _ _ (prow_at parts n hlt 1 (by omega))
      rw [Nat.add_zero] at y0
      obtain ⟨o0, o1, p0, p1⟩ := hb n hlt
      have HS : Hid (ud sh (parts.take (n + 1)) = ((ud sh (parts.take n)).1 * parts[n].shares + parts[n].of * sh * (ud sh (parts.take n)).2, (ud sh (parts.take n)).2 * parts[n].shares)) := ud_snoc sh parts n hlt
      have hgp : gp < wr.heap.size := World.block_lt_of_cell? wr _ y0
      have hgx : w.heap.size < wr.heap.size := hX.lt
      generalize parts[n] = po at *
      obtain ⟨pof, psh⟩ := po
      simp only at o0 o1 p0 p1 y0 y1 HS
      obtain ⟨m0, m1⟩ := mul_bd o0 o1 s0 s1
      have HUd : Hid (Big w.heap.size wr u7 lu ∧ dval lu = (ud sh (parts.take n)).1 ∧ lu.length ≤ 5 + 6200 * n) := ⟨hu, hud, hul⟩
      have HDd : Hid (Big w.heap.size wr u8 ld ∧ dval ld = (ud sh (parts.take n)).2 ∧ ld.length ≤ 5 + 6 * n) := ⟨hd, hdd, hdl⟩
      have HBw : Hid (Below w2.heap.size w2 wr) := hbw
      clear hu hud hul hd hdd hdl hc hp' hbW
      go_wp2_with fail
      refine (nat_any psh _ p0 (by omega)).mono ?_
      rintro e w3 ⟨vs, ls, rfl, hsB, hsd, hsl, hb3⟩
      have hX3 := hX.below hb3 hX.lt
      have x2' : w3.cell? ⟨w.heap.size, 2, none⟩ = some (.int .i64 sh) := hX3.cell 2
      have x3' : w3.cell? ⟨w.heap.size, 3, none⟩ = some (.slice (some ⟨gp, 0, none⟩) parts.length pc) := hX3.cell 3
      have y0' : w3.cell? ⟨gp, n * 2, none⟩ = some (.int .i64 pof) := by rw [hb3.cell (p := ⟨gp, n * 2, none⟩) hgp]; exact y0
      have HNd : Hid (∀ m, Calls Tryz.prog 101 #[.int .i64 (pof * sh)] (w3.drewN m) fun e w' => ∃ v l, e = .returned v ∧ Big w3.heap.size w' v l ∧ dval l = pof * sh ∧ l.length ≤ 5 ∧ Below w3.heap.size w3 w') := fun m => by
        refine (nat_any (pof * sh) (w3.drewN m) m0 (by omega)).mono ?_
        rintro e w' ⟨v, l, rfl, h1, h2, h3, h4⟩
        exact ⟨v, l, rfl, h1, h2, h3, (below_drewN (Below.refl _ _) m).trans h4⟩
      have HSs : Hid (Big w.heap.size w3 vs ls ∧ dval ls = psh ∧ ls.length ≤ 5) := ⟨hsB.base hszW, hsd, hsl⟩
      have HB3 : Hid (Below wr.heap.size wr w3) := hb3
      clear hsB hsd hsl hb3 hX3 x2 x3 y0 y1 hX
      go_wp2_with fail
      refine wp_region_still_tail 9 (by kernel_rfl) (by kernel_rfl) ?_
      simp only [List.take_succ_cons, List.take_zero, List.drop_succ_cons, List.drop_zero]
      repeat still_step
      refine wpStill_nil ?_
      go_wp2_with fail
      refine (HNd.out 1).mono ?_
      rintro e w4 ⟨vq, lq, rfl, k1, k2, k3, k4⟩
      have hz3 := HB3.out.size
      have hz4 := k4.size
      have hU4 := (HUd.out.1.below HB3.out).below k4
      have hD4 := (HDd.out.1.below HB3.out).below k4
      have hS4 := HSs.out.1.below k4
      have hQ4 : Big w.heap.size w4 vq lq := k1.base (by omega)
      have hul := HUd.out.2.2
      have hdl := HDd.out.2.2
      have hsl := HSs.out.2.2
      have HB4 : Hid (Below w2.heap.size w2 w4) := (HBw.out.trans (HB3.out.mono HBw.out.size)).trans (k4.mono (by have := HBw.out.size; omega))
      clear k1 k4 HNd HB3 HBw
      go_wp2_with fail
      refine (times_any _ _ lu ls _ hU4.sl hS4.sl hU4.dg hS4.dg (by omega) (by omega)).mono ?_
      rintro e w5 ⟨va, lA, rfl, hA5, hAd, hAl, hb5⟩
      have hD5 := hD4.below hb5
      have hS5 := hS4.below hb5
      have hQ5 := hQ4.below hb5
      have hA5' := hA5.base (show w.heap.size ≤ w4.heap.size by have := HB4.out.size; have := HB2.out.size; omega)
      have HB5 : Hid (Below w2.heap.size w2 w5) := HB4.out.trans (hb5.mono HB4.out.size)
      clear hU4 hD4 hS4 hQ4 hA5 hb5 HB4
      go_wp2_with fail
      refine (times_any _ _ lq ld _ hQ5.sl hD5.sl hQ5.dg hD5.dg (by omega) (by omega)).mono ?_
      rintro e w6 ⟨vb, lB, rfl, hB6, hBd, hBl, hb6⟩
      have hD6 := hD5.below hb6
      have hS6 := hS5.below hb6
      have hA6 := hA5'.below hb6
      have hB6' := hB6.base (show w.heap.size ≤ w5.heap.size by have := HB5.out.size; have := HB2.out.size; omega)
      have HB6 : Hid (Below w2.heap.size w2 w6) := HB5.out.trans (hb6.mono HB5.out.size)
      clear hD5 hS5 hQ5 hA5' hB6 hb6 HB5
      go_wp2_with fail
      refine (plus_any _ _ lA lB _ hA6.sl hB6'.sl hA6.dg hB6'.dg hA6.nm hB6'.nm (by omega) (by omega)).mono ?_
      rintro e w7 ⟨vc, lC, rfl, hC7, hCd, hCl, hb7⟩
      have hD7 := hD6.below hb7
      have hS7 := hS6.below hb7
      have hC7' := hC7.base (show w.heap.size ≤ w6.heap.size by have := HB6.out.size; have := HB2.out.size; omega)
      have HB7 : Hid (Below w2.heap.size w2 w7) := HB6.out.trans (hb7.mono HB6.out.size)
      clear hD6 hS6 hA6 hB6' hC7 hb7 HB6
      go_wp2_with fail
      refine (times_any _ _ ld ls _ hD7.sl hS7.sl hD7.dg hS7.dg (by omega) (by omega)).mono ?_
      rintro e w8 ⟨vd, lD, rfl, hD8, hDd, hDl, hb8⟩
      have HC8 : Hid (Big w.heap.size w8 vc lC) := hC7'.below hb8
      have HD8 : Hid (Big w.heap.size w8 vd lD) := hD8.base (by have := HB7.out.size; have := HB2.out.size; omega)
      have HB8 : Hid (Below w2.heap.size w2 w8) := HB7.out.trans (hb8.mono HB7.out.size)
      have HV : Hid (dval lC = (ud sh (parts.take (n + 1))).1 ∧ dval lD = (ud sh (parts.take (n + 1))).2) := by
        rw [HS.out]
        exact ⟨by rw [hCd, hAd, hBd, HUd.out.2.1, HSs.out.2.1, k2, HDd.out.2.1], by rw [hDd, HDd.out.2.1, HSs.out.2.1]⟩
      have HLn : Hid (lC.length ≤ 5 + 6200 * (n + 1) ∧ lD.length ≤ 5 + 6 * (n + 1)) := by
        show lC.length ≤ 5 + 6200 * (n + 1) ∧ lD.length ≤ 5 + 6 * (n + 1)
        omega
      clear hC7' hD8 hb8 hD7 hS7 HB7 hCd hAd hBd hDd k2 HUd HDd HSs hul hdl hsl hAl hBl hCl hDl
      go_wp2
      refine And.intro ?_ ?_
      · first | exact ⟨n + 1, lC, lD, by go_num, by omega, HC8.out, HD8.out, HV.out.1, HV.out.2, HLn.out.1, HLn.out.2, HB8.out⟩ | ((repeat apply Exists.intro); exact ⟨⟨n + 1, lC, lD, by go_num, by omega, HC8.out, HD8.out, HV.out.1, HV.out.2, HLn.out.1, HLn.out.2, HB8.out⟩, rfl⟩)
      · simp [intOf]; omega
    · have HUd : Hid (Big w.heap.size wr u7 lu ∧ dval lu = (ud sh parts).1 ∧ lu.length ≤ 5 + 6200 * n) := ⟨hu, by rw [hud, List.take_of_length_le (by omega)], hul⟩
      have HDd : Hid (Big w.heap.size wr u8 ld ∧ dval ld = (ud sh parts).2 ∧ ld.length ≤ 5 + 6 * n) := ⟨hd, by rw [hdd, List.take_of_length_le (by omega)], hdl⟩
      have HBW : Hid (Below w.heap.size w wr) := hbW
      clear hu hud hul hd hdd hdl hbw hbW hX
      go_wp2_with fail
      refine (nat_any q _ q0 (by omega)).mono ?_
      rintro e w3 ⟨v3, l3, rfl, h3, h3d, h3l, hb3⟩
      have hU3 := HUd.out.1.below hb3
      have hD3 := HDd.out.1.below hb3
      have h3' := h3.base (show w.heap.size ≤ wr.heap.size by have := HBW.out.size; omega)
      have HB3 : Hid (Below w.heap.size w w3) := HBW.out.trans (hb3.mono HBW.out.size)
      have hul := HUd.out.2.2
      have hdl := HDd.out.2.2
      clear h3 hb3 HBW
      go_wp2_with fail
      refine (nat_any (q + 2) _ (by omega) (by omega)).mono ?_
      rintro e w4 ⟨v4, l4, rfl, h4, h4d, h4l, hb4⟩
      have hU4 := hU3.below hb4
      have hD4 := hD3.below hb4
      have h34 := h3'.below hb4
      have h4' := h4.base (show w.heap.size ≤ w3.heap.size by have := HB3.out.size; omega)
      have HB4 : Hid (Below w.heap.size w w4) := HB3.out.trans (hb4.mono HB3.out.size)
      clear h4 hb4 hU3 hD3 h3' HB3
      go_wp2_with fail
      refine (times_any _ _ l3 ld _ h34.sl hD4.sl h34.dg hD4.dg (by omega) (by omega)).mono ?_
      rintro e w5 ⟨v5, l5, rfl, h5, h5d, h5l, hb5⟩
      have hU5 := hU4.below hb5
      have hD5 := hD4.below hb5
      have h45 := h4'.below hb5
      have h5' := h5.base (show w.heap.size ≤ w4.heap.size by have := HB4.out.size; omega)
      have HB5 : Hid (Below w.heap.size w w5) := HB4.out.trans (hb5.mono HB4.out.size)
      clear h5 hb5 hU4 hD4 h34 h4' HB4
      go_wp2_with fail
      refine (times_any _ _ l4 ld _ h45.sl hD5.sl h45.dg hD5.dg (by omega) (by omega)).mono ?_
      rintro e w6 ⟨v6, l6, rfl, h6, h6d, h6l, hb6⟩
      have hU6 := hU5.below hb6
      have h56 := h5'.below hb6
      have h6' := h6.base (show w.heap.size ≤ w5.heap.size by have := HB5.out.size; omega)
      have HB6 : Hid (Below w.heap.size w w6) := HB5.out.trans (hb6.mono HB5.out.size)
      clear h6 hb6 hU5 hD5 h45 h5' HB5
      go_wp2_with fail
      have HF : Hid (mayF sh parts q = (!decide (dval lu < dval l5) && decide (dval lu < dval l6))) := by
        show mayF sh parts q = _
        unfold mayF
        rw [h5d, h6d, h3d, h4d, HUd.out.2.1, HDd.out.2.1]
      clear h5d h6d h3d h4d
      refine (above_any _ _ l5 lu _ h56.sl hU6.sl h56.dg hU6.dg h56.nm hU6.nm (by omega) (by omega)).mono ?_
      rintro e w7 ⟨rfl, m7, rfl⟩
      go_wp2_with fail
      refine (above_any _ _ l6 lu _ (h6'.drewN m7).sl (hU6.drewN m7).sl h6'.dg hU6.dg h6'.nm hU6.nm (by omega) (by omega)).mono ?_
      rintro e w8 ⟨rfl, m8, rfl⟩
      have HB8 : Hid (∀ n, Below w.heap.size w (w6.drewN n)) := fun n => below_drewN HB6.out n
      generalize decide (dval lu < dval l5) = b5 at *
      generalize decide (dval lu < dval l6) = b6 at *
      clear hU6 h56 h6' HB6 HUd HDd
      cases b5 <;> cases b6 <;> go_wp2 <;> (go_ret; exact ⟨ret_bool HF.out.symm, HB8.out _⟩)
end Go.Proofs.YtohjjgefklhmaaaGreatDoor

namespace Go.Proofs.YtohjjgefklhmaaaGreatDoor
open Go.ChangeShapes Go.WideShapes Go.ChangeAt Go.RowKit
set_option linter.unusedVariables false
set_option linter.unusedSimpArgs false

theorem lcharge {F0 : Nat → Prop} {W0 : World} (g : Nat) (c : LC) (bv vv dv ev : Value) (vals : List VS) (ds : List (DA × Value)) (ents : List ES) (who : Int) (w : World) (h : LF F0 W0 w g c bv vv dv ev vals ds ents) (hb : LBd c) :
    Calls Tryz.prog 124 #[.pointer (some ⟨g, 0, none⟩), .int .i64 who] w fun e w' => e = .returned (.int .i64 (chargeF c who).1) ∧ LF F0 W0 w' g (chargeF c who).2 bv vv dv ev vals ds ents :=
  (charge_any g c bv vv dv ev who w h.C hb).mono (by rintro e w' ⟨h1, h2, h3⟩; exact ⟨h1, h.core h2 h3⟩)
/-- Asked (P12) -/
def askF (c : LC) (vals : List VS) (ds : List (DA × Value)) (who v : Int) : Int :=
  if inN who 0 ((c.bal.length : Int) - 1) = true then
    if inN v 0 ((vals.length : Int) - 1) = true then
      if atF ds who v < 0 then 6 else 0
    else 3
  else 2
set_option maxHeartbeats 4000000 in
set_option maxRecDepth 100000 in
theorem asked_any {F0 : Nat → Prop} {W0 : World} (g : Nat) (c : LC) (bv vv dv ev : Value) (vals : List VS) (ds : List (DA × Value)) (ents : List ES) (who v : Int) (w : World) (h : LF F0 W0 w g c bv vv dv ev vals ds ents) (lb : c.bal.length ≤ 1000) (lv : vals.length ≤ 1000) (ld : ds.length ≤ 900) :
    Calls Tryz.prog 50 #[.pointer (some ⟨g, 0, none⟩), .int .i64 who, .int .i64 v] w fun e w' => e = .returned (.int .i64 (askF c vals ds who v)) ∧ w = w' := by
  have HA : Hid (Calls Tryz.prog 99 #[.pointer (some ⟨g, 0, none⟩), .int .i64 who] w fun e w' => e = .returned (.bool (inN who 0 ((c.bal.length : Int) - 1))) ∧ w = w') := account_any g c bv vv dv ev who w h.C lb
  have HV : Hid (Calls Tryz.prog 100 #[.pointer (some ⟨g, 0, none⟩), .int .i64 v] w fun e w' => e = .returned (.bool (inN v 0 ((vals.length : Int) - 1))) ∧ w = w') := lval_any g vv vals v w (h.lvals lv)
  have HAt : Hid (Calls Tryz.prog 51 #[.pointer (some ⟨g, 0, none⟩), .int .i64 who, .int .i64 v] w fun e w' => e = .returned (.int .i64 (atF ds who v)) ∧ w = w') := at_lany g _ ds who v w (h.C.L.cell 8) (Rd.of_owns h.d) (by omega)
  generalize hR : askF c vals ds who v = R
  have HR : Hid (askF c vals ds who v = R) := hR
  clear hR h
  unfold askF at HR
  generalize inN who 0 ((c.bal.length : Int) - 1) = b1 at *
  generalize inN v 0 ((vals.length : Int) - 1) = b2 at *
  generalize atF ds who v = q at *
  cases b1 with
  | false =>
    go_enter Tryz.func50, Tryz.ntmps50
    go_wp2_with fail
    refine HA.out.mono ?_
    rintro e w' ⟨rfl, rfl⟩
    clear HA HV HAt
    go_wp2
    go_ret
    rw [← HR.out]; exact ⟨rfl, rfl⟩
  | true =>
    rw [if_pos rfl] at HR
    cases b2 with
    | false =>
      go_enter Tryz.func50, Tryz.ntmps50
      go_wp2_with fail
      refine HA.out.mono ?_
      rintro e w' ⟨rfl, rfl⟩
      clear HA HAt
      go_wp2_with fail
      refine HV.out.mono ?_
      rintro e w' ⟨rfl, rfl⟩
      clear HV
      go_wp2
      go_ret
      rw [← HR.out]; exact ⟨rfl, rfl⟩
    | true =>
      rw [if_pos rfl] at HR
      go_enter Tryz.func50, Tryz.ntmps50
      go_wp2_with fail
      refine HA.out.mono ?_
      rintro e w' ⟨rfl, rfl⟩
      clear HA
      go_wp2_with fail
      refine HV.out.mono ?_
      rintro e w' ⟨rfl, rfl⟩
      clear HV
      go_wp2_with fail
      refine HAt.out.mono ?_
      rintro e w' ⟨rfl, rfl⟩
      clear HAt
      by_cases hq : q < 0
      · rw [if_pos hq] at HR
        go_wp2
        go_ret
        rw [← HR.out]; exact ⟨rfl, rfl⟩
      · rw [if_neg hq] at HR
        go_wp2
        go_ret
        rw [← HR.out]; exact ⟨rfl, rfl⟩

theorem askF_zero {c : LC} {vals : List VS} {ds : List (DA × Value)} {who v : Int} (h : askF c vals ds who v = 0) : ∃ kw k i : Nat, who = kw ∧ v = k ∧ kw < c.bal.length ∧ k < vals.length ∧ ∃ hi : i < ds.length, atF ds who v = i ∧ ds[i].1.who = who ∧ ds[i].1.val = v := by
  unfold askF at h
  split at h <;> rename_i h1
  · split at h <;> rename_i h2
    · split at h <;> rename_i h3
      · simp at h
      · obtain ⟨a1, a2⟩ := inN_iff.1 h1
        obtain ⟨b1, b2⟩ := inN_iff.1 h2
        obtain ⟨kw, rfl⟩ := Int.eq_ofNat_of_zero_le a1
        obtain ⟨k, rfl⟩ := Int.eq_ofNat_of_zero_le b1
        rcases atF_cases ds kw k with ⟨hat, _⟩ | ⟨i, hi, hat, _, q1, q2⟩
        · omega
        · exact ⟨kw, k, i, rfl, rfl, by omega, by omega, hi, hat, q1, q2⟩
    · simp at h
  · simp at h

/-- Withdraw (P13) -/
def withdrawF (c : LC) (vals : List VS) (ds : List (DA × Value)) (who v q : Int) : Int × LC × List VS × List (DA × Value) :=
  if (chargeF c who).1 = 0 then
    if askF (chargeF c who).2 vals ds who v = 0 then (0, setB (chargeF c who).2 who.toNat ((chargeF c who).2.bal.getD who.toNat 0 + q), paidV vals v.toNat q, paidD ds (atF ds who v).toNat)
    else (askF (chargeF c who).2 vals ds who v, (chargeF c who).2, vals, ds)
  else ((chargeF c who).1, (chargeF c who).2, vals, ds)

set_option maxHeartbeats 4000000 in
set_option maxRecDepth 100000 in
theorem withdraw_any {F0 : Nat → Prop} {W0 : World} (g : Nat) (c : LC) (bv vv dv ev : Value) (vals : List VS) (ds : List (DA × Value)) (ents : List ES) (who v q : Int) (w : World) (h : LF F0 W0 w g c bv vv dv ev vals ds ents) (hb : LBnd c vals ds) (q0 : 0 ≤ q) (q1 : q ≤ 1000000000000) :
    Calls Tryz.prog 69 #[.pointer (some ⟨g, 0, none⟩), .int .i64 who, .int .i64 v, .int .i64 q] w fun e w' => e = .returned (.int .i64 (withdrawF c vals ds who v q).1) ∧ LF F0 W0 w' g (withdrawF c vals ds who v q).2.1 bv vv dv ev (withdrawF c vals ds who v q).2.2.1 (withdrawF c vals ds who v q).2.2.2 ents := by
  obtain ⟨hcl, hcb, hcw⟩ := chargeF_cases hb who
  have HCh : Hid _ := lcharge g c bv vv dv ev vals ds ents who w h hb.hc
  have lb : (chargeF c who).2.bal.length ≤ 1000 := by rw [hcl]; exact hb.hc.len
  generalize hR : withdrawF c vals ds who v q = R
  have HR : Hid (withdrawF c vals ds who v q = R) := hR
  clear hR
  unfold withdrawF at HR
  cases hr : chargeF c who with
  | mk r1 c1 =>
  rw [hr] at hcl hcb hcw lb HCh HR
  simp only at hcl hcb hcw lb HCh HR
  clear hr h
  have lv := hb.lv
  have ld := hb.ld
  go_enter Tryz.func69, Tryz.ntmps69
  go_wp2_with fail
  refine Calls.mono HCh.out ?_
  rintro e w1 ⟨rfl, h1⟩
  clear HCh
  have HL : Hid (LF F0 W0 w1 g c1 bv vv dv ev vals ds ents) := h1
  clear h1
  by_cases h0 : r1 = 0
  case neg =>
    rw [if_neg h0] at HR
    have e0 : (r1 == 0) = false := by simp [h0]
    clear hcb hcw h0
    go_wp2
    go_ret
    rw [← HR.out]; exact ⟨rfl, HL.out⟩
  subst h0
  rw [if_pos rfl] at HR
  have HA : Hid (Calls Tryz.prog 50 #[.pointer (some ⟨g, 0, none⟩), .int .i64 who, .int .i64 v] w1 fun e w' => e = .returned (.int .i64 (askF c1 vals ds who v)) ∧ w1 = w') := asked_any g c1 bv vv dv ev vals ds ents who v w1 HL.out lb lv ld
  by_cases hz : askF c1 vals ds who v = 0
  case neg =>
    rw [if_neg hz] at HR
    have e0 : (askF c1 vals ds who v == 0) = false := by simp [hz]
    generalize askF c1 vals ds who v = r2 at *
    clear hcb hcw hz
    go_wp2_with fail
    refine HA.out.mono ?_
    rintro e w' ⟨rfl, rfl⟩
    clear HA
    go_wp2
    go_ret
    rw [← HR.out]; exact ⟨rfl, HL.out⟩
  rw [if_pos hz] at HR
  rw [hz] at HA
  obtain ⟨kw, k, i, rfl, rfl, hkw, hk, hi, hat, hw, hv⟩ := askF_zero hz
  rw [hat] at HR
  simp only [Int.toNat_natCast] at HR
  have HAt : Hid (Calls Tryz.prog 51 #[.pointer (some ⟨g, 0, none⟩), .int .i64 kw, .int .i64 k] w1 fun e w' => e = .returned (.int .i64 i) ∧ w1 = w') := by
    have := at_lany g _ ds kw k w1 (HL.out.C.L.cell 8) (Rd.of_owns HL.out.d) (by omega)
    rw [hat] at this
    exact this
  obtain ⟨t0, t1, s0, s1, o0, o1⟩ := hb.v k hk
  have hbk := hcb kw hkw
  have hgd : c1.bal.getD kw 0 = c1.bal[kw] := by simp [List.getD, hkw]
  rw [← hgd] at hbk
  have HP : Hid (Calls Tryz.prog 133 #[.pointer (some ⟨g, 0, none⟩), .int .i64 i, .int .i64 q] w1 fun e w' => e = .returned (.tuple #[]) ∧ LF F0 W0 w' g (setB c1 kw (c1.bal.getD kw 0 + q)) bv vv dv ev (paidV vals k q) (paidD ds i) ents) := by
    rw [paidV_eq vals k hk q, paidD_eq ds i hi]
    exact paid_any g c1 bv vv dv ev vals ds ents i kw k q w1 HL.out hi hw hv hkw hk lb lv (by omega) _ rfl (by omega) (by omega) q0 q1 o0 o1
  generalize setB c1 kw (c1.bal.getD kw 0 + q) = c2 at *
  generalize paidV vals k q = V2 at *
  generalize paidD ds i = D2 at *
  clear hz hcb hcw hw hv hat hbk hgd
  go_wp2_with fail
  refine HA.out.mono ?_
  rintro e w' ⟨rfl, rfl⟩
  clear HA
  go_wp2_with fail
  refine HAt.out.mono ?_
  rintro e w' ⟨rfl, rfl⟩
  clear HAt
  go_wp2_with fail
  refine HP.out.mono ?_
  rintro e w2 ⟨rfl, h2⟩
  have H2 : Hid _ := h2
  clear h2 HP HL
  go_wp2
  go_ret
  rw [← HR.out]; exact ⟨rfl, H2.out⟩

/-- owned (P14, P16), behind the fee -/
def ownF (vals : List VS) (who v : Int) : Int :=
  if inN v 0 ((vals.length : Int) - 1) = true then
    if (vals.getD v.toNat ⟨0, 0, 0, 0, 0, 0, false, false⟩).owner = who then 0 else 10
  else 3
def ownedF (c : LC) (vals : List VS) (who v : Int) : Int := if (chargeF c who).1 = 0 then ownF vals who v else (chargeF c who).1
theorem ownF_zero {vals : List VS} {who v : Int} (h : ownF vals who v = 0) : ∃ k : Nat, v = k ∧ ∃ hk : k < vals.length, vals[k].owner = who := by
  unfold ownF at h
  split at h <;> rename_i h1
  · obtain ⟨b1, b2⟩ := inN_iff.1 h1
    obtain ⟨k, rfl⟩ := Int.eq_ofNat_of_zero_le b1
    have hk : k < vals.length := by omega
    split at h <;> rename_i h2
    · exact ⟨k, rfl, hk, by simpa [List.getD, hk] using h2⟩
    · simp at h
  · simp at h
set_option maxHeartbeats 4000000 in
set_option maxRecDepth 100000 in
theorem owned_any {F0 : Nat → Prop} {W0 : World} (g : Nat) (c : LC) (bv vv dv ev : Value) (vals : List VS) (ds : List (DA × Value)) (ents : List ES) (who v : Int) (w : World) (h : LF F0 W0 w g c bv vv dv ev vals ds ents) (hb : LBnd c vals ds) :
    Calls Tryz.prog 134 #[.pointer (some ⟨g, 0, none⟩), .int .i64 who, .int .i64 v] w fun e w' => e = .returned (.int .i64 (ownedF c vals who v)) ∧ LF F0 W0 w' g (chargeF c who).2 bv vv dv ev vals ds ents := by
  have HCh : Hid _ := lcharge g c bv vv dv ev vals ds ents who w h hb.hc
  generalize hR : ownedF c vals who v = R
  have HR : Hid (ownedF c vals who v = R) := hR
  clear hR
  unfold ownedF at HR
  cases hr : chargeF c who with
  | mk r1 c1 =>
  rw [hr] at HCh HR
  simp only at HCh HR
  clear hr h
  have lv := hb.lv
  go_enter Tryz.func134, Tryz.ntmps134
  go_wp2_with fail
  refine Calls.mono HCh.out ?_
  rintro e w1 ⟨rfl, h1⟩
  clear HCh
  have HL : Hid (LF F0 W0 w1 g c1 bv vv dv ev vals ds ents) := h1
  clear h1
  by_cases h0 : r1 = 0
  case neg =>
    rw [if_neg h0] at HR
    have e0 : (r1 == 0) = false := by simp [h0]
    clear h0
    go_wp2
    go_ret
    rw [← HR.out]; exact ⟨rfl, HL.out⟩
  subst h0
  rw [if_pos rfl] at HR
  unfold ownF at HR
  have HV : Hid (Calls Tryz.prog 100 #[.pointer (some ⟨g, 0, none⟩), .int .i64 v] w1 fun e w' => e = .returned (.bool (inN v 0 ((vals.length : Int) - 1))) ∧ w1 = w') := lval_any g vv vals v w1 (HL.out.lvals lv)
  by_cases hin : inN v 0 ((vals.length : Int) - 1) = true
  case neg =>
    have hin' : inN v 0 ((vals.length : Int) - 1) = false := by simpa using hin
    rw [if_neg hin] at HR
    rw [hin'] at HV
    clear hin hin'
    go_wp2_with fail
    refine HV.out.mono ?_
    rintro e w' ⟨rfl, rfl⟩
    clear HV
    go_wp2
    go_ret
    rw [← HR.out]; exact ⟨rfl, HL.out⟩
  rw [if_pos hin] at HR
  rw [hin] at HV
  obtain ⟨p1, p2⟩ := inN_iff.1 hin
  obtain ⟨k, rfl⟩ := Int.eq_ofNat_of_zero_le p1
  have hk : k < vals.length := by omega
  clear hin p1 p2
  have hgv : vals.getD k ⟨0, 0, 0, 0, 0, 0, false, false⟩ = vals[k] := by simp [List.getD, hk]
  simp only [Int.toNat_natCast, hgv] at HR
  obtain ⟨va, vc, rfl⟩ := ownsRow_slice HL.out.v
  obtain ⟨gv, rfl, _⟩ := ownsRow_some HL.out.v (by omega)
  have c7 : w1.cell? ⟨g, 7, none⟩ = some (.slice (some ⟨gv, 0, none⟩) vals.length vc) := HL.out.C.L.cell 7
  have z0 : w1.cell? ⟨gv, k * 8, none⟩ = some (.int .i64 vals[k].owner) := by
    have := (HL.out.v.cellAt (k * 8 + 0) (by omega)).trans (vrow_at vals k hk 0 (by omega))
    simpa [VS.cells] using this
  generalize vals[k].owner = ow at *
  go_wp2_with fail
  refine HV.out.mono ?_
  rintro e w' ⟨rfl, rfl⟩
  clear HV hgv
  by_cases ho : ow = who
  · rw [if_pos ho] at HR
    subst ho
    go_wp2
    go_ret
    rw [← HR.out]; exact ⟨rfl, HL.out⟩
  · rw [if_neg ho] at HR
    have e0 : (ow == who) = false := by simp [ho]
    go_wp2
    go_ret
    rw [← HR.out]; exact ⟨rfl, HL.out⟩

/-- the commission is paid -/
def collV (vals : List VS) (k : Nat) : List VS := vals.modify k (fun x => { x with outs := x.outs - x.comm, comm := 0 })
theorem collV_eq (vals : List VS) (k : Nat) (h : k < vals.length) : collV vals k = vals.set k { vals[k] with outs := vals[k].outs - vals[k].comm, comm := 0 } := by
  unfold collV
  apply List.ext_getElem?
  intro i
  rw [List.getElem?_modify, List.getElem?_set]
  by_cases e : k = i
  · subst e; simp [h]
  · simp [e]
/-- Collect (P14) -/
def collectF (c : LC) (vals : List VS) (who v : Int) : Int × LC × List VS :=
  if ownedF c vals who v = 0 then (0, setB (chargeF c who).2 who.toNat ((chargeF c who).2.bal.getD who.toNat 0 + (vals.getD v.toNat ⟨0, 0, 0, 0, 0, 0, false, false⟩).comm), collV vals v.toNat)
  else (ownedF c vals who v, (chargeF c who).2, vals)
theorem ownedF_zero {c : LC} {vals : List VS} {ds : List (DA × Value)} (hb : LBnd c vals ds) {who v : Int} (h : ownedF c vals who v = 0) : ∃ kw k : Nat, who = kw ∧ v = k ∧ kw < (chargeF c who).2.bal.length ∧ ∃ hk : k < vals.length, vals[k].owner = who := by
  unfold ownedF at h
  split at h <;> rename_i h1
  · obtain ⟨hcl, hcb, hcw⟩ := chargeF_cases hb who
    obtain ⟨kw, rfl, hkw⟩ := hcw h1
    obtain ⟨k, rfl, hk, ho⟩ := ownF_zero h
    exact ⟨kw, k, rfl, rfl, by omega, hk, ho⟩
  · exact absurd h h1

set_option maxHeartbeats 4000000 in
set_option maxRecDepth 100000 in
theorem collect_any {F0 : Nat → Prop} {W0 : World} (g : Nat) (c : LC) (bv vv dv ev : Value) (vals : List VS) (ds : List (DA × Value)) (ents : List ES) (who v : Int) (w : World) (h : LF F0 W0 w g c bv vv dv ev vals ds ents) (hb : LBnd c vals ds) (hm : ∀ k (h : k < vals.length), 0 ≤ vals[k].comm ∧ vals[k].comm ≤ 1000000000000) :
    Calls Tryz.prog 70 #[.pointer (some ⟨g, 0, none⟩), .int .i64 who, .int .i64 v] w fun e w' => e = .returned (.int .i64 (collectF c vals who v).1) ∧ LF F0 W0 w' g (collectF c vals who v).2.1 bv vv dv ev (collectF c vals who v).2.2 ds ents := by
  have HOw : Hid _ := owned_any g c bv vv dv ev vals ds ents who v w h hb
  obtain ⟨hcl, hcb, hcw⟩ := chargeF_cases hb who
  have lb : (chargeF c who).2.bal.length ≤ 1000 := by rw [hcl]; exact hb.hc.len
  have lv := hb.lv
  generalize hR : collectF c vals who v = R
  have HR : Hid (collectF c vals who v = R) := hR
  clear hR
  unfold collectF at HR
  by_cases hz : ownedF c vals who v = 0
  case neg =>
    rw [if_neg hz] at HR
    have e0 : (ownedF c vals who v == 0) = false := by simp [hz]
    generalize ownedF c vals who v = r at *
    clear hcb hcw hz h
    go_enter Tryz.func70, Tryz.ntmps70
    go_wp2_with fail
    refine Calls.mono HOw.out ?_
    rintro e w1 ⟨rfl, h1⟩
    have HL : Hid _ := h1
    clear HOw h1
    go_wp2
    go_ret
    rw [← HR.out]; exact ⟨rfl, HL.out⟩
  obtain ⟨kw, k, rfl, rfl, hkw, hk, ho⟩ := ownedF_zero hb hz
  rw [if_pos hz] at HR
  rw [hz] at HOw
  obtain ⟨t0, t1, s0, s1, o0, o1⟩ := hb.v k hk
  obtain ⟨m0, m1⟩ := hm k hk
  have hbk := hcb kw hkw
  have hgv : vals.getD k ⟨0, 0, 0, 0, 0, 0, false, false⟩ = vals[k] := by simp [List.getD, hk]
  simp only [Int.toNat_natCast, hgv] at HR
  generalize (chargeF c (kw : Int)).2 = c1 at *
  have hgd : c1.bal.getD kw 0 = c1.bal[kw] := by simp [List.getD, hkw]
  rw [← hgd] at hbk
  obtain ⟨b0, b1⟩ := hbk
  clear hcb hcw hz h hgv hgd
  go_enter Tryz.func70, Tryz.ntmps70
  go_wp2_with fail
  refine Calls.mono HOw.out ?_
  rintro e w1 ⟨rfl, h1⟩
  clear HOw
  obtain ⟨ba, bc, rfl⟩ := ownsRow_slice h1.C.b
  obtain ⟨gb, rfl, _⟩ := ownsRow_some h1.C.b (by omega)
  obtain ⟨va, vc, rfl⟩ := ownsRow_slice h1.v
  obtain ⟨gv, rfl, _⟩ := ownsRow_some h1.v (by omega)
  have c4 : w1.cell? ⟨g, 4, none⟩ = some (.slice (some ⟨gb, 0, none⟩) c1.bal.length bc) := h1.C.L.cell 4
  have c7 : w1.cell? ⟨g, 7, none⟩ = some (.slice (some ⟨gv, 0, none⟩) vals.length vc) := h1.C.L.cell 7
  have cb : w1.cell? ⟨gb, kw, none⟩ = some (.int .i64 (c1.bal.getD kw 0)) := by
    rw [h1.C.b.cellAt kw (by omega)]; simp [ints, hkw]
  have fb := h1.C.b.frozenAt kw
  have z4 : w1.cell? ⟨gv, k * 8 + 4, none⟩ = some (.int .i64 vals[k].comm) := by
    have := (h1.v.cellAt (k * 8 + 4) (by omega)).trans (vrow_at vals k hk 4 (by omega))
    simpa [VS.cells] using this
  have z5 : w1.cell? ⟨gv, k * 8 + 5, none⟩ = some (.int .i64 vals[k].outs) := by
    have := (h1.v.cellAt (k * 8 + 5) (by omega)).trans (vrow_at vals k hk 5 (by omega))
    simpa [VS.cells] using this
  have f4 := h1.v.frozenAt (k * 8 + 4)
  have f5 := h1.v.frozenAt (k * 8 + 5)
  have n1 : g ≠ gb := fun e => Has.apart h1.C.L h1.C.b (by decide) (by rw [e]; rfl)
  have n2 : g ≠ gv := fun e => Has.apart h1.C.L h1.v (by decide) (by rw [e]; rfl)
  have n4 : gb ≠ gv := fun e => row_ne h1.C.b h1.v (by decide) (by rw [e]; rfl)
  have n1' := n1.symm
  have n2' := n2.symm
  have n4' := n4.symm
  have hF := (h1.setBal rfl kw (c1.bal.getD kw 0 + vals[k].comm)).setVal rfl (k * 8 + 5) (.int .i64 (vals[k].outs - vals[k].comm)) (vals' := vals.set k { vals[k] with outs := vals[k].outs - vals[k].comm }) (vset vals k hk 5 _ _ rfl (by omega)) (by simp)
  have hF2 := hF.setVal (by simp) (k * 8 + 4) (.int .i64 0) (vals' := collV vals k) (by
    rw [collV_eq vals k hk]
    have := vset (vals.set k { vals[k] with outs := vals[k].outs - vals[k].comm }) k (by simpa using hk) 4 (.int .i64 0) { vals[k] with outs := vals[k].outs - vals[k].comm, comm := 0 } (by simp [VS.cells]) (by omega)
    rw [this, List.set_set]) (by simp [collV])
  have HF : Hid _ := hF2
  clear hF hF2 h1
  generalize collV vals k = V2 at *
  generalize vals[k].outs = zo at *
  generalize vals[k].comm = zc at *
  generalize setB c1 kw (c1.bal.getD kw 0 + zc) = c2 at *
  generalize c1.bal.getD kw 0 = zb at *
  go_wp2_with fail
  go_region
  go_wp2_with fail
  go_region
  go_wp2
  try (go_region; go_wp2)
  go_ret
  rw [← HR.out]; exact ⟨rfl, HF.out.eta rfl rfl rfl rfl⟩

/-- Free (P16) -/
def freeV (vals : List VS) (k : Nat) : List VS := vals.modify k (fun x => { x with jailed := false })
theorem freeV_eq (vals : List VS) (k : Nat) (h : k < vals.length) : freeV vals k = vals.set k { vals[k] with jailed := false } := by
  unfold freeV
  apply List.ext_getElem?
  intro i
  rw [List.getElem?_modify, List.getElem?_set]
  by_cases e : k = i
  · subst e; simp [h]
  · simp [e]
def freeF (c : LC) (vals : List VS) (who v : Int) : Int × LC × List VS :=
  if ownedF c vals who v = 0 then
    if (vals.getD v.toNat ⟨0, 0, 0, 0, 0, 0, false, false⟩).jailed = true then (0, (chargeF c who).2, freeV vals v.toNat) else (11, (chargeF c who).2, vals)
  else (ownedF c vals who v, (chargeF c who).2, vals)
set_option maxHeartbeats 4000000 in
set_option maxRecDepth 100000 in
theorem free_lany {F0 : Nat → Prop} {W0 : World} (g : Nat) (c : LC) (bv vv dv ev : Value) (vals : List VS) (ds : List (DA × Value)) (ents : List ES) (who v : Int) (w : World) (h : LF F0 W0 w g c bv vv dv ev vals ds ents) (hb : LBnd c vals ds) :
    Calls Tryz.prog 72 #[.pointer (some ⟨g, 0, none⟩), .int .i64 who, .int .i64 v] w fun e w' => e = .returned (.int .i64 (freeF c vals who v).1) ∧ LF F0 W0 w' g (freeF c vals who v).2.1 bv vv dv ev (freeF c vals who v).2.2 ds ents := by
  have HOw : Hid _ := owned_any g c bv vv dv ev vals ds ents who v w h hb
  have lv := hb.lv
  generalize hR : freeF c vals who v = R
  have HR : Hid (freeF c vals who v = R) := hR
  clear hR
  unfold freeF at HR
  by_cases hz : ownedF c vals who v = 0
  case neg =>
    rw [if_neg hz] at HR
    have e0 : (ownedF c vals who v == 0) = false := by simp [hz]
    generalize ownedF c vals who v = r at *
    clear hz h
    go_enter Tryz.func72, Tryz.ntmps72
    go_wp2_with fail
    refine Calls.mono HOw.out ?_
    rintro e w1 ⟨rfl, h1⟩
    have HL : Hid _ := h1
    clear HOw h1
    go_wp2
    go_ret
    rw [← HR.out]; exact ⟨rfl, HL.out⟩
  obtain ⟨kw, k, rfl, rfl, hkw, hk, ho⟩ := ownedF_zero hb hz
  rw [if_pos hz] at HR
  rw [hz] at HOw
  have hgv : vals.getD k ⟨0, 0, 0, 0, 0, 0, false, false⟩ = vals[k] := by simp [List.getD, hk]
  simp only [Int.toNat_natCast, hgv] at HR
  generalize (chargeF c (kw : Int)).2 = c1 at *
  clear hz h hgv
  go_enter Tryz.func72, Tryz.ntmps72
  go_wp2_with fail
  refine Calls.mono HOw.out ?_
  rintro e w1 ⟨rfl, h1⟩
  clear HOw
  obtain ⟨va, vc, rfl⟩ := ownsRow_slice h1.v
  obtain ⟨gv, rfl, _⟩ := ownsRow_some h1.v (by omega)
  have c7 : w1.cell? ⟨g, 7, none⟩ = some (.slice (some ⟨gv, 0, none⟩) vals.length vc) := h1.C.L.cell 7
  have z6 : w1.cell? ⟨gv, k * 8 + 6, none⟩ = some (.bool vals[k].jailed) := by
    have := (h1.v.cellAt (k * 8 + 6) (by omega)).trans (vrow_at vals k hk 6 (by omega))
    simpa [VS.cells] using this
  have f6 := h1.v.frozenAt (k * 8 + 6)
  have HF : Hid _ := h1.setVal rfl (k * 8 + 6) (.bool false) (vals' := freeV vals k) (by rw [freeV_eq vals k hk]; exact vset vals k hk 6 _ _ rfl (by omega)) (by simp [freeV])
  have HL : Hid _ := h1
  clear h1
  generalize freeV vals k = V2 at *
  generalize vals[k].jailed = zj at *
  cases zj with
  | false =>
    rw [if_neg (by decide)] at HR
    go_wp2
    go_ret
    rw [← HR.out]; exact ⟨rfl, HL.out⟩
  | true =>
    rw [if_pos rfl] at HR
    clear HL
    go_wp2
    try (go_region; go_wp2)
    go_ret
    rw [← HR.out]; exact ⟨rfl, HF.out.eta rfl rfl rfl rfl⟩
end Go.Proofs.YtohjjgefklhmaaaGreatDoor
