import Derived.Test.YtohjjgefklhmaaaGreatDoorZExpM
import Derived.Deep.RegionWith
import Derived.Deep.DeepCutAuto
namespace Go.Proofs.YtohjjgefklhmaaaGreatDoor
open Go.ChangeShapes Go.WideShapes Go.ChangeAt Go.RowKit
set_option linter.unusedVariables false
set_option linter.unusedSimpArgs false
set_option maxHeartbeats 40000000
set_option maxRecDepth 100000
variable {i a b c d e k : Nat}
def CU (i a b c d e : Nat) : Nat -> Nat × Nat := fun k => if k < a then (0, 0) else if k < b then (i, 1) else if k < c then (0, 0) else if k < d then (i, 2) else if k < e then (i, 3) else if k = e then (i, 4) else (0, 0)
theorem Ff (h : k < a) : CU i a b c d e k = (0, 0) := if_pos h
theorem Qe (h : a <= k) (h2 : k < b) : CU i a b c d e k = (i, 1) := by unfold CU; rw [if_neg (by omega), if_pos h2]
theorem On (ab : a <= b) (bc : b <= c) (h : c <= k) (h2 : k < d) : CU i a b c d e k = (i, 2) := by unfold CU; rw [if_neg (by omega), if_neg (by omega), if_neg (by omega), if_pos h2]
theorem PD (ab : a <= b) (bc : b <= c) (cd : c <= d) (h : d <= k) (h2 : k < e) : CU i a b c d e k = (i, 3) := by unfold CU; rw [if_neg (by omega), if_neg (by omega), if_neg (by omega), if_neg (by omega), if_pos h2]
theorem Oq (ab : a <= b) (bc : b <= c) (cd : c <= d) (de : d <= e) : CU i a b c d e e = (i, 4) := by unfold CU; rw [if_neg (by omega), if_neg (by omega), if_neg (by omega), if_neg (by omega), if_neg (by omega), if_pos rfl]
theorem KG (ab : a <= b) (bc : b <= c) (cd : c <= d) (de : d <= e) (h : e < k) : CU i a b c d e k = (0, 0) := by unfold CU; rw [if_neg (by omega), if_neg (by omega), if_neg (by omega), if_neg (by omega), if_neg (by omega), if_neg (by omega)]
theorem PE.engX {S : Nat -> Prop} {W0 w : World} {g : Nat} {x : EC} {bv vv ev : Value} (h : PE S W0 w g x bv vv ev) : Bh (fun k => S k ∧ k < w.heap.size) w g x := ⟨bv, vv, ev, h.rest, fun k hk => ⟨h.own k hk, h.ownlt k hk⟩⟩
theorem JV (Bt : Nat) {w : World} (hIt : BU Bt w) (hBt : Bt <= w.heap.size) (i : Nat) (hi0 : i ≠ 0) {lab : Nat -> Nat × Nat} (base : Nat) (w0 : World) (gw : Nat) (b o r x : RowV) (tv : Value) (ts : List (ByteArray × Option Addr)) (a1 : Int) (hS : WSt base w0 w gw b o r { v := tv, n := ts.length, xs := CN ts } x (KL lab w)) (hts : ts.length <= 100000) (hz : TxS (TxQ w lab) ts) (hxn : x.n <= 1000000) (p1 : -9223372036854775808 <= a1) (p2 : a1 <= 9223372036854775807) :
  Calls Tryz.prog 15 #[.pointer (some ⟨gw, 0, none⟩), .int .i64 a1] w fun e w' => e = .returned (.bool true) ∧ ∃ x', K8 w w' i x x' ∧ WSt base w0 w' gw b o r { v := tv, n := ts.length, xs := CN ts } x' (KL lab w) := by
 obtain ⟨i5, hi5, hz50, hz51, hz52⟩ := info_parts Jh
 obtain ⟨ta, tc, (hta : tv = .slice ta ts.length tc)⟩ := Ac hS.rt
 subst hta
 have c3 : w.cell? ⟨gw, 3, none⟩ = some (.slice ta ts.length tc) := hS.W.cell 3
 by_cases h0 : ts.length = 0
 ·have h0b : ((ts.length : Int) == 0) = true := by simp [h0]
  have HS := Hd hS
  clear hS hz h0 hIt
  go_enter Tryz.func15, Tryz.ntmps15
  go_wp2
  go_ret
  exact ⟨rfl, x, ⟨Nat.le_refl _, .inl rfl⟩, HS.out⟩
 have h0b : ((ts.length : Int) == 0) = false := by rw [beq_eq_false_iff_ne]; omega
 obtain ⟨q1, q2⟩ := D9 a1 ts.length (by omega)
 obtain ⟨k, hk⟩ := Int.eq_ofNat_of_zero_le q1
 have hkl : k < ts.length := by omega
 obtain ⟨gt, rfl, _⟩ := Ag hS.rt (by omega)
 have t0 := (hS.rt.cellAt (k * 2) (by show k * 2 < ts.length * 2; omega)).trans (Hq ts k hkl).1
 have t1 := (hS.rt.cellAt (k * 2 + 1) (by show k * 2 + 1 < ts.length * 2; omega)).trans (Hq ts k hkl).2
 have hs := (hz k hkl).1
 have HQk : Hid (TxQ w lab (ts[k].1, ts[k].2)) := (hz k hkl).2
 generalize ts[k].1 = s at *
 generalize ts[k].2 = pl at *
 have HP : Hid (∀ u, Calls Tryz.prog 16 #[.int .i64 a1, .int .i64 ts.length] u fun e w' => e = .returned (.int .i64 k) ∧ u = w') := fun u => by
  rw [<- hk]; exact Gp _ _ _ p1 p2 (by omega) (by omega)
 have HS := Hd hS
 have HIt := Hd hIt
 have g1 : gt < w.heap.size := World.block_lt_of_cell? w _ t0
 have g2 : gw < w.heap.size := hS.W.lt
 clear hk q1 q2 hz h0 hS hIt
 go_enter Tryz.func15, Tryz.ntmps15
 go_wp2_with fail
 go_cut [5] (fun s8 wx => s8 = .pointer (some ⟨w.heap.size, 0, none⟩) ∧ wx = (w.alloc (.cells #[.string s, .pointer pl] 42)).drew)
 case first =>
  go_region_with (go_at_call 16; refine (HP.out _).mono ?_; rintro e w' ⟨rfl, rfl⟩)
  all_goals (go_wp2_with fail; go_meet; exact ⟨rfl, rfl⟩)
 case rest =>
 obtain ⟨rfl, rfl⟩ := hcut
 have HB1 : Hid (Below w.heap.size w (w.alloc (.cells #[.string s, .pointer pl] 42)).drew) := ((Below.refl _ w).alloc (Nat.le_refl _) _).drew
 have HT1 : Hid (Has (w.alloc (.cells #[.string s, .pointer pl] 42)).drew w.heap.size 42 [.string s, .pointer pl]) := (Has.newA w _ _).drew
 clear HP t0 t1 c3
 generalize (w.alloc (.cells #[.string s, .pointer pl] 42)).drew = w1 at HB1 HT1 ⊢
 have x0 : w1.cell? ⟨w.heap.size, 0, none⟩ = some (.string s) := HT1.out.cell 0
 have x1 : w1.cell? ⟨w.heap.size, 1, none⟩ = some (.pointer pl) := HT1.out.cell 1
 have gt1 := HT1.out.lt
 have HIm : Hid (∀ u, Below w.heap.size w u -> Calls Tryz.prog 21 #[.string s] u fun e w' => Mm s u w' e) := fun u hb => Ln u s (by omega) Bt (HIt.out.on (hb.mono hBt)) (Nat.le_trans hBt hb.size)
 go_wp2_with fail
 refine (HIm.out w1 HB1.out).mono ?_
 rintro e w2 hpost
 rcases hpost with ⟨rfl, hb2, hno⟩ | ⟨gx, bv, vv, ev, rfl, hP, hf, hib, hrb, hsx⟩
 ·-- the text is refused: nobody's engine wrote it
  have hpl : pl = none := by
   rcases HQk.out with h | ⟨gl, y, h1, h2, h3, h4⟩
   ·exact h
   ·exact absurd (Qh h3 h4) hno
  subst hpl
  have hb2' : Below w.heap.size w w2 := HB1.out.trans (hb2.mono HB1.out.size)
  have HF : Hid (w.heap.size <= w2.heap.size ∧ WSt base w0 w2 gw b o r { v := .slice (some ⟨gt, 0, none⟩) ts.length tc, n := ts.length, xs := CN ts } x (KL lab w)) := ⟨hb2'.size, HS.out.below hb2'⟩
  have hT2 := HT1.out.below hb2 HT1.out.lt
  have y1 : w2.cell? ⟨w.heap.size, 1, none⟩ = some (.pointer none) := hT2.cell 1
  have gt2 := hT2.lt
  clear hb2 hno hb2' hT2 HIm HQk x0 x1
  go_wp2
  go_ret
  refine ⟨?_, x, ⟨HF.out.1, .inl rfl⟩, HF.out.2⟩
  first | rfl | simp
 ·have hb2 : Below w1.heap.size w1 w2 := hP.fr.toBelow (Nat.le_refl _) (fun k hk h => by omega)
  have hb2' : Below w.heap.size w w2 := HB1.out.trans (hb2.mono HB1.out.size)
  have hss : (⟨(txt (BO (rdX s.data.toList).1)).toArray⟩ : ByteArray) = s := by rw [<- hsx]
  have HX : Hid (Calls Tryz.prog 22 #[.pointer (some ⟨gx, 0, none⟩)] w2 fun e w' => e = .returned (.string s) ∧ Below w2.heap.size w2 w') := by
   have := F3 gx (rdX s.data.toList).1 bv vv ev hP Bt (HIt.out.on (hb2'.mono hBt)) (Nat.le_trans hBt hb2'.size) hrb.wbd
   rw [hss] at this; exact this
  have HX2 := Hd hP.engX
  have HFB : Hid (Bl (rdX s.data.toList).1 ∧ DK (rdX s.data.toList).1) := ⟨hf, hib⟩
  have HB2 : Hid (Below w1.heap.size w1 w2 ∧ Below w.heap.size w w2) := ⟨hb2, hb2'⟩
  clear hP hf hib hrb hsx hss hb2 hb2' x0 x1
  obtain ⟨y, hy⟩ : ∃ y, y = (rdX s.data.toList).1 := ⟨_, rfl⟩
  rw [<- hy] at HX2 HFB
  have HYE := Hd hy
  clear hy
  go_wp2_with fail
  refine HX.out.mono ?_
  rintro e w3 ⟨rfl, hb3⟩
  have hb3' : Below w.heap.size w w3 := HB2.out.2.trans (hb3.mono HB2.out.2.size)
  have hT3 := (HT1.out.below HB2.out.1 HT1.out.lt).below hb3 (Nat.lt_of_lt_of_le HT1.out.lt HB2.out.1.size)
  have y0 : w3.cell? ⟨w.heap.size, 0, none⟩ = some (.string s) := hT3.cell 0
  have y1 : w3.cell? ⟨w.heap.size, 1, none⟩ = some (.pointer pl) := hT3.cell 1
  have gt3 := hT3.lt
  have HT3 := Hd hT3
  have HB3 : Hid (Below w2.heap.size w2 w3 ∧ Below w.heap.size w w3) := ⟨hb3, hb3'⟩
  have hse : (s.toList == s.toList) = true := by simp
  clear hb3 hb3' hT3 HX
  cases pl with
  | none =>
   have HF : Hid (w.heap.size <= w3.heap.size ∧ WSt base w0 w3 gw b o r { v := .slice (some ⟨gt, 0, none⟩) ts.length tc, n := ts.length, xs := CN ts } x (KL lab w)) := ⟨HB3.out.2.size, HS.out.below HB3.out.2⟩
   clear HB2 HB3 HIm HQk HX2 HFB HT3
   go_wp2
   go_ret
   exact ⟨rfl, x, ⟨HF.out.1, .inl rfl⟩, HF.out.2⟩
  | some pa =>
   obtain ⟨gl, z, hpa, hLz, hgz, hsz⟩ : ∃ gl z, some pa = some ⟨gl, 0, none⟩ ∧ Bj (fun k => lab k = (1000000, 6)) w gl z ∧ AB z ∧ s = ⟨(txt (BO z)).toArray⟩ := by
    rcases HQk.out with h | h
    ·cases h
    ·exact h
   simp only [Option.some.injEq] at hpa
   subst hpa
   obtain ⟨hwr, hsim, hgy⟩ := Oo hgz hsz (by rw [<- HYE.out]; exact HFB.out.1) (by rw [<- HYE.out]; exact HFB.out.2)
   rw [<- HYE.out] at hsim hgy
   have HGY := Hd hgy
   have HWR := Hd hwr
   have HLZ : Hid (Bj (fun _ => True) w gl y) := (hLz.sim hsim hgz).move (Kp.refl (fun _ => False) w) (fun _ _ _ => ⟨fun h => h, trivial⟩)
   clear hwr hsim hgy hLz hgz hsz HQk HFB
   go_wp2_with fail
   refine (HIm.out w3 HB3.out.2).mono ?_
   rintro e w4 hpost
   rcases hpost with ⟨rfl, _, hno⟩ | ⟨gy, bv, vv, ev, rfl, hP, _, _, _, _⟩
   ·exact absurd HWR.out hno
   have hb4 : Below w3.heap.size w3 w4 := hP.fr.toBelow (Nat.le_refl _) (fun k hk h => by omega)
   have hb4' : Below w.heap.size w w4 := HB3.out.2.trans (hb4.mono HB3.out.2.size)
   have HY4 : Hid (Bh (fun k => w3.heap.size <= k ∧ k < w4.heap.size) w4 gy y) := by rw [HYE.out]; exact hP.engX
   have HX4 : Hid (Bh (fun k => w1.heap.size <= k ∧ k < w2.heap.size) w4 gx y) := (HX2.out.below HB3.out.1).below hb4
   have HB4 : Hid (Below w.heap.size w w4 ∧ w3.heap.size <= w4.heap.size ∧ w2.heap.size <= w3.heap.size ∧ w1.heap.size <= w2.heap.size ∧ w.heap.size < w1.heap.size) := ⟨hb4', hb4.size, HB3.out.1.size, HB2.out.1.size, HT1.out.lt⟩
   have hT4 := HT3.out.below hb4 HT3.out.lt
   have u0 : w4.cell? ⟨w.heap.size, 0, none⟩ = some (.string s) := hT4.cell 0
   have u1 : w4.cell? ⟨w.heap.size, 1, none⟩ = some (.pointer (some ⟨gl, 0, none⟩)) := hT4.cell 1
   have gt4 := hT4.lt
   have HCp : Hid (Calls Tryz.prog 23 #[.pointer (some ⟨gl, 0, none⟩)] w4 fun e w' => ∃ g', e = .returned (.pointer (some ⟨g', 0, none⟩)) ∧ Below w4.heap.size w4 w' ∧ Bj (fun k => w4.heap.size <= k) w' g' y ∧ w4.heap.size <= g') := Rh (HLZ.out.move (Kp.of_below hb4' (fun _ => False)) (fun _ _ h => ⟨fun h => h, h⟩)) HGY.out
   clear hP hb4 hb4' hT4 HX2 HIm HWR HLZ HB2 HB3 HT1 HT3 y0 y1 gt3 HYE HB1 gt1
   go_wp2_with fail
   refine HCp.out.mono ?_
   rintro e w5 ⟨g3, rfl, hb5, hL5, hg3⟩
   obtain ⟨b4, s34, s23, s12, s01⟩ := HB4.out
   have hb5' : Below w.heap.size w w5 := b4.trans (hb5.mono b4.size)
   have s45 := hb5.size
   have HEI : Hid (EI (w5.alloc (.cells #[.pointer (some ⟨gx, 0, none⟩), .pointer (some ⟨gy, 0, none⟩), .pointer (some ⟨g3, 0, none⟩), .slice none 0 0, .int .i64 0] 54)) (CU i w1.heap.size w2.heap.size w3.heap.size w4.heap.size w5.heap.size) i w5.heap.size gx gy g3 (.slice none 0 0) 0 [] 0 y y y) := by
    have kk : Kp (fun _ => False) w5 (w5.alloc (.cells #[.pointer (some ⟨gx, 0, none⟩), .pointer (some ⟨gy, 0, none⟩), .pointer (some ⟨g3, 0, none⟩), .slice none 0 0, .int .i64 0] 54)) := (Kp.refl _ w5).alloc _
    refine ⟨Has.newA w5 _ _, Oq (by omega) (by omega) (by omega) (by omega), (HX4.out.below hb5).move kk (fun k hk hf => ⟨fun h => h, Qe hf.1 hf.2⟩), (HY4.out.below hb5).move kk (fun k hk hf => ⟨fun h => h, On (by omega) (by omega) hf.1 hf.2⟩), hL5.move kk (fun k hk hf => ⟨fun h => h, PD (by omega) (by omega) (by omega) hf hk⟩), World.ownsRow_nil _ _ _ _, fun k hk => by simp [Value.ownBlock] at hk, fun j hj => by omega⟩
   have HS5 : Hid (WSt base w0 w5 gw b o r { v := .slice (some ⟨gt, 0, none⟩) ts.length tc, n := ts.length, xs := CN ts } x (KL lab w)) := HS.out.below hb5'
   have HZ5 := Hd hb5'.size
   have c4 : w5.cell? ⟨gw, 4, none⟩ = some x.v := HS5.out.W.cell 4
   have g5 := HS5.out.W.lt
   have g6 : gw < w5.heap.size + 1 := by omega
   have g7 : gw < w5.heap.size + 1 + 1 := by omega
   clear hb5 hb5' hL5 hg3 HCp HX4 HY4 u0 u1 gt4 b4 HB4
   go_wp2_with (at_builtin; go_loud (refine Ak rfl (.tmp 84) (.tmp 86) 31 rfl 37 i5 _ 1 8 Tryz.underlying31 hi5 hz50 hz51 hz52 rfl (by decide) base x.v x.n x.xs rfl ((HS5.out.alloc _).alloc _).rx ((HS5.out.alloc _).alloc _).hsz ⟨_, 0, none⟩ 1 1 [.pointer (some ⟨w5.heap.size, 0, none⟩)] rfl (by rfl) (Ap _ [.pointer (some ⟨w5.heap.size, 0, none⟩)] _ _ (by simp)) (by simp [Value.oneCell']) (by decide) (by simp [maxLen]; omega) (by omega) ?_))
   intro gr cap5 v5 hown5 hgrow5 hor5 hold5
   have hor5' : x.v.ownBlock = some gr ∨ w5.heap.size + 2 <= gr := by
    rcases hor5 with h | h
    ·exact .inl h
    ·exact .inr (by first | omega | (simp only [World.size_alloc] at h; omega))
   obtain ⟨hW7, hS7⟩ := ((HS5.out.alloc _).alloc _).pushX hgrow5 hown5 (by simp only [World.size_alloc]; exact hor5')
   have hz5 := hgrow5.size
   simp only [World.size_alloc] at hz5
   have hgw0 := HS.out.W.lt
   have hxb : ∀ k, x.v.ownBlock = some k -> k < w.heap.size := fun k hk => (HS.out.rx.lt k hk).2
   have HI7 : Hid (EI (v5.setCell ⟨gw, 4, none⟩ (.slice (some ⟨gr, 0, none⟩) (x.n + 1) cap5)) (CU i w1.heap.size w2.heap.size w3.heap.size w4.heap.size w5.heap.size) i w5.heap.size gx gy g3 (.slice none 0 0) 0 [] 0 y y y) := by
    refine HEI.out.move (((((Kp.refl (fun k => k = gw ∨ some k = x.v.ownBlock) _).alloc _).trans ((C7 hgrow5).mono (fun k _ h => .inr h))).setCell (p := ⟨gw, 4, none⟩) (.inl rfl) _)) (fun k hk hl => ⟨?_, rfl⟩)
    have hk1 : w1.heap.size <= k := by
     by_cases hc : k < w1.heap.size
     ·rw [Ff hc] at hl; exact absurd hl.symm hi0
     ·omega
    rintro (e | e)
    ·omega
    ·have := hxb k e.symm; omega
   have hWs : w5.heap.size + 2 <= (v5.setCell ⟨gw, 4, none⟩ (.slice (some ⟨gr, 0, none⟩) (x.n + 1) cap5)).heap.size := by rw [Ci]; omega
   have HF : Hid (∀ w8, Ri (v5.setCell ⟨gw, 4, none⟩ (.slice (some ⟨gr, 0, none⟩) (x.n + 1) cap5)) w8 (CU i w1.heap.size w2.heap.size w3.heap.size w4.heap.size w5.heap.size) i w5.heap.size gx gy g3 0 0 y y y -> ∃ x', K8 w w8 i x x' ∧ WSt base w0 w8 gw b o r { v := .slice (some ⟨gt, 0, none⟩) ts.length tc, n := ts.length, xs := CN ts } x' (KL lab w)) := by
    rintro w8 ⟨lab5, hv5, hcs5, hI5, hL5, hK5⟩
    have hs8 := hK5.size
    have hxn' : ∀ k, (Value.slice (some ⟨gr, 0, none⟩) (x.n + 1) cap5).ownBlock = some k -> k = gr := fun k hk => by simpa [Value.ownBlock] using hk.symm
    have hgrlt : gr < (v5.setCell ⟨gw, 4, none⟩ (.slice (some ⟨gr, 0, none⟩) (x.n + 1) cap5)).heap.size := (hS7.rx.lt gr rfl).2
    have hgr0 : CU i w1.heap.size w2.heap.size w3.heap.size w4.heap.size w5.heap.size gr = (0, 0) := by
     rcases hor5' with h | h
     ·exact Ff (by have := hxb gr h; omega)
     ·exact KG (by omega) (by omega) (by omega) (by omega) (by omega)
    refine ⟨{ v := .slice (some ⟨gr, 0, none⟩) (x.n + 1) cap5, n := x.n + 1, xs := x.xs ++ [.pointer (some ⟨w5.heap.size, 0, none⟩)] }, ⟨by omega, .inr ⟨w5.heap.size, lab5, rfl, rfl, fun k hk => ?_, fun k hk => ?_, gx, gy, g3, hv5, 0 + 2, hcs5, 0 + 1000 + 1000, y, hI5, HGY.out, by omega, by omega, by omega⟩⟩, hS7.kp hK5 (fun k hk e => ?_) (fun k ob hk => ?_)⟩
    ·rw [hL5 k (by omega)]; exact Ff (by omega)
    ·rw [hxn' k hk, hL5 gr hgrlt, hgr0]
    ·have hk1 : w1.heap.size <= k ∧ k <= w5.heap.size := by
      by_cases hc : k < w1.heap.size
      ·rw [Ff hc] at e; exact absurd e.symm hi0
      ·by_cases hc2 : w5.heap.size < k
       ·rw [KG (by omega) (by omega) (by omega) (by omega) hc2] at e; exact absurd e.symm hi0
       ·omega
     have ha := HS.out.aside (g := k) (by omega)
     have hbs := HS.out.hsz
     refine ⟨by omega, ha.w, ha.b, ha.o, ha.r, ha.t, fun e2 => ?_⟩
     have e3 := hxn' k e2
     rw [e3] at e
     rw [hgr0] at e
     exact hi0 e.symm
    ·have h9 := hS7.rl k ob hk
     have hkw : k < w.heap.size := Fv hk.2
     refine ⟨?_, h9.2⟩
     rw [hK5.block k (by omega) (by rw [Ff (by omega)]; exact fun e => hi0 e.symm)]
     exact h9.1
   have c4' : v5.cell? ⟨gw, 4, none⟩ = some x.v := hW7.cell 4
   have f4' := hW7.frozen 4
   have HR : Hid (Calls Tryz.prog 24 #[.pointer (some ⟨w5.heap.size, 0, none⟩), .pointer (some ⟨gx, 0, none⟩)] (v5.setCell ⟨gw, 4, none⟩ (.slice (some ⟨gr, 0, none⟩) (x.n + 1) cap5)) fun e w' => e = .returned (.bool true) ∧ ∃ x', K8 w w' i x x' ∧ WSt base w0 w' gw b o r { v := .slice (some ⟨gt, 0, none⟩) ts.length tc, n := ts.length, xs := CN ts } x' (KL lab w)) := by
    refine (IG HI7.out HGY.out (by omega) (by omega) (by omega) gx (Qq HI7.out.X HGY.out)).mono ?_
    rintro e w8 ⟨rfl, hR⟩
    exact ⟨rfl, HF.out w8 hR⟩
   clear HF HI7 hS7 hW7 hown5 hgrow5 hold5 hor5 hor5' HS5 HS HEI c4 hxb
   go_wp2_with fail
   refine HR.out.mono ?_
   rintro e w8 ⟨rfl, hF⟩
   have HFF : Hid _ := hF
   clear hF HR
   go_wp2
   go_ret
   exact ⟨rfl, HFF.out⟩
end Go.Proofs.YtohjjgefklhmaaaGreatDoor
