import Derived.Test.YtohjjgefklhmaaaGreatDoorZStepM
import Derived.Test.YtohjjgefklhmaaaGreatDoorLCopyM
import Derived.Test.YtohjjgefklhmaaaGreatDoorXConM
namespace Go.Proofs.YtohjjgefklhmaaaGreatDoor
open Go.ChangeShapes Go.WideShapes Go.ChangeAt Go.RowKit
set_option linter.unusedVariables false
set_option linter.unusedSimpArgs false
set_option maxHeartbeats 40000000
set_option maxRecDepth 100000
variable {F : Nat -> Prop} {w : World} {g : Nat} {x y : EC} {s : ByteArray}
theorem Rh (h : Bj F w g x) (hx : AB x) :
  Calls Tryz.prog 23 #[.pointer (some ⟨g, 0, none⟩)] w fun e w' => ∃ g', e = .returned (.pointer (some ⟨g', 0, none⟩)) ∧ Below w.heap.size w w' ∧ Bj (fun k => w.heap.size <= k) w' g' x ∧ w.heap.size <= g' := by
 obtain ⟨bv, vv, dv, ev, ds, hL, t⟩ := h
 have b6 := hx.okx.b6
 have v5 := hx.okx.v5
 have hel := hx.el
 have hdl := t.len b6 v5
 have hg1 := hx.okx.hgt1
 refine (O2 g _ bv vv dv ev x.vals ds x.ents w hL (by show x.bal.length <= _; omega) (by omega) (by omega) (by omega) (fun i hi => ?_)).mono ?_
 ·obtain ⟨k, j, _, _, _, _, _, _, q7⟩ := t.rng _ (List.getElem_mem hi)
  have := q7.len
  omega
 ·rintro e w' ⟨g', bv', vv', dv', ev', ds', rfl, hb, hL', hm⟩
  refine ⟨g', rfl, hb, ?_, hL'.fg.elim (fun h => h.elim) id⟩
  obtain ⟨h1, _⟩ := Bj.back hL' (t.congr hm)
  exact h1.move (Kp.refl (fun _ => False) w') (fun b _ hf => ⟨fun h => h, hf.elim (fun h => h.elim) id⟩)
def Pi (base : Nat) (w0 w w' : World) (lab : Nat -> Nat × Nat) (i ge gx gy gl nh : Nat) (mk : Int) (gw : Nat) (b o r x : RowV) (n : Nat) : Prop :=
 ∃ w4 lab1 tv' ts', List.length ts' = n + 1 ∧ WSt base w0 w4 gw b o r { v := tv', n := ts'.length, xs := CN ts' } x (KL lab1 w4) ∧ TxS (TxQ w4 lab1) ts' ∧ (∀ k, k < w.heap.size -> lab1 k = lab k) ∧ Kp (fun k => (lab k).1 = 0) w w4 ∧ CX w4 w' lab1 i ge gx gy gl nh mk
theorem J3 (Bt : Nat) {w : World} (hIt : BU Bt w) (hBt : Bt <= w.heap.size) {lab : Nat -> Nat × Nat} {i ge gx gy gl : Nat} {hv : Value} {nh : Nat} {hcs : List Value} {mk : Int} {y : EC} (h : EI w lab i ge gx gy gl hv nh hcs mk y y y) (hy : AB y) (m1 : 0 <= mk) (m2 : mk <= 100000000000) (hnh : nh <= 1000000) (hi0 : i ≠ 0)
  (base : Nat) (w0 : World) (gw : Nat) (b o r x : RowV) (tv : Value) (ts : List (ByteArray × Option Addr)) (hS : WSt base w0 w gw b o r { v := tv, n := ts.length, xs := CN ts } x (KL lab w)) (hts : ts.length <= 100000) (hz : TxS (TxQ w lab) ts) :
  Calls Tryz.prog 17 #[.pointer (some ⟨gw, 0, none⟩), .pointer (some ⟨ge, 0, none⟩)] w fun e w' => e = .returned (.bool true) ∧ Pi base w0 w w' lab i ge gx gy gl nh mk gw b o r x ts.length := by
 obtain ⟨i6, hi6, hz60, hz61, hz62⟩ := info_parts GN
 obtain ⟨ta, tc, (hta : tv = .slice ta ts.length tc)⟩ := Ac hS.rt
 subst hta
 have c0 : w.cell? ⟨ge, 0, none⟩ = some (.pointer (some ⟨gx, 0, none⟩)) := h.E.cell 0
 have hge := h.E.lt
 have HY := Hd hy
 have HI := Hd h
 have HS := Hd hS
 have HZ := Hd hz
 have HX : Hid (Calls Tryz.prog 22 #[.pointer (some ⟨gx, 0, none⟩)] w fun e w' => e = .returned (.string ⟨(txt (BO y)).toArray⟩) ∧ Below w.heap.size w w') := Km h.X hy Bt hIt hBt
 obtain ⟨ss, hss⟩ : ∃ ss : ByteArray, ss = ⟨(txt (BO y)).toArray⟩ := ⟨_, rfl⟩
 have hsl : ss.size <= 8192 := by
  rw [hss]
  show (txt (BO y)).toArray.size <= 8192
  rw [List.size_toArray]
  exact Mo hy.fine hy.ib hy.ie
 rw [<- hss] at HX
 have HSS := Hd hss
 clear h hy hS hz hIt hss
 go_enter Tryz.func17, Tryz.ntmps17
 go_wp2_with fail
 refine HX.out.mono ?_
 rintro e w1 ⟨rfl, hb1⟩
 have HB1 := Hd hb1
 have hI1 := HI.out.kp0 (Kp.of_below hb1 _)
 have d2 : w1.cell? ⟨ge, 2, none⟩ = some (.pointer (some ⟨gl, 0, none⟩)) := hI1.E.cell 2
 have g1 := hI1.E.lt
 have HC : Hid (Calls Tryz.prog 23 #[.pointer (some ⟨gl, 0, none⟩)] w1 fun e w' => ∃ g', e = .returned (.pointer (some ⟨g', 0, none⟩)) ∧ Below w1.heap.size w1 w' ∧ Bj (fun k => w1.heap.size <= k) w' g' y ∧ w1.heap.size <= g') := Rh hI1.L HY.out
 clear hb1 hI1 HX c0
 go_wp2_with fail
 refine HC.out.mono ?_
 rintro e w2 ⟨g', rfl, hb2, hL2, hg'⟩
 have hb2' : Below w.heap.size w w2 := HB1.out.trans (hb2.mono HB1.out.size)
 have HL2 := Hd hL2
 have HS2 : Hid (WSt base w0 w2 gw b o r { v := .slice ta ts.length tc, n := ts.length, xs := CN ts } x (KL lab w)) := HS.out.below hb2'
 have HB2 : Hid (Below w.heap.size w w2 ∧ w1.heap.size <= w2.heap.size ∧ w.heap.size <= w1.heap.size) := ⟨hb2', hb2.size, HB1.out.size⟩
 have c3 : w2.cell? ⟨gw, 3, none⟩ = some (.slice ta ts.length tc) := HS2.out.W.cell 3
 have g3 := HS2.out.W.lt
 have g4 : gw < w2.heap.size + 1 := by omega
 clear hb2 hL2 hb2' HC d2 g1 HB1
 go_wp2_with (at_builtin; go_loud (refine Ak rfl (.tmp 22) (.tmp 26) 30 rfl 42 i6 _ 2 24 Tryz.underlying30 hi6 hz60 hz61 hz62 rfl (by decide) base (.slice ta ts.length tc) ts.length (CN ts) rfl (HS2.out.alloc _).rt (HS2.out.alloc _).hsz ⟨_, 0, none⟩ 1 1 [.string ss, .pointer (some ⟨g', 0, none⟩)] rfl (by rfl) (Ap _ [.string ss, .pointer (some ⟨g', 0, none⟩)] _ _ rfl) (by simp [Value.oneCell']) (by decide) (by simp [maxLen]; omega) (by omega) ?_))
 intro g5 cap5 v5 hown5 hgrow5 hor5 hold5
 obtain ⟨hW5, hS5⟩ := (HS2.out.alloc _).pushT hgrow5 hown5 (by rw [World.size_alloc]; exact hor5)
 have hgw0 := HS.out.W.lt
 obtain ⟨hb2, hz12, hz01⟩ := HB2.out
 have hz5 := hgrow5.size
 rw [World.size_alloc] at hz5
 have hlab0 : (lab gw).1 = 0 := by
  by_cases hc : (lab gw).1 = 0
  ·exact hc
  ·exact absurd rfl (HS.out.rl gw _ ⟨hc, Array.getElem?_eq_getElem hgw0⟩).2.w
 have hlabt : ∀ k, (Value.slice ta ts.length tc).ownBlock = some k -> k < w.heap.size ∧ (lab k).1 = 0 := fun k hk => by
  have hlt := (HS.out.rt.lt k hk).2
  refine ⟨hlt, ?_⟩
  by_cases hc : (lab k).1 = 0
  ·exact hc
  ·exact absurd hk (HS.out.rl k _ ⟨hc, Array.getElem?_eq_getElem hlt⟩).2.t
 obtain ⟨lab1, hlab⟩ : ∃ lab1 : Nat -> Nat × Nat, lab1 = fun k => if k < w.heap.size then lab k else if w1.heap.size <= k ∧ k < w2.heap.size then (1000000, 6) else (0, 0) := ⟨_, rfl⟩
 have hl1 : ∀ k, k < w.heap.size -> lab1 k = lab k := fun k hk => by rw [hlab]; exact if_pos hk
 have hl2 : ∀ k, w1.heap.size <= k -> k < w2.heap.size -> lab1 k = (1000000, 6) := fun k h1 h2 => by rw [hlab]; simp only; rw [if_neg (by omega), if_pos ⟨h1, h2⟩]
 have hl3 : ∀ k, w.heap.size <= k -> (lab1 k).1 ≠ 0 -> w1.heap.size <= k ∧ k < w2.heap.size := fun k h1 h2 => by
  rw [hlab] at h2
  simp only at h2
  rw [if_neg (by omega)] at h2
  by_cases hc : w1.heap.size <= k ∧ k < w2.heap.size
  ·exact hc
  ·rw [if_neg hc] at h2; exact absurd rfl h2
 have K24 : Kp (fun k => k = gw ∨ some k = (Value.slice ta ts.length tc).ownBlock) w2 (v5.setCell ⟨gw, 3, none⟩ (.slice (some ⟨g5, 0, none⟩) (ts.length + 1) cap5)) := (((Kp.refl (fun k => k = gw ∨ some k = (Value.slice ta ts.length tc).ownBlock) w2).alloc _).trans ((C7 hgrow5).mono (fun k _ h => .inr h))).setCell (p := ⟨gw, 3, none⟩) (.inl rfl) _
 have K04 : Kp (fun k => k = gw ∨ some k = (Value.slice ta ts.length tc).ownBlock) w (v5.setCell ⟨gw, 3, none⟩ (.slice (some ⟨g5, 0, none⟩) (ts.length + 1) cap5)) := (Kp.of_below hb2 _).trans K24
 have hL4 : Bj (fun k => lab1 k = (1000000, 6)) (v5.setCell ⟨gw, 3, none⟩ (.slice (some ⟨g5, 0, none⟩) (ts.length + 1) cap5)) g' y := HL2.out.move K24 (fun k hk hf => ⟨fun e => by
  rcases e with e | e
  ·omega
  ·have := (hlabt k e.symm).1; omega, hl2 k hf hk⟩)
 have hoff : ∀ k, (lab k).1 ≠ 0 -> ¬ (k = gw ∨ some k = (Value.slice ta ts.length tc).ownBlock) := fun k hk e => by
  rcases e with e | e
  ·rw [e] at hk; exact hk hlab0
  ·exact hk (hlabt k e.symm).2
 have HI4 : Hid (EI (v5.setCell ⟨gw, 3, none⟩ (.slice (some ⟨g5, 0, none⟩) (ts.length + 1) cap5)) lab1 i ge gx gy gl hv nh hcs mk y y y) := HI.out.move K04 (fun k hk hl => ⟨hoff k (by rw [hl]; exact hi0), hl1 k hk⟩)
 have hts' : TxS (TxQ (v5.setCell ⟨gw, 3, none⟩ (.slice (some ⟨g5, 0, none⟩) (ts.length + 1) cap5)) lab1) (ts ++ [(ss, some ⟨g', 0, none⟩)]) := EH (HZ.out.move K04 (fun k hk hl => ⟨hoff k (by rw [hl]; decide), hl1 k hk⟩)) _ _ (by omega) (.inr ⟨g', y, rfl, hL4, HY.out, HSS.out⟩)
 have HF : Hid (∀ w', CX (v5.setCell ⟨gw, 3, none⟩ (.slice (some ⟨g5, 0, none⟩) (ts.length + 1) cap5)) w' lab1 i ge gx gy gl nh mk -> Pi base w0 w w' lab i ge gx gy gl nh mk gw b o r x ts.length) := fun w' hD => by
  refine ⟨_, lab1, .slice (some ⟨g5, 0, none⟩) (ts.length + 1) cap5, ts ++ [(ss, some ⟨g', 0, none⟩)], by simp, ?_, hts', hl1, K04.mono (fun k _ e => ?_), hD⟩
  ·rw [Fw, List.length_append]
   refine hS5.kept (fun k ob hk => ?_)
   obtain ⟨k1, k2⟩ := hk
   by_cases hc : k < w.heap.size
   ·rw [hl1 k hc] at k1
    have e0 : w.heap[k]? = some w.heap[k] := Array.getElem?_eq_getElem hc
    have h9 := hS5.rl k _ ⟨k1, e0⟩
    refine ⟨k2, h9.2⟩
   ·obtain ⟨q1, q2⟩ := hl3 k (by omega) k1
    have ha := HS.out.aside (g := k) (by omega)
    refine ⟨k2, ha.w, ha.b, ha.o, ha.r, fun e => ?_, ha.x⟩
    have e0 : g5 = k := by simpa [Value.ownBlock] using e
    subst e0
    rcases hor5 with h8 | h8
    ·have := (hlabt g5 h8).1; omega
    ·omega
  ·rcases e with e | e
   ·rw [e]; exact hlab0
   ·exact (hlabt k e.symm).2
 have c3' : v5.cell? ⟨gw, 3, none⟩ = some (.slice ta ts.length tc) := hW5.cell 3
 have f3' := hW5.frozen 3
 clear hS5 hown5 hgrow5 hold5 hW5 K24 K04 hL4 hoff hts' hl1 hl2 hl3 hlab hlabt HL2 HS2 HB2 HS HZ HI c3 hb2 hor5 hlab0
 generalize hw4 : v5.setCell ⟨gw, 3, none⟩ (.slice (some ⟨g5, 0, none⟩) (ts.length + 1) cap5) = w4 at HI4 HF
 have d0 : w4.cell? ⟨ge, 0, none⟩ = some (.pointer (some ⟨gx, 0, none⟩)) := HI4.out.E.cell 0
 have g4' := HI4.out.E.lt
 rw [<- hw4] at d0 g4'
 have HR : Hid (Calls Tryz.prog 24 #[.pointer (some ⟨ge, 0, none⟩), .pointer (some ⟨gx, 0, none⟩)] (v5.setCell ⟨gw, 3, none⟩ (.slice (some ⟨g5, 0, none⟩) (ts.length + 1) cap5)) fun e w' => e = .returned (.bool true) ∧ Pi base w0 w w' lab i ge gx gy gl nh mk gw b o r x ts.length) := by
  rw [hw4]
  refine (IG HI4.out HY.out m1 m2 hnh gx (Qq HI4.out.X HY.out)).mono ?_
  rintro e w5 ⟨rfl, lab5, hv5, hcs5, hI5, hL5, hK5⟩
  exact ⟨rfl, HF.out w5 ⟨lab5, hv5, nh + 2, hcs5, mk + 1000 + 1000, y, hI5, HY.out, by omega, by omega, by omega, hL5, hK5⟩⟩
 clear hw4 HI4 HF
 go_wp2_with fail
 refine HR.out.mono ?_
 rintro e w5 ⟨rfl, hX⟩
 have HXP := Hd hX
 have hle : decide ((ss.size : Int) <= 8192) = true := by simp; omega
 clear hX HR d0 g4' c3' f3'
 go_wp2
 go_ret
 refine ⟨?_, HXP.out⟩
 first | rfl | simp
theorem CP.sim (h : Sim x y) (b : CP x) : CP y := by
 obtain ⟨eb, ev, ee, eh, ef, ep, et, em, efe⟩ := h.refl'
 exact ⟨by rw [eb]; exact b.b1, by rw [ev]; exact b.v1, by rw [ev, eb]; exact b.ow, fun k j hj h6 h5 => by rw [h.sh h6 h5]; rw [ev] at hj; exact b.sv k j hj h6 h5, by rw [ev, eh, em, ee]; exact b.en⟩
theorem Bj.sim (s : Sim x y) (hx : AB x) (h : Bj F w g x) : Bj F w g y := by
 obtain ⟨bv, vv, dv, ev, ds, hL, t⟩ := h
 obtain ⟨eb, ev', ee, eh, ef, ep, et, em, efe⟩ := s.refl'
 have hl : Ay y = Ay x := by unfold Ay; rw [eb, eh, ef, ep, et, em, efe]
 have b6 := hx.okx.b6
 have v5 := hx.okx.v5
 refine ⟨bv, vv, dv, ev, ds, by rw [hl, ev', ee]; exact hL, ⟨t.srt, fun d hd => ?_, fun k j hk hj hs => ?_⟩⟩
 ·obtain ⟨k, j, q1, q2, q3, q4, q5, q6, q7⟩ := t.rng d hd
  have e1 := s.sh (k := k) (j := j) (by omega) (by omega)
  refine ⟨k, j, q1, q2, by rw [eb]; exact q3, by rw [ev']; exact q4, by rw [e1]; exact q5, q6, ?_⟩
  obtain ⟨tb, rfl, st⟩ := s
  have h3 : EC.per { x with tab := tb } j - EC.upto { x with tab := tb } k j = x.per j - x.upto k j := st.pd k j (by omega) (by omega) (by show x.sh k j ≠ 0; omega)
  rw [h3]; exact q7
 ·rw [eb] at hk
  rw [ev'] at hj
  rw [s.sh (by omega) (by omega)] at hs
  exact t.all k j hk hj hs
theorem Oo (hx : AB x) (hs : s = ⟨(txt (BO x)).toArray⟩) (hf : Bl (rdX s.data.toList).1) (hb : DK (rdX s.data.toList).1) : I1 s.data.toList ∧ Sim x (rdX s.data.toList).1 ∧ AB (rdX s.data.toList).1 := by
 have e : s.data.toList = txt (BO x) := by rw [hs]
 have h1 := E2 hx.fine hx.ib hx.ie e
 exact ⟨⟨x, hx.fine, hx.ib, hx.ie, e⟩, h1.2.2.2, hf, hb, CP.sim h1.2.2.2 hx.ie⟩
theorem Qh (hx : AB x) (hs : s = ⟨(txt (BO x)).toArray⟩) : I1 s.data.toList := ⟨x, hx.fine, hx.ib, hx.ie, by rw [hs]⟩
end Go.Proofs.YtohjjgefklhmaaaGreatDoor
