import Derived.Test.YtohjjgefklhmaaaGreatDoorSeeM
namespace Go.Proofs.YtohjjgefklhmaaaGreatDoor
open Go.ChangeShapes Go.WideShapes Go.ChangeAt Go.RowKit
set_option linter.unusedVariables false
set_option maxHeartbeats 40000000
set_option maxRecDepth 100000
variable {w w' wr : World} {base size n c base' size' n' g ge gh gi gx sz : Nat} {e e' : TypeId} {a : Act} {xs xs' eL hL iL xL : List Value} {S : Nat -> Prop} {P : Program} {ops : Array Oper} {o : Oper} {Q : Exit -> Act -> World -> Prop} {f : Int -> List Value} {mk : Int}
def fB (x : Int) : List Value := [.int .i64 x]
def fV (x : Int) : List Value := [.int .i64 x, .int .i64 0, .int .i64 x, .int .i64 0, .int .i64 0, .int .i64 0, .bool false, .bool false]
def fD (x : Int) : List Value := [.int .i64 x, .int .i64 0, .int .i64 x]
def fE (x : Int) : List Value := [.int .i64 x, .int .i64 0, .int .i64 0, .int .i64 x]
def AN (f : Int -> List Value) (mk : Int) : Nat -> List Value
 | 0 => []
 | k + 1 => AN f mk k ++ f (mk + k)
theorem CF (f : Int -> List Value) (sz : Nat) (hf : ∀ x, (f x).length = sz) (mk : Int) (k : Nat) : (AN f mk k).length = k * sz := by
 induction k with
 | zero => simp [AN]
 | succ k ih => rw [AN, List.length_append, ih, hf, Nat.add_mul]; omega
def BI (f : Int -> List Value) (sz : Nat) (mk : Int) (old : List Value) (k : Nat) : List Value := AN f mk k ++ old.drop (k * sz)
theorem Fz (f : Int -> List Value) (sz : Nat) (mk : Int) (old : List Value) : BI f sz mk old 0 = old := by simp [BI, AN]
theorem Gu (f : Int -> List Value) (sz : Nat) (mk : Int) (old : List Value) (n : Nat) (h : old.length = n * sz) : BI f sz mk old n = AN f mk n := by
 simp [BI, <- h]
theorem Ag {a : Option Addr} (h : w.ownsRow base e size (.slice a n c) n xs) (h0 : 0 < n) : ∃ g, a = some ⟨g, 0, none⟩ ∧ base <= g := by
 rcases h.2 with ⟨_, h1⟩ | ⟨g, cap, cur, h1, h2, _⟩
 ·omega
 ·simp only [Value.slice.injEq, true_and] at h1
  exact ⟨g, h1.1, h2⟩
theorem Al {v : Value} (h : w.ownsRow base e size v n xs) (k : Kp S w w') (ho : ∀ b, v.ownBlock = some b -> ¬ S b) : w'.ownsRow base e size v n xs := by
 refine ⟨h.1, ?_⟩
 rcases h.2 with hn | ⟨g, cap, cur, rfl, hb, hgg, rest⟩
 ·exact .inl hn
 ·refine .inr ⟨g, cap, cur, rfl, hb, ?_, rest⟩
  rw [k.block g (Array.getElem?_eq_some_iff.1 hgg).1 (ho g rfl)]
  exact hgg
theorem Cm {v : Value} (h : w.ownsRow base e size v n xs) (h' : w.ownsRow base' e' size' (.slice (some ⟨g, 0, none⟩) n' c) n' xs') (hne : e ≠ e') :
  ∀ b, v.ownBlock = some b -> ¬ (b = g) := by
 intro b hb hbg
 rcases Ae h h' hne with h0 | h0
 ·rw [h0] at hb; cases hb
 ·apply h0; rw [hb, hbg]; rfl
theorem Kp.below {w0 : World} {B : Nat} (hb : Below B w0 w) (hk : Kp S w w') (hB : B <= w0.heap.size) (hS : ∀ k, S k -> B <= k) : Below B w0 w' :=
 hb.trans ⟨hk.os, hk.tape, hk.output, hk.size, fun k h => hk.block k (Nat.lt_of_lt_of_le h (Nat.le_trans hB hb.size)) (fun h' => by have := hS k h'; omega)⟩
def RS (ba va da ea : Option Addr) (k : Nat) : Prop := ba.map (fun a => a.block) = some k ∨ va.map (fun a => a.block) = some k ∨ da.map (fun a => a.block) = some k ∨ ea.map (fun a => a.block) = some k
structure FN (base : Nat) (w wr : World) (ba va da ea : Option Addr) (n1 n2 n3 n4 bc vc dc ec : Nat) (mk bh : Int) (xb xv xd xe : List Value) : Prop where
 hw : Kp (RS ba va da ea) w wr
 box : Has wr w.heap.size 96 [.slice ba n1 bc, .slice va n2 vc, .slice da n3 dc, .slice ea n4 ec, .int .i64 mk, .int .i64 bh]
 b : wr.ownsRow base 3 1 (.slice ba n1 bc) n1 xb
 v : wr.ownsRow base 122 8 (.slice va n2 vc) n2 xv
 d : wr.ownsRow base 130 3 (.slice da n3 dc) n3 xd
 e : wr.ownsRow base 125 4 (.slice ea n4 ec) n4 xe
theorem Sv (l : List Value) (p : Nat) (h : p + 1 <= l.length) : ∃ c0, l.drop p = c0 :: l.drop (p + 1) := by
 have e0 := List.drop_eq_getElem_cons (l := l) (i := p) (by omega)
 exact ⟨_, by rw [e0]⟩
theorem MT (mk : Int) (old : List Value) (n k : Nat) (hl : old.length = n * 1) (hk : k < n) :
  (∃ c0, (BI fB 1 mk old k)[k]? = some c0) ∧
  ((BI fB 1 mk old k).set (k) (.int .i64 (mk + (k : Int)))) = BI fB 1 mk old (k + 1) := by
 obtain ⟨c0, hd⟩ := Sv old (k * 1) (by have := Nat.mul_le_mul_right 1 hk; omega)
 have hm := CF fB 1 (fun _ => rfl) mk k
 have e : (k + 1) * 1 = k * 1 + 1 := by omega
 have hx : BI fB 1 mk old k = AN fB mk k ++ (c0 :: old.drop (k * 1 + 1)) := by rw [BI, hd]
 have hx' : BI fB 1 mk old (k + 1) = AN fB mk k ++ (fB (mk + (k : Int)) ++ old.drop (k * 1 + 1)) := by rw [BI, e, AN, List.append_assoc]
 rw [hx, hx']
 generalize AN fB mk k = A at *
 simp only [Nat.mul_one] at hm
 subst hm
 refine ⟨⟨c0, by simp⟩, by simp [fB]⟩
theorem Sl (l : List Value) (p : Nat) (h : p + 8 <= l.length) : ∃ c0 c1 c2 c3 c4 c5 c6 c7, l.drop p = c0 :: c1 :: c2 :: c3 :: c4 :: c5 :: c6 :: c7 :: l.drop (p + 8) := by
 have e0 := List.drop_eq_getElem_cons (l := l) (i := p) (by omega)
 have e1 := List.drop_eq_getElem_cons (l := l) (i := p + 1) (by omega)
 have e2 := List.drop_eq_getElem_cons (l := l) (i := p + 2) (by omega)
 have e3 := List.drop_eq_getElem_cons (l := l) (i := p + 3) (by omega)
 have e4 := List.drop_eq_getElem_cons (l := l) (i := p + 4) (by omega)
 have e5 := List.drop_eq_getElem_cons (l := l) (i := p + 5) (by omega)
 have e6 := List.drop_eq_getElem_cons (l := l) (i := p + 6) (by omega)
 have e7 := List.drop_eq_getElem_cons (l := l) (i := p + 7) (by omega)
 exact ⟨_, _, _, _, _, _, _, _, by rw [e0, e1, e2, e3, e4, e5, e6, e7]⟩
theorem Nu (mk : Int) (old : List Value) (n k : Nat) (hl : old.length = n * 8) (hk : k < n) :
  (∃ c0 c1 c2 c3 c4 c5 c6 c7, (BI fV 8 mk old k)[k * 8]? = some c0 ∧ (BI fV 8 mk old k)[k * 8 + 1]? = some c1 ∧ (BI fV 8 mk old k)[k * 8 + 2]? = some c2 ∧ (BI fV 8 mk old k)[k * 8 + 3]? = some c3 ∧ (BI fV 8 mk old k)[k * 8 + 4]? = some c4 ∧ (BI fV 8 mk old k)[k * 8 + 5]? = some c5 ∧ (BI fV 8 mk old k)[k * 8 + 6]? = some c6 ∧ (BI fV 8 mk old k)[k * 8 + 7]? = some c7) ∧
  (((((((((BI fV 8 mk old k).set (k * 8) (.int .i64 (mk + (k : Int)))).set (k * 8 + 1) (.int .i64 0)).set (k * 8 + 2) (.int .i64 (mk + (k : Int)))).set (k * 8 + 3) (.int .i64 0)).set (k * 8 + 4) (.int .i64 0)).set (k * 8 + 5) (.int .i64 0)).set (k * 8 + 6) (.bool false)).set (k * 8 + 7) (.bool false)) = BI fV 8 mk old (k + 1) := by
 obtain ⟨c0, c1, c2, c3, c4, c5, c6, c7, hd⟩ := Sl old (k * 8) (by have := Nat.mul_le_mul_right 8 hk; omega)
 have hm := CF fV 8 (fun _ => rfl) mk k
 have e : (k + 1) * 8 = k * 8 + 8 := by omega
 have hx : BI fV 8 mk old k = AN fV mk k ++ (c0 :: c1 :: c2 :: c3 :: c4 :: c5 :: c6 :: c7 :: old.drop (k * 8 + 8)) := by rw [BI, hd]
 have hx' : BI fV 8 mk old (k + 1) = AN fV mk k ++ (fV (mk + (k : Int)) ++ old.drop (k * 8 + 8)) := by rw [BI, e, AN, List.append_assoc]
 rw [hx, hx']
 generalize AN fV mk k = A at *
 rw [<- hm]
 refine ⟨⟨c0, c1, c2, c3, c4, c5, c6, c7, by simp, by simp, by simp, by simp, by simp, by simp, by simp, by simp⟩, by simp [fV]⟩
theorem SO (l : List Value) (p : Nat) (h : p + 3 <= l.length) : ∃ c0 c1 c2, l.drop p = c0 :: c1 :: c2 :: l.drop (p + 3) := by
 have e0 := List.drop_eq_getElem_cons (l := l) (i := p) (by omega)
 have e1 := List.drop_eq_getElem_cons (l := l) (i := p + 1) (by omega)
 have e2 := List.drop_eq_getElem_cons (l := l) (i := p + 2) (by omega)
 exact ⟨_, _, _, by rw [e0, e1, e2]⟩
theorem Nl (mk : Int) (old : List Value) (n k : Nat) (hl : old.length = n * 3) (hk : k < n) :
  (∃ c0 c1 c2, (BI fD 3 mk old k)[k * 3]? = some c0 ∧ (BI fD 3 mk old k)[k * 3 + 1]? = some c1 ∧ (BI fD 3 mk old k)[k * 3 + 2]? = some c2) ∧
  ((((BI fD 3 mk old k).set (k * 3) (.int .i64 (mk + (k : Int)))).set (k * 3 + 1) (.int .i64 0)).set (k * 3 + 2) (.int .i64 (mk + (k : Int)))) = BI fD 3 mk old (k + 1) := by
 obtain ⟨c0, c1, c2, hd⟩ := SO old (k * 3) (by have := Nat.mul_le_mul_right 3 hk; omega)
 have hm := CF fD 3 (fun _ => rfl) mk k
 have e : (k + 1) * 3 = k * 3 + 3 := by omega
 have hx : BI fD 3 mk old k = AN fD mk k ++ (c0 :: c1 :: c2 :: old.drop (k * 3 + 3)) := by rw [BI, hd]
 have hx' : BI fD 3 mk old (k + 1) = AN fD mk k ++ (fD (mk + (k : Int)) ++ old.drop (k * 3 + 3)) := by rw [BI, e, AN, List.append_assoc]
 rw [hx, hx']
 generalize AN fD mk k = A at *
 rw [<- hm]
 refine ⟨⟨c0, c1, c2, by simp, by simp, by simp⟩, by simp [fD]⟩
theorem Si (l : List Value) (p : Nat) (h : p + 4 <= l.length) : ∃ c0 c1 c2 c3, l.drop p = c0 :: c1 :: c2 :: c3 :: l.drop (p + 4) := by
 have e0 := List.drop_eq_getElem_cons (l := l) (i := p) (by omega)
 have e1 := List.drop_eq_getElem_cons (l := l) (i := p + 1) (by omega)
 have e2 := List.drop_eq_getElem_cons (l := l) (i := p + 2) (by omega)
 have e3 := List.drop_eq_getElem_cons (l := l) (i := p + 3) (by omega)
 exact ⟨_, _, _, _, by rw [e0, e1, e2, e3]⟩
theorem M0 (mk : Int) (old : List Value) (n k : Nat) (hl : old.length = n * 4) (hk : k < n) :
  (∃ c0 c1 c2 c3, (BI fE 4 mk old k)[k * 4]? = some c0 ∧ (BI fE 4 mk old k)[k * 4 + 1]? = some c1 ∧ (BI fE 4 mk old k)[k * 4 + 2]? = some c2 ∧ (BI fE 4 mk old k)[k * 4 + 3]? = some c3) ∧
  (((((BI fE 4 mk old k).set (k * 4) (.int .i64 (mk + (k : Int)))).set (k * 4 + 1) (.int .i64 0)).set (k * 4 + 2) (.int .i64 0)).set (k * 4 + 3) (.int .i64 (mk + (k : Int)))) = BI fE 4 mk old (k + 1) := by
 obtain ⟨c0, c1, c2, c3, hd⟩ := Si old (k * 4) (by have := Nat.mul_le_mul_right 4 hk; omega)
 have hm := CF fE 4 (fun _ => rfl) mk k
 have e : (k + 1) * 4 = k * 4 + 4 := by omega
 have hx : BI fE 4 mk old k = AN fE mk k ++ (c0 :: c1 :: c2 :: c3 :: old.drop (k * 4 + 4)) := by rw [BI, hd]
 have hx' : BI fE 4 mk old (k + 1) = AN fE mk k ++ (fE (mk + (k : Int)) ++ old.drop (k * 4 + 4)) := by rw [BI, e, AN, List.append_assoc]
 rw [hx, hx']
 generalize AN fE mk k = A at *
 rw [<- hm]
 refine ⟨⟨c0, c1, c2, c3, by simp, by simp, by simp, by simp⟩, by simp [fE]⟩
theorem Nv (base : Nat) (ba va da ea : Option Addr) (n1 n2 n3 n4 bc vc dc ec : Nat) (mk bh : Int) (xb xv xd xe : List Value) (w : World) (m1 : 0 <= mk) (m2 : mk <= 1000000000000)
  (l1 : n1 <= 1048576) (l2 : n2 <= 1048576) (l3 : n3 <= 1048576) (l4 : n4 <= 1048576)
  (hb : w.ownsRow base 3 1 (.slice ba n1 bc) n1 xb) (hv : w.ownsRow base 122 8 (.slice va n2 vc) n2 xv) (hd : w.ownsRow base 130 3 (.slice da n3 dc) n3 xd) (he : w.ownsRow base 125 4 (.slice ea n4 ec) n4 xe) :
  Calls Tryz.prog 94 #[.agg #[.slice ba n1 bc, .slice va n2 vc, .slice da n3 dc, .slice ea n4 ec, .int .i64 mk, .int .i64 bh]] w fun e w' => e = .returned (.tuple #[]) ∧
   FN base w w' ba va da ea n1 n2 n3 n4 bc vc dc ec mk bh (AN fB mk n1) (AN fV mk n2) (AN fD mk n3) (AN fE mk n4) := by
 have q1 := hb.1
 have q2 := hv.1
 have q3 := hd.1
 have q4 := he.1
 have HQ1 := Hd q1
 have HQ2 := Hd q2
 have HQ3 := Hd q3
 have HQ4 := Hd q4
 clear q1 q2 q3 q4
 have HI0 : Hid (FN base w (w.alloc (.cells #[.slice ba n1 bc, .slice va n2 vc, .slice da n3 dc, .slice ea n4 ec, .int .i64 mk, .int .i64 bh] 96)) ba va da ea n1 n2 n3 n4 bc vc dc ec mk bh xb xv xd xe) :=
  FN.mk ((Kp.refl _ _).alloc _) (Has.newA w _ _) (hb.alloc _) (hv.alloc _) (hd.alloc _) (he.alloc _)
 clear hb hv hd he
 go_enter Tryz.func94, Tryz.ntmps94
 go_wp2
 go_loopw [2] (fun i wr => ∃ k1 : Nat, k1 <= n1 ∧ i = .int .i64 k1 ∧ FN base w wr ba va da ea n1 n2 n3 n4 bc vc dc ec mk bh (BI fB 1 mk xb k1) xv xd xe) (fun i _ => n1 - (intOf i).toNat)
 case atStart => exact ⟨0, Nat.zero_le _, rfl, by rw [Fz]; exact HI0.out⟩
 case round =>
  clear HI0
  obtain ⟨k1, hk0, rfl, hI⟩ := hrel
  have f0 := hI.box.cell 0
  have f1 := hI.box.cell 1
  have f2 := hI.box.cell 2
  have f3 := hI.box.cell 3
  have f4 := hI.box.cell 4
  simp only [List.getElem?_cons_succ, List.getElem?_cons_zero] at f0 f1 f2 f3 f4
  by_cases hlt0 : k1 < n1
  ·obtain ⟨g, rfl, hge⟩ := Ag hI.b (by omega)
   obtain ⟨⟨c0, y0⟩, hst⟩ := MT mk xb n1 k1 HQ1.out hlt0
   have HST := (show Hid _ from hst)
   clear hst
   have z0 : wr.cell? ⟨g, k1, none⟩ = some c0 := (hI.b.cellAt (k1) (by omega)).trans y0
   have w0 : wr.frozen? ⟨g, k1, none⟩ = false := hI.b.frozenAt (k1)
   have HK : Kp (· = g) wr (wr.setCell ⟨g, k1, none⟩ (.int .i64 (mk + (k1 : Int)))) := (Kp.setCell (p := ⟨g, k1, none⟩) (Kp.refl (· = g) wr) rfl (.int .i64 (mk + (k1 : Int))))
   have HI2 : Hid (FN base w (wr.setCell ⟨g, k1, none⟩ (.int .i64 (mk + (k1 : Int)))) (some ⟨g, 0, none⟩) va da ea n1 n2 n3 n4 bc vc dc ec mk bh (BI fB 1 mk xb (k1 + 1)) xv xd xe) := by
    refine FN.mk (hI.hw.trans (HK.mono (fun j _ hj => by rw [hj]; exact .inl rfl))) (hI.box.kp HK (fun h => ?_)) ?_ ?_ ?_ ?_
    ·have := Has.apart hI.box hI.b (by decide)
     apply this; rw [h]; rfl
    ·rw [<- HST.out]; exact (hI.b.stored (k1) (.int .i64 (mk + (k1 : Int)))).1
    ·exact Al hI.v HK (Cm hI.v hI.b (by decide))
    ·exact Al hI.d HK (Cm hI.d hI.b (by decide))
    ·exact Al hI.e HK (Cm hI.e hI.b (by decide))
   clear HK hI HST
   go_wp2
   refine And.intro ?_ ?_
   ·first | exact ⟨k1 + 1, by omega, by go_num, HI2.out⟩ | ((repeat apply Exists.intro); exact ⟨⟨k1 + 1, by omega, by go_num, HI2.out⟩, rfl⟩)
   ·simp [intOf]; omega
  ·have hke : k1 = n1 := by omega
   rw [hke, Gu fB 1 mk xb n1 HQ1.out] at hI
   clear hke
   go_wp2
   clear f0 f1 f2 f3 f4
   obtain ⟨wo0, hwo⟩ : ∃ wo : World, wo = wr := ⟨_, rfl⟩
   rw [<- hwo] at hI
   subst hwo
   go_loopw [3] (fun i wr => ∃ k2 : Nat, k2 <= n2 ∧ i = .int .i64 k2 ∧ FN base w wr ba va da ea n1 n2 n3 n4 bc vc dc ec mk bh (AN fB mk n1) (BI fV 8 mk xv k2) xd xe) (fun i _ => n2 - (intOf i).toNat)
   case atStart => exact ⟨0, Nat.zero_le _, rfl, by rw [Fz]; exact hI⟩
   case round =>
    clear hI
    obtain ⟨k2, hk1, rfl, hI⟩ := hrel
    have f0 := hI.box.cell 0
    have f1 := hI.box.cell 1
    have f2 := hI.box.cell 2
    have f3 := hI.box.cell 3
    have f4 := hI.box.cell 4
    simp only [List.getElem?_cons_succ, List.getElem?_cons_zero] at f0 f1 f2 f3 f4
    by_cases hlt1 : k2 < n2
    ·obtain ⟨g, rfl, hge⟩ := Ag hI.v (by omega)
     obtain ⟨⟨c0, c1, c2, c3, c4, c5, c6, c7, y0, y1, y2, y3, y4, y5, y6, y7⟩, hst⟩ := Nu mk xv n2 k2 HQ2.out hlt1
     have HST := (show Hid _ from hst)
     clear hst
     have z0 : wr.cell? ⟨g, k2 * 8, none⟩ = some c0 := (hI.v.cellAt (k2 * 8) (by omega)).trans y0
     have w0 : wr.frozen? ⟨g, k2 * 8, none⟩ = false := hI.v.frozenAt (k2 * 8)
     have z1 : wr.cell? ⟨g, k2 * 8 + 1, none⟩ = some c1 := (hI.v.cellAt (k2 * 8 + 1) (by omega)).trans y1
     have w1 : wr.frozen? ⟨g, k2 * 8 + 1, none⟩ = false := hI.v.frozenAt (k2 * 8 + 1)
     have z2 : wr.cell? ⟨g, k2 * 8 + 2, none⟩ = some c2 := (hI.v.cellAt (k2 * 8 + 2) (by omega)).trans y2
     have w2 : wr.frozen? ⟨g, k2 * 8 + 2, none⟩ = false := hI.v.frozenAt (k2 * 8 + 2)
     have z3 : wr.cell? ⟨g, k2 * 8 + 3, none⟩ = some c3 := (hI.v.cellAt (k2 * 8 + 3) (by omega)).trans y3
     have w3 : wr.frozen? ⟨g, k2 * 8 + 3, none⟩ = false := hI.v.frozenAt (k2 * 8 + 3)
     have z4 : wr.cell? ⟨g, k2 * 8 + 4, none⟩ = some c4 := (hI.v.cellAt (k2 * 8 + 4) (by omega)).trans y4
     have w4 : wr.frozen? ⟨g, k2 * 8 + 4, none⟩ = false := hI.v.frozenAt (k2 * 8 + 4)
     have z5 : wr.cell? ⟨g, k2 * 8 + 5, none⟩ = some c5 := (hI.v.cellAt (k2 * 8 + 5) (by omega)).trans y5
     have w5 : wr.frozen? ⟨g, k2 * 8 + 5, none⟩ = false := hI.v.frozenAt (k2 * 8 + 5)
     have z6 : wr.cell? ⟨g, k2 * 8 + 6, none⟩ = some c6 := (hI.v.cellAt (k2 * 8 + 6) (by omega)).trans y6
     have w6 : wr.frozen? ⟨g, k2 * 8 + 6, none⟩ = false := hI.v.frozenAt (k2 * 8 + 6)
     have z7 : wr.cell? ⟨g, k2 * 8 + 7, none⟩ = some c7 := (hI.v.cellAt (k2 * 8 + 7) (by omega)).trans y7
     have w7 : wr.frozen? ⟨g, k2 * 8 + 7, none⟩ = false := hI.v.frozenAt (k2 * 8 + 7)
     have HK : Kp (· = g) wr ((((((((wr.setCell ⟨g, k2 * 8, none⟩ (.int .i64 (mk + (k2 : Int)))).setCell ⟨g, k2 * 8 + 1, none⟩ (.int .i64 0)).setCell ⟨g, k2 * 8 + 2, none⟩ (.int .i64 (mk + (k2 : Int)))).setCell ⟨g, k2 * 8 + 3, none⟩ (.int .i64 0)).setCell ⟨g, k2 * 8 + 4, none⟩ (.int .i64 0)).setCell ⟨g, k2 * 8 + 5, none⟩ (.int .i64 0)).setCell ⟨g, k2 * 8 + 6, none⟩ (.bool false)).setCell ⟨g, k2 * 8 + 7, none⟩ (.bool false)) := (Kp.setCell (p := ⟨g, k2 * 8 + 7, none⟩) (Kp.setCell (p := ⟨g, k2 * 8 + 6, none⟩) (Kp.setCell (p := ⟨g, k2 * 8 + 5, none⟩) (Kp.setCell (p := ⟨g, k2 * 8 + 4, none⟩) (Kp.setCell (p := ⟨g, k2 * 8 + 3, none⟩) (Kp.setCell (p := ⟨g, k2 * 8 + 2, none⟩) (Kp.setCell (p := ⟨g, k2 * 8 + 1, none⟩) (Kp.setCell (p := ⟨g, k2 * 8, none⟩) (Kp.refl (· = g) wr) rfl (.int .i64 (mk + (k2 : Int)))) rfl (.int .i64 0)) rfl (.int .i64 (mk + (k2 : Int)))) rfl (.int .i64 0)) rfl (.int .i64 0)) rfl (.int .i64 0)) rfl (.bool false)) rfl (.bool false))
     have HI2 : Hid (FN base w ((((((((wr.setCell ⟨g, k2 * 8, none⟩ (.int .i64 (mk + (k2 : Int)))).setCell ⟨g, k2 * 8 + 1, none⟩ (.int .i64 0)).setCell ⟨g, k2 * 8 + 2, none⟩ (.int .i64 (mk + (k2 : Int)))).setCell ⟨g, k2 * 8 + 3, none⟩ (.int .i64 0)).setCell ⟨g, k2 * 8 + 4, none⟩ (.int .i64 0)).setCell ⟨g, k2 * 8 + 5, none⟩ (.int .i64 0)).setCell ⟨g, k2 * 8 + 6, none⟩ (.bool false)).setCell ⟨g, k2 * 8 + 7, none⟩ (.bool false)) ba (some ⟨g, 0, none⟩) da ea n1 n2 n3 n4 bc vc dc ec mk bh (AN fB mk n1) (BI fV 8 mk xv (k2 + 1)) xd xe) := by
      refine FN.mk (hI.hw.trans (HK.mono (fun j _ hj => by rw [hj]; exact .inr (.inl rfl)))) (hI.box.kp HK (fun h => ?_)) ?_ ?_ ?_ ?_
      ·have := Has.apart hI.box hI.v (by decide)
       apply this; rw [h]; rfl
      ·exact Al hI.b HK (Cm hI.b hI.v (by decide))
      ·rw [<- HST.out]; exact ((((((((hI.v.stored (k2 * 8) (.int .i64 (mk + (k2 : Int)))).1.stored (k2 * 8 + 1) (.int .i64 0)).1.stored (k2 * 8 + 2) (.int .i64 (mk + (k2 : Int)))).1.stored (k2 * 8 + 3) (.int .i64 0)).1.stored (k2 * 8 + 4) (.int .i64 0)).1.stored (k2 * 8 + 5) (.int .i64 0)).1.stored (k2 * 8 + 6) (.bool false)).1.stored (k2 * 8 + 7) (.bool false)).1
      ·exact Al hI.d HK (Cm hI.d hI.v (by decide))
      ·exact Al hI.e HK (Cm hI.e hI.v (by decide))
     clear HK hI HST
     go_wp2
     refine And.intro ?_ ?_
     ·first | exact ⟨k2 + 1, by omega, by go_num, HI2.out⟩ | ((repeat apply Exists.intro); exact ⟨⟨k2 + 1, by omega, by go_num, HI2.out⟩, rfl⟩)
     ·simp [intOf]; omega
    ·have hke : k2 = n2 := by omega
     rw [hke, Gu fV 8 mk xv n2 HQ2.out] at hI
     clear hke
     go_wp2
     clear f0 f1 f2 f3 f4
     obtain ⟨wo1, hwo⟩ : ∃ wo : World, wo = wr := ⟨_, rfl⟩
     rw [<- hwo] at hI
     subst hwo
     go_loopw [4] (fun i wr => ∃ k3 : Nat, k3 <= n3 ∧ i = .int .i64 k3 ∧ FN base w wr ba va da ea n1 n2 n3 n4 bc vc dc ec mk bh (AN fB mk n1) (AN fV mk n2) (BI fD 3 mk xd k3) xe) (fun i _ => n3 - (intOf i).toNat)
     case atStart => exact ⟨0, Nat.zero_le _, rfl, by rw [Fz]; exact hI⟩
     case round =>
      clear hI
      obtain ⟨k3, hk2, rfl, hI⟩ := hrel
      have f0 := hI.box.cell 0
      have f1 := hI.box.cell 1
      have f2 := hI.box.cell 2
      have f3 := hI.box.cell 3
      have f4 := hI.box.cell 4
      simp only [List.getElem?_cons_succ, List.getElem?_cons_zero] at f0 f1 f2 f3 f4
      by_cases hlt2 : k3 < n3
      ·obtain ⟨g, rfl, hge⟩ := Ag hI.d (by omega)
       obtain ⟨⟨c0, c1, c2, y0, y1, y2⟩, hst⟩ := Nl mk xd n3 k3 HQ3.out hlt2
       have HST := (show Hid _ from hst)
       clear hst
       have z0 : wr.cell? ⟨g, k3 * 3, none⟩ = some c0 := (hI.d.cellAt (k3 * 3) (by omega)).trans y0
       have w0 : wr.frozen? ⟨g, k3 * 3, none⟩ = false := hI.d.frozenAt (k3 * 3)
       have z1 : wr.cell? ⟨g, k3 * 3 + 1, none⟩ = some c1 := (hI.d.cellAt (k3 * 3 + 1) (by omega)).trans y1
       have w1 : wr.frozen? ⟨g, k3 * 3 + 1, none⟩ = false := hI.d.frozenAt (k3 * 3 + 1)
       have z2 : wr.cell? ⟨g, k3 * 3 + 2, none⟩ = some c2 := (hI.d.cellAt (k3 * 3 + 2) (by omega)).trans y2
       have w2 : wr.frozen? ⟨g, k3 * 3 + 2, none⟩ = false := hI.d.frozenAt (k3 * 3 + 2)
       have HK : Kp (· = g) wr (((wr.setCell ⟨g, k3 * 3, none⟩ (.int .i64 (mk + (k3 : Int)))).setCell ⟨g, k3 * 3 + 1, none⟩ (.int .i64 0)).setCell ⟨g, k3 * 3 + 2, none⟩ (.int .i64 (mk + (k3 : Int)))) := (Kp.setCell (p := ⟨g, k3 * 3 + 2, none⟩) (Kp.setCell (p := ⟨g, k3 * 3 + 1, none⟩) (Kp.setCell (p := ⟨g, k3 * 3, none⟩) (Kp.refl (· = g) wr) rfl (.int .i64 (mk + (k3 : Int)))) rfl (.int .i64 0)) rfl (.int .i64 (mk + (k3 : Int))))
       have HI2 : Hid (FN base w (((wr.setCell ⟨g, k3 * 3, none⟩ (.int .i64 (mk + (k3 : Int)))).setCell ⟨g, k3 * 3 + 1, none⟩ (.int .i64 0)).setCell ⟨g, k3 * 3 + 2, none⟩ (.int .i64 (mk + (k3 : Int)))) ba va (some ⟨g, 0, none⟩) ea n1 n2 n3 n4 bc vc dc ec mk bh (AN fB mk n1) (AN fV mk n2) (BI fD 3 mk xd (k3 + 1)) xe) := by
        refine FN.mk (hI.hw.trans (HK.mono (fun j _ hj => by rw [hj]; exact .inr (.inr (.inl rfl))))) (hI.box.kp HK (fun h => ?_)) ?_ ?_ ?_ ?_
        ·have := Has.apart hI.box hI.d (by decide)
         apply this; rw [h]; rfl
        ·exact Al hI.b HK (Cm hI.b hI.d (by decide))
        ·exact Al hI.v HK (Cm hI.v hI.d (by decide))
        ·rw [<- HST.out]; exact (((hI.d.stored (k3 * 3) (.int .i64 (mk + (k3 : Int)))).1.stored (k3 * 3 + 1) (.int .i64 0)).1.stored (k3 * 3 + 2) (.int .i64 (mk + (k3 : Int)))).1
        ·exact Al hI.e HK (Cm hI.e hI.d (by decide))
       clear HK hI HST
       go_wp2
       refine And.intro ?_ ?_
       ·first | exact ⟨k3 + 1, by omega, by go_num, HI2.out⟩ | ((repeat apply Exists.intro); exact ⟨⟨k3 + 1, by omega, by go_num, HI2.out⟩, rfl⟩)
       ·simp [intOf]; omega
      ·have hke : k3 = n3 := by omega
       rw [hke, Gu fD 3 mk xd n3 HQ3.out] at hI
       clear hke
       go_wp2
       clear f0 f1 f2 f3 f4
       obtain ⟨wo2, hwo⟩ : ∃ wo : World, wo = wr := ⟨_, rfl⟩
       rw [<- hwo] at hI
       subst hwo
       go_loopw [5] (fun i wr => ∃ k4 : Nat, k4 <= n4 ∧ i = .int .i64 k4 ∧ FN base w wr ba va da ea n1 n2 n3 n4 bc vc dc ec mk bh (AN fB mk n1) (AN fV mk n2) (AN fD mk n3) (BI fE 4 mk xe k4)) (fun i _ => n4 - (intOf i).toNat)
       case atStart => exact ⟨0, Nat.zero_le _, rfl, by rw [Fz]; exact hI⟩
       case round =>
        clear hI
        obtain ⟨k4, hk3, rfl, hI⟩ := hrel
        have f0 := hI.box.cell 0
        have f1 := hI.box.cell 1
        have f2 := hI.box.cell 2
        have f3 := hI.box.cell 3
        have f4 := hI.box.cell 4
        simp only [List.getElem?_cons_succ, List.getElem?_cons_zero] at f0 f1 f2 f3 f4
        by_cases hlt3 : k4 < n4
        ·obtain ⟨g, rfl, hge⟩ := Ag hI.e (by omega)
         obtain ⟨⟨c0, c1, c2, c3, y0, y1, y2, y3⟩, hst⟩ := M0 mk xe n4 k4 HQ4.out hlt3
         have HST := (show Hid _ from hst)
         clear hst
         have z0 : wr.cell? ⟨g, k4 * 4, none⟩ = some c0 := (hI.e.cellAt (k4 * 4) (by omega)).trans y0
         have w0 : wr.frozen? ⟨g, k4 * 4, none⟩ = false := hI.e.frozenAt (k4 * 4)
         have z1 : wr.cell? ⟨g, k4 * 4 + 1, none⟩ = some c1 := (hI.e.cellAt (k4 * 4 + 1) (by omega)).trans y1
         have w1 : wr.frozen? ⟨g, k4 * 4 + 1, none⟩ = false := hI.e.frozenAt (k4 * 4 + 1)
         have z2 : wr.cell? ⟨g, k4 * 4 + 2, none⟩ = some c2 := (hI.e.cellAt (k4 * 4 + 2) (by omega)).trans y2
         have w2 : wr.frozen? ⟨g, k4 * 4 + 2, none⟩ = false := hI.e.frozenAt (k4 * 4 + 2)
         have z3 : wr.cell? ⟨g, k4 * 4 + 3, none⟩ = some c3 := (hI.e.cellAt (k4 * 4 + 3) (by omega)).trans y3
         have w3 : wr.frozen? ⟨g, k4 * 4 + 3, none⟩ = false := hI.e.frozenAt (k4 * 4 + 3)
         have HK : Kp (· = g) wr ((((wr.setCell ⟨g, k4 * 4, none⟩ (.int .i64 (mk + (k4 : Int)))).setCell ⟨g, k4 * 4 + 1, none⟩ (.int .i64 0)).setCell ⟨g, k4 * 4 + 2, none⟩ (.int .i64 0)).setCell ⟨g, k4 * 4 + 3, none⟩ (.int .i64 (mk + (k4 : Int)))) := (Kp.setCell (p := ⟨g, k4 * 4 + 3, none⟩) (Kp.setCell (p := ⟨g, k4 * 4 + 2, none⟩) (Kp.setCell (p := ⟨g, k4 * 4 + 1, none⟩) (Kp.setCell (p := ⟨g, k4 * 4, none⟩) (Kp.refl (· = g) wr) rfl (.int .i64 (mk + (k4 : Int)))) rfl (.int .i64 0)) rfl (.int .i64 0)) rfl (.int .i64 (mk + (k4 : Int))))
         have HI2 : Hid (FN base w ((((wr.setCell ⟨g, k4 * 4, none⟩ (.int .i64 (mk + (k4 : Int)))).setCell ⟨g, k4 * 4 + 1, none⟩ (.int .i64 0)).setCell ⟨g, k4 * 4 + 2, none⟩ (.int .i64 0)).setCell ⟨g, k4 * 4 + 3, none⟩ (.int .i64 (mk + (k4 : Int)))) ba va da (some ⟨g, 0, none⟩) n1 n2 n3 n4 bc vc dc ec mk bh (AN fB mk n1) (AN fV mk n2) (AN fD mk n3) (BI fE 4 mk xe (k4 + 1))) := by
          refine FN.mk (hI.hw.trans (HK.mono (fun j _ hj => by rw [hj]; exact .inr (.inr (.inr rfl))))) (hI.box.kp HK (fun h => ?_)) ?_ ?_ ?_ ?_
          ·have := Has.apart hI.box hI.e (by decide)
           apply this; rw [h]; rfl
          ·exact Al hI.b HK (Cm hI.b hI.e (by decide))
          ·exact Al hI.v HK (Cm hI.v hI.e (by decide))
          ·exact Al hI.d HK (Cm hI.d hI.e (by decide))
          ·rw [<- HST.out]; exact ((((hI.e.stored (k4 * 4) (.int .i64 (mk + (k4 : Int)))).1.stored (k4 * 4 + 1) (.int .i64 0)).1.stored (k4 * 4 + 2) (.int .i64 0)).1.stored (k4 * 4 + 3) (.int .i64 (mk + (k4 : Int)))).1
         clear HK hI HST
         go_wp2
         refine And.intro ?_ ?_
         ·first | exact ⟨k4 + 1, by omega, by go_num, HI2.out⟩ | ((repeat apply Exists.intro); exact ⟨⟨k4 + 1, by omega, by go_num, HI2.out⟩, rfl⟩)
         ·simp [intOf]; omega
        ·have hke : k4 = n4 := by omega
         rw [hke, Gu fE 4 mk xe n4 HQ4.out] at hI
         clear hke
         go_wp2
         go_end0
         exact ⟨rfl, hI⟩
theorem Ci (w : World) (a : Addr) (v : Value) : (w.setCell a v).heap.size = w.heap.size := by simp [World.setCell]
theorem Ap (w : World) (L : List Value) (e : TypeId) (g : Nat) (hg : g = w.heap.size) : ∀ j u, L[j]? = some u -> (w.alloc (.cells L.toArray e)).cell? ((⟨g, 0, none⟩ : Addr).add j) = some u := by
 subst hg; exact Gv w L e
theorem FE {m cap : Nat} {ys : List Value} (h : w.ownsRow base e size (.slice (some ⟨g, 0, none⟩) (n + m) cap) (n + m) (xs ++ ys)) (hx : xs.length = n * size) (hc : n <= cap) :
  w.ownsRow base e size (.slice (some ⟨g, 0, none⟩) n cap) n xs := by
 refine ⟨hx, ?_⟩
 rcases h.2 with ⟨h0, _⟩ | ⟨g', cap', cur, h1, h2, h3, h4, h5, h6, h7⟩
 ·simp at h0
 ·simp only [Value.slice.injEq, Option.some.injEq, Addr.mk.injEq, and_true, true_and] at h1
  obtain ⟨rfl, rfl⟩ := h1
  refine .inr ⟨_, _, cur, rfl, h2, h3, hc, h5, h6, ?_⟩
  have e1 : cur.toList.take (n * size) = (cur.toList.take ((n + m) * size)).take (n * size) := by
   rw [List.take_take]; congr 1; rw [Nat.add_mul]; omega
  rw [e1, h7, List.take_append_of_le_length (by omega), List.take_of_length_le (by omega)]
theorem E4 (w : World) (t ty e : TypeId) (i : TypeInfo) (z : Value) (size bytes : Nat) (h1 : P.underlying t = some (.slice e)) (h2 : P.info? e = some i) (h3 : i.zero = some z) (h4 : i.size = size) (h5 : i.bytes = bytes) (h6 : z.cells.size = size) (h7 : 0 < size)
  (base : Nat) (v : Value) (n : Nat) (xs : List Value) (hown : w.ownsRow base e size v n xs) (hbase : base <= w.heap.size)
  (ad : Addr) (m c : Nat) (news : List Value) (hn : news.length = m * size) (hc : ∀ j u, news[j]? = some u -> w.cell? (ad.add j) = some u) (h1c : ∀ u ∈ news, u.oneCell' = true)
  (hm : 0 < m) (b1 : n + m <= maxLen) (b2 : (n + m) * bytes <= 140737488355328) :
  ∃ g cap w', (Builtin.append_ #[t, t] ty #[v, .slice (some ad) m c]).run P w = .ok (.slice (some ⟨g, 0, none⟩) (n + m) cap) w' ∧
   w'.ownsRow base e size (.slice (some ⟨g, 0, none⟩) (n + m) cap) (n + m) (xs ++ news) ∧ w.grownBy w' v.ownBlock ∧ (v.ownBlock = some g ∨ w.heap.size <= g) ∧ w'.ownsRow base e size v n xs := by
 have fin : ∀ {v' : Value} {w' : World} {ys : List Value}, w'.ownsRow w.heap.size e size v' (n + m) ys -> ∃ g cap, v' = .slice (some ⟨g, 0, none⟩) (n + m) cap ∧ w.heap.size <= g := by
  intro v' w' ys h
  rcases h.2 with ⟨_, h0⟩ | ⟨g, cap, cur, h1, h2, _⟩
  ·omega
  ·exact ⟨g, cap, h1, h2⟩
 rcases id hown.2 with ⟨rfl, rfl⟩ | ⟨g, cap, cur, rfl, hb, hg, hnc, hcm, hsz, htk⟩
 ·obtain rfl : xs = [] := List.eq_nil_of_length_eq_zero (by simpa using hown.1)
  obtain ⟨v', w', hrun, r1, r2, _⟩ := run_append_own (P := P) w w.heap.size t ty e i z size bytes h1 h2 h3 h4 h5 h6 h7 (.slice none 0 0) 0 [] (World.ownsRow_nil w _ e size) ad m c news hn hc h1c b1 b2 (Nat.le_refl _)
  obtain ⟨g, cap, rfl, hge⟩ := fin r1
  exact ⟨g, cap, w', hrun, Aj r1 hbase, r2, .inr hge, World.ownsRow_nil _ _ _ _⟩
 ·by_cases hr : n + m <= cap
  ·obtain ⟨w', hrun, r1, r2⟩ := run_append_fits (P := P) w base t ty e i size h1 h2 h4 g n cap xs hown ad m c news hn hc h1c hr
   exact ⟨g, cap, w', hrun, r1, r2, .inl rfl, FE r1 hown.1 (by omega)⟩
  ·obtain ⟨v', w', hrun, r1, r2⟩ := run_append_arg_grows (P := P) w t ty e i z size bytes h1 h2 h3 h4 h5 h6 h7 ⟨g, 0, none⟩ n cap xs hown.1 (hown.cells rfl) ad m c news hn hc (by omega) b1 b2
   obtain ⟨g', cap', rfl, hge⟩ := fin r1
   exact ⟨g', cap', w', hrun, Aj r1 hbase, ⟨r2.os, r2.tape, r2.output, r2.size, fun k hk _ => r2.block k hk (by simp)⟩, .inr hge, hown.kept r2 (by simp [Value.ownBlock])⟩
theorem AU {K : Act -> World -> Prop} {E : Prop}
  (hg : o.guard = none) (s x : Operand) (t : TypeId) (hop : o.op = Op.call { callee := Callee.builtin Builtin.append, args := #[s, x], argTypes := #[t, t] })
  (e : TypeId) (i : TypeInfo) (z : Value) (size bytes : Nat) (h1 : P.underlying t = some (.slice e)) (h2 : P.info? e = some i) (h3 : i.zero = some z) (h4 : i.size = size) (h5 : i.bytes = bytes) (h6 : z.cells.size = size) (h7 : 0 < size)
  (base : Nat) (v : Value) (n : Nat) (xs : List Value) (hs : a.eval s = v) (hown : w.ownsRow base e size v n xs) (hbase : base <= w.heap.size)
  (ad : Addr) (m c : Nat) (news : List Value) (hx : a.eval x = .slice (some ad) m c) (hn : news.length = m * size) (hc : ∀ j u, news[j]? = some u -> w.cell? (ad.add j) = some u) (h1c : ∀ u ∈ news, u.oneCell' = true)
  (hm : 0 < m) (b1 : n + m <= maxLen) (b2 : (n + m) * bytes <= 140737488355328)
  (hK : ∀ g cap w', w'.ownsRow base e size (.slice (some ⟨g, 0, none⟩) (n + m) cap) (n + m) (xs ++ news) -> w.grownBy w' v.ownBlock -> (v.ownBlock = some g ∨ w.heap.size <= g) -> w'.ownsRow base e size v n xs -> K (a.put o.dst (.slice (some ⟨g, 0, none⟩) (n + m) cap)) w') :
  if Region.wanted o (yielded ops a.tmps) = true then Oper.wp P o a w K Q else E := by
 have hw : Region.wanted o (yielded ops a.tmps) = true := by simp [Region.wanted, hg]
 rw [if_pos hw]
 obtain ⟨g, cap, w', hrun, r1, r2, r3, r4⟩ := E4 (P := P) w t o.type e i z size bytes h1 h2 h3 h4 h5 h6 h7 base v n xs hown hbase ad m c news hn hc h1c hm b1 b2
 unfold Oper.wp
 simp [execOp, hop, resolve, invoke, builtin, hs, hx, hrun, Result.andThen]
 exact hK g cap w' r1 r2 r3 r4
theorem Ak {rest : List Oper}
  (hg : o.guard = none) (s x : Operand) (t : TypeId) (hop : o.op = Op.call { callee := Callee.builtin Builtin.append, args := #[s, x], argTypes := #[t, t] })
  (e : TypeId) (i : TypeInfo) (z : Value) (size bytes : Nat) (h1 : P.underlying t = some (.slice e)) (h2 : P.info? e = some i) (h3 : i.zero = some z) (h4 : i.size = size) (h5 : i.bytes = bytes) (h6 : z.cells.size = size) (h7 : 0 < size)
  (base : Nat) (v : Value) (n : Nat) (xs : List Value) (hs : a.eval s = v) (hown : w.ownsRow base e size v n xs) (hbase : base <= w.heap.size)
  (ad : Addr) (m c : Nat) (news : List Value) (hx : a.eval x = .slice (some ad) m c) (hn : news.length = m * size) (hc : ∀ j u, news[j]? = some u -> w.cell? (ad.add j) = some u) (h1c : ∀ u ∈ news, u.oneCell' = true)
  (hm : 0 < m) (b1 : n + m <= maxLen) (b2 : (n + m) * bytes <= 140737488355328)
  (hK : ∀ g cap w', w'.ownsRow base e size (.slice (some ⟨g, 0, none⟩) (n + m) cap) (n + m) (xs ++ news) -> w.grownBy w' v.ownBlock -> (v.ownBlock = some g ∨ w.heap.size <= g) -> w'.ownsRow base e size v n xs -> wpList P ops Q rest (a.put o.dst (.slice (some ⟨g, 0, none⟩) (n + m) cap)) w') :
  wpList P ops Q (o :: rest) a w := by
 refine wpList_plain hg fun K hK' => ?_
 obtain ⟨g, cap, w', hrun, r1, r2, r3, r4⟩ := E4 (P := P) w t o.type e i z size bytes h1 h2 h3 h4 h5 h6 h7 base v n xs hown hbase ad m c news hn hc h1c hm b1 b2
 unfold Oper.wp
 simp [execOp, hop, resolve, invoke, builtin, hs, hx, hrun, Result.andThen]
 exact hK' _ _ (hK g cap w' r1 r2 r3 r4)
structure RowV where
 v : Value
 n : Nat
 xs : List Value
def RowV.nil : RowV := { v := .slice none 0 0, n := 0, xs := [] }
structure MI (base : Nat) (w wr : World) (ge gh gi gx : Nat) (eL hL iL xL : List Value) (b v d e b2 v2 d2 e2 held : RowV) : Prop where
 fr : Kp (fun k => k = ge ∨ base <= k) w wr
 hge : ge < base
 hgh : base <= gh
 hgi : base <= gi
 hgx : base <= gx
 nhi : gh ≠ gi
 hh : ∀ k, held.v.ownBlock = some k -> k < base
 E : Has wr ge 54 eL
 H : Has wr gh 96 hL
 I : Has wr gi 96 iL
 X : Has wr gx 89 xL
 b : wr.ownsRow base 3 1 b.v b.n b.xs
 v : wr.ownsRow base 122 8 v.v v.n v.xs
 d : wr.ownsRow base 130 3 d.v d.n d.xs
 e : wr.ownsRow base 125 4 e.v e.n e.xs
 b2 : wr.ownsRow base 3 1 b2.v b2.n b2.xs
 v2 : wr.ownsRow base 122 8 v2.v v2.n v2.xs
 d2 : wr.ownsRow base 130 3 d2.v d2.n d2.xs
 e2 : wr.ownsRow base 125 4 e2.v e2.n e2.xs
 held : wr.ownsRow 0 96 6 held.v held.n held.xs
theorem MI.alloc {b v d e b2 v2 d2 e2 held : RowV} (m : MI base w wr ge gh gi gx eL hL iL xL b v d e b2 v2 d2 e2 held) (o : Obj) :
  MI base w (wr.alloc o) ge gh gi gx eL hL iL xL b v d e b2 v2 d2 e2 held :=
 ⟨m.fr.alloc o, m.hge, m.hgh, m.hgi, m.hgx, m.nhi, m.hh, m.E.alloc o, m.H.alloc o, m.I.alloc o, m.X.alloc o, m.b.alloc o, m.v.alloc o, m.d.alloc o, m.e.alloc o, m.b2.alloc o, m.v2.alloc o, m.d2.alloc o, m.e2.alloc o, m.held.alloc o⟩
theorem AO {v : Value} (h : w.ownsRow base e size v n xs) {k : Nat} (hk : k < base) : v.ownBlock ≠ some k := fun h0 => by
 have := (h.lt _ h0).1; omega
theorem MI.setI {b v d e b2 v2 d2 e2 held : RowV} (m : MI base w wr ge gh gi gx eL hL iL xL b v d e b2 v2 d2 e2 held) (j : Nat) (u : Value) : MI base w (wr.setCell ⟨gi, j, none⟩ u) ge gh gi gx eL hL (iL.set j u) xL b v d e b2 v2 d2 e2 held := by
 refine ⟨m.fr.setCell (p := ⟨gi, j, none⟩) (.inr m.hgi) u, m.hge, m.hgh, m.hgi, m.hgx, m.nhi, m.hh, m.E.other _ _ ?_, m.H.other _ _ m.nhi, m.I.set j u, m.X.other _ _ ?_, Aa m.b _ _ ?_, Aa m.v _ _ ?_, Aa m.d _ _ ?_, Aa m.e _ _ ?_, Aa m.b2 _ _ ?_, Aa m.v2 _ _ ?_, Aa m.d2 _ _ ?_, Aa m.e2 _ _ ?_, Aa m.held _ _ ?_⟩
 ·have := m.hge; have := m.hgi; show ge ≠ gi; omega
 ·intro h
  have h1 : gx = gi := h
  have hx := m.X; have hi := m.I
  unfold Has at hx hi
  rw [h1, hi] at hx
  simp only [Option.some.injEq, Obj.cells.injEq] at hx
  exact absurd hx.2.1 (by decide)
 ·exact fun h => Has.apart m.I m.b (by decide) h.symm
 ·exact fun h => Has.apart m.I m.v (by decide) h.symm
 ·exact fun h => Has.apart m.I m.d (by decide) h.symm
 ·exact fun h => Has.apart m.I m.e (by decide) h.symm
 ·exact fun h => Has.apart m.I m.b2 (by decide) h.symm
 ·exact fun h => Has.apart m.I m.v2 (by decide) h.symm
 ·exact fun h => Has.apart m.I m.d2 (by decide) h.symm
 ·exact fun h => Has.apart m.I m.e2 (by decide) h.symm
 ·intro h; have h1 := m.hh _ h; have h2 := m.hgi; exact absurd h1 (by show ¬ gi < base; omega)
theorem MI.setE {b v d e b2 v2 d2 e2 held : RowV} (m : MI base w wr ge gh gi gx eL hL iL xL b v d e b2 v2 d2 e2 held) (j : Nat) (u : Value) : MI base w (wr.setCell ⟨ge, j, none⟩ u) ge gh gi gx (eL.set j u) hL iL xL b v d e b2 v2 d2 e2 held := by
 have h1 := m.hge; have h2 := m.hgi; have h3 := m.hgh; have h4 := m.hgx
 refine ⟨m.fr.setCell (p := ⟨ge, j, none⟩) (.inl rfl) u, m.hge, m.hgh, m.hgi, m.hgx, m.nhi, m.hh, m.E.set j u, m.H.other _ _ (show gh ≠ ge by omega), m.I.other _ _ (show gi ≠ ge by omega), m.X.other _ _ (show gx ≠ ge by omega), Aa m.b _ _ (AO m.b m.hge), Aa m.v _ _ (AO m.v m.hge), Aa m.d _ _ (AO m.d m.hge), Aa m.e _ _ (AO m.e m.hge), Aa m.b2 _ _ (AO m.b2 m.hge), Aa m.v2 _ _ (AO m.v2 m.hge), Aa m.d2 _ _ (AO m.d2 m.hge), Aa m.e2 _ _ (AO m.e2 m.hge), Aa m.held _ _ ?_⟩
 exact fun h => Has.apart m.E m.held (by decide) h.symm
theorem MI.appB {b v d e b2 v2 d2 e2 held : RowV} (m : MI base w wr ge gh gi gx eL hL iL xL b v d e b2 v2 d2 e2 held) {w2 : World} (hg : wr.grownBy w2 b.v.ownBlock) (ho : w2.ownsRow base 3 1 b.v b.n b.xs) {x : Value} {nn : Nat} {ys : List Value} (hn : w2.ownsRow base 3 1 x nn ys) :
  MI base w w2 ge gh gi gx eL hL iL xL b v d e { v := x, n := nn, xs := ys } v2 d2 e2 held := by
 refine ⟨m.fr.trans ((C7 hg).mono (fun k _ h => .inr (m.b.lt k h.symm).1)), m.hge, m.hgh, m.hgi, m.hgx, m.nhi, m.hh, Ao hg m.E (Has.apart m.E m.b (by decide)), Ao hg m.H (Has.apart m.H m.b (by decide)), Ao hg m.I (Has.apart m.I m.b (by decide)), Ao hg m.X (Has.apart m.X m.b (by decide)), ho, m.v.kept hg (Ae m.v m.b (by decide)), m.d.kept hg (Ae m.d m.b (by decide)), m.e.kept hg (Ae m.e m.b (by decide)), hn, m.v2.kept hg (Ae m.v2 m.b (by decide)), m.d2.kept hg (Ae m.d2 m.b (by decide)), m.e2.kept hg (Ae m.e2 m.b (by decide)), m.held.kept hg (Ae m.held m.b (by decide))⟩
theorem MI.appV {b v d e b2 v2 d2 e2 held : RowV} (m : MI base w wr ge gh gi gx eL hL iL xL b v d e b2 v2 d2 e2 held) {w2 : World} (hg : wr.grownBy w2 v.v.ownBlock) (ho : w2.ownsRow base 122 8 v.v v.n v.xs) {x : Value} {nn : Nat} {ys : List Value} (hn : w2.ownsRow base 122 8 x nn ys) :
  MI base w w2 ge gh gi gx eL hL iL xL b v d e b2 { v := x, n := nn, xs := ys } d2 e2 held := by
 refine ⟨m.fr.trans ((C7 hg).mono (fun k _ h => .inr (m.v.lt k h.symm).1)), m.hge, m.hgh, m.hgi, m.hgx, m.nhi, m.hh, Ao hg m.E (Has.apart m.E m.v (by decide)), Ao hg m.H (Has.apart m.H m.v (by decide)), Ao hg m.I (Has.apart m.I m.v (by decide)), Ao hg m.X (Has.apart m.X m.v (by decide)), m.b.kept hg (Ae m.b m.v (by decide)), ho, m.d.kept hg (Ae m.d m.v (by decide)), m.e.kept hg (Ae m.e m.v (by decide)), m.b2.kept hg (Ae m.b2 m.v (by decide)), hn, m.d2.kept hg (Ae m.d2 m.v (by decide)), m.e2.kept hg (Ae m.e2 m.v (by decide)), m.held.kept hg (Ae m.held m.v (by decide))⟩
theorem MI.appD {b v d e b2 v2 d2 e2 held : RowV} (m : MI base w wr ge gh gi gx eL hL iL xL b v d e b2 v2 d2 e2 held) {w2 : World} (hg : wr.grownBy w2 d.v.ownBlock) (ho : w2.ownsRow base 130 3 d.v d.n d.xs) {x : Value} {nn : Nat} {ys : List Value} (hn : w2.ownsRow base 130 3 x nn ys) :
  MI base w w2 ge gh gi gx eL hL iL xL b v d e b2 v2 { v := x, n := nn, xs := ys } e2 held := by
 refine ⟨m.fr.trans ((C7 hg).mono (fun k _ h => .inr (m.d.lt k h.symm).1)), m.hge, m.hgh, m.hgi, m.hgx, m.nhi, m.hh, Ao hg m.E (Has.apart m.E m.d (by decide)), Ao hg m.H (Has.apart m.H m.d (by decide)), Ao hg m.I (Has.apart m.I m.d (by decide)), Ao hg m.X (Has.apart m.X m.d (by decide)), m.b.kept hg (Ae m.b m.d (by decide)), m.v.kept hg (Ae m.v m.d (by decide)), ho, m.e.kept hg (Ae m.e m.d (by decide)), m.b2.kept hg (Ae m.b2 m.d (by decide)), m.v2.kept hg (Ae m.v2 m.d (by decide)), hn, m.e2.kept hg (Ae m.e2 m.d (by decide)), m.held.kept hg (Ae m.held m.d (by decide))⟩
theorem MI.appE {b v d e b2 v2 d2 e2 held : RowV} (m : MI base w wr ge gh gi gx eL hL iL xL b v d e b2 v2 d2 e2 held) {w2 : World} (hg : wr.grownBy w2 e.v.ownBlock) (ho : w2.ownsRow base 125 4 e.v e.n e.xs) {x : Value} {nn : Nat} {ys : List Value} (hn : w2.ownsRow base 125 4 x nn ys) :
  MI base w w2 ge gh gi gx eL hL iL xL b v d e b2 v2 d2 { v := x, n := nn, xs := ys } held := by
 refine ⟨m.fr.trans ((C7 hg).mono (fun k _ h => .inr (m.e.lt k h.symm).1)), m.hge, m.hgh, m.hgi, m.hgx, m.nhi, m.hh, Ao hg m.E (Has.apart m.E m.e (by decide)), Ao hg m.H (Has.apart m.H m.e (by decide)), Ao hg m.I (Has.apart m.I m.e (by decide)), Ao hg m.X (Has.apart m.X m.e (by decide)), m.b.kept hg (Ae m.b m.e (by decide)), m.v.kept hg (Ae m.v m.e (by decide)), m.d.kept hg (Ae m.d m.e (by decide)), ho, m.b2.kept hg (Ae m.b2 m.e (by decide)), m.v2.kept hg (Ae m.v2 m.e (by decide)), m.d2.kept hg (Ae m.d2 m.e (by decide)), hn, m.held.kept hg (Ae m.held m.e (by decide))⟩
theorem IE (f : Int -> List Value) (sz : Nat) (hf : ∀ x, (f x).length = sz) (mk : Int) (n j i : Nat) (hj : j < n) (hi : i < sz) : (AN f mk n)[j * sz + i]? = (f (mk + j))[i]? := by
 induction n with
 | zero => omega
 | succ n ih =>
  rw [AN]
  have hl := CF f sz hf mk n
  by_cases h : j < n
  ·have h1 : j * sz + i < n * sz := by have := Nat.mul_le_mul_right sz (show j + 1 <= n by omega); rw [Nat.add_mul] at this; omega
   rw [List.getElem?_append_left (by rw [hl]; exact h1)]
   exact ih h
  ·have e : j = n := by omega
   subst e
   rw [List.getElem?_append_right (by rw [hl]; omega), hl]
   congr 1
   omega
theorem Ro {v : Value} (h : w.ownsRow base e sz v n xs) (o : Nat) (hn : n <= 1048576) (mk bh : Int)
  (hx : ∀ j, j < n -> xs[j * sz]? = some (.int .i64 (atN mk bh j n)) ∧ xs[j * sz + o]? = some (.int .i64 (atN mk bh j n))) : MS w v n sz o mk bh := by
 obtain ⟨_, a, cap, he, hg⟩ := Rd.of_owns h
 refine ⟨hn, a, cap, he, fun h0 => ?_⟩
 obtain ⟨g, rfl, hc⟩ := hg h0
 exact ⟨g, rfl, fun j hj => ⟨hc _ _ (hx j hj).1, hc _ _ (hx j hj).2⟩⟩
theorem Pj (mk j n : Int) : atN mk 0 j n = mk + j := by unfold atN; rw [if_neg (by omega)]
theorem H8 {v : Value} (h : w.ownsRow base e sz v n (AN f mk n)) (o : Nat) (hn : n <= 1048576)
  (hf : ∀ x, (f x).length = sz) (h0 : 0 < sz) (ho : o < sz) (f0 : ∀ x, (f x)[0]? = some (.int .i64 x)) (f1 : ∀ x, (f x)[o]? = some (.int .i64 x)) : MS w v n sz o mk 0 := by
 refine Ro h o hn mk 0 (fun j hj => ?_)
 rw [Pj]
 refine ⟨?_, ?_⟩
 ·have := IE f sz hf mk n j 0 hj h0
  rw [Nat.add_zero] at this
  rw [this, f0]
 ·rw [IE f sz hf mk n j o hj ho, f1]
theorem F9 {v : Value} {m : Int} (h : w.ownsRow base e sz v (n + 2) (AN f mk n ++ (f m ++ f (m + 1)))) (o : Nat) (hn : n + 2 <= 1048576) (hm : 0 < m)
  (hf : ∀ x, (f x).length = sz) (h0 : 0 < sz) (ho : o < sz) (f0 : ∀ x, (f x)[0]? = some (.int .i64 x)) (f1 : ∀ x, (f x)[o]? = some (.int .i64 x)) : MS w v (n + 2) sz o mk m := by
 have hl := CF f sz hf mk n
 have key : ∀ j i, j < n + 2 -> i < sz -> (∀ x, (f x)[i]? = some (.int .i64 x)) -> (AN f mk n ++ (f m ++ f (m + 1)))[j * sz + i]? = some (.int .i64 (atN mk m j ((n + 2 : Nat) : Int))) := by
  intro j i hj hi hx
  by_cases h1 : j < n
  ·have h2 : j * sz + i < n * sz := by have := Nat.mul_le_mul_right sz (show j + 1 <= n by omega); rw [Nat.add_mul] at this; omega
   rw [List.getElem?_append_left (by rw [hl]; exact h2), IE f sz hf mk n j i h1 hi, hx]
   unfold atN; rw [if_neg (by omega)]
  ·rw [List.getElem?_append_right (by rw [hl]; have := Nat.mul_le_mul_right sz (show n <= j by omega); omega), hl]
   by_cases h2 : j = n
   ·subst h2
    rw [List.getElem?_append_left (by rw [hf]; omega)]
    have e1 : j * sz + i - j * sz = i := by omega
    rw [e1, hx]
    unfold atN; rw [if_pos (by omega)]
    congr 2; omega
   ·have h3 : j = n + 1 := by omega
    subst h3
    rw [List.getElem?_append_right (by rw [hf, Nat.add_mul]; omega), hf]
    have e1 : (n + 1) * sz + i - n * sz - sz = i := by rw [Nat.add_mul]; omega
    rw [e1, hx]
    unfold atN; rw [if_pos (by omega)]
    congr 2; omega
 refine Ro h o (by omega) mk m (fun j hj => ⟨?_, key j o hj ho f1⟩)
 have := key j 0 hj h0 f0
 rwa [Nat.add_zero] at this
def VIn (lo hi : Nat) (b v d e : Value) : Prop := ∀ k, b.ownBlock = some k ∨ v.ownBlock = some k ∨ d.ownBlock = some k ∨ e.ownBlock = some k -> lo <= k ∧ k < hi
def C5 (base ge : Nat) (w w' : World) (px py pl hv0 : Value) (nh : Nat) (hcs : List Value) (mk : Int) : Prop :=
 ∃ hv' b v d e b' v' d' e', Has w' ge 54 [px, py, pl, hv', .int .i64 (mk + 1000 + 1000)] ∧
  w'.ownsRow 0 96 6 hv' (nh + 2) (hcs ++ [b, v, d, e, .int .i64 mk, .int .i64 0, b', v', d', e', .int .i64 mk, .int .i64 (mk + 1000)]) ∧
  VOk w' b v d e mk 0 ∧ VOk w' b' v' d' e' mk (mk + 1000) ∧ VIn base w'.heap.size b v d e ∧ VIn base w'.heap.size b' v' d' e' ∧
  Kp (fun k => k = ge ∨ base <= k ∨ hv0.ownBlock = some k) w w' ∧ (∀ k, hv'.ownBlock = some k -> hv0.ownBlock = some k ∨ w.heap.size <= k) ∧ (∀ k, hv'.ownBlock = some k -> ∀ u ∈ [b, v, d, e, b', v', d', e'], u.ownBlock ≠ some k)
theorem CD {v v' : Value} (h : w.ownsRow base e size v n xs) (h' : w.ownsRow base' e' size' v' n' xs') (hne : e ≠ e') {k : Nat} (hk : v'.ownBlock = some k) : v.ownBlock ≠ some k := by
 intro h0
 rcases Ae h h' hne with h1 | h1
 ·rw [h1] at h0; cases h0
 ·exact h1 (h0.trans hk.symm)
theorem MI.drew {b v d e b2 v2 d2 e2 held : RowV} (m : MI base w wr ge gh gi gx eL hL iL xL b v d e b2 v2 d2 e2 held) : MI base w wr.drew ge gh gi gx eL hL iL xL b v d e b2 v2 d2 e2 held :=
 ⟨m.fr.drew, m.hge, m.hgh, m.hgi, m.hgx, m.nhi, m.hh, m.E, m.H, m.I, m.X, m.b, m.v, m.d, m.e, m.b2, m.v2, m.d2, m.e2, m.held⟩
theorem O4 {v5 : World} {g5 cap5 : Nat} {px py pl hv0 : Value} {hcs : List Value} {nh n1 n2 n3 n4 : Nat} {bv vv dv ev bv2 vv2 dv2 ev2 : Value}
  (m : MI base w wr ge gh gi gx [px, py, pl, hv0, .int .i64 (mk + 1000 + 1000)] hL iL xL { v := bv, n := n1, xs := AN fB mk n1 } { v := vv, n := n2, xs := AN fV mk n2 } { v := dv, n := n3, xs := AN fD mk n3 } { v := ev, n := n4, xs := AN fE mk n4 }
   { v := bv2, n := n1 + 2, xs := AN fB mk n1 ++ (fB (mk + 1000) ++ fB (mk + 1000 + 1)) } { v := vv2, n := n2 + 2, xs := AN fV mk n2 ++ (fV (mk + 1000) ++ fV (mk + 1000 + 1)) } { v := dv2, n := n3 + 2, xs := AN fD mk n3 ++ (fD (mk + 1000) ++ fD (mk + 1000 + 1)) } { v := ev2, n := n4 + 2, xs := AN fE mk n4 ++ (fE (mk + 1000) ++ fE (mk + 1000 + 1)) }
   { v := hv0, n := nh, xs := hcs })
  (hg : wr.grownBy v5 hv0.ownBlock) (hown : v5.ownsRow 0 96 6 (.slice (some ⟨g5, 0, none⟩) (nh + 2) cap5) (nh + 2) (hcs ++ [bv, vv, dv, ev, .int .i64 mk, .int .i64 0, bv2, vv2, dv2, ev2, .int .i64 mk, .int .i64 (mk + 1000)]))
  (hor : hv0.ownBlock = some g5 ∨ wr.heap.size <= g5) (m1 : 0 <= mk) (m2 : mk <= 100000000000) (l1 : n1 <= 1048000) (l2 : n2 <= 1048000) (l3 : n3 <= 1048000) (l4 : n4 <= 1048000) :
  Has v5 ge 54 [px, py, pl, hv0, .int .i64 (mk + 1000 + 1000)] ∧
  C5 base ge w (v5.setCell ⟨ge, 3, none⟩ (.slice (some ⟨g5, 0, none⟩) (nh + 2) cap5)) px py pl hv0 nh hcs mk := by
 have hE5 : Has v5 ge 54 [px, py, pl, hv0, .int .i64 (mk + 1000 + 1000)] := Ao hg m.E (Has.apart m.E m.held (by decide))
 have hsz : (v5.setCell ⟨ge, 3, none⟩ (.slice (some ⟨g5, 0, none⟩) (nh + 2) cap5)).heap.size = v5.heap.size := by simp [World.setCell]
 have rb := Aa (m.b.kept hg (Ae m.b m.held (by decide))) ⟨ge, 3, none⟩ (.slice (some ⟨g5, 0, none⟩) (nh + 2) cap5) (AO m.b m.hge)
 have rv := Aa (m.v.kept hg (Ae m.v m.held (by decide))) ⟨ge, 3, none⟩ (.slice (some ⟨g5, 0, none⟩) (nh + 2) cap5) (AO m.v m.hge)
 have rd := Aa (m.d.kept hg (Ae m.d m.held (by decide))) ⟨ge, 3, none⟩ (.slice (some ⟨g5, 0, none⟩) (nh + 2) cap5) (AO m.d m.hge)
 have re := Aa (m.e.kept hg (Ae m.e m.held (by decide))) ⟨ge, 3, none⟩ (.slice (some ⟨g5, 0, none⟩) (nh + 2) cap5) (AO m.e m.hge)
 have rb2 := Aa (m.b2.kept hg (Ae m.b2 m.held (by decide))) ⟨ge, 3, none⟩ (.slice (some ⟨g5, 0, none⟩) (nh + 2) cap5) (AO m.b2 m.hge)
 have rv2 := Aa (m.v2.kept hg (Ae m.v2 m.held (by decide))) ⟨ge, 3, none⟩ (.slice (some ⟨g5, 0, none⟩) (nh + 2) cap5) (AO m.v2 m.hge)
 have rd2 := Aa (m.d2.kept hg (Ae m.d2 m.held (by decide))) ⟨ge, 3, none⟩ (.slice (some ⟨g5, 0, none⟩) (nh + 2) cap5) (AO m.d2 m.hge)
 have re2 := Aa (m.e2.kept hg (Ae m.e2 m.held (by decide))) ⟨ge, 3, none⟩ (.slice (some ⟨g5, 0, none⟩) (nh + 2) cap5) (AO m.e2 m.hge)
 simp only at rb rv rd re rb2 rv2 rd2 re2
 refine ⟨hE5, .slice (some ⟨g5, 0, none⟩) (nh + 2) cap5, bv, vv, dv, ev, bv2, vv2, dv2, ev2, hE5.set 3 _, Aa hown _ _ (fun h => Has.apart hE5 hown (by decide) h.symm), ?_, ?_, ?_, ?_, ?_, ?_, ?_⟩
 ·exact ⟨m1, by omega, by omega, by omega, n1, n2, n3, n4, H8 rb 0 (by omega) (fun _ => rfl) (by decide) (by decide) (fun _ => rfl) (fun _ => rfl), H8 rv 2 (by omega) (fun _ => rfl) (by decide) (by decide) (fun _ => rfl) (fun _ => rfl), H8 rd 2 (by omega) (fun _ => rfl) (by decide) (by decide) (fun _ => rfl) (fun _ => rfl), H8 re 3 (by omega) (fun _ => rfl) (by decide) (by decide) (fun _ => rfl) (fun _ => rfl)⟩
 ·exact ⟨m1, by omega, by omega, by omega, n1 + 2, n2 + 2, n3 + 2, n4 + 2, F9 rb2 0 (by omega) (by omega) (fun _ => rfl) (by decide) (by decide) (fun _ => rfl) (fun _ => rfl), F9 rv2 2 (by omega) (by omega) (fun _ => rfl) (by decide) (by decide) (fun _ => rfl) (fun _ => rfl), F9 rd2 2 (by omega) (by omega) (fun _ => rfl) (by decide) (by decide) (fun _ => rfl) (fun _ => rfl), F9 re2 3 (by omega) (by omega) (fun _ => rfl) (by decide) (by decide) (fun _ => rfl) (fun _ => rfl)⟩
 ·intro k hk
  rcases hk with hk | hk | hk | hk
  ·exact rb.lt k hk
  ·exact rv.lt k hk
  ·exact rd.lt k hk
  ·exact re.lt k hk
 ·intro k hk
  rcases hk with hk | hk | hk | hk
  ·exact rb2.lt k hk
  ·exact rv2.lt k hk
  ·exact rd2.lt k hk
  ·exact re2.lt k hk
 ·refine Kp.setCell (p := ⟨ge, 3, none⟩) ((m.fr.mono (fun k _ h => ?_)).trans ((C7 hg).mono (fun k _ h => .inr (.inr h.symm)))) (.inl rfl) _
  rcases h with h | h
  ·exact .inl h
  ·exact .inr (.inl h)
 ·intro k hk
  have e : g5 = k := by simpa [Value.ownBlock] using hk
  subst e
  rcases hor with h | h
  ·exact .inl h
  ·exact .inr (Nat.le_trans m.fr.size h)
 ·intro k hk u hu
  have hown' := Aa hown ⟨ge, 3, none⟩ (.slice (some ⟨g5, 0, none⟩) (nh + 2) cap5) (fun h => Has.apart hE5 hown (by decide) h.symm)
  simp only [List.mem_cons, List.not_mem_nil, or_false] at hu
  rcases hu with rfl | rfl | rfl | rfl | rfl | rfl | rfl | rfl
  ·exact CD rb hown' (by decide) hk
  ·exact CD rv hown' (by decide) hk
  ·exact CD rd hown' (by decide) hk
  ·exact CD re hown' (by decide) hk
  ·exact CD rb2 hown' (by decide) hk
  ·exact CD rv2 hown' (by decide) hk
  ·exact CD rd2 hown' (by decide) hk
  ·exact CD re2 hown' (by decide) hk
end Go.Proofs.YtohjjgefklhmaaaGreatDoor
