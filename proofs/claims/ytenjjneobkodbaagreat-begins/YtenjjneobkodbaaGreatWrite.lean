import Derived.Test.YtenjjneobkodbaaGreatMark
namespace Go.Proofs.YtenjjneobkodbaaGreat
open Go.ChangeShapes Go.WideShapes Go.ChangeAt Go.RowKit
set_option linter.unusedVariables false

def fB (x : Int) : List Value := [.int .i64 x]
def fV (x : Int) : List Value := [.int .i64 x, .int .i64 0, .int .i64 x, .int .i64 0, .int .i64 0, .int .i64 0, .bool false, .bool false]
def fD (x : Int) : List Value := [.int .i64 x, .int .i64 0, .int .i64 x]
def fE (x : Int) : List Value := [.int .i64 x, .int .i64 0, .int .i64 0, .int .i64 x]
def markG (f : Int → List Value) (mk : Int) : Nat → List Value
  | 0 => []
  | k + 1 => markG f mk k ++ f (mk + k)
theorem markG_length (f : Int → List Value) (sz : Nat) (hf : ∀ x, (f x).length = sz) (mk : Int) (k : Nat) : (markG f mk k).length = k * sz := by
  induction k with
  | zero => simp [markG]
  | succ k ih => rw [markG, List.length_append, ih, hf, Nat.add_mul]; omega
def mixG (f : Int → List Value) (sz : Nat) (mk : Int) (old : List Value) (k : Nat) : List Value := markG f mk k ++ old.drop (k * sz)
theorem mixG_zero (f : Int → List Value) (sz : Nat) (mk : Int) (old : List Value) : mixG f sz mk old 0 = old := by simp [mixG, markG]
theorem mixG_end (f : Int → List Value) (sz : Nat) (mk : Int) (old : List Value) (n : Nat) (h : old.length = n * sz) : mixG f sz mk old n = markG f mk n := by
  simp [mixG, ← h]

theorem ownsRow_some {w : World} {base : Nat} {e : TypeId} {size : Nat} {a : Option Addr} {n c : Nat} {xs : List Value} (h : w.ownsRow base e size (.slice a n c) n xs) (h0 : 0 < n) : ∃ g, a = some ⟨g, 0, none⟩ ∧ base ≤ g := by
  rcases h.2 with ⟨_, h1⟩ | ⟨g, cap, cur, h1, h2, _⟩
  · omega
  · simp only [Value.slice.injEq, true_and] at h1
    exact ⟨g, h1.1, h2⟩
theorem ownsRow_kp {S : Nat → Prop} {w w' : World} {base : Nat} {e : TypeId} {size : Nat} {v : Value} {n : Nat} {xs : List Value} (h : w.ownsRow base e size v n xs) (k : Kp S w w') (ho : ∀ b, v.ownBlock = some b → ¬ S b) : w'.ownsRow base e size v n xs := by
  refine ⟨h.1, ?_⟩
  rcases h.2 with hn | ⟨g, cap, cur, rfl, hb, hgg, rest⟩
  · exact .inl hn
  · refine .inr ⟨g, cap, cur, rfl, hb, ?_, rest⟩
    rw [k.block g (Array.getElem?_eq_some_iff.1 hgg).1 (ho g rfl)]
    exact hgg
theorem apart_of {w : World} {base base' : Nat} {e e' : TypeId} {size size' : Nat} {v : Value} {n n' g c : Nat} {xs xs' : List Value} (h : w.ownsRow base e size v n xs) (h' : w.ownsRow base' e' size' (.slice (some ⟨g, 0, none⟩) n' c) n' xs') (hne : e ≠ e') :
    ∀ b, v.ownBlock = some b → ¬ (b = g) := by
  intro b hb hbg
  rcases ownsRow_apart h h' hne with h0 | h0
  · rw [h0] at hb; cases hb
  · apply h0; rw [hb, hbg]; rfl
theorem Kp.below {S : Nat → Prop} {w0 w w' : World} {B : Nat} (hb : Below B w0 w) (hk : Kp S w w') (hB : B ≤ w0.heap.size) (hS : ∀ k, S k → B ≤ k) : Below B w0 w' :=
  hb.trans ⟨hk.os, hk.tape, hk.output, hk.size, fun k h => hk.block k (Nat.lt_of_lt_of_le h (Nat.le_trans hB hb.size)) (fun h' => by have := hS k h'; omega)⟩

/-- the blocks of the four lists -/
def RS (ba va da ea : Option Addr) (k : Nat) : Prop := ba.map (fun a => a.block) = some k ∨ va.map (fun a => a.block) = some k ∨ da.map (fun a => a.block) = some k ∨ ea.map (fun a => a.block) = some k
/-- what holds while the marks are written -/
structure WInv (base : Nat) (w wr : World) (ba va da ea : Option Addr) (n1 n2 n3 n4 bc vc dc ec : Nat) (mk bh : Int) (xb xv xd xe : List Value) : Prop where
  hw : Kp (RS ba va da ea) w wr
  box : Has wr w.heap.size 90 [.slice ba n1 bc, .slice va n2 vc, .slice da n3 dc, .slice ea n4 ec, .int .i64 mk, .int .i64 bh]
  b : wr.ownsRow base 3 1 (.slice ba n1 bc) n1 xb
  v : wr.ownsRow base 112 8 (.slice va n2 vc) n2 xv
  d : wr.ownsRow base 114 3 (.slice da n3 dc) n3 xd
  e : wr.ownsRow base 116 4 (.slice ea n4 ec) n4 xe

theorem drop1 (l : List Value) (p : Nat) (h : p + 1 ≤ l.length) : ∃ c0, l.drop p = c0 :: l.drop (p + 1) := by
  have e0 := List.drop_eq_getElem_cons (l := l) (i := p) (by omega)
  exact ⟨_, by rw [e0]⟩

theorem mixB_step (mk : Int) (old : List Value) (n k : Nat) (hl : old.length = n * 1) (hk : k < n) :
    (∃ c0, (mixG fB 1 mk old k)[k]? = some c0) ∧
    ((mixG fB 1 mk old k).set (k) (.int .i64 (mk + (k : Int)))) = mixG fB 1 mk old (k + 1) := by
  obtain ⟨c0, hd⟩ := drop1 old (k * 1) (by have := Nat.mul_le_mul_right 1 hk; omega)
  have hm := markG_length fB 1 (fun _ => rfl) mk k
  have e : (k + 1) * 1 = k * 1 + 1 := by omega
  have hx : mixG fB 1 mk old k = markG fB mk k ++ (c0 :: old.drop (k * 1 + 1)) := by rw [mixG, hd]
  have hx' : mixG fB 1 mk old (k + 1) = markG fB mk k ++ (fB (mk + (k : Int)) ++ old.drop (k * 1 + 1)) := by rw [mixG, e, markG, List.append_assoc]
  rw [hx, hx']
  generalize markG fB mk k = A at *
  simp only [Nat.mul_one] at hm
  subst hm
  refine ⟨⟨c0, by simp⟩, by simp [fB]⟩

theorem drop8 (l : List Value) (p : Nat) (h : p + 8 ≤ l.length) : ∃ c0 c1 c2 c3 c4 c5 c6 c7, l.drop p = c0 :: c1 :: c2 :: c3 :: c4 :: c5 :: c6 :: c7 :: l.drop (p + 8) := by
  have e0 := List.drop_eq_getElem_cons (l := l) (i := p) (by omega)
  have e1 := List.drop_eq_getElem_cons (l := l) (i := p + 1) (by omega)
  have e2 := List.drop_eq_getElem_cons (l := l) (i := p + 2) (by omega)
  have e3 := List.drop_eq_getElem_cons (l := l) (i := p + 3) (by omega)
  have e4 := List.drop_eq_getElem_cons (l := l) (i := p + 4) (by omega)
  have e5 := List.drop_eq_getElem_cons (l := l) (i := p + 5) (by omega)
  have e6 := List.drop_eq_getElem_cons (l := l) (i := p + 6) (by omega)
  have e7 := List.drop_eq_getElem_cons (l := l) (i := p + 7) (by omega)
  exact ⟨_, _, _, _, _, _, _, _, by rw [e0, e1, e2, e3, e4, e5, e6, e7]⟩

theorem mixV_step (mk : Int) (old : List Value) (n k : Nat) (hl : old.length = n * 8) (hk : k < n) :
    (∃ c0 c1 c2 c3 c4 c5 c6 c7, (mixG fV 8 mk old k)[k * 8]? = some c0 ∧ (mixG fV 8 mk old k)[k * 8 + 1]? = some c1 ∧ (mixG fV 8 mk old k)[k * 8 + 2]? = some c2 ∧ (mixG fV 8 mk old k)[k * 8 + 3]? = some c3 ∧ (mixG fV 8 mk old k)[k * 8 + 4]? = some c4 ∧ (mixG fV 8 mk old k)[k * 8 + 5]? = some c5 ∧ (mixG fV 8 mk old k)[k * 8 + 6]? = some c6 ∧ (mixG fV 8 mk old k)[k * 8 + 7]? = some c7) ∧
    (((((((((mixG fV 8 mk old k).set (k * 8) (.int .i64 (mk + (k : Int)))).set (k * 8 + 1) (.int .i64 0)).set (k * 8 + 2) (.int .i64 (mk + (k : Int)))).set (k * 8 + 3) (.int .i64 0)).set (k * 8 + 4) (.int .i64 0)).set (k * 8 + 5) (.int .i64 0)).set (k * 8 + 6) (.bool false)).set (k * 8 + 7) (.bool false)) = mixG fV 8 mk old (k + 1) := by
  obtain ⟨c0, c1, c2, c3, c4, c5, c6, c7, hd⟩ := drop8 old (k * 8) (by have := Nat.mul_le_mul_right 8 hk; omega)
  have hm := markG_length fV 8 (fun _ => rfl) mk k
  have e : (k + 1) * 8 = k * 8 + 8 := by omega
  have hx : mixG fV 8 mk old k = markG fV mk k ++ (c0 :: c1 :: c2 :: c3 :: c4 :: c5 :: c6 :: c7 :: old.drop (k * 8 + 8)) := by rw [mixG, hd]
  have hx' : mixG fV 8 mk old (k + 1) = markG fV mk k ++ (fV (mk + (k : Int)) ++ old.drop (k * 8 + 8)) := by rw [mixG, e, markG, List.append_assoc]
  rw [hx, hx']
  generalize markG fV mk k = A at *
  rw [← hm]
  refine ⟨⟨c0, c1, c2, c3, c4, c5, c6, c7, by simp, by simp, by simp, by simp, by simp, by simp, by simp, by simp⟩, by simp [fV]⟩

theorem drop3 (l : List Value) (p : Nat) (h : p + 3 ≤ l.length) : ∃ c0 c1 c2, l.drop p = c0 :: c1 :: c2 :: l.drop (p + 3) := by
  have e0 := List.drop_eq_getElem_cons (l := l) (i := p) (by omega)
  have e1 := List.drop_eq_getElem_cons (l := l) (i := p + 1) (by omega)
  have e2 := List.drop_eq_getElem_cons (l := l) (i := p + 2) (by omega)
  exact ⟨_, _, _, by rw [e0, e1, e2]⟩

theorem mixD_step (mk : Int) (old : List Value) (n k : Nat) (hl : old.length = n * 3) (hk : k < n) :
    (∃ c0 c1 c2, (mixG fD 3 mk old k)[k * 3]? = some c0 ∧ (mixG fD 3 mk old k)[k * 3 + 1]? = some c1 ∧ (mixG fD 3 mk old k)[k * 3 + 2]? = some c2) ∧
    ((((mixG fD 3 mk old k).set (k * 3) (.int .i64 (mk + (k : Int)))).set (k * 3 + 1) (.int .i64 0)).set (k * 3 + 2) (.int .i64 (mk + (k : Int)))) = mixG fD 3 mk old (k + 1) := by
  obtain ⟨c0, c1, c2, hd⟩ := drop3 old (k * 3) (by have := Nat.mul_le_mul_right 3 hk; omega)
  have hm := markG_length fD 3 (fun _ => rfl) mk k
  have e : (k + 1) * 3 = k * 3 + 3 := by omega
  have hx : mixG fD 3 mk old k = markG fD mk k ++ (c0 :: c1 :: c2 :: old.drop (k * 3 + 3)) := by rw [mixG, hd]
  have hx' : mixG fD 3 mk old (k + 1) = markG fD mk k ++ (fD (mk + (k : Int)) ++ old.drop (k * 3 + 3)) := by rw [mixG, e, markG, List.append_assoc]
  rw [hx, hx']
  generalize markG fD mk k = A at *
  rw [← hm]
  refine ⟨⟨c0, c1, c2, by simp, by simp, by simp⟩, by simp [fD]⟩

theorem drop4 (l : List Value) (p : Nat) (h : p + 4 ≤ l.length) : ∃ c0 c1 c2 c3, l.drop p = c0 :: c1 :: c2 :: c3 :: l.drop (p + 4) := by
  have e0 := List.drop_eq_getElem_cons (l := l) (i := p) (by omega)
  have e1 := List.drop_eq_getElem_cons (l := l) (i := p + 1) (by omega)
  have e2 := List.drop_eq_getElem_cons (l := l) (i := p + 2) (by omega)
  have e3 := List.drop_eq_getElem_cons (l := l) (i := p + 3) (by omega)
  exact ⟨_, _, _, _, by rw [e0, e1, e2, e3]⟩

theorem mixE_step (mk : Int) (old : List Value) (n k : Nat) (hl : old.length = n * 4) (hk : k < n) :
    (∃ c0 c1 c2 c3, (mixG fE 4 mk old k)[k * 4]? = some c0 ∧ (mixG fE 4 mk old k)[k * 4 + 1]? = some c1 ∧ (mixG fE 4 mk old k)[k * 4 + 2]? = some c2 ∧ (mixG fE 4 mk old k)[k * 4 + 3]? = some c3) ∧
    (((((mixG fE 4 mk old k).set (k * 4) (.int .i64 (mk + (k : Int)))).set (k * 4 + 1) (.int .i64 0)).set (k * 4 + 2) (.int .i64 0)).set (k * 4 + 3) (.int .i64 (mk + (k : Int)))) = mixG fE 4 mk old (k + 1) := by
  obtain ⟨c0, c1, c2, c3, hd⟩ := drop4 old (k * 4) (by have := Nat.mul_le_mul_right 4 hk; omega)
  have hm := markG_length fE 4 (fun _ => rfl) mk k
  have e : (k + 1) * 4 = k * 4 + 4 := by omega
  have hx : mixG fE 4 mk old k = markG fE mk k ++ (c0 :: c1 :: c2 :: c3 :: old.drop (k * 4 + 4)) := by rw [mixG, hd]
  have hx' : mixG fE 4 mk old (k + 1) = markG fE mk k ++ (fE (mk + (k : Int)) ++ old.drop (k * 4 + 4)) := by rw [mixG, e, markG, List.append_assoc]
  rw [hx, hx']
  generalize markG fE mk k = A at *
  rw [← hm]
  refine ⟨⟨c0, c1, c2, c3, by simp, by simp, by simp, by simp⟩, by simp [fE]⟩

set_option maxHeartbeats 4000000 in
set_option maxRecDepth 100000 in
theorem write_any (base : Nat) (ba va da ea : Option Addr) (n1 n2 n3 n4 bc vc dc ec : Nat) (mk bh : Int) (xb xv xd xe : List Value) (w : World) (m1 : 0 ≤ mk) (m2 : mk ≤ 1000000000000)
    (l1 : n1 ≤ 1048576) (l2 : n2 ≤ 1048576) (l3 : n3 ≤ 1048576) (l4 : n4 ≤ 1048576)
    (hb : w.ownsRow base 3 1 (.slice ba n1 bc) n1 xb) (hv : w.ownsRow base 112 8 (.slice va n2 vc) n2 xv) (hd : w.ownsRow base 114 3 (.slice da n3 dc) n3 xd) (he : w.ownsRow base 116 4 (.slice ea n4 ec) n4 xe) :
    Calls Tryz.prog 74 #[.agg #[.slice ba n1 bc, .slice va n2 vc, .slice da n3 dc, .slice ea n4 ec, .int .i64 mk, .int .i64 bh]] w fun e w' => e = .returned (.tuple #[]) ∧
      WInv base w w' ba va da ea n1 n2 n3 n4 bc vc dc ec mk bh (markG fB mk n1) (markG fV mk n2) (markG fD mk n3) (markG fE mk n4) := by
  have q1 := hb.1
  have q2 := hv.1
  have q3 := hd.1
  have q4 := he.1
  have HQ1 : Hid (xb.length = n1 * 1) := q1
  have HQ2 : Hid (xv.length = n2 * 8) := q2
  have HQ3 : Hid (xd.length = n3 * 3) := q3
  have HQ4 : Hid (xe.length = n4 * 4) := q4
  clear q1 q2 q3 q4
  have HI0 : Hid (WInv base w (w.alloc (.cells #[.slice ba n1 bc, .slice va n2 vc, .slice da n3 dc, .slice ea n4 ec, .int .i64 mk, .int .i64 bh] 90)) ba va da ea n1 n2 n3 n4 bc vc dc ec mk bh xb xv xd xe) :=
    WInv.mk ((Kp.refl _ _).alloc _) (Has.newA w _ _) (hb.alloc _) (hv.alloc _) (hd.alloc _) (he.alloc _)
  clear hb hv hd he
  go_enter Tryz.func74, Tryz.ntmps74
  go_wp2
  go_loopw [2] (fun i wr => ∃ k1 : Nat, k1 ≤ n1 ∧ i = .int .i64 k1 ∧ WInv base w wr ba va da ea n1 n2 n3 n4 bc vc dc ec mk bh (mixG fB 1 mk xb k1) xv xd xe) (fun i _ => n1 - (intOf i).toNat)
  case atStart => exact ⟨0, Nat.zero_le _, rfl, by rw [mixG_zero]; exact HI0.out⟩
  case round =>
    clear HI0
    obtain ⟨k1, hk0, rfl, hI⟩ := hrel
    have f0 := hI.box.cell 0
    have f1 := hI.box.cell 1
    have f2 := hI.box.cell 2
    have f3 := hI.box.cell 3
    have f4 := hI.box.cell 4
    simp only [List.getElem?_cons_succ, List.getElem?_cons_zero] at f0 f1 f2 f3 f4
    by_cases hlt0 : k1 < n1
    · obtain ⟨g, rfl, hge⟩ := ownsRow_some hI.b (by omega)
      obtain ⟨⟨c0, y0⟩, hst⟩ := mixB_step mk xb n1 k1 HQ1.out hlt0
      have HST := (show Hid _ from hst)
      clear hst
      have z0 : wr.cell? ⟨g, k1, none⟩ = some c0 := (hI.b.cellAt (k1) (by omega)).trans y0
      have w0 : wr.frozen? ⟨g, k1, none⟩ = false := hI.b.frozenAt (k1)
      have HK : Kp (· = g) wr (wr.setCell ⟨g, k1, none⟩ (.int .i64 (mk + (k1 : Int)))) := (Kp.setCell (p := ⟨g, k1, none⟩) (Kp.refl (· = g) wr) rfl (.int .i64 (mk + (k1 : Int))))
      have HI2 : Hid (WInv base w (wr.setCell ⟨g, k1, none⟩ (.int .i64 (mk + (k1 : Int)))) (some ⟨g, 0, none⟩) va da ea n1 n2 n3 n4 bc vc dc ec mk bh (mixG fB 1 mk xb (k1 + 1)) xv xd xe) := by
        refine WInv.mk (hI.hw.trans (HK.mono (fun j _ hj => by rw [hj]; exact .inl rfl))) (hI.box.kp HK (fun h => ?_)) ?_ ?_ ?_ ?_
        · have := Has.apart hI.box hI.b (by decide)
          apply this; rw [h]; rfl
        · rw [← HST.out]; exact (hI.b.stored (k1) (.int .i64 (mk + (k1 : Int)))).1
        · exact ownsRow_kp hI.v HK (apart_of hI.v hI.b (by decide))
        · exact ownsRow_kp hI.d HK (apart_of hI.d hI.b (by decide))
        · exact ownsRow_kp hI.e HK (apart_of hI.e hI.b (by decide))
      clear HK hI HST
      go_wp2
      refine And.intro ?_ ?_
      · first | exact ⟨k1 + 1, by omega, by go_num, HI2.out⟩ | ((repeat apply Exists.intro); exact ⟨⟨k1 + 1, by omega, by go_num, HI2.out⟩, rfl⟩)
      · simp [intOf]; omega
    · have hke : k1 = n1 := by omega
      rw [hke, mixG_end fB 1 mk xb n1 HQ1.out] at hI
      clear hke
      go_wp2
      clear f0 f1 f2 f3 f4
      obtain ⟨wo0, hwo⟩ : ∃ wo : World, wo = wr := ⟨_, rfl⟩
      rw [← hwo] at hI
      subst hwo
      go_loopw [3] (fun i wr => ∃ k2 : Nat, k2 ≤ n2 ∧ i = .int .i64 k2 ∧ WInv base w wr ba va da ea n1 n2 n3 n4 bc vc dc ec mk bh (markG fB mk n1) (mixG fV 8 mk xv k2) xd xe) (fun i _ => n2 - (intOf i).toNat)
      case atStart => exact ⟨0, Nat.zero_le _, rfl, by rw [mixG_zero]; exact hI⟩
      case round =>
        clear hI
        obtain ⟨k2, hk1, rfl, hI⟩ := hrel
        have f0 := hI.box.cell 0
        have f1 := hI.box.cell 1
        have f2 := hI.box.cell 2
        have f3 := hI.box.cell 3
        have f4 := hI.box.cell 4
        simp only [List.getElem?_cons_succ, List.getElem?_cons_zero] at f0 f1 f2 f3 f4
        by_cases hlt1 : k2 < n2
        · obtain ⟨g, rfl, hge⟩ := ownsRow_some hI.v (by omega)
          obtain ⟨⟨c0, c1, c2, c3, c4, c5, c6, c7, y0, y1, y2, y3, y4, y5, y6, y7⟩, hst⟩ := mixV_step mk xv n2 k2 HQ2.out hlt1
          have HST := (show Hid _ from hst)
          clear hst
          have z0 : wr.cell? ⟨g, k2 * 8, none⟩ = some c0 := (hI.v.cellAt (k2 * 8) (by omega)).trans y0
          have w0 : wr.frozen? ⟨g, k2 * 8, none⟩ = false := hI.v.frozenAt (k2 * 8)
          have z1 : wr.cell? ⟨g, k2 * 8 + 1, none⟩ = some c1 := (hI.v.cellAt (k2 * 8 + 1) (by omega)).trans y1
          have w1 : wr.frozen? ⟨g, k2 * 8 + 1, none⟩ = false := hI.v.frozenAt (k2 * 8 + 1)
          have z2 : wr.cell? ⟨g, k2 * 8 + 2, none⟩ = some c2 := (hI.v.cellAt (k2 * 8 + 2) (by omega)).trans y2
          have w2 : wr.frozen? ⟨g, k2 * 8 + 2, none⟩ = false := hI.v.frozenAt (k2 * 8 + 2)
          have z3 : wr.cell? ⟨g, k2 * 8 + 3, none⟩ = some c3 := (hI.v.cellAt (k2 * 8 + 3) (by omega)).trans y3
          have w3 : wr.frozen? ⟨g, k2 * 8 + 3, none⟩ = false := hI.v.frozenAt (k2 * 8 + 3)
          have z4 : wr.cell? ⟨g, k2 * 8 + 4, none⟩ = some c4 := (hI.v.cellAt (k2 * 8 + 4) (by omega)).trans y4
          have w4 : wr.frozen? ⟨g, k2 * 8 + 4, none⟩ = false := hI.v.frozenAt (k2 * 8 + 4)
          have z5 : wr.cell? ⟨g, k2 * 8 + 5, none⟩ = some c5 := (hI.v.cellAt (k2 * 8 + 5) (by omega)).trans y5
          have w5 : wr.frozen? ⟨g, k2 * 8 + 5, none⟩ = false := hI.v.frozenAt (k2 * 8 + 5)
          have z6 : wr.cell? ⟨g, k2 * 8 + 6, none⟩ = some c6 := (hI.v.cellAt (k2 * 8 + 6) (by omega)).trans y6
          have w6 : wr.frozen? ⟨g, k2 * 8 + 6, none⟩ = false := hI.v.frozenAt (k2 * 8 + 6)
          have z7 : wr.cell? ⟨g, k2 * 8 + 7, none⟩ = some c7 := (hI.v.cellAt (k2 * 8 + 7) (by omega)).trans y7
          have w7 : wr.frozen? ⟨g, k2 * 8 + 7, none⟩ = false := hI.v.frozenAt (k2 * 8 + 7)
          have HK : Kp (· = g) wr ((((((((wr.setCell ⟨g, k2 * 8, none⟩ (.int .i64 (mk + (k2 : Int)))).setCell ⟨g, k2 * 8 + 1, none⟩ (.int .i64 0)).setCell ⟨g, k2 * 8 + 2, none⟩ (.int .i64 (mk + (k2 : Int)))).setCell ⟨g, k2 * 8 + 3, none⟩ (.int .i64 0)).setCell ⟨g, k2 * 8 + 4, none⟩ (.int .i64 0)).setCell ⟨g, k2 * 8 + 5, none⟩ (.int .i64 0)).setCell ⟨g, k2 * 8 + 6, none⟩ (.bool false)).setCell ⟨g, k2 * 8 + 7, none⟩ (.bool false)) := (Kp.setCell (p := ⟨g, k2 * 8 + 7, none⟩) (Kp.setCell (p := ⟨g, k2 * 8 + 6, none⟩) (Kp.setCell (p := ⟨g, k2 * 8 + 5, none⟩) (Kp.setCell (p := ⟨g, k2 * 8 + 4, none⟩) (Kp.setCell (p := ⟨g, k2 * 8 + 3, none⟩) (Kp.setCell (p := ⟨g, k2 * 8 + 2, none⟩) (Kp.setCell (p := ⟨g, k2 * 8 + 1, none⟩) (Kp.setCell (p := ⟨g, k2 * 8, none⟩) (Kp.refl (· = g) wr) rfl (.int .i64 (mk + (k2 : Int)))) rfl (.int .i64 0)) rfl (.int .i64 (mk + (k2 : Int)))) rfl (.int .i64 0)) rfl (.int .i64 0)) rfl (.int .i64 0)) rfl (.bool false)) rfl (.bool false))
          have HI2 : Hid (WInv base w ((((((((wr.setCell ⟨g, k2 * 8, none⟩ (.int .i64 (mk + (k2 : Int)))).setCell ⟨g, k2 * 8 + 1, none⟩ (.int .i64 0)).setCell ⟨g, k2 * 8 + 2, none⟩ (.int .i64 (mk + (k2 : Int)))).setCell ⟨g, k2 * 8 + 3, none⟩ (.int .i64 0)).setCell ⟨g, k2 * 8 + 4, none⟩ (.int .i64 0)).setCell ⟨g, k2 * 8 + 5, none⟩ (.int .i64 0)).setCell ⟨g, k2 * 8 + 6, none⟩ (.bool false)).setCell ⟨g, k2 * 8 + 7, none⟩ (.bool false)) ba (some ⟨g, 0, none⟩) da ea n1 n2 n3 n4 bc vc dc ec mk bh (markG fB mk n1) (mixG fV 8 mk xv (k2 + 1)) xd xe) := by
            refine WInv.mk (hI.hw.trans (HK.mono (fun j _ hj => by rw [hj]; exact .inr (.inl rfl)))) (hI.box.kp HK (fun h => ?_)) ?_ ?_ ?_ ?_
            · have := Has.apart hI.box hI.v (by decide)
              apply this; rw [h]; rfl
            · exact ownsRow_kp hI.b HK (apart_of hI.b hI.v (by decide))
            · rw [← HST.out]; exact ((((((((hI.v.stored (k2 * 8) (.int .i64 (mk + (k2 : Int)))).1.stored (k2 * 8 + 1) (.int .i64 0)).1.stored (k2 * 8 + 2) (.int .i64 (mk + (k2 : Int)))).1.stored (k2 * 8 + 3) (.int .i64 0)).1.stored (k2 * 8 + 4) (.int .i64 0)).1.stored (k2 * 8 + 5) (.int .i64 0)).1.stored (k2 * 8 + 6) (.bool false)).1.stored (k2 * 8 + 7) (.bool false)).1
            · exact ownsRow_kp hI.d HK (apart_of hI.d hI.v (by decide))
            · exact ownsRow_kp hI.e HK (apart_of hI.e hI.v (by decide))
          clear HK hI HST
          go_wp2
          refine And.intro ?_ ?_
          · first | exact ⟨k2 + 1, by omega, by go_num, HI2.out⟩ | ((repeat apply Exists.intro); exact ⟨⟨k2 + 1, by omega, by go_num, HI2.out⟩, rfl⟩)
          · simp [intOf]; omega
        · have hke : k2 = n2 := by omega
          rw [hke, mixG_end fV 8 mk xv n2 HQ2.out] at hI
          clear hke
          go_wp2
          clear f0 f1 f2 f3 f4
          obtain ⟨wo1, hwo⟩ : ∃ wo : World, wo = wr := ⟨_, rfl⟩
          rw [← hwo] at hI
          subst hwo
          go_loopw [4] (fun i wr => ∃ k3 : Nat, k3 ≤ n3 ∧ i = .int .i64 k3 ∧ WInv base w wr ba va da ea n1 n2 n3 n4 bc vc dc ec mk bh (markG fB mk n1) (markG fV mk n2) (mixG fD 3 mk xd k3) xe) (fun i _ => n3 - (intOf i).toNat)
          case atStart => exact ⟨0, Nat.zero_le _, rfl, by rw [mixG_zero]; exact hI⟩
          case round =>
            clear hI
            obtain ⟨k3, hk2, rfl, hI⟩ := hrel
            have f0 := hI.box.cell 0
            have f1 := hI.box.cell 1
            have f2 := hI.box.cell 2
            have f3 := hI.box.cell 3
            have f4 := hI.box.cell 4
            simp only [List.getElem?_cons_succ, List.getElem?_cons_zero] at f0 f1 f2 f3 f4
            by_cases hlt2 : k3 < n3
            · obtain ⟨g, rfl, hge⟩ := ownsRow_some hI.d (by omega)
              obtain ⟨⟨c0, c1, c2, y0, y1, y2⟩, hst⟩ := mixD_step mk xd n3 k3 HQ3.out hlt2
              have HST := (show Hid _ from hst)
              clear hst
              have z0 : wr.cell? ⟨g, k3 * 3, none⟩ = some c0 := (hI.d.cellAt (k3 * 3) (by omega)).trans y0
              have w0 : wr.frozen? ⟨g, k3 * 3, none⟩ = false := hI.d.frozenAt (k3 * 3)
              have z1 : wr.cell? ⟨g, k3 * 3 + 1, none⟩ = some c1 := (hI.d.cellAt (k3 * 3 + 1) (by omega)).trans y1
              have w1 : wr.frozen? ⟨g, k3 * 3 + 1, none⟩ = false := hI.d.frozenAt (k3 * 3 + 1)
              have z2 : wr.cell? ⟨g, k3 * 3 + 2, none⟩ = some c2 := (hI.d.cellAt (k3 * 3 + 2) (by omega)).trans y2
              have w2 : wr.frozen? ⟨g, k3 * 3 + 2, none⟩ = false := hI.d.frozenAt (k3 * 3 + 2)
              have HK : Kp (· = g) wr (((wr.setCell ⟨g, k3 * 3, none⟩ (.int .i64 (mk + (k3 : Int)))).setCell ⟨g, k3 * 3 + 1, none⟩ (.int .i64 0)).setCell ⟨g, k3 * 3 + 2, none⟩ (.int .i64 (mk + (k3 : Int)))) := (Kp.setCell (p := ⟨g, k3 * 3 + 2, none⟩) (Kp.setCell (p := ⟨g, k3 * 3 + 1, none⟩) (Kp.setCell (p := ⟨g, k3 * 3, none⟩) (Kp.refl (· = g) wr) rfl (.int .i64 (mk + (k3 : Int)))) rfl (.int .i64 0)) rfl (.int .i64 (mk + (k3 : Int))))
              have HI2 : Hid (WInv base w (((wr.setCell ⟨g, k3 * 3, none⟩ (.int .i64 (mk + (k3 : Int)))).setCell ⟨g, k3 * 3 + 1, none⟩ (.int .i64 0)).setCell ⟨g, k3 * 3 + 2, none⟩ (.int .i64 (mk + (k3 : Int)))) ba va (some ⟨g, 0, none⟩) ea n1 n2 n3 n4 bc vc dc ec mk bh (markG fB mk n1) (markG fV mk n2) (mixG fD 3 mk xd (k3 + 1)) xe) := by
                refine WInv.mk (hI.hw.trans (HK.mono (fun j _ hj => by rw [hj]; exact .inr (.inr (.inl rfl))))) (hI.box.kp HK (fun h => ?_)) ?_ ?_ ?_ ?_
                · have := Has.apart hI.box hI.d (by decide)
                  apply this; rw [h]; rfl
                · exact ownsRow_kp hI.b HK (apart_of hI.b hI.d (by decide))
                · exact ownsRow_kp hI.v HK (apart_of hI.v hI.d (by decide))
                · rw [← HST.out]; exact (((hI.d.stored (k3 * 3) (.int .i64 (mk + (k3 : Int)))).1.stored (k3 * 3 + 1) (.int .i64 0)).1.stored (k3 * 3 + 2) (.int .i64 (mk + (k3 : Int)))).1
                · exact ownsRow_kp hI.e HK (apart_of hI.e hI.d (by decide))
              clear HK hI HST
              go_wp2
              refine And.intro ?_ ?_
              · first | exact ⟨k3 + 1, by omega, by go_num, HI2.out⟩ | ((repeat apply Exists.intro); exact ⟨⟨k3 + 1, by omega, by go_num, HI2.out⟩, rfl⟩)
              · simp [intOf]; omega
            · have hke : k3 = n3 := by omega
              rw [hke, mixG_end fD 3 mk xd n3 HQ3.out] at hI
              clear hke
              go_wp2
              clear f0 f1 f2 f3 f4
              obtain ⟨wo2, hwo⟩ : ∃ wo : World, wo = wr := ⟨_, rfl⟩
              rw [← hwo] at hI
              subst hwo
              go_loopw [5] (fun i wr => ∃ k4 : Nat, k4 ≤ n4 ∧ i = .int .i64 k4 ∧ WInv base w wr ba va da ea n1 n2 n3 n4 bc vc dc ec mk bh (markG fB mk n1) (markG fV mk n2) (markG fD mk n3) (mixG fE 4 mk xe k4)) (fun i _ => n4 - (intOf i).toNat)
              case atStart => exact ⟨0, Nat.zero_le _, rfl, by rw [mixG_zero]; exact hI⟩
              case round =>
                clear hI
                obtain ⟨k4, hk3, rfl, hI⟩ := hrel
                have f0 := hI.box.cell 0
                have f1 := hI.box.cell 1
                have f2 := hI.box.cell 2
                have f3 := hI.box.cell 3
                have f4 := hI.box.cell 4
                simp only [List.getElem?_cons_succ, List.getElem?_cons_zero] at f0 f1 f2 f3 f4
                by_cases hlt3 : k4 < n4
                · obtain ⟨g, rfl, hge⟩ := ownsRow_some hI.e (by omega)
                  obtain ⟨⟨c0, c1, c2, c3, y0, y1, y2, y3⟩, hst⟩ := mixE_step mk xe n4 k4 HQ4.out hlt3
                  have HST := (show Hid _ from hst)
                  clear hst
                  have z0 : wr.cell? ⟨g, k4 * 4, none⟩ = some c0 := (hI.e.cellAt (k4 * 4) (by omega)).trans y0
                  have w0 : wr.frozen? ⟨g, k4 * 4, none⟩ = false := hI.e.frozenAt (k4 * 4)
                  have z1 : wr.cell? ⟨g, k4 * 4 + 1, none⟩ = some c1 := (hI.e.cellAt (k4 * 4 + 1) (by omega)).trans y1
                  have w1 : wr.frozen? ⟨g, k4 * 4 + 1, none⟩ = false := hI.e.frozenAt (k4 * 4 + 1)
                  have z2 : wr.cell? ⟨g, k4 * 4 + 2, none⟩ = some c2 := (hI.e.cellAt (k4 * 4 + 2) (by omega)).trans y2
                  have w2 : wr.frozen? ⟨g, k4 * 4 + 2, none⟩ = false := hI.e.frozenAt (k4 * 4 + 2)
                  have z3 : wr.cell? ⟨g, k4 * 4 + 3, none⟩ = some c3 := (hI.e.cellAt (k4 * 4 + 3) (by omega)).trans y3
                  have w3 : wr.frozen? ⟨g, k4 * 4 + 3, none⟩ = false := hI.e.frozenAt (k4 * 4 + 3)
                  have HK : Kp (· = g) wr ((((wr.setCell ⟨g, k4 * 4, none⟩ (.int .i64 (mk + (k4 : Int)))).setCell ⟨g, k4 * 4 + 1, none⟩ (.int .i64 0)).setCell ⟨g, k4 * 4 + 2, none⟩ (.int .i64 0)).setCell ⟨g, k4 * 4 + 3, none⟩ (.int .i64 (mk + (k4 : Int)))) := (Kp.setCell (p := ⟨g, k4 * 4 + 3, none⟩) (Kp.setCell (p := ⟨g, k4 * 4 + 2, none⟩) (Kp.setCell (p := ⟨g, k4 * 4 + 1, none⟩) (Kp.setCell (p := ⟨g, k4 * 4, none⟩) (Kp.refl (· = g) wr) rfl (.int .i64 (mk + (k4 : Int)))) rfl (.int .i64 0)) rfl (.int .i64 0)) rfl (.int .i64 (mk + (k4 : Int))))
                  have HI2 : Hid (WInv base w ((((wr.setCell ⟨g, k4 * 4, none⟩ (.int .i64 (mk + (k4 : Int)))).setCell ⟨g, k4 * 4 + 1, none⟩ (.int .i64 0)).setCell ⟨g, k4 * 4 + 2, none⟩ (.int .i64 0)).setCell ⟨g, k4 * 4 + 3, none⟩ (.int .i64 (mk + (k4 : Int)))) ba va da (some ⟨g, 0, none⟩) n1 n2 n3 n4 bc vc dc ec mk bh (markG fB mk n1) (markG fV mk n2) (markG fD mk n3) (mixG fE 4 mk xe (k4 + 1))) := by
                    refine WInv.mk (hI.hw.trans (HK.mono (fun j _ hj => by rw [hj]; exact .inr (.inr (.inr rfl))))) (hI.box.kp HK (fun h => ?_)) ?_ ?_ ?_ ?_
                    · have := Has.apart hI.box hI.e (by decide)
                      apply this; rw [h]; rfl
                    · exact ownsRow_kp hI.b HK (apart_of hI.b hI.e (by decide))
                    · exact ownsRow_kp hI.v HK (apart_of hI.v hI.e (by decide))
                    · exact ownsRow_kp hI.d HK (apart_of hI.d hI.e (by decide))
                    · rw [← HST.out]; exact ((((hI.e.stored (k4 * 4) (.int .i64 (mk + (k4 : Int)))).1.stored (k4 * 4 + 1) (.int .i64 0)).1.stored (k4 * 4 + 2) (.int .i64 0)).1.stored (k4 * 4 + 3) (.int .i64 (mk + (k4 : Int)))).1
                  clear HK hI HST
                  go_wp2
                  refine And.intro ?_ ?_
                  · first | exact ⟨k4 + 1, by omega, by go_num, HI2.out⟩ | ((repeat apply Exists.intro); exact ⟨⟨k4 + 1, by omega, by go_num, HI2.out⟩, rfl⟩)
                  · simp [intOf]; omega
                · have hke : k4 = n4 := by omega
                  rw [hke, mixG_end fE 4 mk xe n4 HQ4.out] at hI
                  clear hke
                  go_wp2
                  go_end0
                  exact ⟨rfl, hI⟩
end Go.Proofs.YtenjjneobkodbaaGreat
