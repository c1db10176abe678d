import Derived.Test.YtohjjgefklhmaaaGreatDoorAppM
namespace Go.Proofs.YtohjjgefklhmaaaGreatDoor
open Go.ChangeShapes Go.WideShapes Go.ChangeAt Go.RowKit
set_option linter.unusedVariables false
set_option maxHeartbeats 40000000
set_option maxRecDepth 100000
variable {l : List VS} {w w' : World} {a : Option Addr} {n cap sz g B o : Nat} {L : List Value} {v : Value} {mk bh : Int}
structure DS where
 who : Int
 val : Int
 shares : Int
structure ES where
 who : Int
 val : Int
 made : Int
 amount : Int
def DS.cells (d : DS) : List Value := [.int .i64 d.who, .int .i64 d.val, .int .i64 d.shares]
def ES.cells (d : ES) : List Value := [.int .i64 d.who, .int .i64 d.val, .int .i64 d.made, .int .i64 d.amount]
def EU : List DS -> List Value
 | [] => []
 | v :: l => v.cells ++ EU l
def Bi : List ES -> List Value
 | [] => []
 | v :: l => v.cells ++ Bi l
structure ViewS where
 height : Int
 bal : List Int
 fees : Int
 pool : Int
 bonded : Int
 loose : Int
 vals : List VS
 dels : List DS
 ents : List ES
def JS (w w' : World) (e : Ending) (S : ViewS) : Prop :=
 ∃ bv vv dv ev, e = .returned (.agg #[.int .i64 S.height, bv, .int .i64 S.fees, .int .i64 S.pool, .int .i64 S.bonded, .int .i64 S.loose, vv, dv, ev]) ∧
  w'.ownsRow w.heap.size 3 1 bv S.bal.length (Ai S.bal) ∧ w'.ownsRow w.heap.size 122 8 vv S.vals.length (A5 S.vals) ∧
  w'.ownsRow w.heap.size 130 3 dv S.dels.length (EU S.dels) ∧ w'.ownsRow w.heap.size 125 4 ev S.ents.length (Bi S.ents) ∧ Below w.heap.size w w'
def Ez : List DS -> List Value -> List Value
 | d :: l, p :: ps => d.cells ++ p :: Ez l ps
 | _, _ => []
def EO (w : World) (g : Nat) (S : ViewS) : Prop :=
 ∃ top mature fee bv vv dv ev ps, Has w g 81 [top, mature, fee, .int .i64 S.height, bv, .int .i64 S.fees, .int .i64 S.pool, vv, dv, ev] ∧
  Rd w bv S.bal.length 1 (Ai S.bal) ∧ Rd w vv S.vals.length 8 (A5 S.vals) ∧ Rd w dv S.dels.length 4 (Ez S.dels ps) ∧ Rd w ev S.ents.length 4 (Bi S.ents) ∧
  ∀ (k : Nat) p, (Ez S.dels ps)[k * 4 + 3]? = some p -> ∃ a n c, p = .slice a n c
def Ad (l : List VS) : Int := l.foldl (fun n v => if v.inset = true then n + v.tokens else n) 0
def AI (l : List VS) : Int := l.foldl (fun n v => if v.inset = true then n else n + v.tokens) 0
def B2 (l : List ES) : Int := l.foldl (fun n v => n + v.amount) 0
theorem Cv {α β : Type} (f : β -> α -> β) (a : β) (l : List α) (k : Nat) (h : k < l.length) : (l.take (k + 1)).foldl f a = f ((l.take k).foldl f a) l[k] := by
 rw [List.take_succ_eq_append_getElem h, List.foldl_append]; rfl
theorem CC (l : List VS) (k : Nat) (h : k < l.length) : Ad (l.take (k + 1)) = if l[k].inset = true then Ad (l.take k) + l[k].tokens else Ad (l.take k) := by
 unfold Ad; rw [Cv _ _ l k h]
theorem Fg (l : List VS) (k : Nat) (h : k < l.length) : AI (l.take (k + 1)) = if l[k].inset = true then AI (l.take k) else AI (l.take k) + l[k].tokens := by
 unfold AI; rw [Cv _ _ l k h]
theorem GD (l : List ES) (k : Nat) (h : k < l.length) : B2 (l.take (k + 1)) = B2 (l.take k) + l[k].amount := by
 unfold B2; rw [Cv _ _ l k h]
def VB (l : List VS) : Prop := ∀ k (h : k < l.length), 0 <= l[k].tokens ∧ l[k].tokens <= 1000000
def EB (l : List ES) : Prop := ∀ k (h : k < l.length), 0 <= l[k].amount ∧ l[k].amount <= 1000000
theorem D4 (h : VB l) (k : Nat) (hk : k <= l.length) : 0 <= Ad (l.take k) ∧ Ad (l.take k) <= 1000000 * k := by
 induction k with
 | zero => simp [Ad]
 | succ k ih =>
  have h1 := ih (by omega)
  have h2 := h k (by omega)
  rw [CC l k (by omega)]
  split <;> omega
theorem Jy (h : VB l) (k : Nat) (hk : k <= l.length) : 0 <= AI (l.take k) ∧ AI (l.take k) <= 1000000 * k := by
 induction k with
 | zero => simp [AI]
 | succ k ih =>
  have h1 := ih (by omega)
  have h2 := h k (by omega)
  rw [Fg l k (by omega)]
  split <;> omega
theorem MM {l : List ES} (h : EB l) (k : Nat) (hk : k <= l.length) : 0 <= B2 (l.take k) ∧ B2 (l.take k) <= 1000000 * k := by
 induction k with
 | zero => simp [B2]
 | succ k ih =>
  have h1 := ih (by omega)
  have h2 := h k (by omega)
  rw [GD l k (by omega)]
  omega
theorem KW (l : List ES) : (Bi l).length = l.length * 4 := by
 induction l with
 | nil => rfl
 | cons v l ih => simp [Bi, ih, ES.cells]; omega
theorem AC (l : List ES) (k : Nat) (h : k < l.length) (i : Nat) (hi : i < 4) : (Bi l)[k * 4 + i]? = l[k].cells[i]? := by
 induction l generalizing k with
 | nil => simp at h
 | cons v l ih =>
  cases k with
  | zero => simp [Bi, List.getElem?_append_left (show i < v.cells.length by simpa [ES.cells] using hi)]
  | succ k =>
   rw [Bi, List.getElem?_append_right (by simp [ES.cells]; omega)]
   have e : (k + 1) * 4 + i - v.cells.length = k * 4 + i := by simp [ES.cells]; omega
   rw [e, ih k (by simpa using h)]
   simp
theorem Ke (l : List DS) (k : Nat) (h : k < l.length) (i : Nat) (hi : i < 3) : (EU l)[k * 3 + i]? = l[k].cells[i]? := by
 induction l generalizing k with
 | nil => simp at h
 | cons v l ih =>
  cases k with
  | zero => simp [EU, List.getElem?_append_left (show i < v.cells.length by simpa [DS.cells] using hi)]
  | succ k =>
   rw [EU, List.getElem?_append_right (by simp [DS.cells]; omega)]
   have e : (k + 1) * 3 + i - v.cells.length = k * 3 + i := by simp [DS.cells]; omega
   rw [e, ih k (by simpa using h)]
   simp
theorem Rd.get (h : Rd w (.slice a n cap) n sz L) (h0 : 0 < n) : ∃ g, a = some ⟨g, 0, none⟩ ∧ ∀ (j : Nat) u, L[j]? = some u -> w.cell? ⟨g, j, none⟩ = some u := by
 obtain ⟨_, a', c', he, hx⟩ := h
 simp only [Value.slice.injEq, true_and] at he
 obtain ⟨rfl, rfl⟩ := he
 exact hx h0
theorem Rd.form (h : Rd w v n sz L) : ∃ a cap, v = .slice a n cap := by
 obtain ⟨_, a', c', he, hx⟩ := h
 exact ⟨a', c', he⟩
theorem IR (g : Nat) (S : ViewS) (w : World) (hR : EO w g S) (hB : VB S.vals) (l2 : S.vals.length <= 1048576) :
  Calls Tryz.prog 45 #[.pointer (some ⟨g, 0, none⟩)] w fun e w' => e = .returned (.int .i64 (Ad S.vals)) ∧ w = w' := by
 obtain ⟨height, bal, fees, pool, bonded, loose, vals, dels, ents⟩ := S
 obtain ⟨top, mature, fee, bv, vv, dv, ev, ps, hH, hb, hv, hd, he, hp⟩ := hR
 simp only at hH hb hv hd he hB l2
 clear hp
 obtain ⟨va, vc, rfl⟩ := hv.form
 have c7 := hH.cell 7
 simp only [List.getElem?_cons_succ, List.getElem?_cons_zero] at c7
 clear hH hb hd he
 go_enter Tryz.func45, Tryz.ntmps45
 go_wp2
 go_loop [3, 4] (fun n i => ∃ k : Nat, k <= vals.length ∧ i = .int .i64 k ∧ n = .int .i64 (Ad (vals.take k))) (fun _ i => vals.length - (intOf i).toNat)
 case atStart => exact ⟨0, Nat.zero_le _, rfl, rfl⟩
 case round =>
  obtain ⟨k, hk, rfl, rfl⟩ := hrel
  obtain ⟨q1, q2⟩ := D4 hB k hk
  by_cases hlt : k < vals.length
  ·obtain ⟨gv, rfl, hc⟩ := hv.get (by omega)
   have hi := hc _ _ (An vals k hlt 7 (by omega))
   have ht := hc _ _ (An vals k hlt 2 (by omega))
   have hbd := hB k hlt
   have HS : Hid (Ad (vals.take (k + 1)) = if vals[k].inset = true then Ad (vals.take k) + vals[k].tokens else Ad (vals.take k)) := CC vals k hlt
   generalize vals[k] = x at *
   clear hc hv hB
   go_wp2
   ·exact ⟨⟨k + 1, by omega, by go_num, by rw [HS.out, if_pos (by assumption)]⟩, by simp [intOf]; omega⟩
   ·exact ⟨⟨k + 1, by omega, by go_num, by rw [HS.out, if_neg (by simp_all)]⟩, by simp [intOf]; omega⟩
  ·go_wp2
   go_ret
   refine ⟨As ?_, rfl⟩
   rw [List.take_of_length_le (by omega)]
theorem Na (g : Nat) (S : ViewS) (w : World) (hR : EO w g S) (hB : VB S.vals) (hBe : EB S.ents) (l2 : S.vals.length <= 1048576) (l3 : S.ents.length <= 1048576) :
  Calls Tryz.prog 46 #[.pointer (some ⟨g, 0, none⟩)] w fun e w' => e = .returned (.int .i64 (AI S.vals + B2 S.ents)) ∧ w = w' := by
 obtain ⟨height, bal, fees, pool, bonded, loose, vals, dels, ents⟩ := S
 obtain ⟨top, mature, fee, bv, vv, dv, ev, ps, hH, hb, hv, hd, he, hp⟩ := hR
 simp only at hH hb hv hd he hB hBe l2 l3
 clear hp
 obtain ⟨va, vc, rfl⟩ := hv.form
 obtain ⟨ea, ec, rfl⟩ := he.form
 have c7 := hH.cell 7
 have c9 := hH.cell 9
 simp only [List.getElem?_cons_succ, List.getElem?_cons_zero] at c7 c9
 clear hH hb hd
 go_enter Tryz.func46, Tryz.ntmps46
 go_wp2
 go_loop [3, 4] (fun n i => ∃ k : Nat, k <= vals.length ∧ i = .int .i64 k ∧ n = .int .i64 (AI (vals.take k))) (fun _ i => vals.length - (intOf i).toNat)
 case atStart => exact ⟨0, Nat.zero_le _, rfl, rfl⟩
 case round =>
  obtain ⟨k, hk, rfl, rfl⟩ := hrel
  obtain ⟨q1, q2⟩ := Jy hB k hk
  by_cases hlt : k < vals.length
  ·obtain ⟨gv, rfl, hc⟩ := hv.get (by omega)
   have hi := hc _ _ (An vals k hlt 7 (by omega))
   have ht := hc _ _ (An vals k hlt 2 (by omega))
   have hbd := hB k hlt
   have HS : Hid (AI (vals.take (k + 1)) = if vals[k].inset = true then AI (vals.take k) else AI (vals.take k) + vals[k].tokens) := Fg vals k hlt
   generalize vals[k] = x at *
   clear hc hv hB he
   go_wp2
   ·exact ⟨⟨k + 1, by omega, by go_num, by rw [HS.out, if_neg (by simp_all)]⟩, by simp [intOf]; omega⟩
   ·exact ⟨⟨k + 1, by omega, by go_num, by rw [HS.out, if_pos (by simp_all)]⟩, by simp [intOf]; omega⟩
  ·have HV : Hid (AI (vals.take k) = AI vals) := by rw [List.take_of_length_le (by omega)]; exact rfl
   generalize AI (vals.take k) = sv at *
   clear hv hB
   go_wp2
   go_loop [3, 5] (fun n i => ∃ k2 : Nat, k2 <= ents.length ∧ i = .int .i64 k2 ∧ n = .int .i64 (sv + B2 (ents.take k2))) (fun _ i => ents.length - (intOf i).toNat)
   case atStart => exact ⟨0, Nat.zero_le _, rfl, by simp [B2]⟩
   case round =>
    obtain ⟨k2, hk2, rfl, rfl⟩ := hrel
    obtain ⟨r1, r2⟩ := MM hBe k2 hk2
    by_cases hlt2 : k2 < ents.length
    ·obtain ⟨gv, rfl, hc⟩ := he.get (by omega)
     have ht := hc _ _ (AC ents k2 hlt2 3 (by omega))
     have hbd := hBe k2 hlt2
     have HS : Hid (B2 (ents.take (k2 + 1)) = B2 (ents.take k2) + ents[k2].amount) := GD ents k2 hlt2
     generalize ents[k2] = x at *
     clear hc he hBe
     go_wp2
     exact ⟨⟨k2 + 1, by omega, by go_num, by rw [HS.out]; go_num⟩, by simp [intOf]; omega⟩
    ·have HE : Hid (B2 (ents.take k2) = B2 ents) := by rw [List.take_of_length_le (by omega)]; exact rfl
     go_wp2
     go_ret
     refine ⟨As ?_, rfl⟩
     rw [HE.out, HV.out]
theorem EO.lt {S : ViewS} (h : EO w g S) : g < w.heap.size := by
 obtain ⟨top, mature, fee, bv, vv, dv, ev, ps, hH, _⟩ := h
 exact hH.lt
theorem EO.below {S : ViewS} (h : EO w g S) (hb : Below B w w') (hB : w.heap.size <= B) : EO w' g S := by
 obtain ⟨top, mature, fee, bv, vv, dv, ev, ps, hH, h1, h2, h3, h4, h5⟩ := h
 exact ⟨top, mature, fee, bv, vv, dv, ev, ps, hH.below hb (Nat.lt_of_lt_of_le hH.lt hB), h1.below hb hB, h2.below hb hB, h3.below hb hB, h4.below hb hB, h5⟩
theorem Im (ge gl : Nat) (px py hv0 mk v : Value) (S : ViewS) (w : World) (hG : Has w ge 54 [px, py, .pointer (some ⟨gl, 0, none⟩), hv0, mk]) (hR : EO w gl S) (hv : Rd w v S.vals.length 8 (A5 S.vals)) (l2 : S.vals.length <= 1048576) :
  Calls Tryz.prog 43 #[.pointer (some ⟨ge, 0, none⟩), v] w fun e w' => e = .returned (.bool true) ∧ Below w.heap.size w w' := by
 obtain ⟨height, bal, fees, pool, bonded, loose, vals, dels, ents⟩ := S
 have hR' := hR
 obtain ⟨top, mature, fee, bv, vv, dv, ev, ps, hH, hb, hw, hd, he, hp⟩ := hR
 simp only at hH hb hv hd he hw l2
 obtain ⟨va, vc, rfl⟩ := hv.form
 obtain ⟨ua, uc, rfl⟩ := hw.form
 have c2 := hG.cell 2
 have c7 := hH.cell 7
 simp only [List.getElem?_cons_succ, List.getElem?_cons_zero] at c7 c2
 clear hb hd he hR' hp
 go_enter Tryz.func43, Tryz.ntmps43
 go_wp2
 go_loopw [5, 6] (fun ok i wr => ∃ k : Nat, k <= vals.length ∧ i = .int .i64 k ∧ ok = .bool true ∧ Below w.heap.size w wr) (fun _ i _ => vals.length - (intOf i).toNat)
 case atStart => exact ⟨0, Nat.zero_le _, rfl, rfl, Below.refl _ _⟩
 case round =>
  obtain ⟨k, hk, rfl, rfl, hbw⟩ := hrel
  have hG2 := hG.below hbw hG.lt
  have hH2 := hH.below hbw hH.lt
  have d2 := hG2.cell 2
  have d7 := hH2.cell 7
  simp only [List.getElem?_cons_succ, List.getElem?_cons_zero] at d7 d2
  have g1 := hG2.lt
  have g2 := hH2.lt
  have g3 : ge < wr.heap.size + 1 := by omega
  have g4 : gl < wr.heap.size + 1 := by omega
  by_cases hlt : k < vals.length
  ·obtain ⟨gv, rfl, hc⟩ := (hv.below hbw (Nat.le_refl _)).get (by omega)
   obtain ⟨gu, rfl, hd⟩ := (hw.below hbw (Nat.le_refl _)).get (by omega)
   have x0 := hc _ _ (An vals k hlt 0 (by omega))
   have x1 := hc _ _ (An vals k hlt 1 (by omega))
   have x2 := hc _ _ (An vals k hlt 2 (by omega))
   have x3 := hc _ _ (An vals k hlt 3 (by omega))
   have x4 := hc _ _ (An vals k hlt 4 (by omega))
   have x5 := hc _ _ (An vals k hlt 5 (by omega))
   have x6 := hc _ _ (An vals k hlt 6 (by omega))
   have x7 := hc _ _ (An vals k hlt 7 (by omega))
   have y0 := hd _ _ (An vals k hlt 0 (by omega))
   have y1 := hd _ _ (An vals k hlt 1 (by omega))
   have y2 := hd _ _ (An vals k hlt 2 (by omega))
   have y3 := hd _ _ (An vals k hlt 3 (by omega))
   have y4 := hd _ _ (An vals k hlt 4 (by omega))
   have y5 := hd _ _ (An vals k hlt 5 (by omega))
   have y6 := hd _ _ (An vals k hlt 6 (by omega))
   have y7 := hd _ _ (An vals k hlt 7 (by omega))
   simp only [Nat.add_zero] at x0 y0
   have g5 : gu < wr.heap.size := World.block_lt_of_cell? wr _ y0
   have g6 : gv < wr.heap.size := World.block_lt_of_cell? wr _ x0
   generalize vals[k] = x at *
   clear hc hd hv hw hG hH hG2 hH2 c2 c7
   have g7 : gu < wr.heap.size + 1 := by omega
   go_wp2
   go_roundw
   case rel => first | exact ⟨k + 1, by omega, by go_num, by simp, (hbw.alloc hbw.size _).alloc (Nat.le_trans hbw.size (by simp)) _⟩ | ((repeat apply Exists.intro); exact ⟨⟨k + 1, by omega, by go_num, by simp, (hbw.alloc hbw.size _).alloc (Nat.le_trans hbw.size (by simp)) _⟩, rfl⟩)
   case measure => simp [intOf]; omega
  ·go_wp2
   go_ret
   exact ⟨rfl, hbw⟩
theorem It (l : List DS) (ps : List Value) (hl : (Ez l ps).length = l.length * 4) (k : Nat) (h : k < l.length) (i : Nat) (hi : i < 3) : (Ez l ps)[k * 4 + i]? = l[k].cells[i]? := by
 induction l generalizing k ps with
 | nil => simp at h
 | cons v l ih =>
  cases ps with
  | nil => simp [Ez] at hl
  | cons p ps =>
   have hl' : (Ez l ps).length = l.length * 4 := by simp [Ez, DS.cells] at hl; omega
   cases k with
   | zero => simp [Ez, List.getElem?_append_left (show i < v.cells.length by simpa [DS.cells] using hi)]
   | succ k =>
    rw [Ez, List.getElem?_append_right (by simp [DS.cells]; omega)]
    have e : (k + 1) * 4 + i - v.cells.length = (k * 4 + i) + 1 := by simp [DS.cells]; omega
    rw [e, List.getElem?_cons_succ, ih ps hl' k (by simpa using h)]
    simp
theorem NV (ge gl : Nat) (px py hv0 mk : Value) (h0 f0 p0 bo lo xv bv' dv' ev' : Value) (S : ViewS) (w : World) (hG : Has w ge 54 [px, py, .pointer (some ⟨gl, 0, none⟩), hv0, mk]) (hR : EO w gl S)
  (hvb : Rd w bv' S.bal.length 1 (Ai S.bal)) (hvd : Rd w dv' S.dels.length 3 (EU S.dels)) (hve : Rd w ev' S.ents.length 4 (Bi S.ents)) (l1 : S.bal.length <= 1048576) (l2 : S.dels.length <= 1048576) (l3 : S.ents.length <= 1048576) :
  Calls Tryz.prog 44 #[.pointer (some ⟨ge, 0, none⟩), .agg #[h0, bv', f0, p0, bo, lo, xv, dv', ev']] w fun e w' => e = .returned (.bool true) ∧ Below w.heap.size w w' := by
 obtain ⟨height, bal, fees, pool, bonded, loose, vals, dels, ents⟩ := S
 obtain ⟨top, mature, fee, bv, vv, dv, ev, ps, hH, hb, hw, hd, he, hp0⟩ := hR
 have HP := Hd hp0
 clear hp0
 simp only at hH hb hvb hd hvd he hve hw l1 l2 l3
 obtain ⟨ba', bc', rfl⟩ := hvb.form
 obtain ⟨da', dc', rfl⟩ := hvd.form
 obtain ⟨ea', ec', rfl⟩ := hve.form
 obtain ⟨ba, bc, rfl⟩ := hb.form
 obtain ⟨da, dc, rfl⟩ := hd.form
 obtain ⟨ea, ec, rfl⟩ := he.form
 have c2 := hG.cell 2
 have c4 := hH.cell 4
 have c8 := hH.cell 8
 have c9 := hH.cell 9
 simp only [List.getElem?_cons_succ, List.getElem?_cons_zero] at c4 c2 c8 c9
 have g1 := hG.lt
 have g2 := hH.lt
 clear hw
 go_enter Tryz.func44, Tryz.ntmps44
 go_wp2_with fail
 go_quiet (fail)
 go_wp2
 have hBox : Has ((w.alloc (.cells #[h0, .slice ba' bal.length bc', f0, p0, bo, lo, xv, .slice da' dels.length dc', .slice ea' ents.length ec'] 89)).drewN nq) w.heap.size 89 [h0, .slice ba' bal.length bc', f0, p0, bo, lo, xv, .slice da' dels.length dc', .slice ea' ents.length ec'] := Has.newA w _ _
 have hB0 : Below w.heap.size w ((w.alloc (.cells #[h0, .slice ba' bal.length bc', f0, p0, bo, lo, xv, .slice da' dels.length dc', .slice ea' ents.length ec'] 89)).drewN nq) := below_drewN ((Below.refl _ _).alloc (Nat.le_refl _) _) nq
 have HBox := Hd hBox
 clear hBox
 go_loopw [5, 6] (fun ok i wr => ∃ k : Nat, k <= bal.length ∧ i = .int .i64 k ∧ ok = .bool true ∧ Below w.heap.size w wr ∧ Has wr w.heap.size 89 [h0, .slice ba' bal.length bc', f0, p0, bo, lo, xv, .slice da' dels.length dc', .slice ea' ents.length ec']) (fun _ i _ => bal.length - (intOf i).toNat)
 case atStart => exact ⟨0, Nat.zero_le _, rfl, rfl, hB0, HBox.out⟩
 case round =>
  obtain ⟨k, hk, rfl, rfl, hbw, hX⟩ := hrel
  have d2 := (hG.below hbw hG.lt).cell 2
  have d4 := (hH.below hbw hH.lt).cell 4
  have e1 := hX.cell 1
  simp only [List.getElem?_cons_succ, List.getElem?_cons_zero] at d2 d4 e1
  by_cases hlt : k < bal.length
  ·obtain ⟨gv, rfl, hc⟩ := (hvb.below hbw (Nat.le_refl _)).get (by omega)
   obtain ⟨gu, rfl, hc2⟩ := (hb.below hbw (Nat.le_refl _)).get (by omega)
   have x0 := hc k (.int .i64 bal[k]) (by simp [Ai, hlt])
   have y0 := hc2 k (.int .i64 bal[k]) (by simp [Ai, hlt])
   generalize bal[k] = x at *
   clear hc hc2 hvb hb hvd hd hve he hG hH c2 c4 c8 c9 hB0
   go_wp2_with fail
   go_quiet (fail)
   go_wp2
   go_roundw
   case rel => first | exact ⟨k + 1, by omega, by go_num, by simp, below_drewN hbw nq, hX⟩ | ((repeat apply Exists.intro); exact ⟨⟨k + 1, by omega, by go_num, by simp, below_drewN hbw nq, hX⟩, rfl⟩)
   case measure => simp [intOf]; omega
  ·clear hvb hb hB0 HBox
   have e7 := hX.cell 7
   simp only [List.getElem?_cons_succ, List.getElem?_cons_zero] at e7
   go_wp2
   have hlts : w.heap.size < wr.heap.size := hX.lt
   obtain ⟨wo, hwo⟩ : ∃ wo : World, wo = wr := ⟨_, rfl⟩
   rw [<- hwo] at hbw hX
   clear d2 d4 e1 e7 hlts
   subst hwo
   go_loopw [5, 7] (fun ok i wr => ∃ k2 : Nat, k2 <= dels.length ∧ i = .int .i64 k2 ∧ ok = .bool true ∧ Below w.heap.size w wr ∧ Has wr w.heap.size 89 [h0, .slice ba' bal.length bc', f0, p0, bo, lo, xv, .slice da' dels.length dc', .slice ea' ents.length ec']) (fun _ i _ => dels.length - (intOf i).toNat)
   case atStart => exact ⟨0, Nat.zero_le _, rfl, rfl, hbw, hX⟩
   case round =>
    clear hX hbw
    obtain ⟨k2, hk2, rfl, rfl, hbw, hX⟩ := hrel
    have d2 := (hG.below hbw hG.lt).cell 2
    have d8 := (hH.below hbw hH.lt).cell 8
    have e7 := hX.cell 7
    simp only [List.getElem?_cons_succ, List.getElem?_cons_zero] at d2 d8 e7
    have g3 := (hG.below hbw hG.lt).lt
    have g4 := (hH.below hbw hH.lt).lt
    have g5 : ge < wr.heap.size + 1 := by omega
    have g6 : gl < wr.heap.size + 1 := by omega
    have g7 := hX.lt
    have g8 : w.heap.size < wr.heap.size + 1 := by omega
    by_cases hlt2 : k2 < dels.length
    ·obtain ⟨gv, rfl, hc⟩ := (hvd.below hbw (Nat.le_refl _)).get (by omega)
     obtain ⟨gu, rfl, hc2⟩ := (hd.below hbw (Nat.le_refl _)).get (by omega)
     have x0 := hc _ _ (Ke dels k2 hlt2 0 (by omega))
     have x1 := hc _ _ (Ke dels k2 hlt2 1 (by omega))
     have x2 := hc _ _ (Ke dels k2 hlt2 2 (by omega))
     have y0 := hc2 _ _ (It dels ps hd.1 k2 hlt2 0 (by omega))
     have y1 := hc2 _ _ (It dels ps hd.1 k2 hlt2 1 (by omega))
     have y2 := hc2 _ _ (It dels ps hd.1 k2 hlt2 2 (by omega))
     obtain ⟨p3, hp3⟩ : ∃ p3, (Ez dels ps)[k2 * 4 + 3]? = some p3 := ⟨_, List.getElem?_eq_getElem (by rw [hd.1]; omega)⟩
     have y3 := hc2 _ _ hp3
     obtain ⟨pa, pn, pc, rfl⟩ := HP.out k2 p3 hp3
     clear hp3
     simp only [Nat.add_zero] at x0 y0
     have g9 : gv < wr.heap.size := World.block_lt_of_cell? wr _ x0
     have g10 : gu < wr.heap.size := World.block_lt_of_cell? wr _ y0
     have g11 : gu < wr.heap.size + 1 := by omega
     generalize dels[k2] = x at *
     clear hc hc2 hvd hd hve he hG hH c2 c4 c8 c9
     go_wp2
     go_roundw
     case rel => first | exact ⟨k2 + 1, by omega, by go_num, by simp, (hbw.alloc hbw.size _).alloc (Nat.le_trans hbw.size (by simp)) _, (hX.alloc _).alloc _⟩ | ((repeat apply Exists.intro); exact ⟨⟨k2 + 1, by omega, by go_num, by simp, (hbw.alloc hbw.size _).alloc (Nat.le_trans hbw.size (by simp)) _, (hX.alloc _).alloc _⟩, rfl⟩)
     case measure => simp [intOf]; omega
    ·clear hvd hd
     have e8 := hX.cell 8
     simp only [List.getElem?_cons_succ, List.getElem?_cons_zero] at e8
     go_wp2
     obtain ⟨wo2, hwo⟩ : ∃ wo2 : World, wo2 = wr := ⟨_, rfl⟩
     rw [<- hwo] at hbw hX
     clear d2 d8 e7 e8 g3 g4 g5 g6 g7 g8
     subst hwo
     go_loopw [5, 10] (fun ok i wr => ∃ k3 : Nat, k3 <= ents.length ∧ i = .int .i64 k3 ∧ ok = .bool true ∧ Below w.heap.size w wr ∧ Has wr w.heap.size 89 [h0, .slice ba' bal.length bc', f0, p0, bo, lo, xv, .slice da' dels.length dc', .slice ea' ents.length ec']) (fun _ i _ => ents.length - (intOf i).toNat)
     case atStart => exact ⟨0, Nat.zero_le _, rfl, rfl, hbw, hX⟩
     case round =>
      clear hX hbw
      obtain ⟨k3, hk3, rfl, rfl, hbw, hX⟩ := hrel
      have d2 := (hG.below hbw hG.lt).cell 2
      have d9 := (hH.below hbw hH.lt).cell 9
      have e8 := hX.cell 8
      simp only [List.getElem?_cons_succ, List.getElem?_cons_zero] at d2 d9 e8
      have g3 := (hG.below hbw hG.lt).lt
      have g4 := (hH.below hbw hH.lt).lt
      have g5 : ge < wr.heap.size + 1 := by omega
      have g6 : gl < wr.heap.size + 1 := by omega
      have g7 := hX.lt
      have g8 : w.heap.size < wr.heap.size + 1 := by omega
      by_cases hlt3 : k3 < ents.length
      ·obtain ⟨gv, rfl, hc⟩ := (hve.below hbw (Nat.le_refl _)).get (by omega)
       obtain ⟨gu, rfl, hc2⟩ := (he.below hbw (Nat.le_refl _)).get (by omega)
       have x0 := hc _ _ (AC ents k3 hlt3 0 (by omega))
       have x1 := hc _ _ (AC ents k3 hlt3 1 (by omega))
       have x2 := hc _ _ (AC ents k3 hlt3 2 (by omega))
       have x3 := hc _ _ (AC ents k3 hlt3 3 (by omega))
       have y0 := hc2 _ _ (AC ents k3 hlt3 0 (by omega))
       have y1 := hc2 _ _ (AC ents k3 hlt3 1 (by omega))
       have y2 := hc2 _ _ (AC ents k3 hlt3 2 (by omega))
       have y3 := hc2 _ _ (AC ents k3 hlt3 3 (by omega))
       simp only [Nat.add_zero] at x0 y0
       have g9 : gv < wr.heap.size := World.block_lt_of_cell? wr _ x0
       have g10 : gu < wr.heap.size := World.block_lt_of_cell? wr _ y0
       have g11 : gu < wr.heap.size + 1 := by omega
       generalize ents[k3] = x at *
       clear hc hc2 hve he hG hH c2 c4 c8 c9
       go_wp2
       go_roundw
       case rel => first | exact ⟨k3 + 1, by omega, by go_num, by simp, (hbw.alloc hbw.size _).alloc (Nat.le_trans hbw.size (by simp)) _, (hX.alloc _).alloc _⟩ | ((repeat apply Exists.intro); exact ⟨⟨k3 + 1, by omega, by go_num, by simp, (hbw.alloc hbw.size _).alloc (Nat.le_trans hbw.size (by simp)) _, (hX.alloc _).alloc _⟩, rfl⟩)
       case measure => simp [intOf]; omega
      ·go_wp2
       go_ret
       exact ⟨rfl, hbw⟩
def atN (mk bh i n : Int) : Int := if 0 < bh ∧ n - 2 <= i then bh + i - (n - 2) else mk + i
theorem J8 (b v d e : Value) (mk bh i n : Int) (w : World) (m1 : 0 <= mk) (m2 : mk <= 1000000000000) (b1 : 0 <= bh) (b2 : bh <= 1000000000000) (i1 : 0 <= i) (i2 : i <= 1048576) (n1 : 0 <= n) (n2 : n <= 1048580) :
  Calls Tryz.prog 95 #[.agg #[b, v, d, e, .int .i64 mk, .int .i64 bh], .int .i64 i, .int .i64 n] w fun e w' => e = .returned (.int .i64 (atN mk bh i n)) ∧ Below w.heap.size w w' := by
 by_cases h : 0 < bh
 ·by_cases h2 : n - 2 <= i
  ·have HA : Hid (atN mk bh i n = bh + i - (n - 2)) := by unfold atN; exact if_pos ⟨h, h2⟩
   go_enter Tryz.func95, Tryz.ntmps95
   go_wp2
   go_ret
   rw [HA.out]
   exact ⟨rfl, (Below.refl _ _).alloc (Nat.le_refl _) _⟩
  ·have HA : Hid (atN mk bh i n = mk + i) := by unfold atN; exact if_neg (fun h => h2 h.2)
   go_enter Tryz.func95, Tryz.ntmps95
   go_wp2
   go_ret
   rw [HA.out]
   exact ⟨rfl, (Below.refl _ _).alloc (Nat.le_refl _) _⟩
 ·have HA : Hid (atN mk bh i n = mk + i) := by unfold atN; exact if_neg (fun h' => h h'.1)
  go_enter Tryz.func95, Tryz.ntmps95
  go_wp2
  go_ret
  rw [HA.out]
  exact ⟨rfl, (Below.refl _ _).alloc (Nat.le_refl _) _⟩
def MS (w : World) (v : Value) (n sz o : Nat) (mk bh : Int) : Prop :=
 n <= 1048576 ∧ ∃ a cap, v = .slice a n cap ∧ (0 < n -> ∃ g, a = some ⟨g, 0, none⟩ ∧ ∀ j, j < n -> w.cell? ⟨g, j * sz, none⟩ = some (.int .i64 (atN mk bh j n)) ∧ w.cell? ⟨g, j * sz + o, none⟩ = some (.int .i64 (atN mk bh j n)))
theorem MS.form (h : MS w v n sz o mk bh) : ∃ a cap, v = .slice a n cap := by
 obtain ⟨_, a', c', he, hx⟩ := h
 exact ⟨a', c', he⟩
theorem MS.get (h : MS w (.slice a n cap) n sz o mk bh) (h0 : 0 < n) : ∃ g, a = some ⟨g, 0, none⟩ ∧ ∀ j, j < n -> w.cell? ⟨g, j * sz, none⟩ = some (.int .i64 (atN mk bh j n)) ∧ w.cell? ⟨g, j * sz + o, none⟩ = some (.int .i64 (atN mk bh j n)) := by
 obtain ⟨_, a', c', he, hx⟩ := h
 simp only [Value.slice.injEq, true_and] at he
 obtain ⟨rfl, rfl⟩ := he
 exact hx h0
theorem MS.kp {S : Nat -> Prop} (h : MS w v n sz o mk bh) (k : Kp S w w') (ho : AM.off v S) : MS w' v n sz o mk bh := by
 obtain ⟨hn, a, cap, rfl, hx⟩ := h
 refine ⟨hn, a, cap, rfl, fun h0 => ?_⟩
 obtain ⟨g, rfl, hc⟩ := hx h0
 exact ⟨g, rfl, fun j hj => ⟨k.cell (hc j hj).1 (ho ⟨g, 0, none⟩ _ _ rfl), k.cell (hc j hj).2 (ho ⟨g, 0, none⟩ _ _ rfl)⟩⟩
theorem MS.below (h : MS w v n sz o mk bh) (hb : Below B w w') (hB : w.heap.size <= B) : MS w' v n sz o mk bh := by
 obtain ⟨hn, a, cap, rfl, hx⟩ := h
 refine ⟨hn, a, cap, rfl, fun h0 => ?_⟩
 obtain ⟨g, rfl, hc⟩ := hx h0
 refine ⟨g, rfl, fun j hj => ⟨?_, ?_⟩⟩
 ·have h1 := (hc j hj).1
  rw [hb.cell (p := ⟨g, j * sz, none⟩) (Nat.lt_of_lt_of_le (World.block_lt_of_cell? w _ h1) hB)]
  exact h1
 ·have h1 := (hc j hj).2
  rw [hb.cell (p := ⟨g, j * sz + o, none⟩) (Nat.lt_of_lt_of_le (World.block_lt_of_cell? w _ h1) hB)]
  exact h1
def VOk (w : World) (b v d e : Value) (mk bh : Int) : Prop :=
 0 <= mk ∧ mk <= 1000000000000 ∧ 0 <= bh ∧ bh <= 1000000000000 ∧ ∃ n1 n2 n3 n4, MS w b n1 1 0 mk bh ∧ MS w v n2 8 2 mk bh ∧ MS w d n3 3 2 mk bh ∧ MS w e n4 4 3 mk bh
theorem Jg (b v d e : Value) (mk bh : Int) (w : World) (hV : VOk w b v d e mk bh) :
  Calls Tryz.prog 48 #[.agg #[b, v, d, e, .int .i64 mk, .int .i64 bh]] w fun e w' => e = .returned (.bool true) ∧ Below w.heap.size w w' := by
 obtain ⟨m1, m2, b1, b2, n1, n2, n3, n4, hb, hv, hd, he⟩ := hV
 obtain ⟨ba, bc, rfl⟩ := hb.form
 obtain ⟨va, vc, rfl⟩ := hv.form
 obtain ⟨da, dc, rfl⟩ := hd.form
 obtain ⟨ea, ec, rfl⟩ := he.form
 have l1 := hb.1
 have l2 := hv.1
 have l3 := hd.1
 have l4 := he.1
 go_enter Tryz.func48, Tryz.ntmps48
 go_wp2
 have hBox : Has (w.alloc (.cells #[.slice ba n1 bc, .slice va n2 vc, .slice da n3 dc, .slice ea n4 ec, .int .i64 mk, .int .i64 bh] 96)) w.heap.size 96 [.slice ba n1 bc, .slice va n2 vc, .slice da n3 dc, .slice ea n4 ec, .int .i64 mk, .int .i64 bh] := Has.newA w _ _
 have hB0 : Below w.heap.size w (w.alloc (.cells #[.slice ba n1 bc, .slice va n2 vc, .slice da n3 dc, .slice ea n4 ec, .int .i64 mk, .int .i64 bh] 96)) := (Below.refl _ _).alloc (Nat.le_refl _) _
 have HBox := Hd hBox
 clear hBox
 go_loopw [3, 4] (fun ok i wr => ∃ k1 : Nat, k1 <= n1 ∧ i = .int .i64 k1 ∧ ok = .bool true ∧ Below w.heap.size w wr ∧ Has wr w.heap.size 96 [.slice ba n1 bc, .slice va n2 vc, .slice da n3 dc, .slice ea n4 ec, .int .i64 mk, .int .i64 bh]) (fun _ i _ => n1 - (intOf i).toNat)
 case atStart => exact ⟨0, Nat.zero_le _, rfl, rfl, hB0, HBox.out⟩
 case round =>
  clear hB0 HBox
  obtain ⟨k1, hk0, rfl, rfl, hbw, hX⟩ := hrel
  have f0 := hX.cell 0
  have f1 := hX.cell 1
  have f2 := hX.cell 2
  have f3 := hX.cell 3
  have f4 := hX.cell 4
  have f5 := hX.cell 5
  simp only [List.getElem?_cons_succ, List.getElem?_cons_zero] at f0 f1 f2 f3 f4 f5
  by_cases hlt0 : k1 < n1
  ·obtain ⟨gv, rfl, hc⟩ := (hb.below hbw (Nat.le_refl _)).get (by omega)
   have x0 := (hc k1 hlt0).1
   simp only [Nat.mul_one] at x0
   clear hc hb hv hd he
   go_wp2_with fail
   refine (J8 _ _ _ _ mk bh k1 n1 _ m1 m2 b1 b2 (by omega) (by omega) (by omega) (by omega)).mono ?_
   rintro e2 w2 ⟨rfl, hb2⟩
   have hX2 := hX.below hb2 hX.lt
   have f' := hX2.cell 0
   simp only [List.getElem?_cons_zero] at f'
   have x0' : w2.cell? ⟨gv, k1, none⟩ = some (.int .i64 (atN mk bh k1 n1)) := (hb2.cell (p := ⟨gv, k1, none⟩) (World.block_lt_of_cell? wr _ x0)).trans x0
   have HW2 : Hid (Below w.heap.size w w2) := hbw.trans (hb2.mono hbw.size)
   clear f0 f1 f2 f3 f4 f5 x0
   go_wp2
   refine And.intro ?_ ?_
   ·first | exact ⟨k1 + 1, by omega, by go_num, by simp, HW2.out, hX2⟩ | ((repeat apply Exists.intro); exact ⟨⟨k1 + 1, by omega, by go_num, by simp, HW2.out, hX2⟩, rfl⟩)
   ·simp [intOf]; omega
  ·clear hb
   go_wp2
   clear f0 f1 f2 f3 f4 f5
   obtain ⟨wo0, hwo⟩ : ∃ wo : World, wo = wr := ⟨_, rfl⟩
   rw [<- hwo] at hbw hX
   subst hwo
   go_loopw [3, 6] (fun ok i wr => ∃ k2 : Nat, k2 <= n2 ∧ i = .int .i64 k2 ∧ ok = .bool true ∧ Below w.heap.size w wr ∧ Has wr w.heap.size 96 [.slice ba n1 bc, .slice va n2 vc, .slice da n3 dc, .slice ea n4 ec, .int .i64 mk, .int .i64 bh]) (fun _ i _ => n2 - (intOf i).toNat)
   case atStart => exact ⟨0, Nat.zero_le _, rfl, rfl, hbw, hX⟩
   case round =>
    clear hX hbw
    obtain ⟨k2, hk1, rfl, rfl, hbw, hX⟩ := hrel
    have f0 := hX.cell 0
    have f1 := hX.cell 1
    have f2 := hX.cell 2
    have f3 := hX.cell 3
    have f4 := hX.cell 4
    have f5 := hX.cell 5
    simp only [List.getElem?_cons_succ, List.getElem?_cons_zero] at f0 f1 f2 f3 f4 f5
    by_cases hlt1 : k2 < n2
    ·obtain ⟨gv, rfl, hc⟩ := (hv.below hbw (Nat.le_refl _)).get (by omega)
     have x0 := (hc k2 hlt1).1
     have x1 := (hc k2 hlt1).2
     clear hc hv hd he
     go_wp2_with fail
     refine (J8 _ _ _ _ mk bh k2 n2 _ m1 m2 b1 b2 (by omega) (by omega) (by omega) (by omega)).mono ?_
     rintro e2 w2 ⟨rfl, hb2⟩
     have hX2 := hX.below hb2 hX.lt
     have f' := hX2.cell 1
     simp only [List.getElem?_cons_succ, List.getElem?_cons_zero] at f'
     have x0' : w2.cell? ⟨gv, k2 * 8, none⟩ = some (.int .i64 (atN mk bh k2 n2)) := (hb2.cell (p := ⟨gv, k2 * 8, none⟩) (World.block_lt_of_cell? wr _ x0)).trans x0
     have x1' : w2.cell? ⟨gv, k2 * 8 + 2, none⟩ = some (.int .i64 (atN mk bh k2 n2)) := (hb2.cell (p := ⟨gv, k2 * 8 + 2, none⟩) (World.block_lt_of_cell? wr _ x1)).trans x1
     have HW2 : Hid (Below w.heap.size w w2) := hbw.trans (hb2.mono hbw.size)
     clear f0 f1 f2 f3 f4 f5 x0 x1
     go_wp2
     refine And.intro ?_ ?_
     ·first | exact ⟨k2 + 1, by omega, by go_num, by simp, HW2.out, hX2⟩ | ((repeat apply Exists.intro); exact ⟨⟨k2 + 1, by omega, by go_num, by simp, HW2.out, hX2⟩, rfl⟩)
     ·simp [intOf]; omega
    ·clear hv
     go_wp2
     clear f0 f1 f2 f3 f4 f5
     obtain ⟨wo1, hwo⟩ : ∃ wo : World, wo = wr := ⟨_, rfl⟩
     rw [<- hwo] at hbw hX
     subst hwo
     go_loopw [3, 8] (fun ok i wr => ∃ k3 : Nat, k3 <= n3 ∧ i = .int .i64 k3 ∧ ok = .bool true ∧ Below w.heap.size w wr ∧ Has wr w.heap.size 96 [.slice ba n1 bc, .slice va n2 vc, .slice da n3 dc, .slice ea n4 ec, .int .i64 mk, .int .i64 bh]) (fun _ i _ => n3 - (intOf i).toNat)
     case atStart => exact ⟨0, Nat.zero_le _, rfl, rfl, hbw, hX⟩
     case round =>
      clear hX hbw
      obtain ⟨k3, hk2, rfl, rfl, hbw, hX⟩ := hrel
      have f0 := hX.cell 0
      have f1 := hX.cell 1
      have f2 := hX.cell 2
      have f3 := hX.cell 3
      have f4 := hX.cell 4
      have f5 := hX.cell 5
      simp only [List.getElem?_cons_succ, List.getElem?_cons_zero] at f0 f1 f2 f3 f4 f5
      by_cases hlt2 : k3 < n3
      ·obtain ⟨gv, rfl, hc⟩ := (hd.below hbw (Nat.le_refl _)).get (by omega)
       have x0 := (hc k3 hlt2).1
       have x1 := (hc k3 hlt2).2
       clear hc hd he
       go_wp2_with fail
       refine (J8 _ _ _ _ mk bh k3 n3 _ m1 m2 b1 b2 (by omega) (by omega) (by omega) (by omega)).mono ?_
       rintro e2 w2 ⟨rfl, hb2⟩
       have hX2 := hX.below hb2 hX.lt
       have f' := hX2.cell 2
       simp only [List.getElem?_cons_succ, List.getElem?_cons_zero] at f'
       have x0' : w2.cell? ⟨gv, k3 * 3, none⟩ = some (.int .i64 (atN mk bh k3 n3)) := (hb2.cell (p := ⟨gv, k3 * 3, none⟩) (World.block_lt_of_cell? wr _ x0)).trans x0
       have x1' : w2.cell? ⟨gv, k3 * 3 + 2, none⟩ = some (.int .i64 (atN mk bh k3 n3)) := (hb2.cell (p := ⟨gv, k3 * 3 + 2, none⟩) (World.block_lt_of_cell? wr _ x1)).trans x1
       have HW2 : Hid (Below w.heap.size w w2) := hbw.trans (hb2.mono hbw.size)
       clear f0 f1 f2 f3 f4 f5 x0 x1
       go_wp2
       refine And.intro ?_ ?_
       ·first | exact ⟨k3 + 1, by omega, by go_num, by simp, HW2.out, hX2⟩ | ((repeat apply Exists.intro); exact ⟨⟨k3 + 1, by omega, by go_num, by simp, HW2.out, hX2⟩, rfl⟩)
       ·simp [intOf]; omega
      ·clear hd
       go_wp2
       clear f0 f1 f2 f3 f4 f5
       obtain ⟨wo2, hwo⟩ : ∃ wo : World, wo = wr := ⟨_, rfl⟩
       rw [<- hwo] at hbw hX
       subst hwo
       go_loopw [3, 10] (fun ok i wr => ∃ k4 : Nat, k4 <= n4 ∧ i = .int .i64 k4 ∧ ok = .bool true ∧ Below w.heap.size w wr ∧ Has wr w.heap.size 96 [.slice ba n1 bc, .slice va n2 vc, .slice da n3 dc, .slice ea n4 ec, .int .i64 mk, .int .i64 bh]) (fun _ i _ => n4 - (intOf i).toNat)
       case atStart => exact ⟨0, Nat.zero_le _, rfl, rfl, hbw, hX⟩
       case round =>
        clear hX hbw
        obtain ⟨k4, hk3, rfl, rfl, hbw, hX⟩ := hrel
        have f0 := hX.cell 0
        have f1 := hX.cell 1
        have f2 := hX.cell 2
        have f3 := hX.cell 3
        have f4 := hX.cell 4
        have f5 := hX.cell 5
        simp only [List.getElem?_cons_succ, List.getElem?_cons_zero] at f0 f1 f2 f3 f4 f5
        by_cases hlt3 : k4 < n4
        ·obtain ⟨gv, rfl, hc⟩ := (he.below hbw (Nat.le_refl _)).get (by omega)
         have x0 := (hc k4 hlt3).1
         have x1 := (hc k4 hlt3).2
         clear hc he
         go_wp2_with fail
         refine (J8 _ _ _ _ mk bh k4 n4 _ m1 m2 b1 b2 (by omega) (by omega) (by omega) (by omega)).mono ?_
         rintro e2 w2 ⟨rfl, hb2⟩
         have hX2 := hX.below hb2 hX.lt
         have f' := hX2.cell 3
         simp only [List.getElem?_cons_succ, List.getElem?_cons_zero] at f'
         have x0' : w2.cell? ⟨gv, k4 * 4, none⟩ = some (.int .i64 (atN mk bh k4 n4)) := (hb2.cell (p := ⟨gv, k4 * 4, none⟩) (World.block_lt_of_cell? wr _ x0)).trans x0
         have x1' : w2.cell? ⟨gv, k4 * 4 + 3, none⟩ = some (.int .i64 (atN mk bh k4 n4)) := (hb2.cell (p := ⟨gv, k4 * 4 + 3, none⟩) (World.block_lt_of_cell? wr _ x1)).trans x1
         have HW2 : Hid (Below w.heap.size w w2) := hbw.trans (hb2.mono hbw.size)
         clear f0 f1 f2 f3 f4 f5 x0 x1
         go_wp2
         refine And.intro ?_ ?_
         ·first | exact ⟨k4 + 1, by omega, by go_num, by simp, HW2.out, hX2⟩ | ((repeat apply Exists.intro); exact ⟨⟨k4 + 1, by omega, by go_num, by simp, HW2.out, hX2⟩, rfl⟩)
         ·simp [intOf]; omega
        ·clear he
         go_wp2
         go_ret
         exact ⟨rfl, hbw⟩
end Go.Proofs.YtohjjgefklhmaaaGreatDoor
