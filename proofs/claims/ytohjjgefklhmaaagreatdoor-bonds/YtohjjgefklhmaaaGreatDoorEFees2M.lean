import Derived.Test.YtohjjgefklhmaaaGreatDoorESeeM
namespace Go.Proofs.YtohjjgefklhmaaaGreatDoor
open Go.ChangeShapes Go.WideShapes Go.ChangeAt Go.RowKit
set_option linter.unusedVariables false

def partF (x : EC) (fees bonded : Int) (j : Nat) : Int := fees * (x.val j).tokens / bonded
/-- the fees, shared out to the first k validators; and what is left -/
def shLoop (x : EC) (fees bonded : Int) : Nat → EC × Int
  | 0 => (x, fees)
  | k + 1 => if ((shLoop x fees bonded k).1.val k).inset = true ∧ 0 < bonded then (takeF (shLoop x fees bonded k).1 k (partF (shLoop x fees bonded k).1 fees bonded k), (shLoop x fees bonded k).2 - partF (shLoop x fees bonded k).1 fees bonded k) else shLoop x fees bonded k
def shareF (x : EC) : EC := { (shLoop x x.fees (bondedN x.vals) x.vals.length).1 with pool := x.pool + (shLoop x x.fees (bondedN x.vals) x.vals.length).2, fees := 0 }

theorem val_modify_ne (l : List VS) (i j : Nat) (f : VS → VS) (h : i ≠ j) : (l.modify j f).getD i ⟨0, 0, 0, 0, 0, 0, false, false⟩ = l.getD i ⟨0, 0, 0, 0, 0, 0, false, false⟩ := by
  simp only [List.getD, List.getElem?_modify]
  have hji : ¬ j = i := fun e => h e.symm
  simp [hji]
theorem takeF_vals (x : EC) (j : Nat) (a : Int) : (takeF x j a).vals = (x.vals.modify j (fun v => { v with comm := v.comm + a * (x.val j).rate / 100 })).modify j (fun v => { v with outs := v.outs + a }) := by
  unfold takeF shareOutF; split <;> rfl
theorem takeF_len (x : EC) (j : Nat) (a : Int) : (takeF x j a).vals.length = x.vals.length := by rw [takeF_vals]; simp
theorem takeF_val_ne (x : EC) (j : Nat) (a : Int) (i : Nat) (h : i ≠ j) : (takeF x j a).val i = x.val i := by
  unfold EC.val; rw [takeF_vals, val_modify_ne _ _ _ _ h, val_modify_ne _ _ _ _ h]
theorem takeF_per_ne (x : EC) (j : Nat) (a : Int) (i : Nat) (h : i ≠ j) : (takeF x j a).per i = x.per i := by
  unfold takeF shareOutF
  split
  · rfl
  · simp only [EC.per, List.getD]
    rw [List.getElem?_set_ne (by omega)]
theorem takeF_head (x : EC) (j : Nat) (a : Int) : (takeF x j a).pool = x.pool ∧ (takeF x j a).fees = x.fees ∧ (takeF x j a).height = x.height ∧ (takeF x j a).top = x.top ∧ (takeF x j a).mature = x.mature ∧ (takeF x j a).fee = x.fee ∧ (takeF x j a).bal = x.bal ∧ (takeF x j a).ents = x.ents := by
  unfold takeF shareOutF
  split <;> exact ⟨rfl, rfl, rfl, rfl, rfl, rfl, rfl, rfl⟩
structure ShInv (x y : EC) (k : Nat) : Prop where
  len : y.vals.length = x.vals.length
  val : ∀ i, k ≤ i → y.val i = x.val i
  per : ∀ i, k ≤ i → y.per i = x.per i
  pool : y.pool = x.pool
  fees : y.fees = x.fees
theorem shLoop_inv (x : EC) (fees bonded : Int) (k : Nat) : ShInv x (shLoop x fees bonded k).1 k := by
  induction k with
  | zero => exact ⟨rfl, fun _ _ => rfl, fun _ _ => rfl, rfl, rfl⟩
  | succ k ih =>
    unfold shLoop
    split
    · refine ⟨(takeF_len _ _ _).trans ih.len, fun i hi => ?_, fun i hi => ?_, (takeF_head _ _ _).1.trans ih.pool, (takeF_head _ _ _).2.1.trans ih.fees⟩
      · rw [takeF_val_ne _ _ _ _ (by omega)]; exact ih.val i (by omega)
      · rw [takeF_per_ne _ _ _ _ (by omega)]; exact ih.per i (by omega)
    · exact ⟨ih.len, fun i hi => ih.val i (by omega), fun i hi => ih.per i (by omega), ih.pool, ih.fees⟩
theorem bondedN_ge {l : List VS} (h : VB l) (k : Nat) (hk : k < l.length) (hi : l[k].inset = true) : l[k].tokens ≤ bondedN l := by
  have key : ∀ m, k < m → m ≤ l.length → l[k].tokens ≤ bondedN (l.take m) := by
    intro m hm hl
    induction m with
    | zero => omega
    | succ m ih =>
      rw [bondedN_snoc l m (by omega)]
      by_cases e : m = k
      · subst e
        have := (bondedN_bd h m (by omega)).1
        rw [if_pos hi]; omega
      · have h1 := ih (by omega) (by omega)
        have h2 := h m (by omega)
        split <;> omega
  have := key l.length hk (Nat.le_refl _)
  rwa [List.take_length] at this
/-- numbers that do not wrap where fees are shared out -/
structure FeeOk (x : EC) : Prop where
  v : ∀ j, j < x.vals.length → ValOk (x.val j)
  r : ∀ j, j < x.vals.length → 0 ≤ (x.val j).rate ∧ (x.val j).rate ≤ 100
  k : ∀ j, j < x.vals.length → 0 ≤ (x.val j).comm ∧ (x.val j).comm ≤ 1000000000
  o : ∀ j, j < x.vals.length → 0 ≤ (x.val j).outs ∧ (x.val j).outs ≤ 1000000000
  p : ∀ j, j < x.vals.length → 0 ≤ x.per j ∧ x.per j ≤ 4000000000000000000
  f0 : 0 ≤ x.fees
  f1 : x.fees ≤ 1000000
  l0 : 0 ≤ x.pool
  l1 : x.pool ≤ 1000000000
theorem FeeOk.vb {x : EC} (h : FeeOk x) : VB x.vals := fun k hk => by
  rw [x.val_eq hk]; exact ⟨(h.v k hk).t0, (h.v k hk).t1⟩
/-- a part of the fees is no more than they are -/
theorem part_bd {fees t b : Int} (f0 : 0 ≤ fees) (t0 : 0 ≤ t) (tb : t ≤ b) (b0 : 0 < b) : 0 ≤ fees * t / b ∧ fees * t / b ≤ fees := by
  refine ⟨Int.ediv_nonneg (Int.mul_nonneg f0 t0) (by omega), ?_⟩
  have h1 : fees * t ≤ fees * b := Int.mul_le_mul_of_nonneg_left tb f0
  have h2 := Int.ediv_le_ediv b0 h1
  rwa [Int.mul_ediv_cancel _ (by omega)] at h2
theorem shLoop_left {x : EC} (h : FeeOk x) (k : Nat) (hk : k ≤ x.vals.length) : -(1000000 * k) ≤ (shLoop x x.fees (bondedN x.vals) k).2 ∧ (shLoop x x.fees (bondedN x.vals) k).2 ≤ 1000000 := by
  induction k with
  | zero => have := h.f0; have := h.f1; simp [shLoop]; omega
  | succ k ih =>
    obtain ⟨i1, i2⟩ := ih (by omega)
    have f0 := h.f0
    have f1 := h.f1
    unfold shLoop
    split
    · rename_i hc
      have hv := (shLoop_inv x x.fees (bondedN x.vals) k).val k (Nat.le_refl _)
      rw [hv] at hc
      have hb := bondedN_ge h.vb k (by omega) (by rw [x.val_eq (by omega)]; exact hc.1)
      rw [x.val_eq (by omega)] at hb
      have := part_bd h.f0 (h.v k (by omega)).t0 hb hc.2
      unfold partF
      rw [hv]
      simp only
      omega
    · omega

set_option maxHeartbeats 2000000 in
set_option maxRecDepth 100000 in
theorem eshareFees {S : Nat → Prop} {W0 : World} (g : Nat) (x : EC) (bv vv ev : Value) (w : World) (h : PE S W0 w g x bv vv ev) (hv : x.vals.length ≤ 5) (hF : FeeOk x) :
    Calls Tryz.prog 107 #[.pointer (some ⟨g, 0, none⟩)] w fun e w' => e = .returned (.tuple #[]) ∧ PE S W0 w' g (shareF x) bv vv ev := by
  obtain ⟨va, vc, rfl⟩ := ownsRow_slice h.v
  have c5 : w.cell? ⟨g, 5, none⟩ = some (.int .i64 x.fees) := h.L.cell 5
  have c7 : w.cell? ⟨g, 7, none⟩ = some (.slice va x.vals.length vc) := h.L.cell 7
  have HB : Hid (Calls Tryz.prog 89 #[.pointer (some ⟨g, 0, none⟩)] w fun e w' => e = .returned (.int .i64 (bondedN x.vals)) ∧ Below w.heap.size w w') := pbonded_anyE g x.vals _ w c7 (Rd.of_owns h.v) hF.vb (by omega)
  have HP : Hid (PE S W0 w g x bv (.slice va x.vals.length vc) ev) := h
  clear h
  go_enter Tryz.func107, Tryz.ntmps107
  go_wp2_with fail
  refine HB.out.mono ?_
  rintro e w1 ⟨rfl, hb1⟩
  have hP1 := HP.out.below hb1
  have HP1 : Hid (PE S W0 w1 g x bv (.slice va x.vals.length vc) ev) := hP1
  have d7 : w1.cell? ⟨g, 7, none⟩ = some (.slice va x.vals.length vc) := hP1.L.cell 7
  clear hP1 hb1 HP HB c5 c7
  go_wp2
  have hB0 := bondedN_bd hF.vb x.vals.length (Nat.le_refl _)
  rw [List.take_length] at hB0
  obtain ⟨B0, B1⟩ := hB0
  have HT : Hid (∀ k (hk : k < x.vals.length), (x.vals[k]).inset = true → (x.vals[k]).tokens ≤ bondedN x.vals) := fun k hk hi => bondedN_ge hF.vb k hk hi
  have HF : Hid (FeeOk x) := hF
  have f0 := hF.f0
  have f1 := hF.f1
  have l0 := hF.l0
  have l1 := hF.l1
  have HQ : Hid (shareF x = { (shLoop x x.fees (bondedN x.vals) x.vals.length).1 with pool := x.pool + (shLoop x x.fees (bondedN x.vals) x.vals.length).2, fees := 0 }) := rfl
  have HL : Hid (∀ k, k ≤ x.vals.length → -(1000000 * k) ≤ (shLoop x x.fees (bondedN x.vals) k).2 ∧ (shLoop x x.fees (bondedN x.vals) k).2 ≤ 1000000) := fun k hk => shLoop_left hF k hk
  clear hF
  generalize bondedN x.vals = B at *
  go_loopw [4, 20] (fun lf i wr => ∃ k : Nat, k ≤ x.vals.length ∧ i = .int .i64 k ∧ lf = .int .i64 (shLoop x x.fees B k).2 ∧ PE S W0 wr g (shLoop x x.fees B k).1 bv (.slice va x.vals.length vc) ev) (fun _ i _ => x.vals.length - (intOf i).toNat)
  case atStart => exact ⟨0, Nat.zero_le _, rfl, rfl, HP1.out⟩
  case round =>
    clear HP1 d7
    obtain ⟨k, hk, rfl, rfl, hP⟩ := hrel
    have hinv := shLoop_inv x x.fees B k
    have hln := hinv.len
    obtain ⟨q0, q1⟩ := HL.out k hk
    by_cases hlt : k < x.vals.length
    · have HS1 : Hid (((shLoop x x.fees B k).1.val k).inset = true ∧ 0 < B → (shLoop x x.fees B (k + 1)).1 = takeF (shLoop x x.fees B k).1 k (x.fees * ((shLoop x x.fees B k).1.val k).tokens / B) ∧ (shLoop x x.fees B (k + 1)).2 = (shLoop x x.fees B k).2 - x.fees * ((shLoop x x.fees B k).1.val k).tokens / B) := fun h => by
        simp only [shLoop, if_pos h, partF]; exact ⟨trivial, trivial⟩
      have HS2 : Hid (¬ (((shLoop x x.fees B k).1.val k).inset = true ∧ 0 < B) → (shLoop x x.fees B (k + 1)).1 = (shLoop x x.fees B k).1 ∧ (shLoop x x.fees B (k + 1)).2 = (shLoop x x.fees B k).2) := fun h => by
        simp only [shLoop, if_neg h]; exact ⟨trivial, trivial⟩
      have hev := hinv.val k (Nat.le_refl _)
      have hep := hinv.per k (Nat.le_refl _)
      have hvo := HF.out.v k hlt
      have hro := HF.out.r k hlt
      have hko := HF.out.k k hlt
      have hoo := HF.out.o k hlt
      have hpo := HF.out.p k hlt
      have hto := HT.out k hlt
      rw [x.val_eq hlt] at hto
      rw [← hev] at hvo hro hko hoo hto
      rw [← hep] at hpo
      clear hev hep hinv HF HT HL HQ
      generalize (shLoop x x.fees B k).1 = y at *
      generalize (shLoop x x.fees B k).2 = lf at *
      have hlt' : k < y.vals.length := by omega
      obtain ⟨gv, rfl, hcell, hfr⟩ := hP.val8 hln.symm hlt'
      have c7 : wr.cell? ⟨g, 7, none⟩ = some (.slice (some ⟨gv, 0, none⟩) x.vals.length vc) := hP.L.cell 7
      have y0 := hcell 0 (by omega)
      have y1 := hcell 1 (by omega)
      have y2 := hcell 2 (by omega)
      have y3 := hcell 3 (by omega)
      have y4 := hcell 4 (by omega)
      have y5 := hcell 5 (by omega)
      have y6 := hcell 6 (by omega)
      have y7 := hcell 7 (by omega)
      rw [y.val_eq hlt'] at y0 y1 y2 y3 y4 y5 y6 y7
      simp only [VS.cells, List.getElem?_cons_succ, List.getElem?_cons_zero, Nat.add_zero] at y0 y1 y2 y3 y4 y5 y6 y7
      have HP : Hid (PE S W0 wr g y bv (.slice (some ⟨gv, 0, none⟩) x.vals.length vc) ev) := hP
      clear hP hcell hfr
      have t0 := hvo.t0
      have t1 := hvo.t1
      obtain ⟨m0, m1⟩ := mul_bdE f0 f1 t0 t1
      by_cases hc : (y.val k).inset = true ∧ 0 < B
      · obtain ⟨e1, e2⟩ := HS1.out hc
        obtain ⟨p0, p1⟩ := part_bd f0 t0 (hto hc.1) hc.2
        have HTk : Hid (∀ w, PE S W0 w g y bv (.slice (some ⟨gv, 0, none⟩) x.vals.length vc) ev → Calls Tryz.prog 146 #[.pointer (some ⟨g, 0, none⟩), .int .i64 k, .int .i64 (x.fees * (y.val k).tokens / B)] w fun e w' => e = .returned (.tuple #[]) ∧ PE S W0 w' g (takeF y k (x.fees * (y.val k).tokens / B)) bv (.slice (some ⟨gv, 0, none⟩) x.vals.length vc) ev) := fun w h => etake g y _ _ _ w h k _ (by omega) hlt' p0 (by omega) hvo.s0 hvo.s1 hro.1 hro.2 hko.1 hko.2 hoo.1 hoo.2 hpo.1 hpo.2
        rw [← e1] at HTk
        have HE2 : Hid ((shLoop x x.fees B (k + 1)).2 = lf - x.fees * (y.val k).tokens / B) := e2
        obtain ⟨hi, hB⟩ := hc
        clear e1 e2 HS1 HS2 hvo hro hko hoo hpo hto
        generalize y.val k = v at *
        obtain ⟨vo, vr, vt, vs, vcm, vou, vj, vi⟩ := v
        simp only at hi
        subst hi
        dsimp only at *
        go_wp2_with fail
        refine (HTk.out _ ((HP.out.alloc _).eta rfl rfl rfl rfl)).mono ?_
        rintro e w2 ⟨rfl, hP2⟩
        have HP2 : Hid (PE S W0 w2 g (shLoop x x.fees B (k + 1)).1 bv (.slice (some ⟨gv, 0, none⟩) x.vals.length vc) ev) := hP2
        clear hP2 HTk HP y0 y1 y2 y3 y4 y5 y6 y7
        go_wp2
        refine And.intro ?_ ?_
        · first | exact ⟨k + 1, by omega, by go_num, by rw [HE2.out], HP2.out⟩ | ((repeat apply Exists.intro); exact ⟨⟨k + 1, by omega, by go_num, by rw [HE2.out], HP2.out⟩, rfl⟩)
        · simp [intOf]; omega
      · obtain ⟨e1, e2⟩ := HS2.out hc
        have HE2 : Hid ((shLoop x x.fees B (k + 1)).1 = y ∧ (shLoop x x.fees B (k + 1)).2 = lf) := ⟨e1, e2⟩
        have hc2 : (y.val k).inset = false ∨ ((y.val k).inset = true ∧ ¬ 0 < B) := by
          cases hq : (y.val k).inset with
          | false => exact .inl rfl
          | true => exact .inr ⟨rfl, fun h => hc ⟨hq, h⟩⟩
        clear e1 e2 HS1 HS2 hvo hro hko hoo hpo hto hc
        generalize y.val k = v at *
        obtain ⟨vo, vr, vt, vs, vcm, vou, vj, vi⟩ := v
        dsimp only at *
        rcases hc2 with rfl | ⟨rfl, hB⟩
        · go_wp2
          refine And.intro ?_ ?_
          · first | exact ⟨k + 1, by omega, by go_num, by rw [HE2.out.2], by rw [HE2.out.1]; exact (HP.out.alloc _).eta rfl rfl rfl rfl⟩ | ((repeat apply Exists.intro); exact ⟨⟨k + 1, by omega, by go_num, by rw [HE2.out.2], by rw [HE2.out.1]; exact (HP.out.alloc _).eta rfl rfl rfl rfl⟩, rfl⟩)
          · simp [intOf]; omega
        · go_wp2
          refine And.intro ?_ ?_
          · first | exact ⟨k + 1, by omega, by go_num, by rw [HE2.out.2], by rw [HE2.out.1]; exact (HP.out.alloc _).eta rfl rfl rfl rfl⟩ | ((repeat apply Exists.intro); exact ⟨⟨k + 1, by omega, by go_num, by rw [HE2.out.2], by rw [HE2.out.1]; exact (HP.out.alloc _).eta rfl rfl rfl rfl⟩, rfl⟩)
          · simp [intOf]; omega
    · obtain rfl : k = x.vals.length := by omega
      have hip := hinv.pool
      have hif := hinv.fees
      generalize (shLoop x x.fees B x.vals.length).1 = y at *
      generalize (shLoop x x.fees B x.vals.length).2 = lf at *
      have c5 : wr.cell? ⟨g, 5, none⟩ = some (.int .i64 y.fees) := hP.L.cell 5
      have c6 : wr.cell? ⟨g, 6, none⟩ = some (.int .i64 y.pool) := hP.L.cell 6
      rw [hip] at c6
      have k5 := hP.L.frozen 5
      have k6 := hP.L.frozen 6
      have HP2 : Hid (PE S W0 ((wr.setCell ⟨g, 6, none⟩ (.int .i64 (x.pool + lf))).setCell ⟨g, 5, none⟩ (.int .i64 0)) g (shareF x) bv (.slice va x.vals.length vc) ev) := by
        rw [HQ.out]
        exact (hP.setHead (x' := { y with pool := x.pool + lf }) 6 (.int .i64 (x.pool + lf)) rfl rfl rfl rfl rfl).setHead (x' := { y with pool := x.pool + lf, fees := 0 }) 5 (.int .i64 0) rfl rfl rfl rfl rfl
      clear hP hinv HQ HL HT HF hip hif
      go_wp2
      go_end0
      exact ⟨rfl, HP2.out.eta rfl rfl rfl rfl⟩
end Go.Proofs.YtohjjgefklhmaaaGreatDoor

namespace Go.Proofs.YtohjjgefklhmaaaGreatDoor
open Go.ChangeShapes Go.WideShapes Go.ChangeAt Go.RowKit
set_option linter.unusedVariables false

/-- a block, where its entries are turned so -/
def upF (x : EC) : EC := { shareF x with height := x.height + 1 }
def setF (x : EC) : EC := { x with vals := chooseF x.vals x.top }

set_option maxHeartbeats 2000000 in
set_option maxRecDepth 100000 in
theorem eBlock {S : Nat → Prop} {W0 : World} (g : Nat) (x x3 : EC) (bv vv ev : Value) (w : World) (h : PE S W0 w g x bv vv ev) (hv : x.vals.length ≤ 5) (hF : FeeOk x) (hh0 : 0 ≤ x.height) (hh1 : x.height < 1000) (ht0 : 0 ≤ x3.top) (ht1 : x3.top ≤ 1000) (hv3 : x3.vals.length ≤ 1000) (hhs : (shareF x).height = x.height) (Ev : Value → Prop)
    (hpay : ∀ w1, PE S W0 w1 g (upF x) bv vv ev → Calls Tryz.prog 108 #[.pointer (some ⟨g, 0, none⟩)] w1 fun e w' => e = .returned (.tuple #[]) ∧ ∃ ev', Ev ev' ∧ PE S W0 w' g x3 bv vv ev') :
    Calls Tryz.prog 55 #[.pointer (some ⟨g, 0, none⟩)] w fun e w' => e = .returned (.int .i64 0) ∧ ∃ ev', Ev ev' ∧ PE S W0 w' g (setF x3) bv vv ev' := by
  have c3 : w.cell? ⟨g, 3, none⟩ = some (.int .i64 x.height) := h.L.cell 3
  have HSh : Hid (Calls Tryz.prog 107 #[.pointer (some ⟨g, 0, none⟩)] w fun e w' => e = .returned (.tuple #[]) ∧ PE S W0 w' g (shareF x) bv vv ev) := eshareFees g x bv vv ev w h hv hF
  have HPay : Hid (∀ w1, PE S W0 w1 g (upF x) bv vv ev → Calls Tryz.prog 108 #[.pointer (some ⟨g, 0, none⟩)] w1 fun e w' => e = .returned (.tuple #[]) ∧ ∃ ev', Ev ev' ∧ PE S W0 w' g x3 bv vv ev') := hpay
  have HH : Hid ((shareF x).height = x.height) := hhs
  clear h hpay hF hhs
  go_enter Tryz.func55, Tryz.ntmps55
  go_wp2_with fail
  refine HSh.out.mono ?_
  rintro e w1 ⟨rfl, hP1⟩
  have d3 : w1.cell? ⟨g, 3, none⟩ = some (.int .i64 (shareF x).height) := hP1.L.cell 3
  rw [HH.out] at d3
  have k3 := hP1.L.frozen 3
  have HP2 : Hid (PE S W0 (w1.setCell ⟨g, 3, none⟩ (.int .i64 (x.height + 1))) g (upF x) bv vv ev) := hP1.setHead (x' := upF x) 3 (.int .i64 (x.height + 1)) rfl rfl rfl rfl rfl
  clear hP1 HSh HH
  go_wp2_with fail
  refine (HPay.out _ HP2.out).mono ?_
  rintro e w3 ⟨rfl, ev', hE, hP3⟩
  have HE : Hid (Ev ev') := hE
  have HP3 : Hid (PE S W0 w3 g x3 bv vv ev') := hP3
  clear HP2 HPay hP3 hE
  go_wp2_with fail
  refine (echoose g x3 bv vv ev' _ HP3.out hv3 ht0 ht1).mono ?_
  rintro e w4 ⟨rfl, hP4⟩
  have HF : Hid (PE S W0 w4 g (setF x3) bv vv ev') := hP4
  clear hP4 HP3
  go_wp2
  go_ret
  exact ⟨rfl, ev', HE.out, HF.out⟩
end Go.Proofs.YtohjjgefklhmaaaGreatDoor

namespace Go.Proofs.YtohjjgefklhmaaaGreatDoor
open Go.ChangeShapes Go.WideShapes Go.ChangeAt Go.RowKit
set_option linter.unusedVariables false

/-- tokens go from k to t, the fee is gone -/
def sentB (bal : List Int) (k t : Nat) (a : Int) : List Int := (bal.set k (bal.getD k 0 - a)).set t ((bal.set k (bal.getD k 0 - a)).getD t 0 + a)
def sendFE (x : EC) (k t : Nat) (a : Int) : EC := { chargeFE x k with bal := sentB (chargeFE x k).bal k t a }

set_option maxHeartbeats 2000000 in
set_option maxRecDepth 100000 in
theorem etransferError (g n t : Nat) (funds a : Int) (ba : Option Addr) (bc : Nat) (w : World) (c4 : w.cell? ⟨g, 4, none⟩ = some (.slice ba n bc)) (ht : t < n) (hl : n ≤ 1000) (h1 : 1 ≤ a) (h2 : a ≤ funds) :
    Calls Tryz.prog 106 #[.pointer (some ⟨g, 0, none⟩), .int .i64 funds, .int .i64 t, .int .i64 a] w fun e w' => e = .returned (.int .i64 0) ∧ w = w' := by
  go_enter Tryz.func106, Tryz.ntmps106
  go_wp2_with (go_at_call 96; refine (kacc_any g n t _ _ _ c4 ht hl).mono ?_; rintro e w' ⟨rfl, rfl⟩)
  go_ret
  exact ⟨rfl, rfl⟩

set_option maxHeartbeats 2000000 in
set_option maxRecDepth 100000 in
theorem eSend {S : Nat → Prop} {W0 : World} (g : Nat) (x : EC) (bv vv ev : Value) (w : World) (h : PE S W0 w g x bv vv ev) (k t : Nat) (a : Int) (hl : x.bal.length ≤ 6) (hk : k < x.bal.length) (ht : t < x.bal.length) (h1 : 1 ≤ a) (h2 : a + x.fee ≤ x.balAt k) (hx1 : x.balAt k ≤ 1000000000) (hf0 : 0 ≤ x.fee) (hs0 : 0 ≤ x.fees) (hs1 : x.fees ≤ 1000000000) (ht0 : 0 ≤ x.balAt t) (ht1 : x.balAt t ≤ 1000000000) :
    Calls Tryz.prog 53 #[.pointer (some ⟨g, 0, none⟩), .int .i64 k, .int .i64 t, .int .i64 a] w fun e w' => e = .returned (.int .i64 0) ∧ PE S W0 w' g (sendFE x k t a) bv vv ev := by
  have HCh : Hid (Calls Tryz.prog 105 #[.pointer (some ⟨g, 0, none⟩), .int .i64 k] w fun e w' => e = .returned (.int .i64 0) ∧ PE S W0 w' g (chargeFE x k) bv vv ev) := echarge g x bv vv ev w h k (by omega) hk (by omega) hx1 hf0 hs0 hs1
  have e1 : (chargeFE x k).bal.length = x.bal.length := by simp [chargeFE]
  have e2 : (chargeFE x k).balAt k = x.balAt k - x.fee := by simp [chargeFE, EC.balAt, hk]
  have e3 : 0 ≤ (chargeFE x k).balAt t ∧ (chargeFE x k).balAt t ≤ 1000000000 := by
    by_cases e : k = t
    · subst e; rw [e2]; omega
    · have : (chargeFE x k).balAt t = x.balAt t := by
        simp only [chargeFE, EC.balAt, List.getD]; rw [List.getElem?_set_ne e]
      rw [this]; omega
  have HQ : Hid (sendFE x k t a = { chargeFE x k with bal := sentB (chargeFE x k).bal k t a }) := rfl
  clear h
  generalize sendFE x k t a = xF at *
  have e4 : a ≤ (chargeFE x k).balAt k := by omega
  have e5 : (chargeFE x k).balAt k ≤ 1000000000 := by omega
  clear h2 hx1 e2 ht0 ht1
  generalize chargeFE x k = y at *
  go_enter Tryz.func53, Tryz.ntmps53
  go_wp2_with fail
  refine HCh.out.mono ?_
  rintro e w1 ⟨rfl, hP⟩
  clear HCh
  obtain ⟨ba, bc, rfl⟩ := ownsRow_slice hP.b
  obtain ⟨gb, rfl, _⟩ := ownsRow_some hP.b (by omega)
  have hky : k < y.bal.length := by omega
  have hty : t < y.bal.length := by omega
  have hly : y.bal.length ≤ 6 := by omega
  have c4 : w1.cell? ⟨g, 4, none⟩ = some (.slice (some ⟨gb, 0, none⟩) y.bal.length bc) := hP.L.cell 4
  have cb := hP.balAt' hky
  have ct := hP.balAt' hty
  have fb := hP.b.frozenAt k
  have ft := hP.b.frozenAt t
  have n1 : g ≠ gb := fun e => Has.apart hP.L hP.b (by decide) (by rw [e]; rfl)
  have n2 : gb ≠ g := fun e => n1 e.symm
  have hP1 := hP.setBal rfl k (y.balAt k - a)
  have hP2 := hP1.setBal (by simp) t ((y.bal.set k (y.balAt k - a)).getD t 0 + a)
  have HF : Hid (PE S W0 ((w1.setCell ⟨gb, k, none⟩ (.int .i64 (y.balAt k - a))).setCell ⟨gb, t, none⟩ (.int .i64 ((y.bal.set k (y.balAt k - a)).getD t 0 + a))) g xF (.slice (some ⟨gb, 0, none⟩) y.bal.length bc) vv ev) := by
    rw [HQ.out]; exact hP2
  clear hP hP1 hP2 HQ e1
  by_cases hkt : k = t
  · subst hkt
    have e6 : (y.bal.set k (y.balAt k - a)).getD k 0 = y.balAt k - a := by simp [hky]
    rw [e6, Int.sub_add_cancel] at HF
    clear e6 ct ft e3
    generalize y.balAt k = b at *
    go_wp2_with (go_at_call 106; refine (etransferError g y.bal.length k _ _ _ _ _ c4 hky (by omega) h1 (by assumption)).mono ?_; rintro e w' ⟨rfl, rfl⟩)
    all_goals try go_region
    all_goals try go_wp2
    all_goals try go_region
    all_goals try go_wp2
    go_ret
    exact ⟨rfl, HF.out.eta rfl rfl rfl rfl⟩
  · have e6 : (y.bal.set k (y.balAt k - a)).getD t 0 = y.balAt t := by
      simp only [List.getD, EC.balAt]; rw [List.getElem?_set_ne hkt]
    rw [e6] at HF
    obtain ⟨e7, e8⟩ := e3
    have hkt2 : t ≠ k := fun e => hkt e.symm
    clear e6
    generalize y.balAt k = b at *
    generalize y.balAt t = b2 at *
    go_wp2_with (go_at_call 106; refine (etransferError g y.bal.length t _ _ _ _ _ c4 hty (by omega) h1 (by assumption)).mono ?_; rintro e w' ⟨rfl, rfl⟩)
    all_goals try go_region
    all_goals try go_wp2
    all_goals try go_region
    all_goals try go_wp2
    go_ret
    exact ⟨rfl, HF.out.eta rfl rfl rfl rfl⟩
end Go.Proofs.YtohjjgefklhmaaaGreatDoor
