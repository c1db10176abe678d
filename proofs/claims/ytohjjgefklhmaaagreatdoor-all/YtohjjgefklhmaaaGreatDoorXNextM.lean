import Derived.Test.YtohjjgefklhmaaaGreatDoorXAddM
namespace Go.Proofs.YtohjjgefklhmaaaGreatDoor
open Go.ChangeShapes Go.WideShapes Go.ChangeAt Go.RowKit
set_option linter.unusedVariables false
set_option maxHeartbeats 40000000
set_option maxRecDepth 100000
variable {s : ByteArray} {p gr q : Nat} {c : UInt8} {w wr w2 w' wk : World} {bad : Bool} {most N : Int} {st : RSE} {S : Nat -> Prop} {L : List Value}
def RD (w : World) (gr : Nat) (s : ByteArray) (st : RSE) : Prop := Has w gr 117 [.string s, .int .i64 st.p, .bool st.bad]
def C3 (s : List UInt8) (p : Nat) : Bool := match s[p]? with
 | some c => DR c
 | none => false
theorem LK (s : ByteArray) (p : Nat) (h : p < s.size) : ∃ c : UInt8, s.data.toList[p]? = some c ∧ ∀ u : World, (Instr.index 9 (.string s) (.int .i64 (p : Int))).run Tryz.prog u = .ok (.int .u8 ((c.toNat : Nat) : Int)) u := by
 have h' : p < s.data.toList.length := by rw [Array.length_toList]; exact h
 refine ⟨s.data.toList[p], List.getElem?_eq_getElem h', fun u => ?_⟩
 rw [run_index_string (P := Tryz.prog) u 9 s .i64 (p : Int) Tryz.underlying9, dif_pos ⟨by omega, by omega⟩]
 rfl
theorem P6 (w : World) (gr : Nat) (s : ByteArray) (st : RSE) (h : RD w gr s st) (hs : s.size <= 8192) (hp : st.p <= s.size) :
  Calls Tryz.prog 139 #[.pointer (some ⟨gr, 0, none⟩)] w fun e w' => e = .returned (.bool (C3 s.data.toList st.p)) ∧ Below w.heap.size w w' := by
 have c0 : w.cell? ⟨gr, 0, none⟩ = some (.string s) := h.cell 0
 have c1 : w.cell? ⟨gr, 1, none⟩ = some (.int .i64 st.p) := h.cell 1
 clear h
 generalize hst : st.p = p at *
 clear hst
 by_cases hlt : p < s.size
 ·obtain ⟨c, hc1, hix⟩ := LK s p hlt
  have d1 : decide ((p : Int) < (s.size : Int)) = true := decide_eq_true (by omega)
  have hcb := c.toNat_lt
  have HD : Hid (C3 s.data.toList p = DR c) := by
   show C3 s.data.toList p = DR c
   unfold C3; rw [hc1]
  clear hc1
  by_cases h1 : 48 <= c.toNat
  ·have d2 : decide ((48 : Int) <= (c.toNat : Int)) = true := decide_eq_true (by omega)
   by_cases h2 : c.toNat <= 57
   ·have d3 : decide ((c.toNat : Int) <= (57 : Int)) = true := decide_eq_true (by omega)
    have HI : Hid (DR c = true) := (Dn c).2 ⟨h1, h2⟩
    generalize (c.toNat : Int) = cn at *
    clear h1 h2 hcb
    go_enter Tryz.func139, Tryz.ntmps139
    go_wp2
    go_region
    go_wp2
    go_ret
    rw [HD.out, HI.out]
    exact ⟨rfl, (Below.refl _ _).drew⟩
   ·have d3 : decide ((c.toNat : Int) <= (57 : Int)) = false := decide_eq_false (by omega)
    have HI : Hid (DR c = false) := by
     show DR c = false
     cases hd : DR c
     ·rfl
     ·exact absurd ((Dn c).1 hd).2 h2
    generalize (c.toNat : Int) = cn at *
    clear h1 h2 hcb
    go_enter Tryz.func139, Tryz.ntmps139
    go_wp2
    go_region
    go_wp2
    go_ret
    rw [HD.out, HI.out]
    exact ⟨rfl, (Below.refl _ _).drew⟩
  ·have d2 : decide ((48 : Int) <= (c.toNat : Int)) = false := decide_eq_false (by omega)
   have HI : Hid (DR c = false) := by
    show DR c = false
    cases hd : DR c
    ·rfl
    ·exact absurd ((Dn c).1 hd).1 h1
   generalize (c.toNat : Int) = cn at *
   clear h1 hcb
   go_enter Tryz.func139, Tryz.ntmps139
   go_wp2
   go_region
   go_wp2
   go_ret
   rw [HD.out, HI.out]
   exact ⟨rfl, (Below.refl _ _).drew⟩
 ·have HD : Hid (C3 s.data.toList p = false) := by
   have : s.data.toList[p]? = none := List.getElem?_eq_none (by rw [Array.length_toList]; exact Nat.le_of_not_lt hlt)
   show C3 s.data.toList p = false
   unfold C3; rw [this]
  have d1 : decide ((p : Int) < (s.size : Int)) = false := decide_eq_false (by omega)
  go_enter Tryz.func139, Tryz.ntmps139
  go_wp2
  go_region
  go_wp2
  go_ret
  rw [HD.out]
  exact ⟨rfl, (Below.refl _ _).drew⟩
theorem Px {s : List UInt8} (h : s[p]? = some c) : DE s p = decide (c.toNat = 32) := by
 unfold DE
 rw [h]
 by_cases e : c.toNat = 32
 ·have : c = 32 := UInt8.toNat_inj.1 e
  rw [this]; rfl
 ·have : ¬ c = 32 := fun h => e (by rw [h]; rfl)
  rw [decide_eq_false e]; simpa using this
theorem OQ (w : World) (gr : Nat) (s : ByteArray) (st : RSE) (h : RD w gr s st) (hs : s.size <= 8192) (hp : st.p <= s.size) :
  Calls Tryz.prog 140 #[.pointer (some ⟨gr, 0, none⟩)] w fun e w' => e = .returned (.bool (DE s.data.toList st.p)) ∧ RD w' gr s ⟨if DE s.data.toList st.p = true then st.p + 1 else st.p, st.bad⟩ ∧ Kp (fun b => b = gr) w w' := by
 obtain ⟨p, bad⟩ := st
 have c0 : w.cell? ⟨gr, 0, none⟩ = some (.string s) := h.cell 0
 have c1 : w.cell? ⟨gr, 1, none⟩ = some (.int .i64 p) := h.cell 1
 have f1 := h.frozen 1
 dsimp only at hp ⊢
 by_cases hlt : p < s.size
 ·obtain ⟨c, hc1, hix⟩ := LK s p hlt
  have hcb := c.toNat_lt
  have hE := Px hc1
  by_cases h1 : c.toNat = 32
  ·rw [decide_eq_true h1] at hE
   rw [hE, if_pos rfl]
   have HF : Hid (RD (w.setCell ⟨gr, 1, none⟩ (.int .i64 ((p + 1 : Nat) : Int))) gr s ⟨p + 1, bad⟩) := h.set 1 _
   have hk0 : Kp (fun b => b = gr) w (w.setCell ⟨gr, 1, none⟩ (.int .i64 ((p + 1 : Nat) : Int))) := (Kp.refl (fun b => b = gr) w).setCell (p := ⟨gr, 1, none⟩) rfl _
   have HK := Hd hk0
   have d1 : decide (s.size <= p) = false := decide_eq_false (by omega)
   have h32 : (c.toNat : Int) = 32 := by omega
   rw [h32] at hix
   clear h hE hc1 hk0
   go_enter Tryz.func140, Tryz.ntmps140
   go_wp2
   go_region
   go_wp2
   go_ret
   exact ⟨rfl, HF.out, HK.out.drew⟩
  ·rw [decide_eq_false h1] at hE
   rw [hE, if_neg (by simp)]
   have HF := Hd h
   have d1 : decide (s.size <= p) = false := decide_eq_false (by omega)
   have h32 : ((c.toNat : Int) != 32) = true := by simp; omega
   generalize (c.toNat : Int) = cn at *
   clear h hE hc1
   go_enter Tryz.func140, Tryz.ntmps140
   go_wp2
   go_region
   go_wp2
   go_ret
   exact ⟨rfl, HF.out, (Kp.refl _ _).drew⟩
 ·have hE : DE s.data.toList p = false := by
   have : s.data.toList[p]? = none := List.getElem?_eq_none (by rw [Array.length_toList]; exact Nat.le_of_not_lt hlt)
   unfold DE; rw [this]; rfl
  rw [hE, if_neg (by simp)]
  have HF := Hd h
  have d1 : decide (s.size <= p) = true := decide_eq_true (by omega)
  clear h hE
  go_enter Tryz.func140, Tryz.ntmps140
  go_wp2
  go_region
  go_wp2
  go_ret
  exact ⟨rfl, HF.out, (Kp.refl _ _).drew⟩
theorem IK {s : List UInt8} (h : s[p]? = some c) : s.drop p = c :: s.drop (p + 1) := by
 obtain ⟨hp, rfl⟩ := List.getElem?_eq_some_iff.1 h
 exact List.drop_eq_getElem_cons hp
def LO (w : World) (gr : Nat) : Nat := match w.cell? ⟨gr, 1, none⟩ with
 | some (.int _ n) => n.toNat
 | _ => 0
theorem Ml {b : Bool} (h : RD w gr s ⟨q, b⟩) : LO w gr = q := by
 have c1 : w.cell? ⟨gr, 1, none⟩ = some (.int .i64 q) := h.cell 1
 unfold LO; rw [c1]; simp
structure NL (w wr : World) (gr : Nat) (s : ByteArray) (p : Nat) (bad : Bool) (most : Int) (q : Nat) (N : Int) : Prop where
 q0 : p <= q
 q1 : q <= s.size
 n0 : 0 <= N
 n1 : N <= 10 * most + 9
 rd : RD wr gr s ⟨q, bad⟩
 kp : Kp (fun b => b = gr) w wr
 eq : rdN most (s.data.toList.drop p) 0 = ((rdN most (s.data.toList.drop q) N).1, (rdN most (s.data.toList.drop q) N).2 + (q - p))
theorem NL.drew (h : NL w wr gr s p bad most q N) : NL w wr.drew gr s p bad most q N := ⟨h.q0, h.q1, h.n0, h.n1, h.rd, h.kp.drew, h.eq⟩
theorem NL.stop (h : NL w wr gr s p bad most q N) (hd : ¬ (C3 s.data.toList q = true ∧ N <= most)) : rdN most (s.data.toList.drop p) 0 = (N, q - p) := by
 have : rdN most (s.data.toList.drop q) N = (N, 0) := by
  cases hc : s.data.toList[q]? with
  | none =>
   have : s.data.toList.drop q = [] := List.drop_eq_nil_of_le (List.getElem?_eq_none_iff.1 hc)
   rw [this]; rfl
  | some c =>
   rw [IK hc]
   have e : C3 s.data.toList q = DR c := by unfold C3; rw [hc]
   rw [e] at hd
   simp only [rdN]; rw [if_neg hd]
 rw [h.eq, this, Nat.zero_add]
theorem NL.step (h : NL w wr gr s p bad most q N) (hc : s.data.toList[q]? = some c) (hd : DR c = true) (hN : N <= most) (hq : q < s.size) (hr : RD w2 gr s ⟨q + 1, bad⟩) (hk : Kp (fun b => b = gr) w w2) : NL w w2 gr s p bad most (q + 1) (N * 10 + ((c.toNat : Int) - 48)) := by
 have hb := (Dn c).1 hd
 have h0 := h.n0
 have hq0 := h.q0
 refine ⟨by omega, hq, by omega, by omega, hr, hk, ?_⟩
 rw [h.eq, IK hc]
 simp only [rdN]
 rw [if_pos ⟨hd, hN⟩]
 simp only [Prod.mk.injEq, true_and]; omega
theorem SN (w : World) (gr : Nat) (s : ByteArray) (st : RSE) (most : Int) (h : RD w gr s st) (hs : s.size <= 8192) (hp : st.p <= s.size) (m0 : 0 <= most) (m1 : most <= 1073741824000000) :
  Calls Tryz.prog 78 #[.pointer (some ⟨gr, 0, none⟩), .int .i64 most] w fun e w' => e = .returned (.int .i64 (nx s.data.toList most st).1) ∧ RD w' gr s (nx s.data.toList most st).2 ∧ Kp (fun b => b = gr) w w' := by
 obtain ⟨p, bad⟩ := st
 have HD : Hid (∀ (w' : World) (q : Nat) (b : Bool), RD w' gr s ⟨q, b⟩ -> q <= s.size -> Calls Tryz.prog 139 #[.pointer (some ⟨gr, 0, none⟩)] w' fun e w'' => e = .returned (.bool (C3 s.data.toList q)) ∧ Below w'.heap.size w' w'') := fun w' q b hr hq => P6 w' gr s ⟨q, b⟩ hr hs hq
 have HE : Hid (∀ (w' : World) (q : Nat) (b : Bool), RD w' gr s ⟨q, b⟩ -> q <= s.size -> Calls Tryz.prog 140 #[.pointer (some ⟨gr, 0, none⟩)] w' fun e w'' => e = .returned (.bool (DE s.data.toList q)) ∧ RD w'' gr s ⟨if DE s.data.toList q = true then q + 1 else q, b⟩ ∧ Kp (fun b => b = gr) w' w'') := fun w' q b hr hq => OQ w' gr s ⟨q, b⟩ hr hs hq
 have c1 : w.cell? ⟨gr, 1, none⟩ = some (.int .i64 p) := h.cell 1
 dsimp only at hp
 have HR : Hid (NL w w gr s p bad most p 0) := ⟨Nat.le_refl _, hp, Int.le_refl _, by omega, h, Kp.refl _ _, by simp⟩
 clear h
 go_enter Tryz.func78, Tryz.ntmps78
 go_wp2
 go_loopw [5] (fun n wr => ∃ (q : Nat) (N : Int), n = .int .i64 N ∧ NL w wr gr s p bad most q N) (fun _ wr => s.size - LO wr gr)
 case atStart => exact ⟨p, 0, rfl, HR.out⟩
 case round =>
  obtain ⟨q, N, rfl, hnl⟩ := hrel
  have hq1 := hnl.q1
  by_cases hgo : C3 s.data.toList q = true ∧ N <= most
  ·have hlt : q < s.size := by
    by_cases hlt : q < s.size
    ·exact hlt
    ·have : s.data.toList[q]? = none := List.getElem?_eq_none (by rw [Array.length_toList]; exact Nat.le_of_not_lt hlt)
     have h1 := hgo.1
     unfold C3 at h1; rw [this] at h1; cases h1
   obtain ⟨c, hc1, hix⟩ := LK s q hlt
   have hdc : DR c = true := by have h1 := hgo.1; unfold C3 at h1; rw [hc1] at h1; exact h1
   have hcb := (Dn c).1 hdc
   have hN0 := hnl.n0
   have hdt := hgo.1
   have hNm := hgo.2
   have HNL := Hd hnl
   clear hnl hgo
   go_wp2_with fail
   refine (HD.out wr q bad HNL.out.rd hq1).mono ?_
   rintro e w1 ⟨rfl, hb1⟩
   have hrd1 : RD w1 gr s ⟨q, bad⟩ := HNL.out.rd.below hb1 HNL.out.rd.lt
   have c0 : w1.cell? ⟨gr, 0, none⟩ = some (.string s) := hrd1.cell 0
   have c1 : w1.cell? ⟨gr, 1, none⟩ = some (.int .i64 q) := hrd1.cell 1
   have f1 := hrd1.frozen 1
   have hr2 : RD (w1.setCell ⟨gr, 1, none⟩ (.int .i64 ((q + 1 : Nat) : Int))) gr s ⟨q + 1, bad⟩ := hrd1.set 1 _
   have hk2 : Kp (fun b => b = gr) w (w1.setCell ⟨gr, 1, none⟩ (.int .i64 ((q + 1 : Nat) : Int))) := (HNL.out.kp.trans (Kp.of_below hb1 _)).setCell (p := ⟨gr, 1, none⟩) rfl _
   have HS : Hid (NL w (w1.setCell ⟨gr, 1, none⟩ (.int .i64 ((q + 1 : Nat) : Int))) gr s p bad most (q + 1) (N * 10 + ((c.toNat : Int) - 48))) := HNL.out.step hc1 hdc hNm hlt hr2 hk2
   rw [hdt]
   have HA : Hid (s.size - LO (w1.setCell ⟨gr, 1, none⟩ (.int .i64 ((q + 1 : Nat) : Int))) gr < s.size - LO wr gr) := by
    show s.size - LO (w1.setCell ⟨gr, 1, none⟩ (.int .i64 ((q + 1 : Nat) : Int))) gr < s.size - LO wr gr
    rw [Ml hr2, Ml HNL.out.rd]; omega
   clear hrd1 hr2 hk2 hb1 HNL hc1 hdt hdc
   generalize hcn : (c.toNat : Int) = cn at *
   have k0 : 48 <= cn := by omega
   have k1 : cn <= 57 := by omega
   clear hcn hcb
   go_wp2
   go_region
   go_wp2
   refine And.intro ?_ ?_
   ·first | exact ⟨q + 1, N * 10 + (cn - 48), by go_num, HS.out.drew⟩ | ((repeat apply Exists.intro); exact ⟨⟨q + 1, N * 10 + (cn - 48), by go_num, HS.out.drew⟩, rfl⟩)
   ·exact HA.out
  ·have hst := hnl.stop hgo
   have hq0 := hnl.q0
   have hn0 := hnl.n0
   have hn1 := hnl.n1
   have hnx : nx s.data.toList most ⟨p, bad⟩ = (if (bad || (decide (q - p < 1) || (decide (most < N) || !DE s.data.toList q))) = true then 0 else N, ⟨if DE s.data.toList q = true then q + 1 else q, bad || (decide (q - p < 1) || (decide (most < N) || !DE s.data.toList q))⟩) := by
    have e : p + (q - p) = q := by omega
    simp only [nx, hst, e]
   have HX := Hd hnx
   have HNL := Hd hnl
   clear hnl hst hnx
   have hdec : C3 s.data.toList q = false ∨ (C3 s.data.toList q = true ∧ ¬ N <= most) := by
    cases hd : C3 s.data.toList q
    ·exact .inl rfl
    ·exact .inr ⟨rfl, fun hN => hgo ⟨hd, hN⟩⟩
   clear hgo
   rcases hdec with hd | ⟨hd, hN⟩
   all_goals
    go_wp2_with fail
    refine (HD.out wr q bad HNL.out.rd hq1).mono ?_
    rintro e w1 ⟨rfl, hb1⟩
    rw [hd]
    have hrd1 : RD w1 gr s ⟨q, bad⟩ := HNL.out.rd.below hb1 HNL.out.rd.lt
    have c1 : w1.cell? ⟨gr, 1, none⟩ = some (.int .i64 q) := hrd1.cell 1
    have HR1 := Hd hrd1
    have HK1 : Hid (Kp (fun b => b = gr) w w1) := HNL.out.kp.trans (Kp.of_below hb1 _)
    have hd' : C3 s.data.toList q = C3 s.data.toList q := rfl
    clear hb1 HNL hrd1
    go_wp2_with fail
    refine (HE.out w1 q bad HR1.out hq1).mono ?_
    rintro e w2 ⟨rfl, hr2, hk2⟩
    have c2 : w2.cell? ⟨gr, 2, none⟩ = some (.bool bad) := hr2.cell 2
    have f2 := hr2.frozen 2
    have HK2 : Hid (Kp (fun b => b = gr) w w2) := HK1.out.trans hk2
    have HR2 := Hd hr2
    have HR3 : Hid (RD (w2.setCell ⟨gr, 2, none⟩ (.bool true)) gr s ⟨if DE s.data.toList q = true then q + 1 else q, true⟩) := hr2.set 2 _
    have hk3 : Kp (fun b => b = gr) w (w2.setCell ⟨gr, 2, none⟩ (.bool true)) := HK2.out.setCell (p := ⟨gr, 2, none⟩) rfl _
    have HK3 := Hd hk3
    clear hr2 hk2 hk3 HK1 HR1 hd'
    generalize DE s.data.toList q = en at *
    cases en
    ·have HB : Hid ((bad || (decide (q - p < 1) || (decide (most < N) || !false))) = true) := by simp [Hid]
     rw [HB.out, if_pos rfl, if_neg (by simp)] at HX
     by_cases hdg : (q : Int) - p < 1
     ·go_wp2
      go_ret
      rw [HX.out]
      exact ⟨rfl, HR3.out, HK3.out⟩
     ·by_cases hNm : most < N
      ·go_wp2
       go_ret
       rw [HX.out]
       exact ⟨rfl, HR3.out, HK3.out⟩
      ·first
       | (exfalso; omega)
       | (go_wp2
          go_ret
          rw [HX.out]
          exact ⟨rfl, HR3.out, HK3.out⟩)
    ·by_cases hdg : (q : Int) - p < 1
     ·have HB : Hid ((bad || (decide (q - p < 1) || (decide (most < N) || !true))) = true) := by
       have : decide (q - p < 1) = true := decide_eq_true (by omega)
       show _ = true
       rw [this]; simp
      rw [HB.out, if_pos rfl, if_pos rfl] at HX
      go_wp2
      go_ret
      rw [HX.out]
      exact ⟨rfl, HR3.out, HK3.out⟩
     ·by_cases hNm : most < N
      ·have HB : Hid ((bad || (decide (q - p < 1) || (decide (most < N) || !true))) = true) := by
        have : decide (most < N) = true := decide_eq_true hNm
        show _ = true
        rw [this]; simp
       rw [HB.out, if_pos rfl, if_pos rfl] at HX
       go_wp2
       go_ret
       rw [HX.out]
       exact ⟨rfl, HR3.out, HK3.out⟩
      ·have HB : Hid ((bad || (decide (q - p < 1) || (decide (most < N) || !true))) = bad) := by
        have h1 : decide (most < N) = false := decide_eq_false hNm
        have h2 : decide (q - p < 1) = false := decide_eq_false (by omega)
        show _ = bad
        rw [h1, h2]; simp
       rw [HB.out, if_pos rfl] at HX
       cases bad
       ·rw [if_neg (by simp)] at HX
        first
        | (exfalso; omega)
        | (go_wp2
           go_ret
           rw [HX.out]
           exact ⟨rfl, HR2.out, HK2.out⟩)
       ·rw [if_pos rfl] at HX
        first
        | (exfalso; omega)
        | (go_wp2
           go_ret
           rw [HX.out]
           exact ⟨rfl, HR2.out, HK2.out⟩)
theorem nx_p (s : List UInt8) (most : Int) (st : RSE) (h : st.p <= s.length) : (nx s most st).2.p <= s.length := by
 have h1 := Re most (s.drop st.p) 0
 rw [List.length_drop] at h1
 simp only [nx]
 split
 ·rename_i he
  unfold DE at he
  have : st.p + (rdN most (s.drop st.p) 0).2 < s.length := by
   by_cases hl : st.p + (rdN most (s.drop st.p) 0).2 < s.length
   ·exact hl
   ·rw [List.getElem?_eq_none (by omega)] at he; cases he
  omega
 ·omega
structure RDS (w : World) (gr : Nat) (s : ByteArray) (st : RSE) : Prop where
 rd : RD w gr s st
 p : st.p <= s.size
 sz : s.size <= 8192
theorem RDS.kp (h : RDS w gr s st) (k : Kp S w w') (hs : ¬ S gr) : RDS w' gr s st := ⟨Has.kp h.rd k hs, h.p, h.sz⟩
theorem RDS.below (h : RDS w gr s st) (hb : Below w.heap.size w w') : RDS w' gr s st := ⟨h.rd.below hb h.rd.lt, h.p, h.sz⟩
theorem RDS.alloc (h : RDS w gr s st) (o : Obj) : RDS (w.alloc o) gr s st := h.below ((Below.refl _ _).alloc (Nat.le_refl _) o)
theorem RDS.lt (h : RDS w gr s st) : gr < w.heap.size := Has.lt h.rd
theorem Ew (w : World) (gr : Nat) (s : ByteArray) (st : RSE) (most : Int) (h : RDS w gr s st) (m0 : 0 <= most) (m1 : most <= 1073741824000000) :
  Calls Tryz.prog 78 #[.pointer (some ⟨gr, 0, none⟩), .int .i64 most] w fun e w' => e = .returned (.int .i64 (nx s.data.toList most st).1) ∧ RDS w' gr s (nx s.data.toList most st).2 ∧ Kp (fun b => b = gr) w w' := by
 refine (SN w gr s st most h.rd h.sz h.p m0 m1).mono ?_
 rintro e w' ⟨rfl, h1, h2⟩
 have hl : s.data.toList.length = s.size := by rw [Array.length_toList]; rfl
 exact ⟨rfl, ⟨h1, by have := nx_p s.data.toList most st (by rw [hl]; exact h.p); omega, h.sz⟩, h2⟩
theorem MQ (w : World) (gr : Nat) (s : ByteArray) (st : RSE) (longest most : Int) (h : RDS w gr s st) (l0 : 0 <= longest) (l1 : longest <= 1000) (m0 : 0 <= most) (m1 : most <= 1073741824000000) :
  Calls Tryz.prog 138 #[.pointer (some ⟨gr, 0, none⟩), .int .i64 longest, .int .i64 most] w fun e w' => ∃ lv, e = .returned lv ∧ w'.ownsRow w.heap.size 3 1 lv (nxL s.data.toList longest most st).1.length (Ai (nxL s.data.toList longest most st).1) ∧ RDS w' gr s (nxL s.data.toList longest most st).2 ∧ Kp (fun b => b = gr) w w' := by
 have HN : Hid (∀ (w' : World) (st : RSE) (m : Int), RDS w' gr s st -> 0 <= m -> m <= 1073741824000000 -> Calls Tryz.prog 78 #[.pointer (some ⟨gr, 0, none⟩), .int .i64 m] w' fun e w'' => e = .returned (.int .i64 (nx s.data.toList m st).1) ∧ RDS w'' gr s (nx s.data.toList m st).2 ∧ Kp (fun b => b = gr) w' w'') := fun w' st m a b c => Ew w' gr s st m a b c
 obtain ⟨i5, hi5, hz50, hz51, hz52⟩ := info_parts Cn
 have hcb := Cg s.data.toList longest st l0
 have HR := Hd h
 have hgr := h.lt
 obtain ⟨n, hn⟩ : ∃ n : Nat, (nx s.data.toList longest st).1 = (n : Int) := ⟨(nx s.data.toList longest st).1.toNat, by omega⟩
 have HX : Hid (nxL s.data.toList longest most st = rdL s.data.toList most n (nx s.data.toList longest st).2) := by
  show nxL s.data.toList longest most st = _
  unfold nxL; rw [hn, Int.toNat_natCast]
 have HNn := Hd hn
 have hn1 : n <= 1000 := by omega
 clear h hn hcb
 go_enter Tryz.func138, Tryz.ntmps138
 go_wp2_with fail
 refine (HN.out w st longest HR.out l0 (by omega)).mono ?_
 rintro e w1 ⟨rfl, hr1, hk1⟩
 rw [HNn.out]
 have HR1 := Hd hr1
 have HK1 := Hd hk1
 clear hr1 hk1 HR
 obtain ⟨st1, hst1⟩ : ∃ st1, st1 = (nx s.data.toList longest st).2 := ⟨_, rfl⟩
 rw [<- hst1] at HR1 HX
 clear hst1
 go_wp2
 go_loopw [7, 9] (fun l i wr => ∃ k : Nat, k <= n ∧ i = .int .i64 k ∧ wr.ownsRow w.heap.size 3 1 l k (Ai (rdL s.data.toList most k st1).1) ∧ RDS wr gr s (rdL s.data.toList most k st1).2 ∧ Kp (fun b => b = gr) w wr) (fun _ i _ => n - (intOf i).toNat)
 case atStart => exact ⟨0, Nat.zero_le _, rfl, World.ownsRow_nil _ _ _ _, HR1.out, HK1.out⟩
 case round =>
  obtain ⟨k, hk, rfl, hrow, hrd, hkp⟩ := hrel
  obtain ⟨la, lc, rfl⟩ := Ac hrow
  by_cases hlt : k < n
  ·have HROW := Hd hrow
   have HRD := Hd hrd
   have HKP := Hd hkp
   have HL : Hid (rdL s.data.toList most (k + 1) st1 = ((rdL s.data.toList most k st1).1 ++ [(nx s.data.toList most (rdL s.data.toList most k st1).2).1], (nx s.data.toList most (rdL s.data.toList most k st1).2).2)) := rfl
   generalize rdL s.data.toList most k st1 = q at *
   clear hrow hrd hkp HR1 HK1
   go_wp2_with fail
   refine (HN.out wr q.2 most HRD.out m0 m1).mono ?_
   rintro e w2 ⟨rfl, hr2, hk2⟩
   have HROW2 : Hid (w2.ownsRow w.heap.size 3 1 (.slice la k lc) k (Ai q.1)) := Al HROW.out hk2 (fun b hb e => by have := (HROW.out.lt b hb).1; omega)
   have HR2 := Hd hr2
   have HK2 : Hid (Kp (fun b => b = gr) w w2) := HKP.out.trans hk2
   have hsz : w.heap.size <= w2.heap.size := HK2.out.size
   clear hr2 hk2 HROW HRD HKP
   generalize (nx s.data.toList most q.2).1 = nv at *
   generalize (nx s.data.toList most q.2).2 = st2 at *
   go_wp2_with (at_builtin; go_loud (refine Ak rfl (.tmp 22) (.tmp 24) 24 rfl 3 i5 _ 1 8 Tryz.underlying24 hi5 hz50 hz51 hz52 rfl (by decide) w.heap.size _ k (Ai q.1) rfl (HROW2.out.alloc _) (by simp; omega) ⟨_, 0, none⟩ 1 1 [.int .i64 nv] rfl (by rfl) (Ap _ [.int .i64 nv] _ _ (by simp)) (by simp [Value.oneCell']) (by decide) (by simp [maxLen]; omega) (by omega) ?_))
   intro g5 cap5 v5 hown5 hgrow5 hor5 hold5
   have hk5 : Kp (fun b => b = gr) w v5 := by
    have hk6 := HK2.out.alloc (.cells #[.int .i64 nv] 3)
    exact ⟨hgrow5.os.trans hk6.os, hgrow5.tape.trans hk6.tape, hgrow5.output.trans hk6.output, Nat.le_trans hk6.size hgrow5.size, fun b hb hs => (hgrow5.block b (Nat.lt_of_lt_of_le hb hk6.size) (fun e => by have := (HROW2.out.lt b e.symm).1; omega)).trans (hk6.block b hb hs)⟩
   have HK5 := Hd hk5
   have HR5 : Hid (RDS v5 gr s st2) := ⟨Ao hgrow5 ((HR2.out.alloc _).rd) (fun e => by have := (HROW2.out.lt gr e.symm).1; omega), HR2.out.p, HR2.out.sz⟩
   have HO5 : Hid (v5.ownsRow w.heap.size 3 1 (.slice (some ⟨g5, 0, none⟩) (k + 1) cap5) (k + 1) (Ai (rdL s.data.toList most (k + 1) st1).1)) := by
    rw [HL.out]
    have e : Ai (q.1 ++ [nv]) = Ai q.1 ++ [.int .i64 nv] := by simp [Ai]
    show World.ownsRow _ _ _ _ _ _ (Ai (q.1 ++ [nv]))
    rw [e]; exact hown5
   have HR6 : Hid (RDS v5 gr s (rdL s.data.toList most (k + 1) st1).2) := by rw [HL.out]; exact HR5.out
   clear hk5 hown5 hgrow5 hor5 hold5 HR5 HR2 HROW2 HK2 HL
   go_wp2
   refine And.intro ?_ ?_
   ·first | exact ⟨k + 1, by omega, by go_num, HO5.out, HR6.out, HK5.out⟩ | ((repeat apply Exists.intro); exact ⟨⟨k + 1, by omega, by go_num, HO5.out, HR6.out, HK5.out⟩, rfl⟩)
   ·simp [intOf]; omega
  ·have ek : k = n := by omega
   subst ek
   have HROW : Hid (wr.ownsRow w.heap.size 3 1 (.slice la k lc) (nxL s.data.toList longest most st).1.length (Ai (nxL s.data.toList longest most st).1)) := by
    rw [HX.out, Hv]; exact hrow
   have HRD : Hid (RDS wr gr s (nxL s.data.toList longest most st).2) := by rw [HX.out]; exact hrd
   have HKP := Hd hkp
   clear hrow hrd hkp HX
   go_wp2
   go_ret
   exact ⟨_, rfl, HROW.out, HRD.out, HKP.out⟩
theorem Kp.setNew {a : World} (h : Kp S a w) {p : Addr} (hp : a.heap.size <= p.block) (u : Value) : Kp S a (w.setCell p u) :=
 ⟨h.os, h.tape, h.output, by show a.heap.size <= (w.setCell p u).heap.size; simp [World.setCell]; exact h.size, fun k hk hs => (Below.heap_setCell _ _ _ _ (fun e => by omega)).trans (h.block k hk hs)⟩
structure GS (w wk : World) (gr : Nat) (s : ByteArray) (st : RSE) (L : List Value) : Prop where
 g : Has wk (w.heap.size + 1) 67 L
 z : Has wk w.heap.size 67 [.slice none 0 0, .slice none 0 0, .slice none 0 0, .int .i64 0, .int .i64 0, .int .i64 0]
 r : RDS wk gr s st
 k : Kp (fun b => b = gr) w wk
 l : gr < w.heap.size
theorem GS.put (h : GS w wk gr s st L) (i : Nat) (v : Value) : GS w (wk.setCell ⟨w.heap.size + 1, i, none⟩ v) gr s st (L.set i v) :=
 ⟨h.g.set i v, h.z.other _ _ (by show w.heap.size ≠ w.heap.size + 1; omega), ⟨Has.other h.r.rd _ _ (by have := h.l; show gr ≠ w.heap.size + 1; omega), h.r.p, h.r.sz⟩, h.k.setNew (by show w.heap.size <= w.heap.size + 1; omega) _, h.l⟩
theorem GS.call {st' : RSE} (h : GS w wk gr s st L) (hr : RDS w2 gr s st') (hk : Kp (fun b => b = gr) wk w2) : GS w w2 gr s st' L := by
 have hl := h.l
 exact ⟨Has.kp h.g hk (by omega), Has.kp h.z hk (by omega), hr, h.k.trans (hk.mono (fun _ _ h => h)), h.l⟩
theorem GS.row {v : Value} {n : Nat} {xs : List Value} (h : GS w wk gr s st L) (ho : wk.ownsRow w.heap.size 3 1 v n xs) (i : Nat) (u : Value) (hk : Kp (fun b => b = gr) (wk.setCell ⟨w.heap.size + 1, i, none⟩ u) w2) : w2.ownsRow w.heap.size 3 1 v n xs := by
 have hl := h.l
 have h1 := Aa ho ⟨w.heap.size + 1, i, none⟩ u (fun e => Has.apart h.g ho (by decide) e.symm)
 exact Al h1 hk (fun b hb e => by have := (h1.lt b hb).1; omega)
def Ka (w w7 : World) (f a0 a1 a2 a3 a4 a5 : Value) : World := ((((((w7.setCell ⟨w.heap.size + 1, 5, none⟩ f).setCell ⟨w.heap.size, 0, none⟩ a0).setCell ⟨w.heap.size, 1, none⟩ a1).setCell ⟨w.heap.size, 2, none⟩ a2).setCell ⟨w.heap.size, 3, none⟩ a3).setCell ⟨w.heap.size, 4, none⟩ a4).setCell ⟨w.heap.size, 5, none⟩ a5
theorem GS.fin {w7 : World} (h : GS w w7 gr s st L) (f a0 a1 a2 a3 a4 a5 : Value) :
  Has (Ka w w7 f a0 a1 a2 a3 a4 a5) w.heap.size 67 [a0, a1, a2, a3, a4, a5] ∧ RDS (Ka w w7 f a0 a1 a2 a3 a4 a5) gr s st ∧ Kp (fun b => b = gr) w (Ka w w7 f a0 a1 a2 a3 a4 a5) ∧ (∀ v n xs, w7.ownsRow w.heap.size 3 1 v n xs -> (Ka w w7 f a0 a1 a2 a3 a4 a5).ownsRow w.heap.size 3 1 v n xs) := by
 have hp := h.put 5 f
 have hl := h.l
 have hk : Kp (fun b => b = w.heap.size ∨ b = w.heap.size + 1) w7 (Ka w w7 f a0 a1 a2 a3 a4 a5) := by
  unfold Ka
  exact (((((((Kp.refl _ _).setCell (p := ⟨w.heap.size + 1, 5, none⟩) (.inr rfl) _).setCell (p := ⟨w.heap.size, 0, none⟩) (.inl rfl) _).setCell (p := ⟨w.heap.size, 1, none⟩) (.inl rfl) _).setCell (p := ⟨w.heap.size, 2, none⟩) (.inl rfl) _).setCell (p := ⟨w.heap.size, 3, none⟩) (.inl rfl) _).setCell (p := ⟨w.heap.size, 4, none⟩) (.inl rfl) _).setCell (p := ⟨w.heap.size, 5, none⟩) (.inl rfl) _
 refine ⟨?_, h.r.kp hk (by omega), ?_, fun v n xs ho => Al ho hk (fun b hb e => ?_)⟩
 ·have := (((((hp.z.set 0 a0).set 1 a1).set 2 a2).set 3 a3).set 4 a4).set 5 a5
  exact this
 ·unfold Ka
  exact ((((((hp.k.setNew (p := ⟨w.heap.size, 0, none⟩) (Nat.le_refl _) _).setNew (p := ⟨w.heap.size, 1, none⟩) (Nat.le_refl _) _).setNew (p := ⟨w.heap.size, 2, none⟩) (Nat.le_refl _) _).setNew (p := ⟨w.heap.size, 3, none⟩) (Nat.le_refl _) _).setNew (p := ⟨w.heap.size, 4, none⟩) (Nat.le_refl _) _).setNew (p := ⟨w.heap.size, 5, none⟩) (Nat.le_refl _) _)
 ·rcases e with e | e
  ·exact Has.apart h.z ho (by decide) (by rw [<- e, hb])
  ·exact Has.apart h.g ho (by decide) (by rw [<- e, hb])
structure GnV (w w' : World) (gn : Gn) (vb vo vr : Value) : Prop where
 b : w'.ownsRow w.heap.size 3 1 vb gn.bs.length (Ai gn.bs)
 o : w'.ownsRow w.heap.size 3 1 vo gn.os.length (Ai gn.os)
 r : w'.ownsRow w.heap.size 3 1 vr gn.rs.length (Ai gn.rs)
theorem Nn (w : World) (gr : Nat) (s : ByteArray) (st : RSE) (h : RDS w gr s st) :
  Calls Tryz.prog 77 #[.pointer (some ⟨gr, 0, none⟩)] w fun e w' => ∃ vb vo vr, e = .returned (RV vb vo vr (rdG s.data.toList st).1.top (rdG s.data.toList st).1.mat (rdG s.data.toList st).1.fee) ∧ GnV w w' (rdG s.data.toList st).1 vb vo vr ∧ RDS w' gr s (rdG s.data.toList st).2 ∧ Kp (fun b => b = gr) w w' := by
 have HN : Hid (∀ (w' : World) (st : RSE) (m : Int), RDS w' gr s st -> 0 <= m -> m <= 1073741824000000 -> Calls Tryz.prog 78 #[.pointer (some ⟨gr, 0, none⟩), .int .i64 m] w' fun e w'' => e = .returned (.int .i64 (nx s.data.toList m st).1) ∧ RDS w'' gr s (nx s.data.toList m st).2 ∧ Kp (fun b => b = gr) w' w'') := fun w' st m a b c => Ew w' gr s st m a b c
 have HL : Hid (∀ (w' : World) (st : RSE) (l m : Int), RDS w' gr s st -> 0 <= l -> l <= 1000 -> 0 <= m -> m <= 1073741824000000 -> Calls Tryz.prog 138 #[.pointer (some ⟨gr, 0, none⟩), .int .i64 l, .int .i64 m] w' fun e w'' => ∃ lv, e = .returned lv ∧ w''.ownsRow w'.heap.size 3 1 lv (nxL s.data.toList l m st).1.length (Ai (nxL s.data.toList l m st).1) ∧ RDS w'' gr s (nxL s.data.toList l m st).2 ∧ Kp (fun b => b = gr) w' w'') := fun w' st l m a b c d e => MQ w' gr s st l m a b c d e
 have HR := Hd h
 clear h
 go_enter Tryz.func77, Tryz.ntmps77
 go_wp2_with fail
 have h1 : GS w ((w.alloc (.cells #[.slice none 0 0, .slice none 0 0, .slice none 0 0, .int .i64 0, .int .i64 0, .int .i64 0] 67)).alloc (.cells #[.slice none 0 0, .slice none 0 0, .slice none 0 0, .int .i64 0, .int .i64 0, .int .i64 0] 67)) gr s st [.slice none 0 0, .slice none 0 0, .slice none 0 0, .int .i64 0, .int .i64 0, .int .i64 0] := by
  refine ⟨?_, (Has.new w _ [.slice none 0 0, .slice none 0 0, .slice none 0 0, .int .i64 0, .int .i64 0, .int .i64 0]).alloc _, (HR.out.alloc _).alloc _, ((Kp.refl _ _).alloc _).alloc _, HR.out.lt⟩
  have := Has.new (w.alloc (.cells #[.slice none 0 0, .slice none 0 0, .slice none 0 0, .int .i64 0, .int .i64 0, .int .i64 0] 67)) 67 [.slice none 0 0, .slice none 0 0, .slice none 0 0, .int .i64 0, .int .i64 0, .int .i64 0]
  simpa using this
 have H1 : Hid _ := h1
 clear h1
 refine (HL.out _ st 6 1000000 H1.out.r (by decide) (by decide) (by decide) (by decide)).mono ?_
 rintro e w2 ⟨vb, rfl, ho, hr, hk⟩
 have hs2 := H1.out.call hr hk
 have HB2 : Hid (w2.ownsRow w.heap.size 3 1 vb (nxL s.data.toList 6 1000000 st).1.length (Ai (nxL s.data.toList 6 1000000 st).1)) := Aj ho (by simp; omega)
 have cb : w2.cell? ⟨w.heap.size + 1, 0, none⟩ = some (.slice none 0 0) := hs2.g.cell 0
 have fb := hs2.g.frozen 0
 have lb := hs2.g.lt
 obtain ⟨va, vc, rfl⟩ := Ac HB2.out
 have H2 : Hid _ := hs2
 clear ho hr hk hs2 H1 HR
 go_wp2_with fail
 refine (HL.out _ (nxL s.data.toList 6 1000000 st).2 5 6 (H2.out.put 0 _).r (by decide) (by decide) (by decide) (by decide)).mono ?_
 rintro e w3 ⟨vo, rfl, ho, hr, hk⟩
 have hs3 := (H2.out.put 0 _).call hr hk
 have HB3 : Hid (w3.ownsRow w.heap.size 3 1 (.slice va (nxL s.data.toList 6 1000000 st).1.length vc) (nxL s.data.toList 6 1000000 st).1.length (Ai (nxL s.data.toList 6 1000000 st).1)) := H2.out.row HB2.out 0 _ hk
 have HO3 : Hid (w3.ownsRow w.heap.size 3 1 vo (nxL s.data.toList 5 6 (nxL s.data.toList 6 1000000 st).2).1.length (Ai (nxL s.data.toList 5 6 (nxL s.data.toList 6 1000000 st).2).1)) := Aj ho (by have := H2.out.k.size; simpa [World.setCell] using this)
 have cb3 : w3.cell? ⟨w.heap.size + 1, 1, none⟩ = some (.slice none 0 0) := hs3.g.cell 1
 have fb3 := hs3.g.frozen 1
 have lb3 := hs3.g.lt
 obtain ⟨oa, oc, rfl⟩ := Ac HO3.out
 have H3 : Hid _ := hs3
 clear ho hr hk hs3 H2 HB2 cb fb lb
 go_wp2_with fail
 refine (HL.out _ (nxL s.data.toList 5 6 (nxL s.data.toList 6 1000000 st).2).2 5 100 (H3.out.put 1 _).r (by decide) (by decide) (by decide) (by decide)).mono ?_
 rintro e w4 ⟨vr, rfl, ho, hr, hk⟩
 have hs4 := (H3.out.put 1 _).call hr hk
 have HB4 : Hid (w4.ownsRow w.heap.size 3 1 (.slice va (nxL s.data.toList 6 1000000 st).1.length vc) (nxL s.data.toList 6 1000000 st).1.length (Ai (nxL s.data.toList 6 1000000 st).1)) := H3.out.row HB3.out 1 _ hk
 have HO4 : Hid (w4.ownsRow w.heap.size 3 1 (.slice oa (nxL s.data.toList 5 6 (nxL s.data.toList 6 1000000 st).2).1.length oc) (nxL s.data.toList 5 6 (nxL s.data.toList 6 1000000 st).2).1.length (Ai (nxL s.data.toList 5 6 (nxL s.data.toList 6 1000000 st).2).1)) := H3.out.row HO3.out 1 _ hk
 have HR4 : Hid (w4.ownsRow w.heap.size 3 1 vr (nxL s.data.toList 5 100 (nxL s.data.toList 5 6 (nxL s.data.toList 6 1000000 st).2).2).1.length (Ai (nxL s.data.toList 5 100 (nxL s.data.toList 5 6 (nxL s.data.toList 6 1000000 st).2).2).1)) := Aj ho (by have := H3.out.k.size; simpa [World.setCell] using this)
 have cb4 : w4.cell? ⟨w.heap.size + 1, 2, none⟩ = some (.slice none 0 0) := hs4.g.cell 2
 have fb4 := hs4.g.frozen 2
 have lb4 := hs4.g.lt
 obtain ⟨ra, rc, rfl⟩ := Ac HR4.out
 have H4 : Hid _ := hs4
 clear ho hr hk hs4 H3 HB3 HO3 cb3 fb3 lb3
 go_wp2_with fail
 refine (HN.out _ (nxL s.data.toList 5 100 (nxL s.data.toList 5 6 (nxL s.data.toList 6 1000000 st).2).2).2 5 (H4.out.put 2 _).r (by decide) (by decide)).mono ?_
 rintro e w5 ⟨rfl, hr, hk⟩
 have hs5 := (H4.out.put 2 _).call hr hk
 have HB5 : Hid (w5.ownsRow w.heap.size 3 1 (.slice va (nxL s.data.toList 6 1000000 st).1.length vc) (nxL s.data.toList 6 1000000 st).1.length (Ai (nxL s.data.toList 6 1000000 st).1)) := H4.out.row HB4.out 2 _ hk
 have HO5 : Hid (w5.ownsRow w.heap.size 3 1 (.slice oa (nxL s.data.toList 5 6 (nxL s.data.toList 6 1000000 st).2).1.length oc) (nxL s.data.toList 5 6 (nxL s.data.toList 6 1000000 st).2).1.length (Ai (nxL s.data.toList 5 6 (nxL s.data.toList 6 1000000 st).2).1)) := H4.out.row HO4.out 2 _ hk
 have HR5 : Hid (w5.ownsRow w.heap.size 3 1 (.slice ra (nxL s.data.toList 5 100 (nxL s.data.toList 5 6 (nxL s.data.toList 6 1000000 st).2).2).1.length rc) (nxL s.data.toList 5 100 (nxL s.data.toList 5 6 (nxL s.data.toList 6 1000000 st).2).2).1.length (Ai (nxL s.data.toList 5 100 (nxL s.data.toList 5 6 (nxL s.data.toList 6 1000000 st).2).2).1)) := H4.out.row HR4.out 2 _ hk
 have cb5 : w5.cell? ⟨w.heap.size + 1, 3, none⟩ = some (.int .i64 0) := hs5.g.cell 3
 have fb5 := hs5.g.frozen 3
 have lb5 := hs5.g.lt
 have H5 : Hid _ := hs5
 clear hr hk hs5 H4 HB4 HO4 HR4 cb4 fb4 lb4
 go_wp2_with fail
 refine (HN.out _ (nx s.data.toList 5 (nxL s.data.toList 5 100 (nxL s.data.toList 5 6 (nxL s.data.toList 6 1000000 st).2).2).2).2 20 (H5.out.put 3 _).r (by decide) (by decide)).mono ?_
 rintro e w6 ⟨rfl, hr, hk⟩
 have hs6 := (H5.out.put 3 _).call hr hk
 have HB6 : Hid (w6.ownsRow w.heap.size 3 1 (.slice va (nxL s.data.toList 6 1000000 st).1.length vc) (nxL s.data.toList 6 1000000 st).1.length (Ai (nxL s.data.toList 6 1000000 st).1)) := H5.out.row HB5.out 3 _ hk
 have HO6 : Hid (w6.ownsRow w.heap.size 3 1 (.slice oa (nxL s.data.toList 5 6 (nxL s.data.toList 6 1000000 st).2).1.length oc) (nxL s.data.toList 5 6 (nxL s.data.toList 6 1000000 st).2).1.length (Ai (nxL s.data.toList 5 6 (nxL s.data.toList 6 1000000 st).2).1)) := H5.out.row HO5.out 3 _ hk
 have HR6 : Hid (w6.ownsRow w.heap.size 3 1 (.slice ra (nxL s.data.toList 5 100 (nxL s.data.toList 5 6 (nxL s.data.toList 6 1000000 st).2).2).1.length rc) (nxL s.data.toList 5 100 (nxL s.data.toList 5 6 (nxL s.data.toList 6 1000000 st).2).2).1.length (Ai (nxL s.data.toList 5 100 (nxL s.data.toList 5 6 (nxL s.data.toList 6 1000000 st).2).2).1)) := H5.out.row HR5.out 3 _ hk
 have cb6 : w6.cell? ⟨w.heap.size + 1, 4, none⟩ = some (.int .i64 0) := hs6.g.cell 4
 have fb6 := hs6.g.frozen 4
 have lb6 := hs6.g.lt
 have H6 : Hid _ := hs6
 clear hr hk hs6 H5 HB5 HO5 HR5 cb5 fb5 lb5
 go_wp2_with fail
 refine (HN.out _ (nx s.data.toList 20 (nx s.data.toList 5 (nxL s.data.toList 5 100 (nxL s.data.toList 5 6 (nxL s.data.toList 6 1000000 st).2).2).2).2).2 100 (H6.out.put 4 _).r (by decide) (by decide)).mono ?_
 rintro e w7 ⟨rfl, hr, hk⟩
 have hs7 := (H6.out.put 4 _).call hr hk
 have HB7 : Hid (w7.ownsRow w.heap.size 3 1 (.slice va (nxL s.data.toList 6 1000000 st).1.length vc) (nxL s.data.toList 6 1000000 st).1.length (Ai (nxL s.data.toList 6 1000000 st).1)) := H6.out.row HB6.out 4 _ hk
 have HO7 : Hid (w7.ownsRow w.heap.size 3 1 (.slice oa (nxL s.data.toList 5 6 (nxL s.data.toList 6 1000000 st).2).1.length oc) (nxL s.data.toList 5 6 (nxL s.data.toList 6 1000000 st).2).1.length (Ai (nxL s.data.toList 5 6 (nxL s.data.toList 6 1000000 st).2).1)) := H6.out.row HO6.out 4 _ hk
 have HR7 : Hid (w7.ownsRow w.heap.size 3 1 (.slice ra (nxL s.data.toList 5 100 (nxL s.data.toList 5 6 (nxL s.data.toList 6 1000000 st).2).2).1.length rc) (nxL s.data.toList 5 100 (nxL s.data.toList 5 6 (nxL s.data.toList 6 1000000 st).2).2).1.length (Ai (nxL s.data.toList 5 100 (nxL s.data.toList 5 6 (nxL s.data.toList 6 1000000 st).2).2).1)) := H6.out.row HR6.out 4 _ hk
 have cb0 : w7.cell? ⟨w.heap.size + 1, 0, none⟩ = some (.slice va (nxL s.data.toList 6 1000000 st).1.length vc) := hs7.g.cell 0
 have cb1 : w7.cell? ⟨w.heap.size + 1, 1, none⟩ = some (.slice oa (nxL s.data.toList 5 6 (nxL s.data.toList 6 1000000 st).2).1.length oc) := hs7.g.cell 1
 have cb2 : w7.cell? ⟨w.heap.size + 1, 2, none⟩ = some (.slice ra (nxL s.data.toList 5 100 (nxL s.data.toList 5 6 (nxL s.data.toList 6 1000000 st).2).2).1.length rc) := hs7.g.cell 2
 have cb3 : w7.cell? ⟨w.heap.size + 1, 3, none⟩ = some (.int .i64 (nx s.data.toList 5 (nxL s.data.toList 5 100 (nxL s.data.toList 5 6 (nxL s.data.toList 6 1000000 st).2).2).2).1) := hs7.g.cell 3
 have cb4 : w7.cell? ⟨w.heap.size + 1, 4, none⟩ = some (.int .i64 (nx s.data.toList 20 (nx s.data.toList 5 (nxL s.data.toList 5 100 (nxL s.data.toList 5 6 (nxL s.data.toList 6 1000000 st).2).2).2).2).1) := hs7.g.cell 4
 have cb5 : w7.cell? ⟨w.heap.size + 1, 5, none⟩ = some (.int .i64 0) := hs7.g.cell 5
 have fb5 := hs7.g.frozen 5
 have lb7 := hs7.g.lt
 have z0 : w7.cell? ⟨w.heap.size, 0, none⟩ = some (.slice none 0 0) := hs7.z.cell 0
 have z1 : w7.cell? ⟨w.heap.size, 1, none⟩ = some (.slice none 0 0) := hs7.z.cell 1
 have z2 : w7.cell? ⟨w.heap.size, 2, none⟩ = some (.slice none 0 0) := hs7.z.cell 2
 have z3 : w7.cell? ⟨w.heap.size, 3, none⟩ = some (.int .i64 0) := hs7.z.cell 3
 have z4 : w7.cell? ⟨w.heap.size, 4, none⟩ = some (.int .i64 0) := hs7.z.cell 4
 have z5 : w7.cell? ⟨w.heap.size, 5, none⟩ = some (.int .i64 0) := hs7.z.cell 5
 have y0 := hs7.z.frozen 0
 have y1 := hs7.z.frozen 1
 have y2 := hs7.z.frozen 2
 have y3 := hs7.z.frozen 3
 have y4 := hs7.z.frozen 4
 have y5 := hs7.z.frozen 5
 have H7 : Hid _ := hs7
 clear hr hk hs7 H6 HB6 HO6 HR6 cb6 fb6 lb6
 have n1 : w.heap.size ≠ w.heap.size + 1 := by omega
 have n2 : w.heap.size + 1 ≠ w.heap.size := by omega
 obtain ⟨q1, q2, q3, q4⟩ := H7.out.fin (.int .i64 (nx s.data.toList 100 (nx s.data.toList 20 (nx s.data.toList 5 (nxL s.data.toList 5 100 (nxL s.data.toList 5 6 (nxL s.data.toList 6 1000000 st).2).2).2).2).2).1) (.slice va (nxL s.data.toList 6 1000000 st).1.length vc) (.slice oa (nxL s.data.toList 5 6 (nxL s.data.toList 6 1000000 st).2).1.length oc) (.slice ra (nxL s.data.toList 5 100 (nxL s.data.toList 5 6 (nxL s.data.toList 6 1000000 st).2).2).1.length rc) (.int .i64 (nx s.data.toList 5 (nxL s.data.toList 5 100 (nxL s.data.toList 5 6 (nxL s.data.toList 6 1000000 st).2).2).2).1) (.int .i64 (nx s.data.toList 20 (nx s.data.toList 5 (nxL s.data.toList 5 100 (nxL s.data.toList 5 6 (nxL s.data.toList 6 1000000 st).2).2).2).2).1) (.int .i64 (nx s.data.toList 100 (nx s.data.toList 20 (nx s.data.toList 5 (nxL s.data.toList 5 100 (nxL s.data.toList 5 6 (nxL s.data.toList 6 1000000 st).2).2).2).2).2).1)
 have p0 := q1.cell 0
 have p1 := q1.cell 1
 have p2 := q1.cell 2
 have p3 := q1.cell 3
 have p4 := q1.cell 4
 have p5 := q1.cell 5
 simp only [List.getElem?_cons_zero, List.getElem?_cons_succ] at p0 p1 p2 p3 p4 p5
 have HQ : Hid (GnV w (Ka w w7 (.int .i64 (nx s.data.toList 100 (nx s.data.toList 20 (nx s.data.toList 5 (nxL s.data.toList 5 100 (nxL s.data.toList 5 6 (nxL s.data.toList 6 1000000 st).2).2).2).2).2).1) (.slice va (nxL s.data.toList 6 1000000 st).1.length vc) (.slice oa (nxL s.data.toList 5 6 (nxL s.data.toList 6 1000000 st).2).1.length oc) (.slice ra (nxL s.data.toList 5 100 (nxL s.data.toList 5 6 (nxL s.data.toList 6 1000000 st).2).2).1.length rc) (.int .i64 (nx s.data.toList 5 (nxL s.data.toList 5 100 (nxL s.data.toList 5 6 (nxL s.data.toList 6 1000000 st).2).2).2).1) (.int .i64 (nx s.data.toList 20 (nx s.data.toList 5 (nxL s.data.toList 5 100 (nxL s.data.toList 5 6 (nxL s.data.toList 6 1000000 st).2).2).2).2).1) (.int .i64 (nx s.data.toList 100 (nx s.data.toList 20 (nx s.data.toList 5 (nxL s.data.toList 5 100 (nxL s.data.toList 5 6 (nxL s.data.toList 6 1000000 st).2).2).2).2).2).1)) (rdG s.data.toList st).1 (.slice va (nxL s.data.toList 6 1000000 st).1.length vc) (.slice oa (nxL s.data.toList 5 6 (nxL s.data.toList 6 1000000 st).2).1.length oc) (.slice ra (nxL s.data.toList 5 100 (nxL s.data.toList 5 6 (nxL s.data.toList 6 1000000 st).2).2).1.length rc)) := ⟨q4 _ _ _ HB7.out, q4 _ _ _ HO7.out, q4 _ _ _ HR7.out⟩
 have HQ2 := Hd q2
 have HQ3 := Hd q3
 have HP0 : Hid _ := p0
 have HP1 : Hid _ := p1
 have HP2 : Hid _ := p2
 have HP3 : Hid _ := p3
 have HP4 : Hid _ := p4
 have HP5 : Hid _ := p5
 clear q1 q2 q3 q4 p0 p1 p2 p3 p4 p5 HB7 HO7 HR7 H7
 go_wp2
 have p0 := HP0.out
 have p1 := HP1.out
 have p2 := HP2.out
 have p3 := HP3.out
 have p4 := HP4.out
 have p5 := HP5.out
 refine bodyPost_ret (v := .agg #[.slice va (nxL s.data.toList 6 1000000 st).1.length vc, .slice oa (nxL s.data.toList 5 6 (nxL s.data.toList 6 1000000 st).2).1.length oc, .slice ra (nxL s.data.toList 5 100 (nxL s.data.toList 5 6 (nxL s.data.toList 6 1000000 st).2).2).1.length rc, .int .i64 (nx s.data.toList 5 (nxL s.data.toList 5 100 (nxL s.data.toList 5 6 (nxL s.data.toList 6 1000000 st).2).2).2).1, .int .i64 (nx s.data.toList 20 (nx s.data.toList 5 (nxL s.data.toList 5 100 (nxL s.data.toList 5 6 (nxL s.data.toList 6 1000000 st).2).2).2).2).1, .int .i64 (nx s.data.toList 100 (nx s.data.toList 20 (nx s.data.toList 5 (nxL s.data.toList 5 100 (nxL s.data.toList 5 6 (nxL s.data.toList 6 1000000 st).2).2).2).2).2).1]) (by unfold Ka at p0 p1 p2 p3 p4 p5; simp [results, Tryz.results77, go_sem, p0, p1, p2, p3, p4, p5]) rfl ?_
 exact ⟨_, _, _, rfl, HQ.out, HQ2.out, HQ3.out⟩
end Go.Proofs.YtohjjgefklhmaaaGreatDoor
