import Derived.Test.YtohjjgefklhmaabGreatDoorXImp3M
namespace Go.Proofs.YtohjjgefklhmaabGreatDoor
open Go.ChangeShapes Go.WideShapes Go.ChangeAt Go.RowKit
set_option linter.unusedVariables false

theorem sumI_takeG (l : List Int) (k : Nat) (h : k < l.length) : sumI (l.take (k + 1)) = sumI (l.take k) + l[k] := by
  rw [List.take_succ_eq_append_getElem h, sumI_append]; simp [sumI]
theorem sumI_take_bd (l : List Int) (c : Int) (h : ∀ n, n ∈ l → 0 ≤ n ∧ n ≤ c) (k : Nat) (hk : k ≤ l.length) : 0 ≤ sumI (l.take k) ∧ sumI (l.take k) ≤ c * k := by
  induction k with
  | zero => simp [sumI]
  | succ k ih =>
    have h1 := ih (by omega)
    have h2 := h l[k] (List.getElem_mem (by omega))
    rw [sumI_takeG l k (by omega), Int.natCast_add, Int.mul_add]; omega
theorem sumV_add (l : List VS) : sumI (l.map (fun v => v.tokens + v.outs)) = sumV (·.tokens) l + sumV (·.outs) l := by
  unfold sumV
  induction l with
  | nil => rfl
  | cons a l ih => simp only [List.map_cons, sumI, ih]; omega

section
variable {S : Nat → Prop} {W0 : World} (g : Nat) (x : EC) (bv vv ev : Value) (w : World) (h : PE S W0 w g x bv vv ev) (wb : WBd x)
include h wb

set_option maxHeartbeats 4000000 in
set_option maxRecDepth 100000 in
theorem csupply : Calls Tryz.prog 80 #[.pointer (some ⟨g, 0, none⟩)] w fun e w' => e = .returned (.int .i64 x.tot) ∧ Below w.heap.size w w' := by
  have b6 := wb.b6
  have v5 := wb.v5
  have el := wb.el
  obtain ⟨ff0, ff1⟩ := wb.ff
  obtain ⟨pp0, pp1⟩ := wb.pp
  have HB1 : Hid (∀ k, k ≤ x.bal.length → 0 ≤ sumI (x.bal.take k) ∧ sumI (x.bal.take k) ≤ 1073741824000000 * k) := fun k hk => sumI_take_bd x.bal _ wb.bb k hk
  have hvb : ∀ n, n ∈ x.vals.map (fun v => v.tokens + v.outs) → 0 ≤ n ∧ n ≤ 2000000 := fun n hn => by
    obtain ⟨v, hv, rfl⟩ := List.mem_map.1 hn
    obtain ⟨t0, t1, _, _, o0, o1, _⟩ := wb.vb v hv
    exact ⟨by omega, by omega⟩
  have HB2 : Hid (∀ k, k ≤ x.vals.length → 0 ≤ sumI ((x.vals.map (fun v => v.tokens + v.outs)).take k) ∧ sumI ((x.vals.map (fun v => v.tokens + v.outs)).take k) ≤ 2000000 * k) := fun k hk => sumI_take_bd _ _ hvb k (by simpa using hk)
  have heb : ∀ n, n ∈ x.ents.map (·.amount) → 0 ≤ n ∧ n ≤ 1073741824000000 := fun n hn => by
    obtain ⟨e, he, rfl⟩ := List.mem_map.1 hn
    exact wb.eb e he e.amount (by simp [entNs])
  have HB3 : Hid (∀ k, k ≤ x.ents.length → 0 ≤ sumI ((x.ents.map (·.amount)).take k) ∧ sumI ((x.ents.map (·.amount)).take k) ≤ 1073741824000000 * k) := fun k hk => sumI_take_bd _ _ heb k (by simpa using hk)
  have HT : Hid (x.tot = x.fees + x.pool + sumI x.bal + sumI (x.vals.map (fun v => v.tokens + v.outs)) + sumI (x.ents.map (·.amount))) := by
    show x.tot = _
    unfold EC.tot; rw [sumV_add]; omega
  obtain ⟨ba, bc, rfl⟩ := ownsRow_slice h.b
  obtain ⟨va, vc, rfl⟩ := ownsRow_slice h.v
  obtain ⟨ea, ec, rfl⟩ := ownsRow_slice h.e
  have c5 : w.cell? ⟨g, 5, none⟩ = some (.int .i64 x.fees) := h.L.cell 5
  have c6 : w.cell? ⟨g, 6, none⟩ = some (.int .i64 x.pool) := h.L.cell 6
  have c4 : w.cell? ⟨g, 4, none⟩ = some (.slice ba x.bal.length bc) := h.L.cell 4
  have HP : Hid (PE S W0 w g x (.slice ba x.bal.length bc) (.slice va x.vals.length vc) (.slice ea x.ents.length ec)) := h
  have hvb2 := wb.vb
  clear h wb hvb heb
  go_enter Tryz.func80, Tryz.ntmps80
  go_wp2
  go_region
  go_wp2
  go_loopw [3, 24] (fun n i wr => ∃ k : Nat, k ≤ x.bal.length ∧ i = .int .i64 k ∧ n = .int .i64 (x.fees + x.pool + sumI (x.bal.take k)) ∧ Below w.heap.size w wr) (fun _ i _ => x.bal.length - (intOf i).toNat)
  case atStart => exact ⟨0, Nat.zero_le _, rfl, by simp [sumI], (Below.refl _ _).drew⟩
  case round =>
    obtain ⟨k, hk, rfl, rfl, hbw⟩ := hrel
    obtain ⟨q1, q2⟩ := HB1.out k hk
    have hP := HP.out.below hbw
    by_cases hlt : k < x.bal.length
    · obtain ⟨gb, rfl, _⟩ := ownsRow_some hP.b (by omega)
      have cb := hP.balAt' hlt
      obtain ⟨q3, q4⟩ := HB1.out (k + 1) hlt
      have e1 : sumI (x.bal.take (k + 1)) = sumI (x.bal.take k) + x.balAt k := by rw [sumI_takeG x.bal k hlt]; simp [EC.balAt, hlt]
      rw [e1] at q3 q4
      have HS : Hid (sumI (x.bal.take (k + 1)) = sumI (x.bal.take k) + x.balAt k) := e1
      have HB : Hid (Below w.heap.size w wr) := hbw
      clear hP hbw e1 HP
      generalize x.balAt k = bk at *
      generalize hA : sumI (x.bal.take k) = A at *
      go_wp2
      refine And.intro ?_ ?_
      · first | exact ⟨k + 1, by omega, by go_num, by rw [HS.out, Int.add_assoc], HB.out⟩ | ((repeat apply Exists.intro); exact ⟨⟨k + 1, by omega, by go_num, by rw [HS.out, Int.add_assoc], HB.out⟩, rfl⟩)
      · simp [intOf]; omega
    · have ek : k = x.bal.length := by omega
      subst ek
      rw [List.take_length] at *
      have d7 : wr.cell? ⟨g, 7, none⟩ = some (.slice va x.vals.length vc) := hP.L.cell 7
      have HB : Hid (Below w.heap.size w wr) := hbw
      clear hP hbw HB1
      generalize hA1 : x.fees + x.pool + sumI x.bal = A1 at *
      have a0 : 0 ≤ A1 := by omega
      have a1 : A1 ≤ 6442450946000000 := by omega
      clear q1 q2
      go_wp2
      go_loopw [3, 37] (fun n i wr => ∃ k : Nat, k ≤ x.vals.length ∧ i = .int .i64 k ∧ n = .int .i64 (A1 + sumI ((x.vals.map (fun v => v.tokens + v.outs)).take k)) ∧ Below w.heap.size w wr) (fun _ i _ => x.vals.length - (intOf i).toNat)
      case atStart => exact ⟨0, Nat.zero_le _, rfl, by simp [sumI], HB.out⟩
      case round =>
        obtain ⟨k, hk, rfl, rfl, hbw⟩ := hrel
        obtain ⟨q1, q2⟩ := HB2.out k hk
        have hP := HP.out.below hbw
        by_cases hlt : k < x.vals.length
        · obtain ⟨gv, rfl, hcell, hfr⟩ := hP.val8 rfl hlt
          have y0 := hcell 0 (by omega)
          have y1 := hcell 1 (by omega)
          have y2 := hcell 2 (by omega)
          have y3 := hcell 3 (by omega)
          have y4 := hcell 4 (by omega)
          have y5 := hcell 5 (by omega)
          have y6 := hcell 6 (by omega)
          have y7 := hcell 7 (by omega)
          rw [Nat.add_zero] at y0
          have hvk := hvb2 x.vals[k] (List.getElem_mem hlt)
          have e1 : sumI ((x.vals.map (fun v => v.tokens + v.outs)).take (k + 1)) = sumI ((x.vals.map (fun v => v.tokens + v.outs)).take k) + (x.vals[k].tokens + x.vals[k].outs) := by rw [sumI_takeG _ k (by simpa using hlt)]; simp
          have HS : Hid (sumI ((x.vals.map (fun v => v.tokens + v.outs)).take (k + 1)) = sumI ((x.vals.map (fun v => v.tokens + v.outs)).take k) + (x.vals[k].tokens + x.vals[k].outs)) := e1
          have HBX : Hid (∀ o, Below w.heap.size w (wr.alloc o)) := fun o => hbw.alloc hbw.size o
          clear hP hbw e1 HP hcell hfr
          generalize x.vals[k] = vk at *
          obtain ⟨v1, v2, v3, v4, v5', v6, v7, v8⟩ := vk
          obtain ⟨t0, t1, _, _, o0, o1, _⟩ := hvk
          simp only [VS.cells, List.getElem?_cons_zero, List.getElem?_cons_succ] at y0 y1 y2 y3 y4 y5 y6 y7
          dsimp only at t0 t1 o0 o1 HS
          generalize hA : sumI ((x.vals.map (fun v => v.tokens + v.outs)).take k) = A at *
          go_wp2
          refine And.intro ?_ ?_
          · first | exact ⟨k + 1, by omega, by go_num, by rw [HS.out, Int.add_assoc], HBX.out _⟩ | ((repeat apply Exists.intro); exact ⟨⟨k + 1, by omega, by go_num, by rw [HS.out, Int.add_assoc], HBX.out _⟩, rfl⟩)
          · simp [intOf]; omega
        · have ek : k = x.vals.length := by omega
          subst ek
          rw [List.take_of_length_le (by simp)] at *
          have d73 : wr.cell? ⟨g, 73, none⟩ = some (.slice ea x.ents.length ec) := hP.evAt
          have HBY : Hid (Below w.heap.size w wr) := hbw
          clear hP hbw HB2 HB
          generalize hA2 : A1 + sumI (x.vals.map (fun v => v.tokens + v.outs)) = A2 at *
          have b0 : 0 ≤ A2 := by omega
          have b1 : A2 ≤ 6442450956000000 := by omega
          clear q1 q2
          go_wp2
          go_loopw [3, 54] (fun n i wr => ∃ k : Nat, k ≤ x.ents.length ∧ i = .int .i64 k ∧ n = .int .i64 (A2 + sumI ((x.ents.map (·.amount)).take k)) ∧ Below w.heap.size w wr) (fun _ i _ => x.ents.length - (intOf i).toNat)
          case atStart => exact ⟨0, Nat.zero_le _, rfl, by simp [sumI], HBY.out⟩
          case round =>
            obtain ⟨k, hk, rfl, rfl, hbw⟩ := hrel
            obtain ⟨q1, q2⟩ := HB3.out k hk
            have hP := HP.out.below hbw
            by_cases hlt : k < x.ents.length
            · obtain ⟨ge, rfl, hc⟩ := (Rd.of_owns hP.e).get (by omega)
              have y0 := hc _ _ (erow_at x.ents k hlt 0 (by omega))
              have y1 := hc _ _ (erow_at x.ents k hlt 1 (by omega))
              have y2 := hc _ _ (erow_at x.ents k hlt 2 (by omega))
              have y3 := hc _ _ (erow_at x.ents k hlt 3 (by omega))
              rw [Nat.add_zero] at y0
              obtain ⟨q3, q4⟩ := HB3.out (k + 1) hlt
              have e1 : sumI ((x.ents.map (·.amount)).take (k + 1)) = sumI ((x.ents.map (·.amount)).take k) + x.ents[k].amount := by rw [sumI_takeG _ k (by simpa using hlt)]; simp
              rw [e1] at q3 q4
              have HS : Hid (sumI ((x.ents.map (·.amount)).take (k + 1)) = sumI ((x.ents.map (·.amount)).take k) + x.ents[k].amount) := e1
              have HBX : Hid (∀ o, Below w.heap.size w (wr.alloc o)) := fun o => hbw.alloc hbw.size o
              clear hP hbw e1 HP hc
              generalize x.ents[k] = en at *
              obtain ⟨ew, evl, em, ea2⟩ := en
              dsimp only at y0 y1 y2 y3 HS q3 q4
              generalize hA : sumI ((x.ents.map (·.amount)).take k) = A at *
              go_wp2
              refine And.intro ?_ ?_
              · first | exact ⟨k + 1, by omega, by go_num, by rw [HS.out, Int.add_assoc], HBX.out _⟩ | ((repeat apply Exists.intro); exact ⟨⟨k + 1, by omega, by go_num, by rw [HS.out, Int.add_assoc], HBX.out _⟩, rfl⟩)
              · simp [intOf]; omega
            · have ek : k = x.ents.length := by omega
              subst ek
              rw [List.take_of_length_le (by simp)] at *
              have HBZ : Hid (Below w.heap.size w wr) := hbw
              have HT2 : Hid (A2 + sumI (x.ents.map (·.amount)) = x.tot) := by
                show A2 + sumI (x.ents.map (·.amount)) = x.tot
                rw [HT.out, ← hA2, ← hA1]
              clear hP hbw HT hA2 hA1
              go_wp2
              go_ret
              exact ⟨ret_int HT2.out, HBZ.out⟩
end
end Go.Proofs.YtohjjgefklhmaabGreatDoor

namespace Go.Proofs.YtohjjgefklhmaabGreatDoor
open Go.ChangeShapes Go.WideShapes Go.ChangeAt Go.RowKit
set_option linter.unusedVariables false

section
variable {S : Nat → Prop} {W0 : World} (g : Nat) (x : EC) (bv vv ev : Value) (w : World) (h : PE S W0 w g x bv vv ev) (wb : WBd x)
include h wb

set_option maxHeartbeats 4000000 in
set_option maxRecDepth 100000 in
theorem csetSize : Calls Tryz.prog 81 #[.pointer (some ⟨g, 0, none⟩)] w fun e w' => e = .returned (.int .i64 (sumV inI x.vals)) ∧ Below w.heap.size w w' := by
  have v5 := wb.v5
  have HB2 : Hid (∀ k, k ≤ x.vals.length → 0 ≤ sumI ((x.vals.map inI).take k) ∧ sumI ((x.vals.map inI).take k) ≤ 1 * k) := fun k hk => sumI_take_bd _ 1 (fun n hn => by
    obtain ⟨v, hv, rfl⟩ := List.mem_map.1 hn
    have := inI_bd v; omega) k (by simpa using hk)
  obtain ⟨va, vc, rfl⟩ := ownsRow_slice h.v
  have c7 : w.cell? ⟨g, 7, none⟩ = some (.slice va x.vals.length vc) := h.L.cell 7
  have HP : Hid (PE S W0 w g x bv (.slice va x.vals.length vc) ev) := h
  clear h wb
  go_enter Tryz.func81, Tryz.ntmps81
  go_wp2
  go_loopw [3, 11] (fun n i wr => ∃ k : Nat, k ≤ x.vals.length ∧ i = .int .i64 k ∧ n = .int .i64 (sumI ((x.vals.map inI).take k)) ∧ Below w.heap.size w wr) (fun _ i _ => x.vals.length - (intOf i).toNat)
  case atStart => exact ⟨0, Nat.zero_le _, rfl, by simp [sumI], Below.refl _ _⟩
  case round =>
    obtain ⟨k, hk, rfl, rfl, hbw⟩ := hrel
    obtain ⟨q1, q2⟩ := HB2.out k hk
    have hP := HP.out.below hbw
    by_cases hlt : k < x.vals.length
    · obtain ⟨gv, rfl, hcell, hfr⟩ := hP.val8 rfl hlt
      have y0 := hcell 0 (by omega)
      have y1 := hcell 1 (by omega)
      have y2 := hcell 2 (by omega)
      have y3 := hcell 3 (by omega)
      have y4 := hcell 4 (by omega)
      have y5 := hcell 5 (by omega)
      have y6 := hcell 6 (by omega)
      have y7 := hcell 7 (by omega)
      rw [Nat.add_zero] at y0
      have e1 : sumI ((x.vals.map inI).take (k + 1)) = sumI ((x.vals.map inI).take k) + inI x.vals[k] := by rw [sumI_takeG _ k (by simpa using hlt)]; simp
      have HS : Hid (sumI ((x.vals.map inI).take (k + 1)) = sumI ((x.vals.map inI).take k) + inI x.vals[k]) := e1
      have HBX : Hid (∀ o, Below w.heap.size w (wr.alloc o)) := fun o => hbw.alloc hbw.size o
      clear hP hbw e1 HP hcell hfr
      generalize x.vals[k] = vk at *
      obtain ⟨v1, v2, v3, v4, v5', v6, v7, v8⟩ := vk
      simp only [VS.cells, List.getElem?_cons_zero, List.getElem?_cons_succ] at y0 y1 y2 y3 y4 y5 y6 y7
      generalize hA : sumI ((x.vals.map inI).take k) = A at *
      cases v8
      · have HS2 : Hid (sumI ((x.vals.map inI).take (k + 1)) = A) := by rw [HS.out]; show A + 0 = A; omega
        clear HS
        go_wp2
        refine And.intro ?_ ?_
        · first | exact ⟨k + 1, by omega, by go_num, by rw [HS2.out], HBX.out _⟩ | ((repeat apply Exists.intro); exact ⟨⟨k + 1, by omega, by go_num, by rw [HS2.out], HBX.out _⟩, rfl⟩)
        · simp [intOf]; omega
      · have HS2 : Hid (sumI ((x.vals.map inI).take (k + 1)) = A + 1) := by rw [HS.out]; rfl
        clear HS
        go_wp2
        refine And.intro ?_ ?_
        · first | exact ⟨k + 1, by omega, by go_num, by rw [HS2.out], HBX.out _⟩ | ((repeat apply Exists.intro); exact ⟨⟨k + 1, by omega, by go_num, by rw [HS2.out], HBX.out _⟩, rfl⟩)
        · simp [intOf]; omega
    · have ek : k = x.vals.length := by omega
      subst ek
      rw [List.take_of_length_le (by simp)] at *
      have HBY : Hid (Below w.heap.size w wr) := hbw
      clear hP hbw HB2
      go_wp2
      go_ret
      exact ⟨rfl, HBY.out⟩

/-- the parts of a token that are due, of the first k accounts -/
def owedN (x : EC) (j k : Nat) : Int := sumN (fun r => x.sh r j * (x.per j - x.upto r j)) k

set_option maxHeartbeats 4000000 in
set_option maxRecDepth 100000 in
theorem ccovers (j : Nat) (hj : j < x.vals.length) (hco : (x.val j).comm ≤ (x.val j).outs) :
    Calls Tryz.prog 96 #[.pointer (some ⟨g, 0, none⟩), .int .i64 j] w fun e w' => e = .returned (.bool (decide (owedN x j x.bal.length ≤ ((x.val j).outs - (x.val j).comm) * 1073741824))) ∧ Below w.heap.size w w' := by
  have b6 := wb.b6
  have v5 := wb.v5
  have hvk := wb.vb (x.val j) (by rw [← EC.val_eq x hj]; exact List.getElem_mem hj)
  have htm : ∀ r, r < 6 → 0 ≤ x.sh r j * (x.per j - x.upto r j) := fun r hr => Int.mul_nonneg (wb.db.s0 r j hr (by omega)).1 (by have := wb.hu r j hr (by omega); omega)
  have HM : Hid (∀ k n, k ≤ n → n ≤ 6 → owedN x j k ≤ owedN x j n) := fun k n hk hn => by
    have := sumN_mono (f := fun r => x.sh r j * (x.per j - x.upto r j)) k (n - k) (fun i h1 h2 => htm i (by omega))
    rw [show k + (n - k) = n by omega] at this
    exact this
  have HNN : Hid (∀ k, k ≤ 6 → 0 ≤ owedN x j k) := fun k hk => by have := HM.out 0 k (by omega) hk; simpa [owedN, sumN] using this
  have HST : Hid (∀ k, owedN x j (k + 1) = owedN x j k + x.sh k j * (x.per j - x.upto k j)) := fun k => rfl
  obtain ⟨ba, bc, rfl⟩ := ownsRow_slice h.b
  obtain ⟨va, vc, rfl⟩ := ownsRow_slice h.v
  obtain ⟨gv, hgv, hcell, hfr⟩ := h.val8 rfl hj
  subst hgv
  have y4 : w.cell? ⟨gv, j * 8 + 4, none⟩ = some (.int .i64 (x.val j).comm) := by have := hcell 4 (by omega); rw [EC.val_eq x hj] at this; exact this
  have y5 : w.cell? ⟨gv, j * 8 + 5, none⟩ = some (.int .i64 (x.val j).outs) := by have := hcell 5 (by omega); rw [EC.val_eq x hj] at this; exact this
  have c7 : w.cell? ⟨g, 7, none⟩ = some (.slice (some ⟨gv, 0, none⟩) x.vals.length vc) := h.L.cell 7
  have c4 : w.cell? ⟨g, 4, none⟩ = some (.slice ba x.bal.length bc) := h.L.cell 4
  have HP : Hid (PE S W0 w g x (.slice ba x.bal.length bc) (.slice (some ⟨gv, 0, none⟩) x.vals.length vc) ev) := h
  have HDB : Hid (DB x) := wb.db
  have HU : Hid (∀ k j, k < 6 → j < 5 → -1073741824000000 ≤ x.upto k j ∧ x.upto k j ≤ x.per j ∧ x.per j ≤ 4611686018427387904) := wb.hu
  obtain ⟨_, _, k0, k1, o0, o1, _⟩ := hvk
  obtain ⟨L, hL⟩ : ∃ L, L = ((x.val j).outs - (x.val j).comm) * 1073741824 := ⟨_, rfl⟩
  rw [← hL]
  have l0 : 0 ≤ L := by rw [hL]; omega
  have l1 : L ≤ 1073741824000000 := by rw [hL]; omega
  have HLL : Hid (L = ((x.val j).outs - (x.val j).comm) * 1073741824) := hL
  clear h wb htm hcell hfr hL
  generalize (x.val j).comm = cm at *
  generalize (x.val j).outs = ot at *
  go_enter Tryz.func96, Tryz.ntmps96
  go_wp2
  go_region
  rw [← HLL.out]
  go_wp2
  go_loopw [5, 32] (fun n i wr => ∃ k : Nat, k ≤ x.bal.length ∧ i = .int .i64 k ∧ n = .int .i64 (L - owedN x j k) ∧ owedN x j k ≤ L ∧ Below w.heap.size w wr) (fun _ i _ => x.bal.length - (intOf i).toNat)
  case atStart => exact ⟨0, Nat.zero_le _, rfl, by simp [owedN, sumN], by simpa [owedN, sumN] using l0, (Below.refl _ _).drew⟩
  case round =>
    obtain ⟨k, hk, rfl, rfl, hle, hbw⟩ := hrel
    have q0 := HNN.out k (by omega)
    have hP := HP.out.below hbw
    by_cases hlt : k < x.bal.length
    · have cs := hP.shAt (k := k) (j := j) (by omega) (by omega)
      have hs := HDB.out.s0 k j (by omega) (by omega)
      have hu := HU.out k j (by omega) (by omega)
      have hst := HST.out k
      have HPN : Hid (Calls Tryz.prog 74 #[.pointer (some ⟨g, 0, none⟩), .int .i64 k, .int .i64 j] wr fun e w'' => e = .returned (.int .i64 (x.per j - x.upto k j)) ∧ w'' = wr.drew) := epending g x _ _ _ wr hP k j (by omega) (by omega) hu.1 hu.2.1 hu.2.2
      have HB : Hid (Below w.heap.size w wr) := hbw
      have hpd : 0 < x.sh k j → 0 ≤ x.per j - x.upto k j ∧ x.per j - x.upto k j ≤ 1073741824000000 := fun h0 => HDB.out.p0 k j (by omega) (by omega) h0
      clear hP hbw
      by_cases h0 : 0 < x.sh k j
      · have hpb := hpd h0
        clear hpd hu
        obtain ⟨lf, hlf⟩ : ∃ lf, lf = L - owedN x j k := ⟨_, rfl⟩
        have f0 : 0 ≤ lf := by omega
        have f1 : lf ≤ 1073741824000000 := by omega
        rw [← hlf]
        by_cases hc : x.sh k j * (x.per j - x.upto k j) ≤ lf
        · have hq : x.per j - x.upto k j ≤ lf / x.sh k j := (Int.le_ediv_iff_mul_le h0).2 (by rw [Int.mul_comm]; exact hc)
          have hm0 : 0 ≤ x.sh k j * (x.per j - x.upto k j) := Int.mul_nonneg (by omega) (by omega)
          have HF1 : Hid (lf - x.sh k j * (x.per j - x.upto k j) = L - owedN x j (k + 1)) := by show _ = _; rw [hst, hlf]; omega
          have HF2 : Hid (owedN x j (k + 1) ≤ L) := by show owedN x j (k + 1) ≤ L; rw [hst]; omega
          have ht : lf.tdiv (x.sh k j) = lf / x.sh k j := Int.tdiv_eq_ediv_of_nonneg f0
          have qb0 : 0 ≤ lf / x.sh k j := Int.ediv_nonneg f0 (by omega)
          have qb1 : lf / x.sh k j ≤ lf := Int.ediv_le_self _ f0
          clear hst hlf hle q0
          generalize x.per j - x.upto k j = pv at *
          generalize x.sh k j = sv at *
          generalize hmul : sv * pv = mv at *
          generalize hqv : lf / sv = qv at *
          have qb2 : qv ≤ 1073741824000000 := by omega
          have hq0 : ¬ qv < pv := by omega
          have hsv : ¬ sv = 0 := by omega
          go_wp2_with fail
          refine HPN.out.mono ?_
          rintro e w' ⟨rfl, rfl⟩
          go_wp2
          refine And.intro ?_ ?_
          · first | exact ⟨k + 1, by omega, by go_num, by rw [HF1.out], HF2.out, HB.out.drew⟩ | ((repeat apply Exists.intro); exact ⟨⟨k + 1, by omega, by go_num, by rw [HF1.out], HF2.out, HB.out.drew⟩, rfl⟩)
          · simp [intOf]; omega
        · have hq : lf / x.sh k j < x.per j - x.upto k j := by
            have h2 : ¬ (x.per j - x.upto k j ≤ lf / x.sh k j) := fun h3 => hc (by have := (Int.le_ediv_iff_mul_le h0).1 h3; rw [Int.mul_comm]; exact this)
            omega
          have ht : lf.tdiv (x.sh k j) = lf / x.sh k j := Int.tdiv_eq_ediv_of_nonneg f0
          have qb0 : 0 ≤ lf / x.sh k j := Int.ediv_nonneg f0 (by omega)
          have qb1 : lf / x.sh k j ≤ lf := Int.ediv_le_self _ f0
          have HD : Hid (decide (owedN x j x.bal.length ≤ L) = false) := by
            refine decide_eq_false (fun h3 => ?_)
            have := HM.out (k + 1) x.bal.length (by omega) (by omega)
            rw [hst] at this
            omega
          clear hst hlf hle q0 hc
          generalize x.per j - x.upto k j = pv at *
          generalize x.sh k j = sv at *
          generalize hqv : lf / sv = qv at *
          have qb2 : qv ≤ 1073741824000000 := by omega
          have hsv : ¬ sv = 0 := by omega
          go_wp2_with fail
          refine HPN.out.mono ?_
          rintro e w' ⟨rfl, rfl⟩
          go_wp2
          go_ret
          rw [HD.out]
          exact ⟨rfl, HB.out.drew⟩
      · have e0 : x.sh k j = 0 := by omega
        have HF1 : Hid (L - owedN x j k = L - owedN x j (k + 1)) := by show _ = _; rw [hst, e0, Int.zero_mul, Int.add_zero]
        have HF2 : Hid (owedN x j (k + 1) ≤ L) := by show owedN x j (k + 1) ≤ L; rw [hst, e0, Int.zero_mul, Int.add_zero]; exact hle
        rw [e0] at cs
        clear hst hpd hu HPN h0 e0 hs
        generalize L - owedN x j k = lf at *
        go_wp2
        refine And.intro ?_ ?_
        · first | exact ⟨k + 1, by omega, by go_num, by rw [HF1.out], HF2.out, HB.out⟩ | ((repeat apply Exists.intro); exact ⟨⟨k + 1, by omega, by go_num, by rw [HF1.out], HF2.out, HB.out⟩, rfl⟩)
        · simp [intOf]; omega
    · have ek : k = x.bal.length := by omega
      subst ek
      have HD : Hid (decide (owedN x j x.bal.length ≤ L) = true) := decide_eq_true hle
      have HB : Hid (Below w.heap.size w wr) := hbw
      clear hP hbw hle
      go_wp2
      go_ret
      rw [HD.out]
      exact ⟨rfl, HB.out⟩
end
end Go.Proofs.YtohjjgefklhmaabGreatDoor
