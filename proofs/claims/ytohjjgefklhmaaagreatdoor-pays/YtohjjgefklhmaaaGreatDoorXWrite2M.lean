import Derived.Test.YtohjjgefklhmaaaGreatDoorXAddM
import Derived.Laws.IdiomStrings
namespace Go.Proofs.YtohjjgefklhmaaaGreatDoor
open Go.ChangeShapes Go.WideShapes Go.ChangeAt Go.RowKit
set_option linter.unusedVariables false

set_option maxHeartbeats 2000000 in
set_option maxRecDepth 100000 in
theorem wstand (v : VS) (w : World) : Calls Tryz.prog 87 #[v.agg] w fun e w' => e = .returned (.int .i64 (standI v)) ∧ Below w.heap.size w w' := by
  obtain ⟨v1, v2, v3, v4, v5, v6, j, i⟩ := v
  have HB : Hid (∀ o, Below w.heap.size w (w.alloc o)) := fun o => (Below.refl _ _).alloc (Nat.le_refl _) o
  unfold VS.agg
  cases j with
  | true =>
    have HS : Hid (standI ⟨v1, v2, v3, v4, v5, v6, true, i⟩ = 2) := rfl
    go_enter Tryz.func87, Tryz.ntmps87
    go_wp2
    go_ret
    exact ⟨ret_int HS.out.symm, HB.out _⟩
  | false =>
    cases i with
    | true =>
      have HS : Hid (standI ⟨v1, v2, v3, v4, v5, v6, false, true⟩ = 1) := rfl
      go_enter Tryz.func87, Tryz.ntmps87
      go_wp2
      go_ret
      exact ⟨ret_int HS.out.symm, HB.out _⟩
    | false =>
      have HS : Hid (standI ⟨v1, v2, v3, v4, v5, v6, false, false⟩ = 0) := rfl
      go_enter Tryz.func87, Tryz.ntmps87
      go_wp2
      go_ret
      exact ⟨ret_int HS.out.symm, HB.out _⟩

section
variable {S : Nat → Prop} {Wb W0 : World} (g : Nat) (x : EC) (bv vv ev : Value) (h : PE S Wb W0 g x bv vv ev) (B : Nat) (hI : ItoaOk B W0) (hB : B ≤ W0.heap.size) (gw : Nat)
include h hI hB

set_option maxHeartbeats 2000000 in
set_option maxRecDepth 100000 in
theorem wvals (w : World) (ns : List Int) (hw : WS W0 w gw ns) (hl : ns.length ≤ 5000) (v5 : x.vals.length ≤ 5) (hb : ∀ v, v ∈ x.vals → VB0 v) :
    Calls Tryz.prog 39 #[.pointer (some ⟨g, 0, none⟩), .pointer (some ⟨gw, 0, none⟩)] w fun e w' => e = .returned (.tuple #[]) ∧ WS W0 w' gw (ns ++ x.vals.flatMap valNs) := by
  have HA : Hid (∀ (w : World) (ns : List Int) (n : Int), WS W0 w gw ns → 0 ≤ n → n ≤ 1073741824000000 → ns.length ≤ 10000 → Calls Tryz.prog 86 #[.pointer (some ⟨gw, 0, none⟩), .int .i64 n] w fun e w' => e = .returned (.tuple #[]) ∧ WS W0 w' gw (ns ++ [n]) ∧ KT w w') := fun w ns n a b c d => ws_add a hI hB n b c d
  obtain ⟨va, vc, rfl⟩ := ownsRow_slice h.v
  have HP : Hid (PE S Wb W0 g x bv (.slice va x.vals.length vc) ev) := h
  have c7 : w.cell? ⟨g, 7, none⟩ = some (.slice va x.vals.length vc) := (h.below hw.fr).L.cell 7
  have HW : Hid (WS W0 w gw ns) := hw
  have HL : Hid (∀ k, k ≤ x.vals.length → (ns ++ (x.vals.take k).flatMap valNs).length ≤ 5020) := fun k hk => by
    have h1 := flat_len valNs 4 (x.vals.take k) (fun _ => rfl)
    rw [List.length_append, h1, List.length_take]; omega
  clear h hI hw
  go_enter Tryz.func39, Tryz.ntmps39
  go_wp2
  go_loopw [11] (fun i wr => ∃ k : Nat, k ≤ x.vals.length ∧ i = .int .i64 k ∧ WS W0 wr gw (ns ++ (x.vals.take k).flatMap valNs)) (fun i _ => x.vals.length - (intOf i).toNat)
  case atStart => exact ⟨0, Nat.zero_le _, rfl, by rw [List.take_zero, List.flatMap_nil, List.append_nil]; exact HW.out⟩
  case round =>
    obtain ⟨k, hk, rfl, hwr⟩ := hrel
    have hP := HP.out.below hwr.fr
    by_cases hlt : k < x.vals.length
    · obtain ⟨gv, rfl, hcell, hfr⟩ := hP.val8 rfl hlt
      have y0 := hcell 0 (by omega)
      have y1 := hcell 1 (by omega)
      have y2 := hcell 2 (by omega)
      have y3 := hcell 3 (by omega)
      have y4 := hcell 4 (by omega)
      have y5 := hcell 5 (by omega)
      have y6 := hcell 6 (by omega)
      have y7 := hcell 7 (by omega)
      rw [Nat.add_zero] at y0
      have hbk := hb x.vals[k] (List.getElem_mem hlt)
      have hst := standI_bd x.vals[k]
      have ht0 : (x.vals.take (k + 1)).flatMap valNs = (x.vals.take k).flatMap valNs ++ valNs x.vals[k] := by rw [List.take_succ_eq_append_getElem hlt, List.flatMap_append]; simp
      have HT : Hid ((x.vals.take (k + 1)).flatMap valNs = (x.vals.take k).flatMap valNs ++ valNs x.vals[k]) := ht0
      have hl1 := HL.out k hk
      have HWR : Hid (∀ o, WS W0 (wr.alloc o) gw (ns ++ (x.vals.take k).flatMap valNs)) := fun o => hwr.alloc o
      have HS : Hid (∀ w', Calls Tryz.prog 87 #[x.vals[k].agg] w' fun e w'' => e = .returned (.int .i64 (standI x.vals[k])) ∧ Below w'.heap.size w' w'') := fun w' => wstand x.vals[k] w'
      have HV : Hid (Has (wr.alloc (.cells x.vals[k].cells.toArray 122)) wr.heap.size 122 x.vals[k].cells) := Has.new _ _ _
      clear hP hwr HP ht0 hcell hfr HL HW
      generalize x.vals[k] = vk at *
      generalize (x.vals.take k).flatMap valNs = A at *
      obtain ⟨v1, v2, v3, v4, v5', v6, v7, v8⟩ := vk
      obtain ⟨t0, t1, k0, k1, o0, o1, _⟩ := hbk
      simp only [VS.cells, List.getElem?_cons_zero, List.getElem?_cons_succ] at y0 y1 y2 y3 y4 y5 y6 y7
      dsimp only at t0 t1 k0 k1 o0 o1
      unfold VS.agg at HS
      generalize hsd : standI ⟨v1, v2, v3, v4, v5', v6, v7, v8⟩ = sd at *
      simp only [valNs, hsd] at HT
      clear hsd
      go_wp2_with fail
      refine (HA.out _ _ _ (HWR.out _) t0 (by omega) (by omega)).mono ?_
      rintro e w5 ⟨rfl, hw5, hk5⟩
      have hv5 := hk5 _ _ _ HV.out (by decide) (by decide)
      have z4 : w5.cell? ⟨wr.heap.size, 4, none⟩ = some (.int .i64 v5') := hv5.cell 4
      have HV5 : Hid (Has w5 wr.heap.size 122 _) := hv5
      have HW5 : Hid (WS W0 w5 gw (ns ++ A ++ [v3])) := hw5
      clear hw5 hk5 hv5 HWR HV
      go_wp2_with fail
      refine (HA.out _ _ _ HW5.out k0 (by omega) (by simp only [List.length_append, List.length_singleton] at hl1 ⊢; omega)).mono ?_
      rintro e w6 ⟨rfl, hw6, hk6⟩
      have hv6 := hk6 _ _ _ HV5.out (by decide) (by decide)
      have z5 : w6.cell? ⟨wr.heap.size, 5, none⟩ = some (.int .i64 v6) := hv6.cell 5
      have HV6 : Hid (Has w6 wr.heap.size 122 _) := hv6
      have HW6 : Hid (WS W0 w6 gw (ns ++ A ++ [v3] ++ [v5'])) := hw6
      clear hw6 hk6 hv6 HW5 HV5 z4
      go_wp2_with fail
      refine (HA.out _ _ _ HW6.out o0 (by omega) (by simp only [List.length_append, List.length_singleton] at hl1 ⊢; omega)).mono ?_
      rintro e w7 ⟨rfl, hw7, hk7⟩
      have hv7 := hk7 _ _ _ HV6.out (by decide) (by decide)
      have q0 : w7.cell? ⟨wr.heap.size, 0, none⟩ = some (.int .i64 v1) := hv7.cell 0
      have q1 : w7.cell? ⟨wr.heap.size, 1, none⟩ = some (.int .i64 v2) := hv7.cell 1
      have q2 : w7.cell? ⟨wr.heap.size, 2, none⟩ = some (.int .i64 v3) := hv7.cell 2
      have q3 : w7.cell? ⟨wr.heap.size, 3, none⟩ = some (.int .i64 v4) := hv7.cell 3
      have q4 : w7.cell? ⟨wr.heap.size, 4, none⟩ = some (.int .i64 v5') := hv7.cell 4
      have q5 : w7.cell? ⟨wr.heap.size, 5, none⟩ = some (.int .i64 v6) := hv7.cell 5
      have q6 : w7.cell? ⟨wr.heap.size, 6, none⟩ = some (.bool v7) := hv7.cell 6
      have q7 : w7.cell? ⟨wr.heap.size, 7, none⟩ = some (.bool v8) := hv7.cell 7
      have HW7 : Hid (WS W0 w7 gw (ns ++ A ++ [v3] ++ [v5'] ++ [v6])) := hw7
      clear hw7 hk7 hv7 HW6 HV6 z5
      go_wp2_with fail
      refine (HS.out _).mono ?_
      rintro e w8 ⟨rfl, hb8⟩
      have HW8 : Hid (WS W0 w8 gw (ns ++ A ++ [v3] ++ [v5'] ++ [v6])) := HW7.out.below hb8
      clear hb8 HW7
      go_wp2_with fail
      refine (HA.out _ _ _ HW8.out hst.1 (by omega) (by simp only [List.length_append, List.length_singleton] at hl1 ⊢; omega)).mono ?_
      rintro e w9 ⟨rfl, hw9, _⟩
      simp only [List.append_assoc, List.cons_append, List.nil_append] at hw9
      rw [← HT.out] at hw9
      have HW9 : Hid (WS W0 w9 gw (ns ++ (x.vals.take (k + 1)).flatMap valNs)) := hw9
      clear hw9 HW8 HT
      go_wp2
      refine And.intro ?_ ?_
      · first | exact ⟨k + 1, by omega, by go_num, HW9.out⟩ | ((repeat apply Exists.intro); exact ⟨⟨k + 1, by omega, by go_num, HW9.out⟩, rfl⟩)
      · simp [intOf]; omega
    · rw [List.take_of_length_le (by omega)] at hwr
      have HWR : Hid (WS W0 wr gw (ns ++ x.vals.flatMap valNs)) := hwr
      clear hP hwr
      go_wp2
      go_end0
      exact ⟨rfl, HWR.out⟩

set_option maxHeartbeats 2000000 in
set_option maxRecDepth 100000 in
theorem wents (w : World) (ns : List Int) (hw : WS W0 w gw ns) (hl : ns.length ≤ 5000) (el : x.ents.length ≤ 1000) (hb : ∀ e, e ∈ x.ents → NB (entNs e)) :
    Calls Tryz.prog 41 #[.pointer (some ⟨g, 0, none⟩), .pointer (some ⟨gw, 0, none⟩)] w fun e w' => e = .returned (.tuple #[]) ∧ WS W0 w' gw (ns ++ [(x.ents.length : Int)] ++ x.ents.flatMap entNs) := by
  have HA : Hid (∀ (w : World) (ns : List Int) (n : Int), WS W0 w gw ns → 0 ≤ n → n ≤ 1073741824000000 → ns.length ≤ 10000 → Calls Tryz.prog 86 #[.pointer (some ⟨gw, 0, none⟩), .int .i64 n] w fun e w' => e = .returned (.tuple #[]) ∧ WS W0 w' gw (ns ++ [n]) ∧ KT w w') := fun w ns n a b c d => ws_add a hI hB n b c d
  obtain ⟨ea, ec, rfl⟩ := ownsRow_slice h.e
  have HP : Hid (PE S Wb W0 g x bv vv (.slice ea x.ents.length ec)) := h
  have c73 : w.cell? ⟨g, 73, none⟩ = some (.slice ea x.ents.length ec) := (h.below hw.fr).evAt
  have HW : Hid (WS W0 w gw ns) := hw
  have HL : Hid (∀ k, k ≤ x.ents.length → (ns ++ [(x.ents.length : Int)] ++ (x.ents.take k).flatMap entNs).length ≤ 9001) := fun k hk => by
    have h1 := flat_len entNs 4 (x.ents.take k) (fun _ => rfl)
    rw [List.length_append, h1, List.length_take, List.length_append, List.length_singleton]; omega
  clear h hI hw
  go_enter Tryz.func41, Tryz.ntmps41
  go_wp2_with fail
  refine (HA.out _ ns x.ents.length HW.out (by omega) (by omega) (by omega)).mono ?_
  rintro e w1 ⟨rfl, hw1, _⟩
  have d73 : w1.cell? ⟨g, 73, none⟩ = some (.slice ea x.ents.length ec) := (HP.out.below hw1.fr).evAt
  have HW1 : Hid (WS W0 w1 gw (ns ++ [(x.ents.length : Int)])) := hw1
  clear hw1 HW c73
  go_wp2
  go_loopw [18] (fun i wr => ∃ k : Nat, k ≤ x.ents.length ∧ i = .int .i64 k ∧ WS W0 wr gw (ns ++ [(x.ents.length : Int)] ++ (x.ents.take k).flatMap entNs)) (fun i _ => x.ents.length - (intOf i).toNat)
  case atStart => exact ⟨0, Nat.zero_le _, rfl, by rw [List.take_zero, List.flatMap_nil, List.append_nil]; exact HW1.out⟩
  case round =>
    obtain ⟨k, hk, rfl, hwr⟩ := hrel
    have hP := HP.out.below hwr.fr
    by_cases hlt : k < x.ents.length
    · obtain ⟨ge, rfl, hc⟩ := (Rd.of_owns hP.e).get (by omega)
      have y0 := hc _ _ (erow_at x.ents k hlt 0 (by omega))
      have y1 := hc _ _ (erow_at x.ents k hlt 1 (by omega))
      have y2 := hc _ _ (erow_at x.ents k hlt 2 (by omega))
      have y3 := hc _ _ (erow_at x.ents k hlt 3 (by omega))
      rw [Nat.add_zero] at y0
      have hbk := hb x.ents[k] (List.getElem_mem hlt)
      have ht0 : (x.ents.take (k + 1)).flatMap entNs = (x.ents.take k).flatMap entNs ++ entNs x.ents[k] := by rw [List.take_succ_eq_append_getElem hlt, List.flatMap_append]; simp
      have HT : Hid ((x.ents.take (k + 1)).flatMap entNs = (x.ents.take k).flatMap entNs ++ entNs x.ents[k]) := ht0
      have hl1 := HL.out k hk
      have HWR : Hid (∀ o, WS W0 (wr.alloc o) gw (ns ++ [(x.ents.length : Int)] ++ (x.ents.take k).flatMap entNs)) := fun o => hwr.alloc o
      have HV : Hid (Has (wr.alloc (.cells x.ents[k].cells.toArray 125)) wr.heap.size 125 x.ents[k].cells) := Has.new _ _ _
      clear hP hwr HP ht0 hc HL HW1
      generalize x.ents[k] = en at *
      generalize (x.ents.take k).flatMap entNs = A at *
      obtain ⟨ew, evl, em, ea2⟩ := en
      have b1 := hbk ew (by simp [entNs])
      have b2 := hbk evl (by simp [entNs])
      have b3 := hbk em (by simp [entNs])
      have b4 := hbk ea2 (by simp [entNs])
      simp only [List.length_append, List.length_singleton] at hl1
      dsimp only at y0 y1 y2 y3
      simp only [entNs] at HT
      clear hbk
      go_wp2_with fail
      refine (HA.out _ _ _ (HWR.out _) b1.1 b1.2 (by simp only [List.length_append, List.length_singleton]; omega)).mono ?_
      rintro e w5 ⟨rfl, hw5, hk5⟩
      have hv5 := hk5 _ _ _ HV.out (by decide) (by decide)
      have z1 : w5.cell? ⟨wr.heap.size, 1, none⟩ = some (.int .i64 evl) := hv5.cell 1
      have HV5 : Hid (Has w5 wr.heap.size 125 _) := hv5
      have HW5 : Hid (WS W0 w5 gw (ns ++ [(x.ents.length : Int)] ++ A ++ [ew])) := hw5
      clear hw5 hk5 hv5 HWR HV
      go_wp2_with fail
      refine (HA.out _ _ _ HW5.out b2.1 b2.2 (by simp only [List.length_append, List.length_singleton]; omega)).mono ?_
      rintro e w6 ⟨rfl, hw6, hk6⟩
      have hv6 := hk6 _ _ _ HV5.out (by decide) (by decide)
      have z2 : w6.cell? ⟨wr.heap.size, 2, none⟩ = some (.int .i64 em) := hv6.cell 2
      have HV6 : Hid (Has w6 wr.heap.size 125 _) := hv6
      have HW6 : Hid (WS W0 w6 gw (ns ++ [(x.ents.length : Int)] ++ A ++ [ew] ++ [evl])) := hw6
      clear hw6 hk6 hv6 HW5 HV5 z1
      go_wp2_with fail
      refine (HA.out _ _ _ HW6.out b3.1 b3.2 (by simp only [List.length_append, List.length_singleton]; omega)).mono ?_
      rintro e w7 ⟨rfl, hw7, hk7⟩
      have hv7 := hk7 _ _ _ HV6.out (by decide) (by decide)
      have z3 : w7.cell? ⟨wr.heap.size, 3, none⟩ = some (.int .i64 ea2) := hv7.cell 3
      have HW7 : Hid (WS W0 w7 gw (ns ++ [(x.ents.length : Int)] ++ A ++ [ew] ++ [evl] ++ [em])) := hw7
      clear hw7 hk7 hv7 HW6 HV6 z2
      go_wp2_with fail
      refine (HA.out _ _ _ HW7.out b4.1 b4.2 (by simp only [List.length_append, List.length_singleton]; omega)).mono ?_
      rintro e w9 ⟨rfl, hw9, _⟩
      have e9 : ns ++ [(x.ents.length : Int)] ++ A ++ [ew] ++ [evl] ++ [em] ++ [ea2] = ns ++ [(x.ents.length : Int)] ++ (x.ents.take (k + 1)).flatMap entNs := by rw [HT.out]; simp
      rw [e9] at hw9
      have HW9 : Hid (WS W0 w9 gw (ns ++ [(x.ents.length : Int)] ++ (x.ents.take (k + 1)).flatMap entNs)) := hw9
      clear hw9 HW7 HT e9
      go_wp2
      refine And.intro ?_ ?_
      · first | exact ⟨k + 1, by omega, by go_num, HW9.out⟩ | ((repeat apply Exists.intro); exact ⟨⟨k + 1, by omega, by go_num, HW9.out⟩, rfl⟩)
      · simp [intOf]; omega
    · rw [List.take_of_length_le (by omega)] at hwr
      have HWR : Hid (WS W0 wr gw (ns ++ [(x.ents.length : Int)] ++ x.ents.flatMap entNs)) := hwr
      clear hP hwr
      go_wp2
      go_end0
      exact ⟨rfl, HWR.out⟩
end
end Go.Proofs.YtohjjgefklhmaaaGreatDoor

namespace Go.Proofs.YtohjjgefklhmaaaGreatDoor
open Go.ChangeShapes Go.WideShapes Go.ChangeAt Go.RowKit
set_option linter.unusedVariables false

section
variable {S : Nat → Prop} {Wb W0 : World} (g : Nat) (x : EC) (bv vv ev : Value) (h : PE S Wb W0 g x bv vv ev) (B : Nat) (hI : ItoaOk B W0) (hB : B ≤ W0.heap.size) (gw : Nat)
include h hI hB

set_option maxHeartbeats 2000000 in
set_option maxRecDepth 100000 in
theorem wdels (w : World) (ns : List Int) (hw : WS W0 w gw ns) (hl : ns.length ≤ 5000) (b6 : x.bal.length ≤ 6) (v5 : x.vals.length ≤ 5) (hb : DB x) (hu : ∀ k j, k < 6 → j < 5 → -1073741824000000 ≤ x.upto k j ∧ x.upto k j ≤ x.per j ∧ x.per j ≤ 4611686018427387904) :
    Calls Tryz.prog 40 #[.pointer (some ⟨g, 0, none⟩), .pointer (some ⟨gw, 0, none⟩)] w fun e w' => e = .returned (.tuple #[]) ∧ WS W0 w' gw (ns ++ delA x x.bal.length) := by
  have HA : Hid (∀ (w : World) (ns : List Int) (n : Int), WS W0 w gw ns → 0 ≤ n → n ≤ 1073741824000000 → ns.length ≤ 10000 → Calls Tryz.prog 86 #[.pointer (some ⟨gw, 0, none⟩), .int .i64 n] w fun e w' => e = .returned (.tuple #[]) ∧ WS W0 w' gw (ns ++ [n])) := fun w ns n a b c d => (ws_add a hI hB n b c d).mono (fun _ _ h => ⟨h.1, h.2.1⟩)
  obtain ⟨ba, bc, rfl⟩ := ownsRow_slice h.b
  obtain ⟨va, vc, rfl⟩ := ownsRow_slice h.v
  have HP : Hid (PE S Wb W0 g x (.slice ba x.bal.length bc) (.slice va x.vals.length vc) ev) := h
  have c4 : w.cell? ⟨g, 4, none⟩ = some (.slice ba x.bal.length bc) := (h.below hw.fr).L.cell 4
  have HW : Hid (WS W0 w gw ns) := hw
  have HL : Hid (∀ k j, k ≤ x.bal.length → j ≤ x.vals.length → (ns ++ (delA x k ++ delR x k j)).length ≤ 5080) := fun k j hk hj => by
    have h1 := delA_len x v5 k
    have h2 := delR_len x k j
    rw [List.length_append, List.length_append]; omega
  clear h hI hw
  go_enter Tryz.func40, Tryz.ntmps40
  go_wp2
  go_loopw [11] (fun i wr => ∃ k : Nat, k ≤ x.bal.length ∧ i = .int .i64 k ∧ WS W0 wr gw (ns ++ delA x k)) (fun i _ => x.bal.length - (intOf i).toNat)
  case atStart => exact ⟨0, Nat.zero_le _, rfl, by simp only [delA, List.append_nil]; exact HW.out⟩
  case round =>
    obtain ⟨k, hk, rfl, hwr⟩ := hrel
    have HWR : Hid (WS W0 wr gw (ns ++ delA x k)) := hwr
    have d7 : wr.cell? ⟨g, 7, none⟩ = some (.slice va x.vals.length vc) := (HP.out.below hwr.fr).L.cell 7
    by_cases hk1 : k < x.bal.length
    · clear hwr HW
      go_wp2
      obtain ⟨wo, rfl⟩ : ∃ wo : World, wo = wr := ⟨_, rfl⟩
      go_loopw [19] (fun i wr => ∃ j : Nat, j ≤ x.vals.length ∧ i = .int .i64 j ∧ WS W0 wr gw (ns ++ (delA x k ++ delR x k j))) (fun i _ => x.vals.length - (intOf i).toNat)
      case atStart => exact ⟨0, Nat.zero_le _, rfl, by simp only [delR, List.append_nil]; exact HWR.out⟩
      case round =>
        clear HWR
        obtain ⟨j, hj, rfl, hwr⟩ := hrel
        by_cases hj1 : j < x.vals.length
        · have hP := HP.out.below hwr.fr
          have y1 := hP.shAt (k := k) (j := j) (by omega) (by omega)
          have hs := hb.s0 k j (by omega) (by omega)
          have hl1 := HL.out k j hk hj
          have HWR : Hid (WS W0 wr gw (ns ++ (delA x k ++ delR x k j))) := hwr
          clear hP hwr
          by_cases h0 : 0 < x.sh k j
          · have hp := hb.p0 k j (by omega) (by omega) h0
            have hu1 := hu k j (by omega) (by omega)
            have e9 : ns ++ (delA x k ++ delR x k j) ++ [x.sh k j] ++ [x.per j - x.upto k j] = ns ++ (delA x k ++ delR x k (j + 1)) := by
              simp only [delR, delN, if_pos h0, List.append_assoc, List.cons_append, List.nil_append]
            have HT : Hid (ns ++ (delA x k ++ delR x k j) ++ [x.sh k j] ++ [x.per j - x.upto k j] = ns ++ (delA x k ++ delR x k (j + 1))) := e9
            have HD : Hid (∀ w', Below W0.heap.size W0 w' → w'.cell? ⟨g, 8 + k * 5 + j, none⟩ = some (.int .i64 (x.sh k j)) ∧ Calls Tryz.prog 88 #[.pointer (some ⟨g, 0, none⟩), .int .i64 k, .int .i64 j] w' fun e w'' => e = .returned (.int .i64 (x.per j - x.upto k j)) ∧ w'' = w'.drew) := fun w' hb' => ⟨(HP.out.below hb').shAt (by omega) (by omega), epending g x _ _ _ w' (HP.out.below hb') k j (by omega) (by omega) hu1.1 hu1.2.1 hu1.2.2⟩
            clear e9 HP HL hu hb hu1
            generalize x.sh k j = sv at *
            generalize x.per j - x.upto k j = pv at *
            go_wp2_with fail
            refine (HA.out _ _ _ HWR.out hs.1 (by omega) (by omega)).mono ?_
            rintro e w5 ⟨rfl, hw5⟩
            obtain ⟨z1, hpd⟩ := HD.out w5 hw5.fr
            have HPD : Hid (Calls Tryz.prog 88 #[.pointer (some ⟨g, 0, none⟩), .int .i64 k, .int .i64 j] w5 fun e w'' => e = .returned (.int .i64 pv) ∧ w'' = w5.drew) := hpd
            have HW5 : Hid (WS W0 w5 gw (ns ++ (delA x k ++ delR x k j) ++ [sv])) := hw5
            clear hw5 hpd HD HWR
            go_wp2_with fail
            refine HPD.out.mono ?_
            rintro e w6 ⟨rfl, rfl⟩
            clear HPD
            go_wp2_with fail
            refine (HA.out _ _ _ (HW5.out.below (Below.refl _ _).drew) hp.1 hp.2 (by rw [List.length_append, List.length_singleton]; omega)).mono ?_
            rintro e w7 ⟨rfl, hw7⟩
            rw [HT.out] at hw7
            have HW7 : Hid (WS W0 w7 gw (ns ++ (delA x k ++ delR x k (j + 1)))) := hw7
            clear hw7 HW5 HT
            go_wp2
            refine And.intro ?_ ?_
            · first | exact ⟨j + 1, by omega, by go_num, HW7.out⟩ | ((repeat apply Exists.intro); exact ⟨⟨j + 1, by omega, by go_num, HW7.out⟩, rfl⟩)
            · simp [intOf]; omega
          · have e9 : ns ++ (delA x k ++ delR x k j) ++ [x.sh k j] = ns ++ (delA x k ++ delR x k (j + 1)) := by
              simp only [delR, delN, if_neg h0, List.append_assoc]
            have HT : Hid (ns ++ (delA x k ++ delR x k j) ++ [x.sh k j] = ns ++ (delA x k ++ delR x k (j + 1))) := e9
            have HD : Hid (∀ w', Below W0.heap.size W0 w' → w'.cell? ⟨g, 8 + k * 5 + j, none⟩ = some (.int .i64 (x.sh k j))) := fun w' hb' => (HP.out.below hb').shAt (by omega) (by omega)
            clear e9 HP HL hu hb
            generalize x.sh k j = sv at *
            go_wp2_with fail
            refine (HA.out _ _ _ HWR.out hs.1 (by omega) (by omega)).mono ?_
            rintro e w5 ⟨rfl, hw5⟩
            have z1 := HD.out w5 hw5.fr
            rw [HT.out] at hw5
            have HW7 : Hid (WS W0 w5 gw (ns ++ (delA x k ++ delR x k (j + 1)))) := hw5
            clear hw5 HD HWR HT
            go_wp2
            refine And.intro ?_ ?_
            · first | exact ⟨j + 1, by omega, by go_num, HW7.out⟩ | ((repeat apply Exists.intro); exact ⟨⟨j + 1, by omega, by go_num, HW7.out⟩, rfl⟩)
            · simp [intOf]; omega
        · have ek : j = x.vals.length := by omega
          rw [ek] at hwr
          have HW7 : Hid (WS W0 wr gw (ns ++ delA x (k + 1))) := hwr
          clear hwr ek
          go_wp2
          refine And.intro ?_ ?_
          · first | exact ⟨k + 1, by omega, by go_num, HW7.out⟩ | ((repeat apply Exists.intro); exact ⟨⟨k + 1, by omega, by go_num, HW7.out⟩, rfl⟩)
          · simp [intOf]; omega
    · have ek : k = x.bal.length := by omega
      rw [ek] at hwr
      have HW7 : Hid (WS W0 wr gw (ns ++ delA x x.bal.length)) := hwr
      clear hwr ek HWR
      go_wp2
      go_end0
      exact ⟨rfl, HW7.out⟩
end
end Go.Proofs.YtohjjgefklhmaaaGreatDoor

namespace Go.Proofs.YtohjjgefklhmaaaGreatDoor
open Go.ChangeShapes Go.WideShapes Go.ChangeAt Go.RowKit
set_option linter.unusedVariables false

/-- what may be written -/
structure WBd (x : EC) : Prop where
  b6 : x.bal.length ≤ 6
  v5 : x.vals.length ≤ 5
  bb : NB x.bal
  ob : NB (x.vals.map (fun v => v.owner))
  rb : NB (x.vals.map (fun v => v.rate))
  t : 0 ≤ x.top ∧ x.top ≤ 1000000
  m : 0 ≤ x.mature ∧ x.mature ≤ 1000000
  f : 0 ≤ x.fee ∧ x.fee ≤ 1000000
  hh : 0 ≤ x.height ∧ x.height ≤ 1000000
  ff : 0 ≤ x.fees ∧ x.fees ≤ 1000000
  pp : 0 ≤ x.pool ∧ x.pool ≤ 1000000
  vb : ∀ v, v ∈ x.vals → VB0 v
  db : DB x
  hu : ∀ k j, k < 6 → j < 5 → -1073741824000000 ≤ x.upto k j ∧ x.upto k j ≤ x.per j ∧ x.per j ≤ 4611686018427387904
  el : x.ents.length ≤ 1000
  eb : ∀ e, e ∈ x.ents → NB (entNs e)
theorem wbd_of {y : EC} (ok : Fine y) (hB : InvB y) (hE : InvE y) : WBd y := by
  have okx : Ok y.height y := ok
  have yb := yb_of ok hB hE
  have b6 := okx.b6
  have v5 := okx.v5
  refine ⟨b6, v5, fun n hn => ?_, fun n hn => ?_, fun n hn => ?_, ⟨by have := okx.top0; omega, by have := okx.top1; omega⟩, ⟨by have := okx.mat0; omega, by have := okx.mat1; omega⟩, ⟨okx.fee0, by have := okx.fee1; omega⟩, ⟨okx.hgt0, by have := okx.hgt1; omega⟩, ⟨okx.fees, yb.fb⟩, ⟨okx.pool, yb.pb⟩, yb.vb, yb.db, fun k j hk hj => ?_, by have := yb.el; omega, fun e he n hn => ?_⟩
  · have := yb.bb n hn; omega
  · have := yb.ob n hn; omega
  · have := yb.rb n hn; omega
  · have h1 := okx.upt k j hk hj
    have h2 := okx.per j hj
    have := okx.hgt1
    refine ⟨h1.1, h1.2, by omega⟩
  · obtain ⟨w0, w1, v0, v1, m0, m1, a0, a1⟩ := yb.eb e he
    have := okx.hgt1
    simp only [entNs, List.mem_cons, List.not_mem_nil, or_false] at hn
    omega
theorem genNs_len (x : EC) (b6 : x.bal.length ≤ 6) (v5 : x.vals.length ≤ 5) : (genNs x).length ≤ 30 := by
  simp only [genNs, List.length_append, List.length_cons, List.length_nil, List.length_map]; omega

set_option maxHeartbeats 2000000 in
set_option maxRecDepth 100000 in
theorem export_any {S : Nat → Prop} {Wb w : World} (g : Nat) (x : EC) (bv vv ev : Value) (h : PE S Wb w g x bv vv ev) (B : Nat) (hI : ItoaOk B w) (hB : B ≤ w.heap.size) (wb : WBd x) :
    Calls Tryz.prog 22 #[.pointer (some ⟨g, 0, none⟩)] w fun e w' => e = .returned (.string ⟨(txt (nums x)).toArray⟩) ∧ Below w.heap.size w w' := by
  have gl := genNs_len x wb.b6 wb.v5
  have H1 : Hid (∀ w1, WS w w1 w.heap.size [] → Calls Tryz.prog 37 #[.pointer (some ⟨g, 0, none⟩), .pointer (some ⟨w.heap.size, 0, none⟩)] w1 fun e w' => e = .returned (.tuple #[]) ∧ WS w w' w.heap.size (genNs x)) := fun w1 hw => wgenesis g x bv vv ev h B hI hB _ w1 hw wb.b6 wb.v5 wb.bb wb.ob wb.rb wb.t wb.m wb.f
  have H2 : Hid (∀ w1 ns, WS w w1 w.heap.size ns → ns.length ≤ 5000 → Calls Tryz.prog 38 #[.pointer (some ⟨g, 0, none⟩), .pointer (some ⟨w.heap.size, 0, none⟩)] w1 fun e w' => e = .returned (.tuple #[]) ∧ WS w w' w.heap.size (ns ++ [x.height, x.fees, x.pool])) := fun w1 ns hw hl => wchain g x bv vv ev h B hI hB _ w1 ns hw hl wb.hh wb.ff wb.pp
  have H3 : Hid (∀ w1 ns, WS w w1 w.heap.size ns → ns.length ≤ 5000 → Calls Tryz.prog 39 #[.pointer (some ⟨g, 0, none⟩), .pointer (some ⟨w.heap.size, 0, none⟩)] w1 fun e w' => e = .returned (.tuple #[]) ∧ WS w w' w.heap.size (ns ++ x.vals.flatMap valNs)) := fun w1 ns hw hl => wvals g x bv vv ev h B hI hB _ w1 ns hw hl wb.v5 wb.vb
  have H4 : Hid (∀ w1 ns, WS w w1 w.heap.size ns → ns.length ≤ 5000 → Calls Tryz.prog 40 #[.pointer (some ⟨g, 0, none⟩), .pointer (some ⟨w.heap.size, 0, none⟩)] w1 fun e w' => e = .returned (.tuple #[]) ∧ WS w w' w.heap.size (ns ++ delA x x.bal.length)) := fun w1 ns hw hl => wdels g x bv vv ev h B hI hB _ w1 ns hw hl wb.b6 wb.v5 wb.db wb.hu
  have H5 : Hid (∀ w1 ns, WS w w1 w.heap.size ns → ns.length ≤ 5000 → Calls Tryz.prog 41 #[.pointer (some ⟨g, 0, none⟩), .pointer (some ⟨w.heap.size, 0, none⟩)] w1 fun e w' => e = .returned (.tuple #[]) ∧ WS w w' w.heap.size (ns ++ [(x.ents.length : Int)] ++ x.ents.flatMap entNs)) := fun w1 ns hw hl => wents g x bv vv ev h B hI hB _ w1 ns hw hl wb.el wb.eb
  have h0 : WS w (w.alloc (.cells #[.slice none 0 0] 75)) w.heap.size [] := ⟨(fun n hn => by cases hn), .slice none 0 0, ⟨(Below.refl _ _).alloc (Nat.le_refl _) _, Nat.le_refl _, Has.new _ _ [.slice none 0 0], World.ownsRow_nil _ _ _ _⟩⟩
  have HW : Hid (WS w (w.alloc (.cells #[.slice none 0 0] 75)) w.heap.size []) := h0
  have hd := delA_len x wb.v5 x.bal.length
  have hvl := flat_len valNs 4 x.vals (fun _ => rfl)
  have b6 := wb.b6
  have v5 := wb.v5
  clear h hI h0 wb
  go_enter Tryz.func22, Tryz.ntmps22
  go_wp2_with fail
  refine (H1.out _ HW.out).mono ?_
  rintro e w1 ⟨rfl, hw⟩
  have HW1 : Hid (WS w w1 w.heap.size (genNs x)) := hw
  clear hw HW
  go_wp2_with fail
  refine (H2.out _ _ HW1.out (by omega)).mono ?_
  rintro e w2 ⟨rfl, hw⟩
  have HW2 : Hid (WS w w2 w.heap.size (genNs x ++ [x.height, x.fees, x.pool])) := hw
  clear hw HW1
  go_wp2_with fail
  refine (H3.out _ _ HW2.out (by simp only [List.length_append, List.length_cons, List.length_nil]; omega)).mono ?_
  rintro e w3 ⟨rfl, hw⟩
  have HW3 : Hid (WS w w3 w.heap.size (genNs x ++ [x.height, x.fees, x.pool] ++ x.vals.flatMap valNs)) := hw
  clear hw HW2
  go_wp2_with fail
  refine (H4.out _ _ HW3.out (by simp only [List.length_append, List.length_cons, List.length_nil, hvl]; omega)).mono ?_
  rintro e w4 ⟨rfl, hw⟩
  have HW4 : Hid (WS w w4 w.heap.size (genNs x ++ [x.height, x.fees, x.pool] ++ x.vals.flatMap valNs ++ delA x x.bal.length)) := hw
  clear hw HW3
  go_wp2_with fail
  refine (H5.out _ _ HW4.out (by simp only [List.length_append, List.length_cons, List.length_nil, hvl]; omega)).mono ?_
  rintro e w5 ⟨rfl, hw⟩
  have hwN : WS w w5 w.heap.size (nums x) := hw
  obtain ⟨hnb, tv, hwr⟩ := hwN
  clear HW4 hw
  have hlen1 : 0 < (txt (nums x)).length := by
    have e : nums x = (x.bal.length : Int) :: (nums x).tail := by simp [nums, genNs]
    rw [e]; simp only [txt, numT, List.length_append, List.length_singleton]; omega
  obtain ⟨ta, tc, rfl⟩ := ownsRow_slice hwr.t
  obtain ⟨gt, rfl, _⟩ := ownsRow_some hwr.t hlen1
  have c0 : w5.cell? ⟨w.heap.size, 0, none⟩ = some (.slice (some ⟨gt, 0, none⟩) (txt (nums x)).length tc) := hwr.L.cell 0
  have HB : Hid (Below w.heap.size w w5) := hwr.fr
  have hconv : (convert 63 9 (.slice (some ⟨gt, 0, none⟩) (txt (nums x)).length tc)).run Tryz.prog w5 = .ok (.string ⟨(txt (nums x)).toArray⟩) w5 := by
    refine run_convert_bytes_back (P := Tryz.prog) w5 63 9 5 ⟨gt, 0, none⟩ tc (txt (nums x)) Tryz.underlying63 Tryz.underlying5 Tryz.underlying9 (fun j hj => ?_)
    have := hwr.t.cells (g := gt) rfl j (.int .u8 ((txt (nums x))[j].toNat : Int)) (by simp [bcells, hj])
    exact this
  clear hwr hnb
  go_wp2
  go_ret
  exact ⟨rfl, HB.out⟩
end Go.Proofs.YtohjjgefklhmaaaGreatDoor
