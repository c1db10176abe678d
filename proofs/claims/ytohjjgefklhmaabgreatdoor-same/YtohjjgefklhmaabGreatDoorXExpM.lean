import Derived.Test.YtohjjgefklhmaabGreatDoorXWrite2M
import Derived.Laws.IdiomStrings
namespace Go.Proofs.YtohjjgefklhmaabGreatDoor
open Go.ChangeShapes Go.WideShapes Go.ChangeAt Go.RowKit
set_option linter.unusedVariables false

/-- what may be written -/
structure WBd (x : EC) : Prop where
  b6 : x.bal.length ≤ 6
  v5 : x.vals.length ≤ 5
  bb : NB x.bal
  ob : NB (x.vals.map (fun v => v.owner))
  rb : NB (x.vals.map (fun v => v.rate))
  t : 0 ≤ x.top ∧ x.top ≤ 1000000
  m : 0 ≤ x.mature ∧ x.mature ≤ 1000000
  f : 0 ≤ x.fee ∧ x.fee ≤ 1000000
  hh : 0 ≤ x.height ∧ x.height ≤ 1000000
  ff : 0 ≤ x.fees ∧ x.fees ≤ 1000000
  pp : 0 ≤ x.pool ∧ x.pool ≤ 1000000
  vb : ∀ v, v ∈ x.vals → VB0 v
  db : DB x
  hu : ∀ k j, k < 6 → j < 5 → -1073741824000000 ≤ x.upto k j ∧ x.upto k j ≤ x.per j ∧ x.per j ≤ 4611686018427387904
  el : x.ents.length ≤ 1000
  eb : ∀ e, e ∈ x.ents → NB (entNs e)
theorem wbd_of {y : EC} (ok : Fine y) (hB : InvB y) (hE : InvE y) : WBd y := by
  have okx : Ok y.height y := ok
  have yb := yb_of ok hB hE
  have b6 := okx.b6
  have v5 := okx.v5
  refine ⟨b6, v5, fun n hn => ?_, fun n hn => ?_, fun n hn => ?_, ⟨by have := okx.top0; omega, by have := okx.top1; omega⟩, ⟨by have := okx.mat0; omega, by have := okx.mat1; omega⟩, ⟨okx.fee0, by have := okx.fee1; omega⟩, ⟨okx.hgt0, by have := okx.hgt1; omega⟩, ⟨okx.fees, yb.fb⟩, ⟨okx.pool, yb.pb⟩, yb.vb, yb.db, fun k j hk hj => ?_, by have := yb.el; omega, fun e he n hn => ?_⟩
  · have := yb.bb n hn; omega
  · have := yb.ob n hn; omega
  · have := yb.rb n hn; omega
  · have h1 := okx.upt k j hk hj
    have h2 := okx.per j hj
    have := okx.hgt1
    refine ⟨h1.1, h1.2, by omega⟩
  · obtain ⟨w0, w1, v0, v1, m0, m1, a0, a1⟩ := yb.eb e he
    have := okx.hgt1
    simp only [entNs, List.mem_cons, List.not_mem_nil, or_false] at hn
    omega
theorem genNs_len (x : EC) (b6 : x.bal.length ≤ 6) (v5 : x.vals.length ≤ 5) : (genNs x).length ≤ 30 := by
  simp only [genNs, List.length_append, List.length_cons, List.length_nil, List.length_map]; omega

set_option maxHeartbeats 2000000 in
set_option maxRecDepth 100000 in
theorem export_any {S : Nat → Prop} {Wb w : World} (g : Nat) (x : EC) (bv vv ev : Value) (h : PE S Wb w g x bv vv ev) (B : Nat) (hI : ItoaOk B w) (hB : B ≤ w.heap.size) (wb : WBd x) :
    Calls Tryz.prog 9 #[.pointer (some ⟨g, 0, none⟩)] w fun e w' => e = .returned (.string ⟨(txt (nums x)).toArray⟩) ∧ Below w.heap.size w w' := by
  have gl := genNs_len x wb.b6 wb.v5
  have H1 : Hid (∀ w1, WS w w1 w.heap.size [] → Calls Tryz.prog 32 #[.pointer (some ⟨g, 0, none⟩), .pointer (some ⟨w.heap.size, 0, none⟩)] w1 fun e w' => e = .returned (.tuple #[]) ∧ WS w w' w.heap.size (genNs x)) := fun w1 hw => wgenesis g x bv vv ev h B hI hB _ w1 hw wb.b6 wb.v5 wb.bb wb.ob wb.rb wb.t wb.m wb.f
  have H2 : Hid (∀ w1 ns, WS w w1 w.heap.size ns → ns.length ≤ 5000 → Calls Tryz.prog 33 #[.pointer (some ⟨g, 0, none⟩), .pointer (some ⟨w.heap.size, 0, none⟩)] w1 fun e w' => e = .returned (.tuple #[]) ∧ WS w w' w.heap.size (ns ++ [x.height, x.fees, x.pool])) := fun w1 ns hw hl => wchain g x bv vv ev h B hI hB _ w1 ns hw hl wb.hh wb.ff wb.pp
  have H3 : Hid (∀ w1 ns, WS w w1 w.heap.size ns → ns.length ≤ 5000 → Calls Tryz.prog 34 #[.pointer (some ⟨g, 0, none⟩), .pointer (some ⟨w.heap.size, 0, none⟩)] w1 fun e w' => e = .returned (.tuple #[]) ∧ WS w w' w.heap.size (ns ++ x.vals.flatMap valNs)) := fun w1 ns hw hl => wvals g x bv vv ev h B hI hB _ w1 ns hw hl wb.v5 wb.vb
  have H4 : Hid (∀ w1 ns, WS w w1 w.heap.size ns → ns.length ≤ 5000 → Calls Tryz.prog 35 #[.pointer (some ⟨g, 0, none⟩), .pointer (some ⟨w.heap.size, 0, none⟩)] w1 fun e w' => e = .returned (.tuple #[]) ∧ WS w w' w.heap.size (ns ++ delA x x.bal.length)) := fun w1 ns hw hl => wdels g x bv vv ev h B hI hB _ w1 ns hw hl wb.b6 wb.v5 wb.db wb.hu
  have H5 : Hid (∀ w1 ns, WS w w1 w.heap.size ns → ns.length ≤ 5000 → Calls Tryz.prog 36 #[.pointer (some ⟨g, 0, none⟩), .pointer (some ⟨w.heap.size, 0, none⟩)] w1 fun e w' => e = .returned (.tuple #[]) ∧ WS w w' w.heap.size (ns ++ [(x.ents.length : Int)] ++ x.ents.flatMap entNs)) := fun w1 ns hw hl => wents g x bv vv ev h B hI hB _ w1 ns hw hl wb.el wb.eb
  have h0 : WS w (w.alloc (.cells #[.slice none 0 0] 67)) w.heap.size [] := ⟨(fun n hn => by cases hn), .slice none 0 0, ⟨(Below.refl _ _).alloc (Nat.le_refl _) _, Nat.le_refl _, Has.new _ _ [.slice none 0 0], World.ownsRow_nil _ _ _ _⟩⟩
  have HW : Hid (WS w (w.alloc (.cells #[.slice none 0 0] 67)) w.heap.size []) := h0
  have hd := delA_len x wb.v5 x.bal.length
  have hvl := flat_len valNs 4 x.vals (fun _ => rfl)
  have b6 := wb.b6
  have v5 := wb.v5
  clear h hI h0 wb
  go_enter Tryz.func9, Tryz.ntmps9
  go_wp2_with fail
  refine (H1.out _ HW.out).mono ?_
  rintro e w1 ⟨rfl, hw⟩
  have HW1 : Hid (WS w w1 w.heap.size (genNs x)) := hw
  clear hw HW
  go_wp2_with fail
  refine (H2.out _ _ HW1.out (by omega)).mono ?_
  rintro e w2 ⟨rfl, hw⟩
  have HW2 : Hid (WS w w2 w.heap.size (genNs x ++ [x.height, x.fees, x.pool])) := hw
  clear hw HW1
  go_wp2_with fail
  refine (H3.out _ _ HW2.out (by simp only [List.length_append, List.length_cons, List.length_nil]; omega)).mono ?_
  rintro e w3 ⟨rfl, hw⟩
  have HW3 : Hid (WS w w3 w.heap.size (genNs x ++ [x.height, x.fees, x.pool] ++ x.vals.flatMap valNs)) := hw
  clear hw HW2
  go_wp2_with fail
  refine (H4.out _ _ HW3.out (by simp only [List.length_append, List.length_cons, List.length_nil, hvl]; omega)).mono ?_
  rintro e w4 ⟨rfl, hw⟩
  have HW4 : Hid (WS w w4 w.heap.size (genNs x ++ [x.height, x.fees, x.pool] ++ x.vals.flatMap valNs ++ delA x x.bal.length)) := hw
  clear hw HW3
  go_wp2_with fail
  refine (H5.out _ _ HW4.out (by simp only [List.length_append, List.length_cons, List.length_nil, hvl]; omega)).mono ?_
  rintro e w5 ⟨rfl, hw⟩
  have hwN : WS w w5 w.heap.size (nums x) := hw
  obtain ⟨hnb, tv, hwr⟩ := hwN
  clear HW4 hw
  have hlen1 : 0 < (txt (nums x)).length := by
    have e : nums x = (x.bal.length : Int) :: (nums x).tail := by simp [nums, genNs]
    rw [e]; simp only [txt, numT, List.length_append, List.length_singleton]; omega
  obtain ⟨ta, tc, rfl⟩ := ownsRow_slice hwr.t
  obtain ⟨gt, rfl, _⟩ := ownsRow_some hwr.t hlen1
  have c0 : w5.cell? ⟨w.heap.size, 0, none⟩ = some (.slice (some ⟨gt, 0, none⟩) (txt (nums x)).length tc) := hwr.L.cell 0
  have HB : Hid (Below w.heap.size w w5) := hwr.fr
  have hconv : (convert 65 9 (.slice (some ⟨gt, 0, none⟩) (txt (nums x)).length tc)).run Tryz.prog w5 = .ok (.string ⟨(txt (nums x)).toArray⟩) w5 := by
    refine run_convert_bytes_back (P := Tryz.prog) w5 65 9 5 ⟨gt, 0, none⟩ tc (txt (nums x)) Tryz.underlying65 Tryz.underlying5 Tryz.underlying9 (fun j hj => ?_)
    have := hwr.t.cells (g := gt) rfl j (.int .u8 ((txt (nums x))[j].toNat : Int)) (by simp [bcells, hj])
    exact this
  clear hwr hnb
  go_wp2
  go_ret
  exact ⟨rfl, HB.out⟩
end Go.Proofs.YtohjjgefklhmaabGreatDoor

namespace Go.Proofs.YtohjjgefklhmaabGreatDoor
open Go.ChangeShapes Go.WideShapes Go.ChangeAt Go.RowKit
set_option linter.unusedVariables false

/-! ### a reader -/
def RD (w : World) (gr : Nat) (s : ByteArray) (st : RS) : Prop := Has w gr 96 [.string s, .int .i64 st.p, .bool st.bad]
def digAt (s : List UInt8) (p : Nat) : Bool := match s[p]? with
  | some c => isDig c
  | none => false

theorem idx_at (s : ByteArray) (p : Nat) (h : p < s.size) : ∃ c : UInt8, s.data.toList[p]? = some c ∧ ∀ u : World, (Instr.index 9 (.string s) (.int .i64 (p : Int))).run Tryz.prog u = .ok (.int .u8 ((c.toNat : Nat) : Int)) u := by
  have h' : p < s.data.toList.length := by rw [Array.length_toList]; exact h
  refine ⟨s.data.toList[p], List.getElem?_eq_getElem h', fun u => ?_⟩
  rw [run_index_string (P := Tryz.prog) u 9 s .i64 (p : Int) Tryz.underlying9, dif_pos ⟨by omega, by omega⟩]
  rfl
set_option maxHeartbeats 2000000 in
set_option maxRecDepth 100000 in
theorem ratDigit (w : World) (gr : Nat) (s : ByteArray) (st : RS) (h : RD w gr s st) (hs : s.size ≤ 8192) (hp : st.p ≤ s.size) :
    Calls Tryz.prog 94 #[.pointer (some ⟨gr, 0, none⟩)] w fun e w' => e = .returned (.bool (digAt s.data.toList st.p)) ∧ Below w.heap.size w w' := by
  have c0 : w.cell? ⟨gr, 0, none⟩ = some (.string s) := h.cell 0
  have c1 : w.cell? ⟨gr, 1, none⟩ = some (.int .i64 st.p) := h.cell 1
  clear h
  generalize hst : st.p = p at *
  clear hst
  by_cases hlt : p < s.size
  · obtain ⟨c, hc1, hix⟩ := idx_at s p hlt
    have d1 : decide ((p : Int) < (s.size : Int)) = true := decide_eq_true (by omega)
    have hcb := c.toNat_lt
    have HD : Hid (digAt s.data.toList p = isDig c) := by
      show digAt s.data.toList p = isDig c
      unfold digAt; rw [hc1]
    clear hc1
    by_cases h1 : 48 ≤ c.toNat
    · have d2 : decide ((48 : Int) ≤ (c.toNat : Int)) = true := decide_eq_true (by omega)
      by_cases h2 : c.toNat ≤ 57
      · have d3 : decide ((c.toNat : Int) ≤ (57 : Int)) = true := decide_eq_true (by omega)
        have HI : Hid (isDig c = true) := (isDig_iff c).2 ⟨h1, h2⟩
        generalize (c.toNat : Int) = cn at *
        clear h1 h2 hcb
        go_enter Tryz.func94, Tryz.ntmps94
        go_wp2
        go_region
        go_wp2
        go_ret
        rw [HD.out, HI.out]
        exact ⟨rfl, (Below.refl _ _).drew⟩
      · have d3 : decide ((c.toNat : Int) ≤ (57 : Int)) = false := decide_eq_false (by omega)
        have HI : Hid (isDig c = false) := by
          show isDig c = false
          cases hd : isDig c
          · rfl
          · exact absurd ((isDig_iff c).1 hd).2 h2
        generalize (c.toNat : Int) = cn at *
        clear h1 h2 hcb
        go_enter Tryz.func94, Tryz.ntmps94
        go_wp2
        go_region
        go_wp2
        go_ret
        rw [HD.out, HI.out]
        exact ⟨rfl, (Below.refl _ _).drew⟩
    · have d2 : decide ((48 : Int) ≤ (c.toNat : Int)) = false := decide_eq_false (by omega)
      have HI : Hid (isDig c = false) := by
        show isDig c = false
        cases hd : isDig c
        · rfl
        · exact absurd ((isDig_iff c).1 hd).1 h1
      generalize (c.toNat : Int) = cn at *
      clear h1 hcb
      go_enter Tryz.func94, Tryz.ntmps94
      go_wp2
      go_region
      go_wp2
      go_ret
      rw [HD.out, HI.out]
      exact ⟨rfl, (Below.refl _ _).drew⟩
  · have HD : Hid (digAt s.data.toList p = false) := by
      have : s.data.toList[p]? = none := List.getElem?_eq_none (by rw [Array.length_toList]; exact Nat.le_of_not_lt hlt)
      show digAt s.data.toList p = false
      unfold digAt; rw [this]
    have d1 : decide ((p : Int) < (s.size : Int)) = false := decide_eq_false (by omega)
    go_enter Tryz.func94, Tryz.ntmps94
    go_wp2
    go_region
    go_wp2
    go_ret
    rw [HD.out]
    exact ⟨rfl, (Below.refl _ _).drew⟩
end Go.Proofs.YtohjjgefklhmaabGreatDoor

namespace Go.Proofs.YtohjjgefklhmaabGreatDoor
open Go.ChangeShapes Go.WideShapes Go.ChangeAt Go.RowKit
set_option linter.unusedVariables false

theorem endAt_at {s : List UInt8} {p : Nat} {c : UInt8} (h : s[p]? = some c) : endAt s p = decide (c.toNat = 32) := by
  unfold endAt
  rw [h]
  by_cases e : c.toNat = 32
  · have : c = 32 := UInt8.toNat_inj.1 e
    rw [this]; rfl
  · have : ¬ c = 32 := fun h => e (by rw [h]; rfl)
    rw [decide_eq_false e]; simpa using this
set_option maxHeartbeats 2000000 in
set_option maxRecDepth 100000 in
theorem rpassEnd (w : World) (gr : Nat) (s : ByteArray) (st : RS) (h : RD w gr s st) (hs : s.size ≤ 8192) (hp : st.p ≤ s.size) :
    Calls Tryz.prog 95 #[.pointer (some ⟨gr, 0, none⟩)] w fun e w' => e = .returned (.bool (endAt s.data.toList st.p)) ∧ RD w' gr s ⟨if endAt s.data.toList st.p = true then st.p + 1 else st.p, st.bad⟩ ∧ Kp (fun b => b = gr) w w' := by
  obtain ⟨p, bad⟩ := st
  have c0 : w.cell? ⟨gr, 0, none⟩ = some (.string s) := h.cell 0
  have c1 : w.cell? ⟨gr, 1, none⟩ = some (.int .i64 p) := h.cell 1
  have f1 := h.frozen 1
  dsimp only at hp ⊢
  by_cases hlt : p < s.size
  · obtain ⟨c, hc1, hix⟩ := idx_at s p hlt
    have hcb := c.toNat_lt
    have hE := endAt_at hc1
    by_cases h1 : c.toNat = 32
    · rw [decide_eq_true h1] at hE
      rw [hE, if_pos rfl]
      have HF : Hid (RD (w.setCell ⟨gr, 1, none⟩ (.int .i64 ((p + 1 : Nat) : Int))) gr s ⟨p + 1, bad⟩) := h.set 1 _
      have hk0 : Kp (fun b => b = gr) w (w.setCell ⟨gr, 1, none⟩ (.int .i64 ((p + 1 : Nat) : Int))) := (Kp.refl (fun b => b = gr) w).setCell (p := ⟨gr, 1, none⟩) rfl _
      have HK : Hid (Kp (fun b => b = gr) w (w.setCell ⟨gr, 1, none⟩ (.int .i64 ((p + 1 : Nat) : Int)))) := hk0
      have d1 : decide (s.size ≤ p) = false := decide_eq_false (by omega)
      have h32 : (c.toNat : Int) = 32 := by omega
      rw [h32] at hix
      clear h hE hc1 hk0
      go_enter Tryz.func95, Tryz.ntmps95
      go_wp2
      go_region
      go_wp2
      go_ret
      exact ⟨rfl, HF.out, HK.out.drew⟩
    · rw [decide_eq_false h1] at hE
      rw [hE, if_neg (by simp)]
      have HF : Hid (RD w gr s ⟨p, bad⟩) := h
      have d1 : decide (s.size ≤ p) = false := decide_eq_false (by omega)
      have h32 : ((c.toNat : Int) != 32) = true := by simp; omega
      generalize (c.toNat : Int) = cn at *
      clear h hE hc1
      go_enter Tryz.func95, Tryz.ntmps95
      go_wp2
      go_region
      go_wp2
      go_ret
      exact ⟨rfl, HF.out, (Kp.refl _ _).drew⟩
  · have hE : endAt s.data.toList p = false := by
      have : s.data.toList[p]? = none := List.getElem?_eq_none (by rw [Array.length_toList]; exact Nat.le_of_not_lt hlt)
      unfold endAt; rw [this]; rfl
    rw [hE, if_neg (by simp)]
    have HF : Hid (RD w gr s ⟨p, bad⟩) := h
    have d1 : decide (s.size ≤ p) = true := decide_eq_true (by omega)
    clear h hE
    go_enter Tryz.func95, Tryz.ntmps95
    go_wp2
    go_region
    go_wp2
    go_ret
    exact ⟨rfl, HF.out, (Kp.refl _ _).drew⟩

theorem digAt_cons {s : List UInt8} {p : Nat} {c : UInt8} (h : s[p]? = some c) : s.drop p = c :: s.drop (p + 1) := by
  obtain ⟨hp, rfl⟩ := List.getElem?_eq_some_iff.1 h
  exact List.drop_eq_getElem_cons hp
def atOf (w : World) (gr : Nat) : Nat := match w.cell? ⟨gr, 1, none⟩ with
  | some (.int _ n) => n.toNat
  | _ => 0
theorem atOf_rd {w : World} {gr : Nat} {s : ByteArray} {q : Nat} {b : Bool} (h : RD w gr s ⟨q, b⟩) : atOf w gr = q := by
  have c1 : w.cell? ⟨gr, 1, none⟩ = some (.int .i64 q) := h.cell 1
  unfold atOf; rw [c1]; simp
/-- where the digits have been read up to q -/
structure NL (w wr : World) (gr : Nat) (s : ByteArray) (p : Nat) (bad : Bool) (most : Int) (q : Nat) (N : Int) : Prop where
  q0 : p ≤ q
  q1 : q ≤ s.size
  n0 : 0 ≤ N
  n1 : N ≤ 10 * most + 9
  rd : RD wr gr s ⟨q, bad⟩
  kp : Kp (fun b => b = gr) w wr
  eq : rdN most (s.data.toList.drop p) 0 = ((rdN most (s.data.toList.drop q) N).1, (rdN most (s.data.toList.drop q) N).2 + (q - p))
theorem NL.drew {w wr : World} {gr : Nat} {s : ByteArray} {p : Nat} {bad : Bool} {most : Int} {q : Nat} {N : Int} (h : NL w wr gr s p bad most q N) : NL w wr.drew gr s p bad most q N := ⟨h.q0, h.q1, h.n0, h.n1, h.rd, h.kp.drew, h.eq⟩
theorem NL.stop {w wr : World} {gr : Nat} {s : ByteArray} {p : Nat} {bad : Bool} {most : Int} {q : Nat} {N : Int} (h : NL w wr gr s p bad most q N) (hd : ¬ (digAt s.data.toList q = true ∧ N ≤ most)) : rdN most (s.data.toList.drop p) 0 = (N, q - p) := by
  have : rdN most (s.data.toList.drop q) N = (N, 0) := by
    cases hc : s.data.toList[q]? with
    | none =>
      have : s.data.toList.drop q = [] := List.drop_eq_nil_of_le (List.getElem?_eq_none_iff.1 hc)
      rw [this]; rfl
    | some c =>
      rw [digAt_cons hc]
      have e : digAt s.data.toList q = isDig c := by unfold digAt; rw [hc]
      rw [e] at hd
      simp only [rdN]; rw [if_neg hd]
  rw [h.eq, this, Nat.zero_add]
theorem NL.step {w wr w2 : World} {gr : Nat} {s : ByteArray} {p : Nat} {bad : Bool} {most : Int} {q : Nat} {N : Int} {c : UInt8} (h : NL w wr gr s p bad most q N) (hc : s.data.toList[q]? = some c) (hd : isDig c = true) (hN : N ≤ most) (hq : q < s.size) (hr : RD w2 gr s ⟨q + 1, bad⟩) (hk : Kp (fun b => b = gr) w w2) : NL w w2 gr s p bad most (q + 1) (N * 10 + ((c.toNat : Int) - 48)) := by
  have hb := (isDig_iff c).1 hd
  have h0 := h.n0
  have hq0 := h.q0
  refine ⟨by omega, hq, by omega, by omega, hr, hk, ?_⟩
  rw [h.eq, digAt_cons hc]
  simp only [rdN]
  rw [if_pos ⟨hd, hN⟩]
  simp only [Prod.mk.injEq, true_and]; omega
set_option maxHeartbeats 4000000 in
set_option maxRecDepth 100000 in
theorem rnext (w : World) (gr : Nat) (s : ByteArray) (st : RS) (most : Int) (h : RD w gr s st) (hs : s.size ≤ 8192) (hp : st.p ≤ s.size) (m0 : 0 ≤ most) (m1 : most ≤ 1073741824000000) :
    Calls Tryz.prog 76 #[.pointer (some ⟨gr, 0, none⟩), .int .i64 most] w fun e w' => e = .returned (.int .i64 (nx s.data.toList most st).1) ∧ RD w' gr s (nx s.data.toList most st).2 ∧ Kp (fun b => b = gr) w w' := by
  obtain ⟨p, bad⟩ := st
  have HD : Hid (∀ (w' : World) (q : Nat) (b : Bool), RD w' gr s ⟨q, b⟩ → q ≤ s.size → Calls Tryz.prog 94 #[.pointer (some ⟨gr, 0, none⟩)] w' fun e w'' => e = .returned (.bool (digAt s.data.toList q)) ∧ Below w'.heap.size w' w'') := fun w' q b hr hq => ratDigit w' gr s ⟨q, b⟩ hr hs hq
  have HE : Hid (∀ (w' : World) (q : Nat) (b : Bool), RD w' gr s ⟨q, b⟩ → q ≤ s.size → Calls Tryz.prog 95 #[.pointer (some ⟨gr, 0, none⟩)] w' fun e w'' => e = .returned (.bool (endAt s.data.toList q)) ∧ RD w'' gr s ⟨if endAt s.data.toList q = true then q + 1 else q, b⟩ ∧ Kp (fun b => b = gr) w' w'') := fun w' q b hr hq => rpassEnd w' gr s ⟨q, b⟩ hr hs hq
  have c1 : w.cell? ⟨gr, 1, none⟩ = some (.int .i64 p) := h.cell 1
  dsimp only at hp
  have HR : Hid (NL w w gr s p bad most p 0) := ⟨Nat.le_refl _, hp, Int.le_refl _, by omega, h, Kp.refl _ _, by simp⟩
  clear h
  go_enter Tryz.func76, Tryz.ntmps76
  go_wp2
  go_loopw [5] (fun n wr => ∃ (q : Nat) (N : Int), n = .int .i64 N ∧ NL w wr gr s p bad most q N) (fun _ wr => s.size - atOf wr gr)
  case atStart => exact ⟨p, 0, rfl, HR.out⟩
  case round =>
    obtain ⟨q, N, rfl, hnl⟩ := hrel
    have hq1 := hnl.q1
    by_cases hgo : digAt s.data.toList q = true ∧ N ≤ most
    · have hlt : q < s.size := by
        by_cases hlt : q < s.size
        · exact hlt
        · have : s.data.toList[q]? = none := List.getElem?_eq_none (by rw [Array.length_toList]; exact Nat.le_of_not_lt hlt)
          have h1 := hgo.1
          unfold digAt at h1; rw [this] at h1; cases h1
      obtain ⟨c, hc1, hix⟩ := idx_at s q hlt
      have hdc : isDig c = true := by have h1 := hgo.1; unfold digAt at h1; rw [hc1] at h1; exact h1
      have hcb := (isDig_iff c).1 hdc
      have hN0 := hnl.n0
      have hdt := hgo.1
      have hNm := hgo.2
      have HNL : Hid (NL w wr gr s p bad most q N) := hnl
      clear hnl hgo
      go_wp2_with fail
      refine (HD.out wr q bad HNL.out.rd hq1).mono ?_
      rintro e w1 ⟨rfl, hb1⟩
      have hrd1 : RD w1 gr s ⟨q, bad⟩ := HNL.out.rd.below hb1 HNL.out.rd.lt
      have c0 : w1.cell? ⟨gr, 0, none⟩ = some (.string s) := hrd1.cell 0
      have c1 : w1.cell? ⟨gr, 1, none⟩ = some (.int .i64 q) := hrd1.cell 1
      have f1 := hrd1.frozen 1
      have hr2 : RD (w1.setCell ⟨gr, 1, none⟩ (.int .i64 ((q + 1 : Nat) : Int))) gr s ⟨q + 1, bad⟩ := hrd1.set 1 _
      have hk2 : Kp (fun b => b = gr) w (w1.setCell ⟨gr, 1, none⟩ (.int .i64 ((q + 1 : Nat) : Int))) := (HNL.out.kp.trans (Kp.of_below hb1 _)).setCell (p := ⟨gr, 1, none⟩) rfl _
      have HS : Hid (NL w (w1.setCell ⟨gr, 1, none⟩ (.int .i64 ((q + 1 : Nat) : Int))) gr s p bad most (q + 1) (N * 10 + ((c.toNat : Int) - 48))) := HNL.out.step hc1 hdc hNm hlt hr2 hk2
      rw [hdt]
      have HA : Hid (s.size - atOf (w1.setCell ⟨gr, 1, none⟩ (.int .i64 ((q + 1 : Nat) : Int))) gr < s.size - atOf wr gr) := by
        show s.size - atOf (w1.setCell ⟨gr, 1, none⟩ (.int .i64 ((q + 1 : Nat) : Int))) gr < s.size - atOf wr gr
        rw [atOf_rd hr2, atOf_rd HNL.out.rd]; omega
      clear hrd1 hr2 hk2 hb1 HNL hc1 hdt hdc
      generalize hcn : (c.toNat : Int) = cn at *
      have k0 : 48 ≤ cn := by omega
      have k1 : cn ≤ 57 := by omega
      clear hcn hcb
      go_wp2
      go_region
      go_wp2
      refine And.intro ?_ ?_
      · first | exact ⟨q + 1, N * 10 + (cn - 48), by go_num, HS.out.drew⟩ | ((repeat apply Exists.intro); exact ⟨⟨q + 1, N * 10 + (cn - 48), by go_num, HS.out.drew⟩, rfl⟩)
      · exact HA.out
    · have hst := hnl.stop hgo
      have hq0 := hnl.q0
      have hn0 := hnl.n0
      have hn1 := hnl.n1
      have hnx : nx s.data.toList most ⟨p, bad⟩ = (if (bad || (decide (q - p < 1) || (decide (most < N) || !endAt s.data.toList q))) = true then 0 else N, ⟨if endAt s.data.toList q = true then q + 1 else q, bad || (decide (q - p < 1) || (decide (most < N) || !endAt s.data.toList q))⟩) := by
        have e : p + (q - p) = q := by omega
        simp only [nx, hst, e]
      have HX : Hid (nx s.data.toList most ⟨p, bad⟩ = (if (bad || (decide (q - p < 1) || (decide (most < N) || !endAt s.data.toList q))) = true then 0 else N, ⟨if endAt s.data.toList q = true then q + 1 else q, bad || (decide (q - p < 1) || (decide (most < N) || !endAt s.data.toList q))⟩)) := hnx
      have HNL : Hid (NL w wr gr s p bad most q N) := hnl
      clear hnl hst hnx
      have hdec : digAt s.data.toList q = false ∨ (digAt s.data.toList q = true ∧ ¬ N ≤ most) := by
        cases hd : digAt s.data.toList q
        · exact .inl rfl
        · exact .inr ⟨rfl, fun hN => hgo ⟨hd, hN⟩⟩
      clear hgo
      rcases hdec with hd | ⟨hd, hN⟩
      all_goals
        go_wp2_with fail
        refine (HD.out wr q bad HNL.out.rd hq1).mono ?_
        rintro e w1 ⟨rfl, hb1⟩
        rw [hd]
        have hrd1 : RD w1 gr s ⟨q, bad⟩ := HNL.out.rd.below hb1 HNL.out.rd.lt
        have c1 : w1.cell? ⟨gr, 1, none⟩ = some (.int .i64 q) := hrd1.cell 1
        have HR1 : Hid (RD w1 gr s ⟨q, bad⟩) := hrd1
        have HK1 : Hid (Kp (fun b => b = gr) w w1) := HNL.out.kp.trans (Kp.of_below hb1 _)
        have hd' : digAt s.data.toList q = digAt s.data.toList q := rfl
        clear hb1 HNL hrd1
        go_wp2_with fail
        refine (HE.out w1 q bad HR1.out hq1).mono ?_
        rintro e w2 ⟨rfl, hr2, hk2⟩
        have c2 : w2.cell? ⟨gr, 2, none⟩ = some (.bool bad) := hr2.cell 2
        have f2 := hr2.frozen 2
        have HK2 : Hid (Kp (fun b => b = gr) w w2) := HK1.out.trans hk2
        have HR2 : Hid (RD w2 gr s ⟨if endAt s.data.toList q = true then q + 1 else q, bad⟩) := hr2
        have HR3 : Hid (RD (w2.setCell ⟨gr, 2, none⟩ (.bool true)) gr s ⟨if endAt s.data.toList q = true then q + 1 else q, true⟩) := hr2.set 2 _
        have hk3 : Kp (fun b => b = gr) w (w2.setCell ⟨gr, 2, none⟩ (.bool true)) := HK2.out.setCell (p := ⟨gr, 2, none⟩) rfl _
        have HK3 : Hid (Kp (fun b => b = gr) w (w2.setCell ⟨gr, 2, none⟩ (.bool true))) := hk3
        clear hr2 hk2 hk3 HK1 HR1 hd'
        generalize endAt s.data.toList q = en at *
        cases en
        · have HB : Hid ((bad || (decide (q - p < 1) || (decide (most < N) || !false))) = true) := by simp [Hid]
          rw [HB.out, if_pos rfl, if_neg (by simp)] at HX
          by_cases hdg : (q : Int) - p < 1
          · go_wp2
            go_ret
            rw [HX.out]
            exact ⟨rfl, HR3.out, HK3.out⟩
          · by_cases hNm : most < N
            · go_wp2
              go_ret
              rw [HX.out]
              exact ⟨rfl, HR3.out, HK3.out⟩
            · first
              | (exfalso; omega)
              | (go_wp2
                 go_ret
                 rw [HX.out]
                 exact ⟨rfl, HR3.out, HK3.out⟩)
        · by_cases hdg : (q : Int) - p < 1
          · have HB : Hid ((bad || (decide (q - p < 1) || (decide (most < N) || !true))) = true) := by
              have : decide (q - p < 1) = true := decide_eq_true (by omega)
              show _ = true
              rw [this]; simp
            rw [HB.out, if_pos rfl, if_pos rfl] at HX
            go_wp2
            go_ret
            rw [HX.out]
            exact ⟨rfl, HR3.out, HK3.out⟩
          · by_cases hNm : most < N
            · have HB : Hid ((bad || (decide (q - p < 1) || (decide (most < N) || !true))) = true) := by
                have : decide (most < N) = true := decide_eq_true hNm
                show _ = true
                rw [this]; simp
              rw [HB.out, if_pos rfl, if_pos rfl] at HX
              go_wp2
              go_ret
              rw [HX.out]
              exact ⟨rfl, HR3.out, HK3.out⟩
            · have HB : Hid ((bad || (decide (q - p < 1) || (decide (most < N) || !true))) = bad) := by
                have h1 : decide (most < N) = false := decide_eq_false hNm
                have h2 : decide (q - p < 1) = false := decide_eq_false (by omega)
                show _ = bad
                rw [h1, h2]; simp
              rw [HB.out, if_pos rfl] at HX
              cases bad
              · rw [if_neg (by simp)] at HX
                first
                | (exfalso; omega)
                | (go_wp2
                   go_ret
                   rw [HX.out]
                   exact ⟨rfl, HR2.out, HK2.out⟩)
              · rw [if_pos rfl] at HX
                first
                | (exfalso; omega)
                | (go_wp2
                   go_ret
                   rw [HX.out]
                   exact ⟨rfl, HR2.out, HK2.out⟩)
end Go.Proofs.YtohjjgefklhmaabGreatDoor
