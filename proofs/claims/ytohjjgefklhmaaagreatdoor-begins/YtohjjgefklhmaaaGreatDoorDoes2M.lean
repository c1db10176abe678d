import Derived.Test.YtohjjgefklhmaaaGreatDoorDoesM
namespace Go.Proofs.YtohjjgefklhmaaaGreatDoor
open Go.ChangeShapes Go.WideShapes Go.ChangeAt Go.RowKit
set_option linter.unusedVariables false

/-- what a step on an engine leaves -/
def DPost (w w' : World) (lab : Nat → Nat × Nat) (i ge gx gy gl nh : Nat) (mk : Int) (vals : List VS) : Prop :=
  ∃ lab' hv' hcs' c', EI w' lab' i ge gx gy gl hv' (nh + 2) hcs' (mk + 1000 + 1000) c' c' c' vals ∧ GoodC c' ∧ (∀ k, k < w.heap.size → lab' k = lab k) ∧ Kp (fun k => (lab k).1 = i) w w'

theorem Kp.next {S S' : Nat → Prop} {a b c : World} (h : Kp S a b) (k : Kp S' b c) (hs : ∀ x, x < a.heap.size → S' x → S x) : Kp S a c :=
  ⟨k.os.trans h.os, k.tape.trans h.tape, k.output.trans h.output, Nat.le_trans h.size k.size, fun i hi hS => (k.block i (Nat.lt_of_lt_of_le hi h.size) (fun h' => hS (hs i hi h'))).trans (h.block i hi hS)⟩
theorem EI.kp0 {w w' : World} {lab : Nat → Nat × Nat} {i ge gx gy gl : Nat} {hv : Value} {nh : Nat} {hcs : List Value} {mk : Int} {cx cy cl : LC} {vals : List VS} (h : EI w lab i ge gx gy gl hv nh hcs mk cx cy cl vals) (k : Kp (fun _ => False) w w') : EI w' lab i ge gx gy gl hv nh hcs mk cx cy cl vals :=
  h.move k (fun b _ _ => ⟨fun h => h, rfl⟩)

set_option maxHeartbeats 4000000 in
set_option maxRecDepth 100000 in
theorem does_any {w : World} {lab : Nat → Nat × Nat} {i ge gx gy gl : Nat} {hv : Value} {nh : Nat} {hcs : List Value} {mk : Int} {c : LC} {vals : List VS} (o : OpD) (h : EI w lab i ge gx gy gl hv nh hcs mk c c c vals) (hc : GoodC c) (hz : ZV vals) (l1 : 1 ≤ vals.length) (l2 : vals.length ≤ 5) (m1 : 0 ≤ mk) (m2 : mk ≤ 100000000000) (hnh : nh ≤ 1000000) (hi : i ≠ 0) (hk : o.kind = 9 ∨ o.kind = 10 ∨ o.kind = 11) :
    Calls Tryz.prog 18 #[.pointer (some ⟨ge, 0, none⟩), .agg #[.int .i64 o.kind, .int .i64 o.x, .int .i64 o.a, .int .i64 o.b, .int .i64 o.c, .int .i64 o.d, .string o.s]] w fun e w' => e = .returned (.bool true) ∧ DPost w w' lab i ge gx gy gl nh mk vals := by
  have HI : Hid (EI w lab i ge gx gy gl hv nh hcs mk c c c vals) := h
  have c0 : w.cell? ⟨ge, 0, none⟩ = some (.pointer (some ⟨gx, 0, none⟩)) := h.E.cell 0
  have c1 : w.cell? ⟨ge, 1, none⟩ = some (.pointer (some ⟨gy, 0, none⟩)) := h.E.cell 1
  have hlt := h.E.lt
  have HO : Hid (o.kind = 9 ∨ o.kind = 10 ∨ o.kind = 11) := hk
  have k15 : (o.kind == 15) = false := by simp; omega
  have k22 : (o.kind == 22) = false := by simp; omega
  have k12 : (o.kind == 12) = false := by simp; omega
  have k13 : (o.kind == 13) = false := by simp; omega
  have k14 : (o.kind == 14) = false := by simp; omega
  have k16 : (o.kind == 16) = false := by simp; omega
  have HB : Hid (Has (w.alloc (.cells #[.int .i64 o.kind, .int .i64 o.x, .int .i64 o.a, .int .i64 o.b, .int .i64 o.c, .int .i64 o.d, .string o.s] 27)) w.heap.size 27 o.cells) := Has.newA w _ _
  have HI1 : Hid (EI (w.alloc (.cells #[.int .i64 o.kind, .int .i64 o.x, .int .i64 o.a, .int .i64 o.b, .int .i64 o.c, .int .i64 o.d, .string o.s] 27)) (relab lab w.heap.size (0, 0)) i ge gx gy gl hv nh hcs mk c c c vals) := h.move ((Kp.refl (fun _ => False) w).alloc _) (fun b hb _ => ⟨fun h => h, relab_old hb⟩)
  have HK1 : Hid (Kp (fun k => (lab k).1 = i) w (w.alloc (.cells #[.int .i64 o.kind, .int .i64 o.x, .int .i64 o.a, .int .i64 o.b, .int .i64 o.c, .int .i64 o.d, .string o.s] 27))) := (Kp.refl _ w).alloc _
  have HL1 : Hid (∀ k, k < w.heap.size → relab lab w.heap.size (0, 0) k = lab k) := fun k hk => relab_old hk
  have hbx : (relab lab w.heap.size (0, 0) w.heap.size).1 ≠ i := by rw [relab_new (Nat.le_refl _)]; exact fun e => hi e.symm
  clear h hk HI
  go_enter Tryz.func18, Tryz.ntmps18
  go_wp2_with fail
  generalize w.alloc (.cells #[.int .i64 o.kind, .int .i64 o.x, .int .i64 o.a, .int .i64 o.b, .int .i64 o.c, .int .i64 o.d, .string o.s] 27) = wa at HB HI1 HK1 ⊢
  generalize relab lab w.heap.size (0, 0) = lab1 at HI1 HL1 hbx
  have a0 : wa.cell? ⟨ge, 0, none⟩ = some (.pointer (some ⟨gx, 0, none⟩)) := HI1.out.E.cell 0
  have b0 : wa.cell? ⟨w.heap.size, 0, none⟩ = some (.int .i64 o.kind) := HB.out.cell 0
  have b1 : wa.cell? ⟨w.heap.size, 1, none⟩ = some (.int .i64 o.x) := HB.out.cell 1
  have b2 : wa.cell? ⟨w.heap.size, 2, none⟩ = some (.int .i64 o.a) := HB.out.cell 2
  have b3 : wa.cell? ⟨w.heap.size, 3, none⟩ = some (.int .i64 o.b) := HB.out.cell 3
  have b4 : wa.cell? ⟨w.heap.size, 4, none⟩ = some (.int .i64 o.c) := HB.out.cell 4
  have b5 : wa.cell? ⟨w.heap.size, 5, none⟩ = some (.int .i64 o.d) := HB.out.cell 5
  have b6 : wa.cell? ⟨w.heap.size, 6, none⟩ = some (.string o.s) := HB.out.cell 6
  have HP : Hid (∀ n, Calls Tryz.prog 28 #[.pointer (some ⟨gx, 0, none⟩), .agg #[.int .i64 o.kind, .int .i64 o.x, .int .i64 o.a, .int .i64 o.b, .int .i64 o.c, .int .i64 o.d, .string o.s]] (wa.drewN n) fun e w' => e = .returned (.int .i64 (opF c o).1) ∧ EI w' lab1 i ge gx gy gl hv nh hcs mk (opF c o).2 c c vals ∧ Kp (fun k => lab1 k = (i, 1)) wa w') := fun n => by
    have hx := HI1.out.kp0 ((Kp.refl (fun _ => False) wa).drewN n)
    refine (calls_any o hx.X hc hz l2 HO.out).mono ?_
    rintro e w' ⟨rfl, hX, hk⟩
    exact ⟨rfl, hx.setX hk hX, ((Kp.refl _ wa).drewN n).trans hk⟩
  clear c0 c1
  go_cut [9] (fun s9 wx => s9 = .int .i64 (opF c o).1 ∧ EI wx lab1 i ge gx gy gl hv nh hcs mk (opF c o).2 c c vals ∧ Kp (fun k => lab1 k = (i, 1)) wa wx)
  case first =>
    go_region_with (go_at_call 28; refine (HP.out 1).mono ?_; rintro e w' ⟨rfl, hX, hk⟩)
    all_goals (go_wp2_with fail; go_meet; exact ⟨rfl, hX, hk⟩)
  case rest =>
    obtain ⟨rfl, hX, hk⟩ := hcut
    have HBd : Hid (Has wc w.heap.size 27 o.cells) := HB.out.kp hk (fun e => hbx (by rw [e]))
    have HI2 : Hid (EI wc lab1 i ge gx gy gl hv nh hcs mk (opF c o).2 c c vals) := hX
    have HK2 : Hid (Kp (fun k => (lab1 k).1 = i) wa wc) := hk.mono (fun k _ e => by rw [e])
    clear hX hk HP HI1 HB a0 b0 b1 b2 b3 b4 b5 b6
    have d_1 : wc.cell? ⟨ge, 1, none⟩ = some (.pointer (some ⟨gy, 0, none⟩)) := HI2.out.E.cell 1
    have d0 : wc.cell? ⟨w.heap.size, 0, none⟩ = some (.int .i64 o.kind) := HBd.out.cell 0
    have d1 : wc.cell? ⟨w.heap.size, 1, none⟩ = some (.int .i64 o.x) := HBd.out.cell 1
    have d2 : wc.cell? ⟨w.heap.size, 2, none⟩ = some (.int .i64 o.a) := HBd.out.cell 2
    have d3 : wc.cell? ⟨w.heap.size, 3, none⟩ = some (.int .i64 o.b) := HBd.out.cell 3
    have d4 : wc.cell? ⟨w.heap.size, 4, none⟩ = some (.int .i64 o.c) := HBd.out.cell 4
    have d5 : wc.cell? ⟨w.heap.size, 5, none⟩ = some (.int .i64 o.d) := HBd.out.cell 5
    have d6 : wc.cell? ⟨w.heap.size, 6, none⟩ = some (.string o.s) := HBd.out.cell 6
    have HP : Hid (∀ n, Calls Tryz.prog 28 #[.pointer (some ⟨gy, 0, none⟩), .agg #[.int .i64 o.kind, .int .i64 o.x, .int .i64 o.a, .int .i64 o.b, .int .i64 o.c, .int .i64 o.d, .string o.s]] (wc.drewN n) fun e w' => e = .returned (.int .i64 (opF c o).1) ∧ EI w' lab1 i ge gx gy gl hv nh hcs mk (opF c o).2 (opF c o).2 c vals ∧ Kp (fun k => lab1 k = (i, 2)) wc w') := fun n => by
      have hx := HI2.out.kp0 ((Kp.refl (fun _ => False) wc).drewN n)
      refine (calls_any o hx.Y hc hz l2 HO.out).mono ?_
      rintro e w' ⟨rfl, hX, hk⟩
      exact ⟨rfl, hx.setY hk hX, ((Kp.refl _ wc).drewN n).trans hk⟩
    obtain ⟨wb, hwb⟩ : ∃ wb, wb = wc := ⟨_, rfl⟩
    subst hwb
    go_wp2_with fail
    go_cut [10] (fun s9 wx => s9 = .int .i64 (opF c o).1 ∧ EI wx lab1 i ge gx gy gl hv nh hcs mk (opF c o).2 (opF c o).2 c vals ∧ Kp (fun k => lab1 k = (i, 2)) wb wx)
    case first =>
      go_region_with (go_at_call 28; refine (HP.out 1).mono ?_; rintro e w' ⟨rfl, hX, hk⟩)
      all_goals (go_wp2_with fail; go_meet; exact ⟨rfl, hX, hk⟩)
    case rest =>
    obtain ⟨rfl, hX, hk⟩ := hcut
    have HBe : Hid (Has wc w.heap.size 27 o.cells) := HBd.out.kp hk (fun e => hbx (by rw [e]))
    have HI3 : Hid (EI wc lab1 i ge gx gy gl hv nh hcs mk (opF c o).2 (opF c o).2 c vals) := hX
    have HK3 : Hid (Kp (fun k => (lab1 k).1 = i) wa wc) := HK2.out.trans (hk.mono (fun k _ e => by rw [e]))
    clear hX hk HP HI2 HBd HK2 d_1 d0 d1 d2 d3 d4 d5 d6
    have e0 : wc.cell? ⟨w.heap.size, 0, none⟩ = some (.int .i64 o.kind) := HBe.out.cell 0
    have e1 : wc.cell? ⟨w.heap.size, 1, none⟩ = some (.int .i64 o.x) := HBe.out.cell 1
    have e2 : wc.cell? ⟨w.heap.size, 2, none⟩ = some (.int .i64 o.a) := HBe.out.cell 2
    have e3 : wc.cell? ⟨w.heap.size, 3, none⟩ = some (.int .i64 o.b) := HBe.out.cell 3
    have e4 : wc.cell? ⟨w.heap.size, 4, none⟩ = some (.int .i64 o.c) := HBe.out.cell 4
    have e5 : wc.cell? ⟨w.heap.size, 5, none⟩ = some (.int .i64 o.d) := HBe.out.cell 5
    have e6 : wc.cell? ⟨w.heap.size, 6, none⟩ = some (.string o.s) := HBe.out.cell 6
    go_wp2_with fail
    refine (ledger_any o 0 0 HI3.out.E HI3.out.L hc hz l1 l2 HO.out).mono ?_
    rintro e w4 ⟨rfl, hL4, hk4⟩
    have HI4 : Hid (EI w4 (relab lab1 wc.heap.size (i, 3)) i ge gx gy gl hv nh hcs mk (opF c o).2 (opF c o).2 (opF c o).2 vals) := HI3.out.setL hk4 hL4
    have HK4 : Hid (Kp (fun k => (lab1 k).1 = i) wa w4) := HK3.out.trans (hk4.mono (fun k _ e => by rw [e]))
    have HL4 : Hid (∀ k, k < wc.heap.size → relab lab1 wc.heap.size (i, 3) k = lab1 k) := fun k hk => relab_old hk
    have hs3 := HK3.out.size
    have hs4 := hk4.size
    clear hL4 hk4 HI3 HBe HK3 e0 e1 e2 e3 e4 e5 e6
    generalize relab lab1 wc.heap.size (i, 3) = lab4 at HI4 HL4
    have c0 : w4.cell? ⟨ge, 0, none⟩ = some (.pointer (some ⟨gx, 0, none⟩)) := HI4.out.E.cell 0
    go_wp2_with fail
    refine (ereads HI4.out (hc.op o) hz l2 m1 m2 hnh gx (esee HI4.out.X (hc.op o) hz l2)).mono ?_
    rintro e w5 ⟨rfl, lab5, hv5, hcs5, hI5, hL5, hK5⟩
    have HF : Hid (DPost w w5 lab i ge gx gy gl nh mk vals) := by
      have hs1 := HK1.out.size
      refine ⟨lab5, hv5, hcs5, (opF c o).2, hI5, hc.op o, fun k hk => ?_, (HK1.out.next HK4.out (fun k hk h => ?_)).next hK5 (fun k hk h => ?_)⟩
      · rw [hL5 k (by omega), HL4.out k (by omega), HL1.out k hk]
      · rw [HL1.out k hk] at h; exact h
      · rw [HL4.out k (by omega), HL1.out k hk] at h; exact h
    clear hI5 hL5 hK5 HI4 HK4 HL4 HK1 HL1 c0
    generalize (opF c o).1 = q at *
    go_wp2_with (go_at_call 30; refine (num_any _ _).mono ?_; rintro e w' ⟨rfl, rfl⟩)
    go_ret
    refine ⟨?_, HF.out⟩
    simp
end Go.Proofs.YtohjjgefklhmaaaGreatDoor

namespace Go.Proofs.YtohjjgefklhmaaaGreatDoor
open Go.ChangeShapes Go.WideShapes Go.ChangeAt Go.RowKit
set_option linter.unusedVariables false

/-- such an engine may be written -/
theorem wbd_lc {c : LC} {vals : List VS} (hc : GoodC c) (hz : ZV vals) (hr : ZR vals) (l2 : vals.length ≤ 5) : WBd (ofLC c vals) := by
  have hs := sumL_mem _ hc.bal0
  have ht := hc.tot
  have f0 := hc.fees0
  have p0 := hc.pool0
  have hv : ∀ v, v ∈ vals → ∃ k, ∃ h : k < vals.length, v = vals[k] := fun v hv => by
    obtain ⟨k, hk, e⟩ := List.mem_iff_getElem.1 hv
    exact ⟨k, hk, e.symm⟩
  have e0 : ∀ n, (List.replicate 65 (0 : Int)).getD n 0 = 0 := rep_getD 65
  refine ⟨hc.len, l2, fun n hn => ?_, fun n hn => ?_, fun n hn => ?_, ⟨by have := hc.top1; show 0 ≤ c.top; omega, by have := hc.top2; show c.top ≤ _; omega⟩, ⟨hc.mat.1, by have := hc.mat.2; show c.mature ≤ _; omega⟩, ⟨hc.fee0, by have := hc.fee1; show c.fee ≤ _; omega⟩, ⟨hc.h0, by have := hc.h1; show c.height ≤ _; omega⟩, ⟨f0, by show c.fees ≤ _; omega⟩, ⟨p0, by show c.pool ≤ _; omega⟩, fun v hv' => ?_, ⟨fun k j _ _ => ?_, fun k j _ _ h => ?_⟩, fun k j _ _ => ?_, by simp [ofLC], fun e he => by simp [ofLC] at he⟩
  · have := hs.2 n hn
    have := hc.bal0 n hn
    omega
  · simp only [ofLC, List.mem_map] at hn
    obtain ⟨v, h1, rfl⟩ := hn
    obtain ⟨k, hk, rfl⟩ := hv v h1
    have := (hr k hk).2.2.2.2.2
    omega
  · simp only [ofLC, List.mem_map] at hn
    obtain ⟨v, h1, rfl⟩ := hn
    obtain ⟨k, hk, rfl⟩ := hv v h1
    have := (hr k hk).2.2.2
    omega
  · obtain ⟨k, hk, rfl⟩ := hv v hv'
    obtain ⟨r1, r2, r3, _⟩ := hr k hk
    obtain ⟨z1, z2⟩ := hz k hk
    exact ⟨by omega, by omega, by omega, by omega, by omega, by omega, fun _ => z2⟩
  · have e : (ofLC c vals).sh k j = 0 := e0 _
    rw [e]; omega
  · have e : (ofLC c vals).sh k j = 0 := e0 _
    rw [e] at h; omega
  · have e1 : (ofLC c vals).upto k j = 0 := e0 _
    have e2 : (ofLC c vals).per j = 0 := e0 _
    rw [e1, e2]; omega
/-- Export, in these words -/
theorem eexport {F : Nat → Prop} {w : World} {g : Nat} {c : LC} {vals : List VS} (h : EngF F w g c vals) (hc : GoodC c) (hz : ZV vals) (l2 : vals.length ≤ 5) (B : Nat) (hI : ItoaOk B w) (hB : B ≤ w.heap.size) :
    Calls Tryz.prog 22 #[.pointer (some ⟨g, 0, none⟩)] w fun e w' => e = .returned (.string ⟨(txt (nums (ofLC c vals))).toArray⟩) ∧ Below w.heap.size w w' := by
  obtain ⟨bv, vv, hP, hO, hr⟩ := h
  exact export_any g (ofLC c vals) bv vv _ hP B hI hB (wbd_lc hc hz hr l2)

set_option maxHeartbeats 4000000 in
set_option maxRecDepth 100000 in
theorem twin_any {w : World} (B : Nat) (hIt : ItoaOk B w) (hB : B ≤ w.heap.size) {lab : Nat → Nat × Nat} {i ge gx gy gl : Nat} {hv : Value} {nh : Nat} {hcs : List Value} {mk : Int} {c : LC} {vals : List VS} (hb : ∀ k, k < B → (lab k).1 = 0) (hi : i ≠ 0) (h : EI w lab i ge gx gy gl hv nh hcs mk c c c vals) (hc : GoodC c) (hz : ZV vals) (l2 : vals.length ≤ 5) (m1 : 0 ≤ mk) (m2 : mk ≤ 100000000000) (hnh : nh ≤ 1000000) :
    Calls Tryz.prog 26 #[.pointer (some ⟨ge, 0, none⟩)] w fun e w' => e = .returned (.bool true) ∧ DPost w w' lab i ge gx gy gl nh mk vals := by
  have HI : Hid (EI w lab i ge gx gy gl hv nh hcs mk c c c vals) := h
  have c1 : w.cell? ⟨ge, 1, none⟩ = some (.pointer (some ⟨gy, 0, none⟩)) := h.E.cell 1
  clear h
  go_enter Tryz.func26, Tryz.ntmps26
  go_wp2_with fail
  refine (ereads HI.out hc hz l2 m1 m2 hnh gy (esee HI.out.Y hc hz l2)).mono ?_
  rintro e w5 ⟨rfl, lab5, hv5, hcs5, hI5, hL5, hK5⟩
  have HB5 : Hid (∀ w', Below w5.heap.size w5 w' → ItoaOk B w' ∧ B ≤ w'.heap.size ∧ DPost w w' lab i ge gx gy gl nh mk vals ∧ EngF (fun k => lab5 k = (i, 1)) w' gx c vals ∧ EngF (fun k => lab5 k = (i, 2)) w' gy c vals ∧ Has w' ge 54 [.pointer (some ⟨gx, 0, none⟩), .pointer (some ⟨gy, 0, none⟩), .pointer (some ⟨gl, 0, none⟩), hv5, .int .i64 (mk + 1000 + 1000)]) := fun w' hw' => by
    have hb5 : Below B w w5 := hK5.toBelow hB (fun k hk e => hi (by rw [← e]; exact hb k hk))
    have h' := hI5.kp0 (Kp.of_below hw' _)
    have hs5 := hb5.size
    exact ⟨(hIt.on hb5).on (hw'.mono (by omega)), by have := hw'.size; omega, ⟨lab5, hv5, hcs5, c, h', hc, hL5, hK5.next (Kp.of_below hw' (fun _ => False)) (fun _ _ h => h.elim)⟩, h'.X, h'.Y, h'.E⟩
  have d0 : w5.cell? ⟨ge, 0, none⟩ = some (.pointer (some ⟨gx, 0, none⟩)) := hI5.E.cell 0
  have d1 : w5.cell? ⟨ge, 1, none⟩ = some (.pointer (some ⟨gy, 0, none⟩)) := hI5.E.cell 1
  have d2 : w5.cell? ⟨ge, 2, none⟩ = some (.pointer (some ⟨gl, 0, none⟩)) := hI5.E.cell 2
  have q8 : w5.cell? ⟨gl, 8, none⟩ = some (.slice none 0 0) := by
    obtain ⟨bv, vv, ev, hZ, _⟩ := hI5.L
    exact hZ.C.L.cell 8
  clear hI5 hL5 hK5 HI c1 hIt hb
  go_wp2_with fail
  go_loop [4] (fun i => i = .int .i64 0) (fun _ => 0)
  case atStart => rfl
  case round =>
    subst hrel
    go_wp2_with fail
    refine (eexport (HB5.out _ (Below.refl _ _)).2.2.2.1 hc hz l2 B (HB5.out _ (Below.refl _ _)).1 (HB5.out _ (Below.refl _ _)).2.1).mono ?_
    rintro e w6 ⟨rfl, hb6⟩
    have f1 : w6.cell? ⟨ge, 1, none⟩ = some (.pointer (some ⟨gy, 0, none⟩)) := (HB5.out _ hb6).2.2.2.2.2.cell 1
    have HB6 : Hid (Below w5.heap.size w5 w6) := hb6
    clear hb6
    go_wp2_with fail
    refine (eexport (HB5.out _ HB6.out).2.2.2.2.1 hc hz l2 B (HB5.out _ HB6.out).1 (HB5.out _ HB6.out).2.1).mono ?_
    rintro e w7 ⟨rfl, hb7⟩
    have HF : Hid (DPost w w7 lab i ge gx gy gl nh mk vals) := (HB5.out _ (HB6.out.trans (hb7.mono HB6.out.size))).2.2.1
    clear hb7 HB6 HB5
    generalize (⟨(txt (nums (ofLC c vals))).toArray⟩ : ByteArray) = ss at *
    go_wp2
    go_ret
    refine ⟨?_, HF.out⟩
    first | rfl | simp

set_option maxHeartbeats 4000000 in
set_option maxRecDepth 100000 in
theorem look_any {w : World} {lab : Nat → Nat × Nat} {i ge gx gy gl : Nat} {hv : Value} {nh : Nat} {hcs : List Value} {mk : Int} {c : LC} {vals : List VS} (o : OpD) (B : Nat) (hIt : ItoaOk B w) (hB : B ≤ w.heap.size) (hb : ∀ k, k < B → (lab k).1 = 0) (hi : i ≠ 0) (h : EI w lab i ge gx gy gl hv nh hcs mk c c c vals) (hc : GoodC c) (hz : ZV vals) (l2 : vals.length ≤ 5) (m1 : 0 ≤ mk) (m2 : mk ≤ 100000000000) (hnh : nh ≤ 1000000) (hk : o.kind = 22) :
    Calls Tryz.prog 18 #[.pointer (some ⟨ge, 0, none⟩), .agg #[.int .i64 o.kind, .int .i64 o.x, .int .i64 o.a, .int .i64 o.b, .int .i64 o.c, .int .i64 o.d, .string o.s]] w fun e w' => e = .returned (.bool true) ∧ DPost w w' lab i ge gx gy gl nh mk vals := by
  rw [hk]
  have HIt : Hid (∀ ob, ItoaOk B (w.alloc ob)) := fun ob => hIt.on ((Below.refl _ _).alloc hB ob)
  have HI : Hid (∀ ob, EI (w.alloc ob) lab i ge gx gy gl hv nh hcs mk c c c vals) := fun ob => h.kp0 ((Kp.refl _ w).alloc ob)
  clear h hk hIt
  go_enter Tryz.func18, Tryz.ntmps18
  go_wp2_with fail
  refine (twin_any B (HIt.out _) (by simp only [World.size_alloc]; omega) hb hi (HI.out _) hc hz l2 m1 m2 hnh).mono ?_
  rintro e w5 ⟨rfl, lab5, hv5, hcs5, c', hI5, hc', hL5, hK5⟩
  have HF : Hid (DPost w w5 lab i ge gx gy gl nh mk vals) := ⟨lab5, hv5, hcs5, c', hI5, hc', fun k hk => hL5 k (by simp only [World.size_alloc]; omega), ((Kp.refl _ w).alloc _).trans hK5⟩
  clear hI5 hL5 hK5 HI
  go_wp2
  go_ret
  exact ⟨rfl, HF.out⟩
end Go.Proofs.YtohjjgefklhmaaaGreatDoor
