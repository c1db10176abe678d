import Derived.Test.YtohjjgefklhmaaaGreatDoorYDoesM
import Derived.Deep.QuietTactic
import Derived.BigQuiet
namespace Go.Proofs.YtohjjgefklhmaaaGreatDoor
open Go.ChangeShapes Go.WideShapes Go.ChangeAt Go.RowKit
set_option linter.unusedVariables false
set_option linter.unusedSimpArgs false
set_option maxHeartbeats 40000000
set_option maxRecDepth 100000
variable {w : World} {lab : Nat -> Nat × Nat} {i ge gx gy gl nh g : Nat} {hv : Value} {hcs : List Value} {mk : Int} {x : EC} {F : Nat -> Prop}
def CX (w w' : World) (lab : Nat -> Nat × Nat) (i ge gx gy gl nh : Nat) (mk : Int) : Prop :=
 ∃ lab' hv' nh' hcs' mk' x', EI w' lab' i ge gx gy gl hv' nh' hcs' mk' x' x' x' ∧ AB x' ∧ nh' <= nh + 2 ∧ mk <= mk' ∧ mk' <= mk + 2000 ∧ (∀ k, k < w.heap.size -> lab' k = lab k) ∧ Kp (fun k => (lab k).1 = i) w w'
theorem Kp.next {S S' : Nat -> Prop} {a b c : World} (h : Kp S a b) (k : Kp S' b c) (hs : ∀ x, x < a.heap.size -> S' x -> S x) : Kp S a c :=
 ⟨k.os.trans h.os, k.tape.trans h.tape, k.output.trans h.output, Nat.le_trans h.size k.size, fun i hi hS => (k.block i (Nat.lt_of_lt_of_le hi h.size) (fun h' => hS (hs i hi h'))).trans (h.block i hi hS)⟩
structure DSt (w wa : World) (lab lab1 : Nat -> Nat × Nat) (i ge gx gy gl : Nat) (hv : Value) (nh : Nat) (hcs : List Value) (mk : Int) (x y z : EC) (o : OpD) : Prop where
 I : EI wa lab1 i ge gx gy gl hv nh hcs mk x y z
 B : Has wa w.heap.size 27 o.cells
 K : Kp (fun k => (lab k).1 = i) w wa
 L : ∀ k, k < w.heap.size -> lab1 k = lab k
 b : (lab1 w.heap.size).1 ≠ i
structure DSx (w wa : World) (lab : Nat -> Nat × Nat) (i ge gx gy gl : Nat) (hv : Value) (nh : Nat) (hcs : List Value) (mk : Int) (x y z : EC) (o : OpD) : Prop where
 ex : ∃ lab1, DSt w wa lab lab1 i ge gx gy gl hv nh hcs mk x y z o
section
variable {w wa wb : World} {lab : Nat -> Nat × Nat} {i ge gx gy gl : Nat} {hv : Value} {nh : Nat} {hcs : List Value} {mk : Int} {x y z : EC} {o : OpD}
theorem DSx.start (h : EI w lab i ge gx gy gl hv nh hcs mk x y z) (hi : i ≠ 0) (kind X A B C D : Int) (s : ByteArray) : DSx w (w.alloc (.cells #[.int .i64 kind, .int .i64 X, .int .i64 A, .int .i64 B, .int .i64 C, .int .i64 D, .string s] 27)) lab i ge gx gy gl hv nh hcs mk x y z ⟨kind, X, A, B, C, D, s⟩ :=
 ⟨⟨Cu lab w.heap.size (0, 0), h.move ((Kp.refl (fun _ => False) w).alloc _) (fun b hb _ => ⟨fun h => h, A0 hb⟩), Has.newA w _ _, (Kp.refl _ w).alloc _, fun k hk => A0 hk, by rw [B4 (Nat.le_refl _)]; exact fun e => hi e.symm⟩⟩
theorem DSx.below (h : DSx w wa lab i ge gx gy gl hv nh hcs mk x y z o) (hb : Below wa.heap.size wa wb) : DSx w wb lab i ge gx gy gl hv nh hcs mk x y z o := by
 obtain ⟨⟨lab1, h⟩⟩ := h
 exact ⟨⟨lab1, h.I.kp0 (Kp.of_below hb _), h.B.below hb h.B.lt, h.K.trans (Kp.of_below hb _), h.L, h.b⟩⟩
theorem DSx.kp {w0 : World} {p : Nat} {x' y' z' : EC} {lab1 : Nat -> Nat × Nat} (h : DSt w wa lab lab1 i ge gx gy gl hv nh hcs mk x y z o) (hw : wa.heap.size = w0.heap.size) (hk : Kp (fun k => lab1 k = (i, p)) wa wb) (hI : EI wb (Cu lab1 w0.heap.size (i, p)) i ge gx gy gl hv nh hcs mk x' y' z') : DSx w wb lab i ge gx gy gl hv nh hcs mk x' y' z' o := by
 have hs := h.B.lt
 refine ⟨⟨_, hI, h.B.kp hk (fun e => h.b (by rw [e])), h.K.next hk (fun k hk' e => by rw [<- h.L k hk', e]), fun k hk' => ?_, ?_⟩⟩
 ·rw [A0 (by omega)]; exact h.L k hk'
 ·rw [A0 (by omega)]; exact h.b
theorem DSx.callX (h : DSx w wa lab i ge gx gy gl hv nh hcs mk x x x o) (hx : AB x) (hk : BD o.kind) (n : Nat) : Calls Tryz.prog 28 #[.pointer (some ⟨gx, 0, none⟩), .agg #[.int .i64 o.kind, .int .i64 o.x, .int .i64 o.a, .int .i64 o.b, .int .i64 o.c, .int .i64 o.d, .string o.s]] (wa.drewN n) fun e w' => e = .returned (.int .i64 (opX x o).1) ∧ DSx w w' lab i ge gx gy gl hv nh hcs mk (opX x o).2 x x o ∧ Bl (opX x o).2 := by
 obtain ⟨⟨lab1, h⟩⟩ := h
 have hx' := h.I.kp0 ((Kp.refl (fun _ => False) wa).drewN n)
 refine (Jw o hx'.X hx hk).mono ?_
 rintro e w' ⟨rfl, hX, hk, hf⟩
 exact ⟨rfl, DSx.kp h rfl (((Kp.refl _ wa).drewN n).trans hk) (hx'.setX hk hX), hf⟩
theorem DSx.callY (h : DSx w wa lab i ge gx gy gl hv nh hcs mk y x x o) (hx : AB x) (hk : BD o.kind) (n : Nat) : Calls Tryz.prog 28 #[.pointer (some ⟨gy, 0, none⟩), .agg #[.int .i64 o.kind, .int .i64 o.x, .int .i64 o.a, .int .i64 o.b, .int .i64 o.c, .int .i64 o.d, .string o.s]] (wa.drewN n) fun e w' => e = .returned (.int .i64 (opX x o).1) ∧ DSx w w' lab i ge gx gy gl hv nh hcs mk y (opX x o).2 x o := by
 obtain ⟨⟨lab1, h⟩⟩ := h
 have hx' := h.I.kp0 ((Kp.refl (fun _ => False) wa).drewN n)
 refine (Jw o hx'.Y hx hk).mono ?_
 rintro e w' ⟨rfl, hX, hk, hf⟩
 exact ⟨rfl, DSx.kp h rfl (((Kp.refl _ wa).drewN n).trans hk) (hx'.setY hk hX)⟩
theorem DSx.led (h : DSx w wa lab i ge gx gy gl hv nh hcs mk y z x o) (hx : AB x) (hk : BD o.kind) (W Z : Int) (hW : o.kind = 12 ∨ o.kind = 13 ∨ o.kind = 14 ∨ o.kind = 16 -> W = CS x o.a o.b) (hZ : o.kind = 14 -> o.b ≠ o.c -> Z = CS x o.a o.c) (w0 : 0 <= W) (w1 : W <= 1000000) (z0 : 0 <= Z) (z1 : Z <= 1000000) : Calls Tryz.prog 29 #[.pointer (some ⟨ge, 0, none⟩), .agg #[.int .i64 o.kind, .int .i64 o.x, .int .i64 o.a, .int .i64 o.b, .int .i64 o.c, .int .i64 o.d, .string o.s], .int .i64 W, .int .i64 Z] wa fun e w' => e = .returned (.int .i64 (opX x o).1) ∧ DSx w w' lab i ge gx gy gl hv nh hcs mk y z (opX x o).2 o := by
 obtain ⟨⟨lab1, h⟩⟩ := h
 refine (LW o W Z h.I.E h.I.L hx hk hW hZ w0 w1 z0 z1).mono ?_
 rintro e w' ⟨rfl, hX, hk⟩
 exact ⟨rfl, DSx.kp h rfl hk (h.I.setL hk hX)⟩
theorem DSx.reads (h : DSx w wa lab i ge gx gy gl hv nh hcs mk x x x o) (hx : AB x) (m1 : 0 <= mk) (m2 : mk <= 100000000000) (hnh : nh <= 1000000) : Calls Tryz.prog 24 #[.pointer (some ⟨ge, 0, none⟩), .pointer (some ⟨gx, 0, none⟩)] wa fun e w' => e = .returned (.bool true) ∧ CX w w' lab i ge gx gy gl nh mk := by
 obtain ⟨⟨lab1, h⟩⟩ := h
 have hs := h.B.lt
 refine (IG h.I hx m1 m2 hnh gx (Qq h.I.X hx)).mono ?_
 rintro e w5 ⟨rfl, lab5, hv5, hcs5, hI5, hL5, hK5⟩
 refine ⟨rfl, lab5, hv5, nh + 2, hcs5, mk + 1000 + 1000, x, hI5, hx, by omega, by omega, by omega, fun k hk => ?_, h.K.next hK5 (fun k hk e => ?_)⟩
 ·rw [hL5 k (by omega), h.L k hk]
 ·rw [h.L k hk] at e; exact e
theorem DSx.due (h : DSx w wa lab i ge gx gy gl hv nh hcs mk x x x o) (hx : AB x) (who v : Int) : Calls Tryz.prog 27 #[.pointer (some ⟨ge, 0, none⟩), .int .i64 who, .int .i64 v] wa fun e w' => e = .returned (.tuple #[.int .i64 (CS x who v), .bool true]) ∧ DSx w w' lab i ge gx gy gl hv nh hcs mk x x x o := by
 obtain ⟨⟨lab1, h0⟩⟩ := id h
 refine (Mx h0.I.tri hx who v).mono ?_
 rintro e w' ⟨rfl, hb⟩
 exact ⟨rfl, h.below hb⟩
theorem DSx.cells {kind X A B C D : Int} {s : ByteArray} (h : DSx w wa lab i ge gx gy gl hv nh hcs mk x y z ⟨kind, X, A, B, C, D, s⟩) :
  wa.cell? ⟨ge, 0, none⟩ = some (.pointer (some ⟨gx, 0, none⟩)) ∧ wa.cell? ⟨ge, 1, none⟩ = some (.pointer (some ⟨gy, 0, none⟩)) ∧ wa.cell? ⟨w.heap.size, 0, none⟩ = some (.int .i64 kind) ∧ wa.cell? ⟨w.heap.size, 1, none⟩ = some (.int .i64 X) ∧ wa.cell? ⟨w.heap.size, 2, none⟩ = some (.int .i64 A) ∧ wa.cell? ⟨w.heap.size, 3, none⟩ = some (.int .i64 B) ∧ wa.cell? ⟨w.heap.size, 4, none⟩ = some (.int .i64 C) ∧ wa.cell? ⟨w.heap.size, 5, none⟩ = some (.int .i64 D) ∧ wa.cell? ⟨w.heap.size, 6, none⟩ = some (.string s) ∧ ge < wa.heap.size ∧ w.heap.size < wa.heap.size := by
 obtain ⟨⟨lab1, h⟩⟩ := h
 exact ⟨h.I.E.cell 0, h.I.E.cell 1, h.B.cell 0, h.B.cell 1, h.B.cell 2, h.B.cell 3, h.B.cell 4, h.B.cell 5, h.B.cell 6, h.I.E.lt, h.B.lt⟩
end
theorem Ry (kind : Int) (X A B C D : Int) (s : ByteArray) (h : EI w lab i ge gx gy gl hv nh hcs mk x x x) (hx : AB x) (m1 : 0 <= mk) (m2 : mk <= 100000000000) (hnh : nh <= 1000000) (hi : i ≠ 0) (hk : BD kind) (n12 : kind ≠ 12) (n13 : kind ≠ 13) (n14 : kind ≠ 14) (n16 : kind ≠ 16) :
  Calls Tryz.prog 18 #[.pointer (some ⟨ge, 0, none⟩), .agg #[.int .i64 kind, .int .i64 X, .int .i64 A, .int .i64 B, .int .i64 C, .int .i64 D, .string s]] w fun e w' => e = .returned (.bool true) ∧ CX w w' lab i ge gx gy gl nh mk := by
 have HX := Hd hx
 have hlt := h.E.lt
 have HS0 : Hid _ := DSx.start h hi kind X A B C D s
 have hW := CE hx A B
 have hZ := CE hx A C
 have HOk := Hd hk
 have k15 : (kind == 15) = false := by unfold BD at hk; simp; omega
 have k22 : (kind == 22) = false := by unfold BD at hk; simp; omega
 have k12 : (kind == 12) = false := by simpa using n12
 have k13 : (kind == 13) = false := by simpa using n13
 have k14 : (kind == 14) = false := by simpa using n14
 have k16 : (kind == 16) = false := by simpa using n16
 clear hk
 clear h hx
 go_enter Tryz.func18, Tryz.ntmps18
 go_wp2_with fail
 generalize w.alloc (.cells #[.int .i64 kind, .int .i64 X, .int .i64 A, .int .i64 B, .int .i64 C, .int .i64 D, .string s] 27) = wa at HS0 ⊢
 have HS : Hid _ := HS0.out
 clear HS0
 obtain ⟨p0, p1, p2, p3, p4, p5, p6, p7, p8, p9, p10⟩ := HS.out.cells
 go_wp2_with fail
 refine wp_region_still_tail 5 (by kernel_rfl) (by kernel_rfl) ?_
 simp only [List.take_succ_cons, List.take_zero, List.drop_succ_cons, List.drop_zero]
 repeat still_step
 refine wpStill_nil ?_
 go_wp2_with fail
 refine (HS.out.callX HX.out HOk.out 1).mono ?_
 rintro e wc ⟨rfl, hs, hf⟩
 have HFn : Hid (AB (opX x ⟨kind, X, A, B, C, D, s⟩).2) := HX.out.op _ hf
 clear HS hf p0 p1 p2 p3 p4 p5 p6 p7 p8 p9 p10
 have HS : Hid _ := hs
 clear hs
 obtain ⟨p0, p1, p2, p3, p4, p5, p6, p7, p8, p9, p10⟩ := HS.out.cells
 go_wp2_with fail
 refine wp_region_still_tail 5 (by kernel_rfl) (by kernel_rfl) ?_
 simp only [List.take_succ_cons, List.take_zero, List.drop_succ_cons, List.drop_zero]
 repeat still_step
 refine wpStill_nil ?_
 go_wp2_with fail
 refine (HS.out.callY HX.out HOk.out 1).mono ?_
 rintro e wd ⟨rfl, hs⟩
 clear HS p0 p1 p2 p3 p4 p5 p6 p7 p8 p9 p10
 have HS : Hid _ := hs
 clear hs
 obtain ⟨p0, p1, p2, p3, p4, p5, p6, p7, p8, p9, p10⟩ := HS.out.cells
 go_wp2_with fail
 refine (HS.out.led HX.out HOk.out 0 0 (by intro h; simp only at h; omega) (by intro h; simp only at h; omega) (by omega) (by omega) (by omega) (by omega)).mono ?_
 rintro e we ⟨rfl, hs⟩
 clear HS p0 p1 p2 p3 p4 p5 p6 p7 p8 p9 p10
 have HS : Hid _ := hs
 clear hs
 obtain ⟨p0, p1, p2, p3, p4, p5, p6, p7, p8, p9, p10⟩ := HS.out.cells
 go_wp2_with fail
 refine (HS.out.reads HFn.out m1 m2 hnh).mono ?_
 rintro e w5 ⟨rfl, hd⟩
 have HF := Hd hd
 clear hd HS HFn HX p0 p1 p2 p3 p4 p5 p6 p7 p8 p9 p10
 generalize (opX x ⟨kind, X, A, B, C, D, s⟩).1 = q at *
 go_wp2_with (go_at_call 30; refine (DV _ _).mono ?_; rintro e w' ⟨rfl, rfl⟩)
 go_ret
 refine ⟨?_, HF.out⟩
 simp
theorem Q7 (X A B C D : Int) (s : ByteArray) (h : EI w lab i ge gx gy gl hv nh hcs mk x x x) (hx : AB x) (m1 : 0 <= mk) (m2 : mk <= 100000000000) (hnh : nh <= 1000000) (hi : i ≠ 0) :
  Calls Tryz.prog 18 #[.pointer (some ⟨ge, 0, none⟩), .agg #[.int .i64 12, .int .i64 X, .int .i64 A, .int .i64 B, .int .i64 C, .int .i64 D, .string s]] w fun e w' => e = .returned (.bool true) ∧ CX w w' lab i ge gx gy gl nh mk := by
 have HX := Hd hx
 have hlt := h.E.lt
 have HS0 : Hid _ := DSx.start h hi 12 X A B C D s
 have hW := CE hx A B
 have hZ := CE hx A C
 clear h hx
 go_enter Tryz.func18, Tryz.ntmps18
 go_wp2_with fail
 refine (HS0.out.due HX.out A B).mono ?_
 rintro e wp ⟨rfl, hs⟩
 have HS : Hid _ := hs
 clear hs HS0
 obtain ⟨p0, p1, p2, p3, p4, p5, p6, p7, p8, p9, p10⟩ := HS.out.cells
 go_wp2_with fail
 refine wp_region_still_tail 5 (by kernel_rfl) (by kernel_rfl) ?_
 simp only [List.take_succ_cons, List.take_zero, List.drop_succ_cons, List.drop_zero]
 repeat still_step
 refine wpStill_nil ?_
 go_wp2_with fail
 refine (HS.out.callX HX.out (by unfold BD; simp) 1).mono ?_
 rintro e wc ⟨rfl, hs, hf⟩
 have HFn : Hid (AB (opX x ⟨12, X, A, B, C, D, s⟩).2) := HX.out.op _ hf
 clear HS hf p0 p1 p2 p3 p4 p5 p6 p7 p8 p9 p10
 have HS : Hid _ := hs
 clear hs
 obtain ⟨p0, p1, p2, p3, p4, p5, p6, p7, p8, p9, p10⟩ := HS.out.cells
 go_wp2_with fail
 refine wp_region_still_tail 5 (by kernel_rfl) (by kernel_rfl) ?_
 simp only [List.take_succ_cons, List.take_zero, List.drop_succ_cons, List.drop_zero]
 repeat still_step
 refine wpStill_nil ?_
 go_wp2_with fail
 refine (HS.out.callY HX.out (by unfold BD; simp) 1).mono ?_
 rintro e wd ⟨rfl, hs⟩
 clear HS p0 p1 p2 p3 p4 p5 p6 p7 p8 p9 p10
 have HS : Hid _ := hs
 clear hs
 obtain ⟨p0, p1, p2, p3, p4, p5, p6, p7, p8, p9, p10⟩ := HS.out.cells
 go_wp2_with fail
 refine (HS.out.led HX.out (by unfold BD; simp) (CS x A B) 0 (by intro _; rfl) (by intro h; simp at h) (by omega) (by omega) (by omega) (by omega)).mono ?_
 rintro e we ⟨rfl, hs⟩
 clear HS p0 p1 p2 p3 p4 p5 p6 p7 p8 p9 p10
 have HS : Hid _ := hs
 clear hs
 obtain ⟨p0, p1, p2, p3, p4, p5, p6, p7, p8, p9, p10⟩ := HS.out.cells
 go_wp2_with fail
 refine (HS.out.reads HFn.out m1 m2 hnh).mono ?_
 rintro e w5 ⟨rfl, hd⟩
 have HF := Hd hd
 clear hd HS HFn HX p0 p1 p2 p3 p4 p5 p6 p7 p8 p9 p10
 generalize (opX x ⟨12, X, A, B, C, D, s⟩).1 = q at *
 go_wp2_with (go_at_call 30; refine (DV _ _).mono ?_; rintro e w' ⟨rfl, rfl⟩)
 go_ret
 refine ⟨?_, HF.out⟩
 simp
theorem QL (X A B C D : Int) (s : ByteArray) (h : EI w lab i ge gx gy gl hv nh hcs mk x x x) (hx : AB x) (m1 : 0 <= mk) (m2 : mk <= 100000000000) (hnh : nh <= 1000000) (hi : i ≠ 0) :
  Calls Tryz.prog 18 #[.pointer (some ⟨ge, 0, none⟩), .agg #[.int .i64 13, .int .i64 X, .int .i64 A, .int .i64 B, .int .i64 C, .int .i64 D, .string s]] w fun e w' => e = .returned (.bool true) ∧ CX w w' lab i ge gx gy gl nh mk := by
 have HX := Hd hx
 have hlt := h.E.lt
 have HS0 : Hid _ := DSx.start h hi 13 X A B C D s
 have hW := CE hx A B
 have hZ := CE hx A C
 clear h hx
 go_enter Tryz.func18, Tryz.ntmps18
 go_wp2_with fail
 refine (HS0.out.due HX.out A B).mono ?_
 rintro e wp ⟨rfl, hs⟩
 have HS : Hid _ := hs
 clear hs HS0
 obtain ⟨p0, p1, p2, p3, p4, p5, p6, p7, p8, p9, p10⟩ := HS.out.cells
 go_wp2_with fail
 refine wp_region_still_tail 5 (by kernel_rfl) (by kernel_rfl) ?_
 simp only [List.take_succ_cons, List.take_zero, List.drop_succ_cons, List.drop_zero]
 repeat still_step
 refine wpStill_nil ?_
 go_wp2_with fail
 refine (HS.out.callX HX.out (by unfold BD; simp) 1).mono ?_
 rintro e wc ⟨rfl, hs, hf⟩
 have HFn : Hid (AB (opX x ⟨13, X, A, B, C, D, s⟩).2) := HX.out.op _ hf
 clear HS hf p0 p1 p2 p3 p4 p5 p6 p7 p8 p9 p10
 have HS : Hid _ := hs
 clear hs
 obtain ⟨p0, p1, p2, p3, p4, p5, p6, p7, p8, p9, p10⟩ := HS.out.cells
 go_wp2_with fail
 refine wp_region_still_tail 5 (by kernel_rfl) (by kernel_rfl) ?_
 simp only [List.take_succ_cons, List.take_zero, List.drop_succ_cons, List.drop_zero]
 repeat still_step
 refine wpStill_nil ?_
 go_wp2_with fail
 refine (HS.out.callY HX.out (by unfold BD; simp) 1).mono ?_
 rintro e wd ⟨rfl, hs⟩
 clear HS p0 p1 p2 p3 p4 p5 p6 p7 p8 p9 p10
 have HS : Hid _ := hs
 clear hs
 obtain ⟨p0, p1, p2, p3, p4, p5, p6, p7, p8, p9, p10⟩ := HS.out.cells
 go_wp2_with fail
 refine (HS.out.led HX.out (by unfold BD; simp) (CS x A B) 0 (by intro _; rfl) (by intro h; simp at h) (by omega) (by omega) (by omega) (by omega)).mono ?_
 rintro e we ⟨rfl, hs⟩
 clear HS p0 p1 p2 p3 p4 p5 p6 p7 p8 p9 p10
 have HS : Hid _ := hs
 clear hs
 obtain ⟨p0, p1, p2, p3, p4, p5, p6, p7, p8, p9, p10⟩ := HS.out.cells
 go_wp2_with fail
 refine (HS.out.reads HFn.out m1 m2 hnh).mono ?_
 rintro e w5 ⟨rfl, hd⟩
 have HF := Hd hd
 clear hd HS HFn HX p0 p1 p2 p3 p4 p5 p6 p7 p8 p9 p10
 generalize (opX x ⟨13, X, A, B, C, D, s⟩).1 = q at *
 go_wp2_with (go_at_call 30; refine (DV _ _).mono ?_; rintro e w' ⟨rfl, rfl⟩)
 go_ret
 refine ⟨?_, HF.out⟩
 simp
theorem Rf (X A B C D : Int) (s : ByteArray) (h : EI w lab i ge gx gy gl hv nh hcs mk x x x) (hx : AB x) (m1 : 0 <= mk) (m2 : mk <= 100000000000) (hnh : nh <= 1000000) (hi : i ≠ 0) :
  Calls Tryz.prog 18 #[.pointer (some ⟨ge, 0, none⟩), .agg #[.int .i64 16, .int .i64 X, .int .i64 A, .int .i64 B, .int .i64 C, .int .i64 D, .string s]] w fun e w' => e = .returned (.bool true) ∧ CX w w' lab i ge gx gy gl nh mk := by
 have HX := Hd hx
 have hlt := h.E.lt
 have HS0 : Hid _ := DSx.start h hi 16 X A B C D s
 have hW := CE hx A B
 have hZ := CE hx A C
 clear h hx
 go_enter Tryz.func18, Tryz.ntmps18
 go_wp2_with fail
 refine (HS0.out.due HX.out A B).mono ?_
 rintro e wp ⟨rfl, hs⟩
 have HS : Hid _ := hs
 clear hs HS0
 obtain ⟨p0, p1, p2, p3, p4, p5, p6, p7, p8, p9, p10⟩ := HS.out.cells
 go_wp2_with fail
 refine wp_region_still_tail 5 (by kernel_rfl) (by kernel_rfl) ?_
 simp only [List.take_succ_cons, List.take_zero, List.drop_succ_cons, List.drop_zero]
 repeat still_step
 refine wpStill_nil ?_
 go_wp2_with fail
 refine (HS.out.callX HX.out (by unfold BD; simp) 1).mono ?_
 rintro e wc ⟨rfl, hs, hf⟩
 have HFn : Hid (AB (opX x ⟨16, X, A, B, C, D, s⟩).2) := HX.out.op _ hf
 clear HS hf p0 p1 p2 p3 p4 p5 p6 p7 p8 p9 p10
 have HS : Hid _ := hs
 clear hs
 obtain ⟨p0, p1, p2, p3, p4, p5, p6, p7, p8, p9, p10⟩ := HS.out.cells
 go_wp2_with fail
 refine wp_region_still_tail 5 (by kernel_rfl) (by kernel_rfl) ?_
 simp only [List.take_succ_cons, List.take_zero, List.drop_succ_cons, List.drop_zero]
 repeat still_step
 refine wpStill_nil ?_
 go_wp2_with fail
 refine (HS.out.callY HX.out (by unfold BD; simp) 1).mono ?_
 rintro e wd ⟨rfl, hs⟩
 clear HS p0 p1 p2 p3 p4 p5 p6 p7 p8 p9 p10
 have HS : Hid _ := hs
 clear hs
 obtain ⟨p0, p1, p2, p3, p4, p5, p6, p7, p8, p9, p10⟩ := HS.out.cells
 go_wp2_with fail
 refine (HS.out.led HX.out (by unfold BD; simp) (CS x A B) 0 (by intro _; rfl) (by intro h; simp at h) (by omega) (by omega) (by omega) (by omega)).mono ?_
 rintro e we ⟨rfl, hs⟩
 clear HS p0 p1 p2 p3 p4 p5 p6 p7 p8 p9 p10
 have HS : Hid _ := hs
 clear hs
 obtain ⟨p0, p1, p2, p3, p4, p5, p6, p7, p8, p9, p10⟩ := HS.out.cells
 go_wp2_with fail
 refine (HS.out.reads HFn.out m1 m2 hnh).mono ?_
 rintro e w5 ⟨rfl, hd⟩
 have HF := Hd hd
 clear hd HS HFn HX p0 p1 p2 p3 p4 p5 p6 p7 p8 p9 p10
 generalize (opX x ⟨16, X, A, B, C, D, s⟩).1 = q at *
 go_wp2_with (go_at_call 30; refine (DV _ _).mono ?_; rintro e w' ⟨rfl, rfl⟩)
 go_ret
 refine ⟨?_, HF.out⟩
 simp
theorem PI (X A B C D : Int) (s : ByteArray) (h : EI w lab i ge gx gy gl hv nh hcs mk x x x) (hx : AB x) (m1 : 0 <= mk) (m2 : mk <= 100000000000) (hnh : nh <= 1000000) (hi : i ≠ 0) (hne : B ≠ C) :
  Calls Tryz.prog 18 #[.pointer (some ⟨ge, 0, none⟩), .agg #[.int .i64 14, .int .i64 X, .int .i64 A, .int .i64 B, .int .i64 C, .int .i64 D, .string s]] w fun e w' => e = .returned (.bool true) ∧ CX w w' lab i ge gx gy gl nh mk := by
 have HX := Hd hx
 have hlt := h.E.lt
 have HS0 : Hid _ := DSx.start h hi 14 X A B C D s
 have hW := CE hx A B
 have hZ := CE hx A C
 have hbc : (B != C) = true := by simpa using hne
 clear h hx
 go_enter Tryz.func18, Tryz.ntmps18
 go_wp2_with fail
 refine (HS0.out.due HX.out A B).mono ?_
 rintro e wp ⟨rfl, hs⟩
 have HS : Hid _ := hs
 clear hs HS0
 obtain ⟨p0, p1, p2, p3, p4, p5, p6, p7, p8, p9, p10⟩ := HS.out.cells
 go_wp2_with fail
 refine (HS.out.due HX.out A C).mono ?_
 rintro e wq ⟨rfl, hs⟩
 clear HS p0 p1 p2 p3 p4 p5 p6 p7 p8 p9 p10
 have HS : Hid _ := hs
 clear hs
 obtain ⟨p0, p1, p2, p3, p4, p5, p6, p7, p8, p9, p10⟩ := HS.out.cells
 go_wp2_with fail
 refine wp_region_still_tail 5 (by kernel_rfl) (by kernel_rfl) ?_
 simp only [List.take_succ_cons, List.take_zero, List.drop_succ_cons, List.drop_zero]
 repeat still_step
 refine wpStill_nil ?_
 go_wp2_with fail
 refine (HS.out.callX HX.out (by unfold BD; simp) 1).mono ?_
 rintro e wc ⟨rfl, hs, hf⟩
 have HFn : Hid (AB (opX x ⟨14, X, A, B, C, D, s⟩).2) := HX.out.op _ hf
 clear HS hf p0 p1 p2 p3 p4 p5 p6 p7 p8 p9 p10
 have HS : Hid _ := hs
 clear hs
 obtain ⟨p0, p1, p2, p3, p4, p5, p6, p7, p8, p9, p10⟩ := HS.out.cells
 go_wp2_with fail
 refine wp_region_still_tail 5 (by kernel_rfl) (by kernel_rfl) ?_
 simp only [List.take_succ_cons, List.take_zero, List.drop_succ_cons, List.drop_zero]
 repeat still_step
 refine wpStill_nil ?_
 go_wp2_with fail
 refine (HS.out.callY HX.out (by unfold BD; simp) 1).mono ?_
 rintro e wd ⟨rfl, hs⟩
 clear HS p0 p1 p2 p3 p4 p5 p6 p7 p8 p9 p10
 have HS : Hid _ := hs
 clear hs
 obtain ⟨p0, p1, p2, p3, p4, p5, p6, p7, p8, p9, p10⟩ := HS.out.cells
 go_wp2_with fail
 refine (HS.out.led HX.out (by unfold BD; simp) (CS x A B) (CS x A C) (by intro _; rfl) (by intro _ hn; rfl) (by omega) (by omega) (by omega) (by omega)).mono ?_
 rintro e we ⟨rfl, hs⟩
 clear HS p0 p1 p2 p3 p4 p5 p6 p7 p8 p9 p10
 have HS : Hid _ := hs
 clear hs
 obtain ⟨p0, p1, p2, p3, p4, p5, p6, p7, p8, p9, p10⟩ := HS.out.cells
 go_wp2_with fail
 refine (HS.out.reads HFn.out m1 m2 hnh).mono ?_
 rintro e w5 ⟨rfl, hd⟩
 have HF := Hd hd
 clear hd HS HFn HX p0 p1 p2 p3 p4 p5 p6 p7 p8 p9 p10
 generalize (opX x ⟨14, X, A, B, C, D, s⟩).1 = q at *
 go_wp2_with (go_at_call 30; refine (DV _ _).mono ?_; rintro e w' ⟨rfl, rfl⟩)
 go_ret
 refine ⟨?_, HF.out⟩
 simp
theorem P9 (X A B D : Int) (s : ByteArray) (h : EI w lab i ge gx gy gl hv nh hcs mk x x x) (hx : AB x) (m1 : 0 <= mk) (m2 : mk <= 100000000000) (hnh : nh <= 1000000) (hi : i ≠ 0) :
  Calls Tryz.prog 18 #[.pointer (some ⟨ge, 0, none⟩), .agg #[.int .i64 14, .int .i64 X, .int .i64 A, .int .i64 B, .int .i64 B, .int .i64 D, .string s]] w fun e w' => e = .returned (.bool true) ∧ CX w w' lab i ge gx gy gl nh mk := by
 have HX := Hd hx
 have hlt := h.E.lt
 have HS0 : Hid _ := DSx.start h hi 14 X A B B D s
 have hW := CE hx A B
 have hZ := CE hx A B
 have hbc : (B != B) = false := by simp
 clear h hx
 go_enter Tryz.func18, Tryz.ntmps18
 go_wp2_with fail
 refine (HS0.out.due HX.out A B).mono ?_
 rintro e wp ⟨rfl, hs⟩
 have HS : Hid _ := hs
 clear hs HS0
 obtain ⟨p0, p1, p2, p3, p4, p5, p6, p7, p8, p9, p10⟩ := HS.out.cells
 go_wp2_with fail
 refine wp_region_still_tail 5 (by kernel_rfl) (by kernel_rfl) ?_
 simp only [List.take_succ_cons, List.take_zero, List.drop_succ_cons, List.drop_zero]
 repeat still_step
 refine wpStill_nil ?_
 go_wp2_with fail
 refine (HS.out.callX HX.out (by unfold BD; simp) 1).mono ?_
 rintro e wc ⟨rfl, hs, hf⟩
 have HFn : Hid (AB (opX x ⟨14, X, A, B, B, D, s⟩).2) := HX.out.op _ hf
 clear HS hf p0 p1 p2 p3 p4 p5 p6 p7 p8 p9 p10
 have HS : Hid _ := hs
 clear hs
 obtain ⟨p0, p1, p2, p3, p4, p5, p6, p7, p8, p9, p10⟩ := HS.out.cells
 go_wp2_with fail
 refine wp_region_still_tail 5 (by kernel_rfl) (by kernel_rfl) ?_
 simp only [List.take_succ_cons, List.take_zero, List.drop_succ_cons, List.drop_zero]
 repeat still_step
 refine wpStill_nil ?_
 go_wp2_with fail
 refine (HS.out.callY HX.out (by unfold BD; simp) 1).mono ?_
 rintro e wd ⟨rfl, hs⟩
 clear HS p0 p1 p2 p3 p4 p5 p6 p7 p8 p9 p10
 have HS : Hid _ := hs
 clear hs
 obtain ⟨p0, p1, p2, p3, p4, p5, p6, p7, p8, p9, p10⟩ := HS.out.cells
 go_wp2_with fail
 refine (HS.out.led HX.out (by unfold BD; simp) (CS x A B) 0 (by intro _; rfl) (by intro _ hn; exact absurd rfl hn) (by omega) (by omega) (by omega) (by omega)).mono ?_
 rintro e we ⟨rfl, hs⟩
 clear HS p0 p1 p2 p3 p4 p5 p6 p7 p8 p9 p10
 have HS : Hid _ := hs
 clear hs
 obtain ⟨p0, p1, p2, p3, p4, p5, p6, p7, p8, p9, p10⟩ := HS.out.cells
 go_wp2_with fail
 refine (HS.out.reads HFn.out m1 m2 hnh).mono ?_
 rintro e w5 ⟨rfl, hd⟩
 have HF := Hd hd
 clear hd HS HFn HX p0 p1 p2 p3 p4 p5 p6 p7 p8 p9 p10
 generalize (opX x ⟨14, X, A, B, B, D, s⟩).1 = q at *
 go_wp2_with (go_at_call 30; refine (DV _ _).mono ?_; rintro e w' ⟨rfl, rfl⟩)
 go_ret
 refine ⟨?_, HF.out⟩
 simp
theorem OV (o : OpD) (h : EI w lab i ge gx gy gl hv nh hcs mk x x x) (hx : AB x) (m1 : 0 <= mk) (m2 : mk <= 100000000000) (hnh : nh <= 1000000) (hi : i ≠ 0) (hk : BD o.kind) :
  Calls Tryz.prog 18 #[.pointer (some ⟨ge, 0, none⟩), .agg #[.int .i64 o.kind, .int .i64 o.x, .int .i64 o.a, .int .i64 o.b, .int .i64 o.c, .int .i64 o.d, .string o.s]] w fun e w' => e = .returned (.bool true) ∧ CX w w' lab i ge gx gy gl nh mk := by
 obtain ⟨kind, X, A, B, C, D, s⟩ := o
 simp only at hk ⊢
 by_cases h12 : kind = 12
 ·subst h12; exact Q7 X A B C D s h hx m1 m2 hnh hi
 by_cases h13 : kind = 13
 ·subst h13; exact QL X A B C D s h hx m1 m2 hnh hi
 by_cases h16 : kind = 16
 ·subst h16; exact Rf X A B C D s h hx m1 m2 hnh hi
 by_cases h14 : kind = 14
 ·subst h14
  by_cases hbc : B = C
  ·subst hbc; exact P9 X A B D s h hx m1 m2 hnh hi
  ·exact PI X A B C D s h hx m1 m2 hnh hi hbc
 exact Ry kind X A B C D s h hx m1 m2 hnh hi hk h12 h13 h14 h16
theorem Bh.below {w' : World} (h : Bh F w g x) (hb : Below w.heap.size w w') : Bh F w' g x := h.move (Kp.of_below hb (fun _ => False)) (fun _ _ h => ⟨fun h => h, h⟩)
theorem Km (h : Bh F w g x) (hx : AB x) (B : Nat) (hI : BU B w) (hB : B <= w.heap.size) :
  Calls Tryz.prog 22 #[.pointer (some ⟨g, 0, none⟩)] w fun e w' => e = .returned (.string ⟨(txt (BO x)).toArray⟩) ∧ Below w.heap.size w w' := by
 obtain ⟨bv, vv, ev, hP, hO⟩ := h
 exact F3 g x bv vv ev hP B hI hB (RX hx.fine hx.ib hx.ie)
theorem Ot (B : Nat) (hIt : BU B w) (hB : B <= w.heap.size) {lab : Nat -> Nat × Nat} {i ge gx gy gl : Nat} {hv : Value} {nh : Nat} {hcs : List Value} {mk : Int} {x : EC} (hb : ∀ k, k < B -> (lab k).1 = 0) (hi : i ≠ 0) (h : EI w lab i ge gx gy gl hv nh hcs mk x x x) (hx : AB x) (m1 : 0 <= mk) (m2 : mk <= 100000000000) (hnh : nh <= 1000000) :
  Calls Tryz.prog 26 #[.pointer (some ⟨ge, 0, none⟩)] w fun e w' => e = .returned (.bool true) ∧ CX w w' lab i ge gx gy gl nh mk := by
 have HX := Hd hx
 have HI := Hd h
 have c1 : w.cell? ⟨ge, 1, none⟩ = some (.pointer (some ⟨gy, 0, none⟩)) := h.E.cell 1
 clear h
 go_enter Tryz.func26, Tryz.ntmps26
 go_wp2_with fail
 refine (IG HI.out hx m1 m2 hnh gy (Qq HI.out.Y hx)).mono ?_
 rintro e w5 ⟨rfl, lab5, hv5, hcs5, hI5, hL5, hK5⟩
 have HB5 : Hid (∀ w', Below w5.heap.size w5 w' -> BU B w' ∧ B <= w'.heap.size ∧ CX w w' lab i ge gx gy gl nh mk) := fun w' hw' => by
  have hb5 : Below B w w5 := hK5.toBelow hB (fun k hk e => hi (by rw [<- e]; exact hb k hk))
  have h' := hI5.kp0 (Kp.of_below hw' _)
  have hs5 := hb5.size
  exact ⟨(hIt.on hb5).on (hw'.mono (by omega)), by have := hw'.size; omega, lab5, hv5, nh + 2, hcs5, mk + 1000 + 1000, x, h', HX.out, by omega, by omega, by omega, hL5, hK5.next (Kp.of_below hw' (fun _ => False)) (fun _ _ h => h.elim)⟩
 obtain ⟨bv, vv, dv, ev, ds, hL, t⟩ := hI5.L
 have hdl := t.len hx.okx.b6 hx.okx.v5
 obtain ⟨da, dc, (hda : dv = .slice da ds.length dc)⟩ := Ac hL.d
 subst hda
 obtain ⟨n, hn⟩ : ∃ n, n = ds.length := ⟨_, rfl⟩
 have hn30 : n <= 30 := by omega
 have HR : Hid (∀ w', Below w5.heap.size w5 w' -> w'.cell? ⟨ge, 0, none⟩ = some (.pointer (some ⟨gx, 0, none⟩)) ∧ w'.cell? ⟨ge, 1, none⟩ = some (.pointer (some ⟨gy, 0, none⟩)) ∧ w'.cell? ⟨ge, 2, none⟩ = some (.pointer (some ⟨gl, 0, none⟩)) ∧ w'.cell? ⟨gl, 8, none⟩ = some (.slice da n dc) ∧ Bh (fun _ => True) w' gx x ∧ Bh (fun _ => True) w' gy x ∧ ge < w'.heap.size ∧ gl < w'.heap.size) := fun w' hw' => by
  have hE := hI5.E.below hw' hI5.E.lt
  have hX := hI5.X.move (F' := fun _ => True) (Kp.of_below hw' (fun _ => False)) (fun _ _ _ => ⟨fun h => h, trivial⟩)
  have hY := hI5.Y.move (F' := fun _ => True) (Kp.of_below hw' (fun _ => False)) (fun _ _ _ => ⟨fun h => h, trivial⟩)
  have hc := (hL.below hw').C.L
  exact ⟨hE.cell 0, hE.cell 1, hE.cell 2, by rw [hn]; exact hc.cell 8, hX, hY, hE.lt, hc.lt⟩
 have HC : Hid (0 < n -> ∃ gd, da = some ⟨gd, 0, none⟩ ∧ ∀ k, k < n -> ∃ K J q : Int, ∀ w', Below w5.heap.size w5 w' -> w'.cell? ⟨gd, k * 4, none⟩ = some (.int .i64 K) ∧ w'.cell? ⟨gd, k * 4 + 1, none⟩ = some (.int .i64 J) ∧ gd < w'.heap.size ∧ (∀ m, Calls Tryz.prog 49 #[.pointer (some ⟨gx, 0, none⟩), .int .i64 K, .int .i64 J] (w'.drewN m) fun e w2 => e = .returned (.tuple #[.int .i64 q, .int .i64 0]) ∧ ∃ m2, w2 = (w'.drewN m).drewN m2) ∧ (∀ m, Calls Tryz.prog 49 #[.pointer (some ⟨gy, 0, none⟩), .int .i64 K, .int .i64 J] (w'.drewN m) fun e w2 => e = .returned (.tuple #[.int .i64 q, .int .i64 0]) ∧ ∃ m2, w2 = (w'.drewN m).drewN m2)) := fun h0 => by
  obtain ⟨gd, hgd, _⟩ := Ag hL.d (by omega)
  refine ⟨gd, hgd, fun k hk => ?_⟩
  subst hgd
  have hkd : k < ds.length := by omega
  obtain ⟨a, j, r1, r2, r3, r4, r5, r6, _⟩ := t.rng _ (List.getElem_mem hkd)
  have b6 := hx.okx.b6
  have v5 := hx.okx.v5
  refine ⟨ds[k].1.who, ds[k].1.val, x.due a j, fun w' hw' => ?_⟩
  have hd := (hL.below hw').d
  have z : ∀ m, m < 4 -> w'.cell? ⟨gd, k * 4 + m, none⟩ = (DA.cells ds[k])[m]? := fun m hm => (hd.cellAt (k * 4 + m) (by omega)).trans (BF ds k hkd m hm)
  have hdue : ∀ (p g : Nat), Bh (fun k => lab5 k = (i, p)) w5 g x -> ∀ m, Calls Tryz.prog 49 #[.pointer (some ⟨g, 0, none⟩), .int .i64 ds[k].1.who, .int .i64 ds[k].1.val] (w'.drewN m) fun e w2 => e = .returned (.tuple #[.int .i64 (x.due a j), .int .i64 0]) ∧ ∃ m2, w2 = (w'.drewN m).drewN m2 := fun p g hE m => by
   obtain ⟨bv, vv, ev, hP, _⟩ := hE.below (below_drewN hw' m)
   rw [r1, r2]
   refine (Sj g x bv vv ev _ hP a j b6 r3 v5 r4 (by omega) (hx.okx.dueOk (by omega) r4)).mono ?_
   rintro e w2 ⟨rfl, rfl⟩
   exact ⟨rfl, 1, rfl⟩
  exact ⟨z 0 (by omega), z 1 (by omega), (hd.lt gd rfl).2, hdue 1 gx hI5.X, hdue 2 gy hI5.Y⟩
 obtain ⟨d0, d1, d2, d8, _, _, e1, e2⟩ := HR.out w5 (Below.refl _ _)
 clear hI5 hL5 hK5 HI c1 hIt hb hL t hn hdl hx
 go_wp2_with fail
 go_loopw [4] (fun i wr => ∃ k : Nat, k <= n ∧ i = .int .i64 k ∧ Below w5.heap.size w5 wr) (fun i _ => n - (intOf i).toNat)
 case atStart => exact ⟨0, Nat.zero_le _, rfl, Below.refl _ _⟩
 case round =>
  clear d0 d1 d2 d8 e1 e2
  obtain ⟨k, hk, rfl, hbw⟩ := hrel
  have HBW := Hd hbw
  obtain ⟨d0, d1, d2, d8, _, _, e1, e2⟩ := HR.out wr hbw
  clear hbw
  by_cases hlt : k < n
  ·obtain ⟨gd, rfl, hkk⟩ := HC.out (by omega)
   obtain ⟨K, J, q, hz⟩ := hkk k hlt
   obtain ⟨z0, z1, e3, hd1, _⟩ := hz wr HBW.out
   have HD1 := Hd hd1
   have HZ := Hd hz
   clear hkk hz hd1
   go_wp2_with fail
   go_quiet ((go_at_call 49; refine Calls.quiet_of (HD1.out _)))
   have HBX : Hid (Below w5.heap.size w5 (wr.drewN nq)) := below_drewN HBW.out nq
   clear HD1 d0 d1 d2 d8 e1 e2 e3 z0 z1
   generalize wr.drewN nq = wx at HBX ⊢
   obtain ⟨d0, d1, d2, d8, _, _, e1, e2⟩ := HR.out wx HBX.out
   obtain ⟨z0, z1, e3, _, hd2⟩ := HZ.out wx HBX.out
   have HD2 := Hd hd2
   have HBN : Hid (∀ m, Below w5.heap.size w5 (wx.drewN m)) := fun m => below_drewN HBX.out m
   clear hd2 HZ
   go_wp2_with fail
   go_quiet ((go_at_call 49; refine Calls.quiet_of (HD2.out _)))
   clear HD2
   have q1 : (q != q) = false := by simp
   go_wp2
   refine And.intro ?_ ?_
   ·first | exact ⟨k + 1, by omega, by go_num, HBN.out _⟩ | ((repeat apply Exists.intro); exact ⟨⟨k + 1, by omega, by go_num, HBN.out _⟩, rfl⟩)
   ·simp [intOf]; omega
  ·have HX1 : Hid (Calls Tryz.prog 22 #[.pointer (some ⟨gx, 0, none⟩)] wr fun e w' => e = .returned (.string ⟨(txt (BO x)).toArray⟩) ∧ Below w5.heap.size w5 w') := by
    refine (Km (HR.out _ HBW.out).2.2.2.2.1 HX.out B (HB5.out _ HBW.out).1 (HB5.out _ HBW.out).2.1).mono ?_
    rintro e w' ⟨rfl, hb'⟩
    exact ⟨rfl, HBW.out.trans (hb'.mono HBW.out.size)⟩
   have HX2 : Hid (∀ wx, Below w5.heap.size w5 wx -> Calls Tryz.prog 22 #[.pointer (some ⟨gy, 0, none⟩)] wx fun e w' => e = .returned (.string ⟨(txt (BO x)).toArray⟩) ∧ Below w5.heap.size w5 w') := fun wx hbx => by
    refine (Km (HR.out _ hbx).2.2.2.2.2.1 HX.out B (HB5.out _ hbx).1 (HB5.out _ hbx).2.1).mono ?_
    rintro e w' ⟨rfl, hb'⟩
    exact ⟨rfl, hbx.trans (hb'.mono hbx.size)⟩
   clear HC
   generalize (⟨(txt (BO x)).toArray⟩ : ByteArray) = ss at *
   go_wp2_with fail
   refine HX1.out.mono ?_
   rintro e w6 ⟨rfl, hb6⟩
   have HB6 := Hd hb6
   clear hb6 HX1 d0 d1 d2 d8 e1 e2
   obtain ⟨d0, d1, _, _, _, _, e1, _⟩ := HR.out w6 HB6.out
   go_wp2_with fail
   refine (HX2.out w6 HB6.out).mono ?_
   rintro e w7 ⟨rfl, hb7⟩
   have HF : Hid (CX w w7 lab i ge gx gy gl nh mk) := (HB5.out _ hb7).2.2
   clear hb7 HB6 HB5 HX2
   go_wp2
   go_ret
   refine ⟨?_, HF.out⟩
   first | rfl | simp
theorem OK (o : OpD) (B : Nat) (hIt : BU B w) (hB : B <= w.heap.size) (hb : ∀ k, k < B -> (lab k).1 = 0) (hi : i ≠ 0) (h : EI w lab i ge gx gy gl hv nh hcs mk x x x) (hx : AB x) (m1 : 0 <= mk) (m2 : mk <= 100000000000) (hnh : nh <= 1000000) (hk : o.kind = 22) :
  Calls Tryz.prog 18 #[.pointer (some ⟨ge, 0, none⟩), .agg #[.int .i64 o.kind, .int .i64 o.x, .int .i64 o.a, .int .i64 o.b, .int .i64 o.c, .int .i64 o.d, .string o.s]] w fun e w' => e = .returned (.bool true) ∧ CX w w' lab i ge gx gy gl nh mk := by
 rw [hk]
 have HIt : Hid (∀ ob, BU B (w.alloc ob)) := fun ob => hIt.on ((Below.refl _ _).alloc hB ob)
 have HI : Hid (∀ ob, EI (w.alloc ob) lab i ge gx gy gl hv nh hcs mk x x x) := fun ob => h.kp0 ((Kp.refl _ w).alloc ob)
 have HX := Hd hx
 clear h hk hIt hx
 go_enter Tryz.func18, Tryz.ntmps18
 go_wp2_with fail
 refine (Ot B (HIt.out _) (by simp only [World.size_alloc]; omega) hb hi (HI.out _) HX.out m1 m2 hnh).mono ?_
 rintro e w5 ⟨rfl, lab5, hv5, nh5, hcs5, mk5, x', hI5, hx', q1, q2, q3, hL5, hK5⟩
 have HF : Hid (CX w w5 lab i ge gx gy gl nh mk) := ⟨lab5, hv5, nh5, hcs5, mk5, x', hI5, hx', q1, q2, q3, fun k hk => hL5 k (by simp only [World.size_alloc]; omega), ((Kp.refl _ w).alloc _).trans hK5⟩
 clear hI5 hL5 hK5 HI
 go_wp2
 go_ret
 exact ⟨rfl, HF.out⟩
theorem Q9 (o : OpD) (h : EI w lab i ge gx gy gl hv nh hcs mk x x x) (hx : AB x) (hk : o.kind = 15) :
  Calls Tryz.prog 18 #[.pointer (some ⟨ge, 0, none⟩), .agg #[.int .i64 o.kind, .int .i64 o.x, .int .i64 o.a, .int .i64 o.b, .int .i64 o.c, .int .i64 o.d, .string o.s]] w fun e w' => e = .returned (.bool true) ∧ CX w w' lab i ge gx gy gl nh mk := by
 rw [hk]
 have HI : Hid (∀ ob, EI (w.alloc ob) lab i ge gx gy gl hv nh hcs mk x x x) := fun ob => h.kp0 ((Kp.refl _ w).alloc ob)
 have HX := Hd hx
 clear h hk hx
 go_enter Tryz.func18, Tryz.ntmps18
 go_wp2_with fail
 refine (LH (HI.out _).tri HX.out o.a o.b).mono ?_
 rintro e w5 ⟨rfl, hb5⟩
 have HF : Hid (CX w w5 lab i ge gx gy gl nh mk) := ⟨lab, hv, nh, hcs, mk, x, (HI.out _).kp0 (Kp.of_below hb5 _), HX.out, by omega, by omega, by omega, fun k hk => rfl, ((Kp.refl _ w).alloc _).trans (Kp.of_below hb5 _)⟩
 clear hb5 HI
 go_wp2
 go_ret
 exact ⟨rfl, HF.out⟩
end Go.Proofs.YtohjjgefklhmaaaGreatDoor
