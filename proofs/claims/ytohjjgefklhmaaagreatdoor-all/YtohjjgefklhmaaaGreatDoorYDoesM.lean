import Derived.Test.YtohjjgefklhmaaaGreatDoorYInvM
import Derived.Test.YtohjjgefklhmaaaGreatDoorOpsM
import Derived.Deep.RegionWith
import Derived.StillTailTactics
import Derived.Deep.DeepCutAuto
namespace Go.Proofs.YtohjjgefklhmaaaGreatDoor
open Go.ChangeShapes Go.WideShapes Go.ChangeAt Go.RowKit
set_option linter.unusedVariables false
set_option linter.unusedSimpArgs false
set_option maxHeartbeats 40000000
set_option maxRecDepth 100000
variable {x x' : EC} {F : Nat -> Prop} {w w1 w' : World} {g ge gl gx : Nat} {py hv mk : Value}
def km (k : Int) : Int := if k = 9 then 1 else if k = 10 then 2 else if k = 12 then 3 else if k = 13 then 4 else if k = 14 then 5 else if k = 16 then 6 else if k = 17 then 7 else if k = 18 then 8 else if k = 19 then 9 else 0
def opX (x : EC) (o : OpD) : Int × EC := KA x (km o.kind) o.a o.b o.c o.d
theorem AB.op (h : AB x) (o : OpD) (hf : Bl (opX x o).2) : AB (opX x o).2 := ⟨hf, h.ib.does h.fine _ _ _ _ _, h.ie.does h.fine _ _ _ _ _⟩
def BD (k : Int) : Prop := k = 9 ∨ k = 10 ∨ k = 11 ∨ k = 12 ∨ k = 13 ∨ k = 14 ∨ k = 16 ∨ k = 17 ∨ k = 18 ∨ k = 19
theorem Bh.alloc (h : Bh F w g x) (o : Obj) : Bh F (w.alloc o) g x := h.move ((Kp.refl (fun _ => False) w).alloc o) (fun b _ hf => ⟨fun h => h, hf⟩)
theorem Bj.alloc (h : Bj F w g x) (o : Obj) : Bj F (w.alloc o) g x := h.move ((Kp.refl (fun _ => False) w).alloc o) (fun b _ hf => ⟨fun h => h, hf⟩)
theorem Bj.drewN (h : Bj F w g x) (n : Nat) : Bj F (w.drewN n) g x := h.move ((Kp.refl (fun _ => False) w).drewN n) (fun b _ hf => ⟨fun h => h, hf⟩)
def CA (F : Nat -> Prop) (w w' : World) (g : Nat) (x' : EC) : Prop := Bh (fun k => F k ∨ w.heap.size <= k) w' g x' ∧ Kp F w w' ∧ Bl x'
theorem CA.of (h1 : Bh (fun k => F k ∨ w1.heap.size <= k) w' g x') (h2 : Kp F w1 w') (h3 : Bl x') (hK : Kp F w w1) : CA F w w' g x' :=
 ⟨h1.move (Kp.refl (fun _ => False) _) (fun b _ hf => ⟨fun h => h, hf.imp_right (fun h => Nat.le_trans hK.size h)⟩), hK.trans h2, h3⟩
def Cx (F : Nat -> Prop) (w w' : World) (g : Nat) (x' : EC) : Prop := Bj (fun k => F k ∨ w.heap.size <= k) w' g x' ∧ Kp F w w'
theorem Cx.of (h1 : Bj (fun k => F k ∨ w1.heap.size <= k) w' g x') (h2 : Kp F w1 w') (hK : Kp F w w1) : Cx F w w' g x' :=
 ⟨h1.move (Kp.refl (fun _ => False) _) (fun b _ hf => ⟨fun h => h, hf.imp_right (fun h => Nat.le_trans hK.size h)⟩), hK.trans h2⟩
theorem Jw (o : OpD) (h : Bh F w g x) (hx : AB x) (hk : BD o.kind) :
  Calls Tryz.prog 28 #[.pointer (some ⟨g, 0, none⟩), .agg #[.int .i64 o.kind, .int .i64 o.x, .int .i64 o.a, .int .i64 o.b, .int .i64 o.c, .int .i64 o.d, .string o.s]] w fun e w' => e = .returned (.int .i64 (opX x o).1) ∧ CA F w w' g (opX x o).2 := by
 obtain ⟨kind, X, A, B, C, D, s⟩ := o
 unfold BD at hk
 simp only at hk
 have HX := Hd hx
 have HE : Hid (∀ ob, Bh F (w.alloc ob) g x) := fun ob => h.alloc ob
 have HA : Hid (∀ ob, Kp F w (w.alloc ob)) := fun ob => (Kp.refl F w).alloc ob
 clear h hx
 rcases hk with rfl | rfl | rfl | rfl | rfl | rfl | rfl | rfl | rfl | rfl
 ·have e0 : opX x ⟨9, X, A, B, C, D, s⟩ = Co x A B C := rfl
  rw [e0]
  go_enter Tryz.func28, Tryz.ntmps28
  go_wp2_with fail
  refine (SQ (HE.out _) HX.out A B C).mono ?_
  rintro e w2 ⟨rfl, ⟨hE2, hk2⟩, hf2⟩
  have HF : Hid (CA F w w2 g (Co x A B C).2) := CA.of hE2 hk2 hf2 (HA.out _)
  clear hE2 hk2 hf2
  go_wp2
  go_ret
  exact ⟨rfl, HF.out⟩
 ·have e0 : opX x ⟨10, X, A, B, C, D, s⟩ = Bo x A B := rfl
  rw [e0]
  go_enter Tryz.func28, Tryz.ntmps28
  go_wp2_with fail
  refine (R6 (HE.out _) HX.out A B).mono ?_
  rintro e w2 ⟨rfl, ⟨hE2, hk2⟩, hf2⟩
  have HF : Hid (CA F w w2 g (Bo x A B).2) := CA.of hE2 hk2 hf2 (HA.out _)
  clear hE2 hk2 hf2
  go_wp2
  go_ret
  exact ⟨rfl, HF.out⟩
 ·have e0 : opX x ⟨11, X, A, B, C, D, s⟩ = BZ x := rfl
  rw [e0]
  go_enter Tryz.func28, Tryz.ntmps28
  go_wp2_with fail
  refine (RW (HE.out _) HX.out ).mono ?_
  rintro e w2 ⟨rfl, ⟨hE2, hk2⟩, hf2⟩
  have HF : Hid (CA F w w2 g (BZ x).2) := CA.of hE2 hk2 hf2 (HA.out _)
  clear hE2 hk2 hf2
  go_wp2
  go_ret
  exact ⟨rfl, HF.out⟩
 ·have e0 : opX x ⟨12, X, A, B, C, D, s⟩ = CG x A B C := rfl
  rw [e0]
  go_enter Tryz.func28, Tryz.ntmps28
  go_wp2_with fail
  refine (SB (HE.out _) HX.out A B C).mono ?_
  rintro e w2 ⟨rfl, ⟨hE2, hk2⟩, hf2⟩
  have HF : Hid (CA F w w2 g (CG x A B C).2) := CA.of hE2 hk2 hf2 (HA.out _)
  clear hE2 hk2 hf2
  go_wp2
  go_ret
  exact ⟨rfl, HF.out⟩
 ·have e0 : opX x ⟨13, X, A, B, C, D, s⟩ = D8 x A B C := rfl
  rw [e0]
  go_enter Tryz.func28, Tryz.ntmps28
  go_wp2_with fail
  refine (Qx (HE.out _) HX.out A B C).mono ?_
  rintro e w2 ⟨rfl, ⟨hE2, hk2⟩, hf2⟩
  have HF : Hid (CA F w w2 g (D8 x A B C).2) := CA.of hE2 hk2 hf2 (HA.out _)
  clear hE2 hk2 hf2
  go_wp2
  go_ret
  exact ⟨rfl, HF.out⟩
 ·have e0 : opX x ⟨14, X, A, B, C, D, s⟩ = D7 x A B C D := rfl
  rw [e0]
  go_enter Tryz.func28, Tryz.ntmps28
  go_wp2_with fail
  refine (Sb (HE.out _) HX.out A B C D).mono ?_
  rintro e w2 ⟨rfl, ⟨hE2, hk2⟩, hf2⟩
  have HF : Hid (CA F w w2 g (D7 x A B C D).2) := CA.of hE2 hk2 hf2 (HA.out _)
  clear hE2 hk2 hf2
  go_wp2
  go_ret
  exact ⟨rfl, HF.out⟩
 ·have e0 : opX x ⟨16, X, A, B, C, D, s⟩ = CL x A B := rfl
  rw [e0]
  go_enter Tryz.func28, Tryz.ntmps28
  go_wp2_with fail
  refine (NE (HE.out _) HX.out A B).mono ?_
  rintro e w2 ⟨rfl, ⟨hE2, hk2⟩, hf2⟩
  have HF : Hid (CA F w w2 g (CL x A B).2) := CA.of hE2 hk2 hf2 (HA.out _)
  clear hE2 hk2 hf2
  go_wp2
  go_ret
  exact ⟨rfl, HF.out⟩
 ·have e0 : opX x ⟨17, X, A, B, C, D, s⟩ = CH x A B := rfl
  rw [e0]
  go_enter Tryz.func28, Tryz.ntmps28
  go_wp2_with fail
  refine (P7 (HE.out _) HX.out A B).mono ?_
  rintro e w2 ⟨rfl, ⟨hE2, hk2⟩, hf2⟩
  have HF : Hid (CA F w w2 g (CH x A B).2) := CA.of hE2 hk2 hf2 (HA.out _)
  clear hE2 hk2 hf2
  go_wp2
  go_ret
  exact ⟨rfl, HF.out⟩
 ·have e0 : opX x ⟨18, X, A, B, C, D, s⟩ = Bw x A B C := rfl
  rw [e0]
  go_enter Tryz.func28, Tryz.ntmps28
  go_wp2_with fail
  refine (RJ (HE.out _) HX.out A B C).mono ?_
  rintro e w2 ⟨rfl, ⟨hE2, hk2⟩, hf2⟩
  have HF : Hid (CA F w w2 g (Bw x A B C).2) := CA.of hE2 hk2 hf2 (HA.out _)
  clear hE2 hk2 hf2
  go_wp2
  go_ret
  exact ⟨rfl, HF.out⟩
 ·have e0 : opX x ⟨19, X, A, B, C, D, s⟩ = CJ x A B := rfl
  rw [e0]
  go_enter Tryz.func28, Tryz.ntmps28
  go_wp2_with fail
  refine (Sz (HE.out _) HX.out A B).mono ?_
  rintro e w2 ⟨rfl, ⟨hE2, hk2⟩, hf2⟩
  have HF : Hid (CA F w w2 g (CJ x A B).2) := CA.of hE2 hk2 hf2 (HA.out _)
  clear hE2 hk2 hf2
  go_wp2
  go_ret
  exact ⟨rfl, HF.out⟩
theorem LW {px : Value} (o : OpD) (W Z : Int) (hE : Has w ge 54 [px, py, .pointer (some ⟨gl, 0, none⟩), hv, mk]) (h : Bj F w gl x) (hx : AB x) (hk : BD o.kind)
  (hW : o.kind = 12 ∨ o.kind = 13 ∨ o.kind = 14 ∨ o.kind = 16 -> W = CS x o.a o.b) (hZ : o.kind = 14 -> o.b ≠ o.c -> Z = CS x o.a o.c) (w0 : 0 <= W) (w1 : W <= 1000000) (z0 : 0 <= Z) (z1 : Z <= 1000000) :
  Calls Tryz.prog 29 #[.pointer (some ⟨ge, 0, none⟩), .agg #[.int .i64 o.kind, .int .i64 o.x, .int .i64 o.a, .int .i64 o.b, .int .i64 o.c, .int .i64 o.d, .string o.s], .int .i64 W, .int .i64 Z] w fun e w' => e = .returned (.int .i64 (opX x o).1) ∧ Cx F w w' gl (opX x o).2 := by
 obtain ⟨kind, X, A, B, C, D, s⟩ := o
 unfold BD at hk
 simp only at hk hW hZ
 have HX := Hd hx
 have HE : Hid (∀ ob n, Bj F ((w.alloc ob).drewN n) gl x) := fun ob n => (h.alloc ob).drewN n
 have HA : Hid (∀ ob n, Kp F w ((w.alloc ob).drewN n)) := fun ob n => ((Kp.refl F w).alloc ob).drewN n
 have c2 : w.cell? ⟨ge, 2, none⟩ = some (.pointer (some ⟨gl, 0, none⟩)) := hE.cell 2
 have hlt := hE.lt
 have HL : Hid (∀ ob, (w.alloc ob).cell? ⟨ge, 2, none⟩ = some (.pointer (some ⟨gl, 0, none⟩)) ∧ ge < (w.alloc ob).heap.size) := fun ob => ⟨(hE.alloc ob).cell 2, (hE.alloc ob).lt⟩
 clear h hE hx
 rcases hk with rfl | rfl | rfl | rfl | rfl | rfl | rfl | rfl | rfl | rfl
 ·have e0 : opX x ⟨9, X, A, B, C, D, s⟩ = Co x A B C := rfl
  rw [e0]
  have HP : Hid (∀ n, Calls Tryz.prog 63 #[.pointer (some ⟨gl, 0, none⟩), .int .i64 A, .int .i64 B, .int .i64 C] ((w.alloc (.cells #[.int .i64 9, .int .i64 X, .int .i64 A, .int .i64 B, .int .i64 C, .int .i64 D, .string s] 27)).drewN n) fun e w' => e = .returned (.int .i64 (Co x A B C).1) ∧ Cx F w w' gl (Co x A B C).2) := fun n => by
   refine (So (HE.out _ n) HX.out A B C).mono ?_
   rintro e w2 ⟨rfl, hE2, hk2⟩
   exact ⟨rfl, Cx.of hE2 hk2 (HA.out _ n)⟩
  have HBx : Hid (Has (w.alloc (.cells #[.int .i64 9, .int .i64 X, .int .i64 A, .int .i64 B, .int .i64 C, .int .i64 D, .string s] 27)) w.heap.size 27 [.int .i64 9, .int .i64 X, .int .i64 A, .int .i64 B, .int .i64 C, .int .i64 D, .string s]) := Has.newA w _ _
  have HG2 := HL.out (.cells #[.int .i64 9, .int .i64 X, .int .i64 A, .int .i64 B, .int .i64 C, .int .i64 D, .string s] 27)
  clear HE HA hW hZ HX HL
  generalize (Co x A B C) = R at *
  go_enter Tryz.func29, Tryz.ntmps29
  go_wp2_with fail
  generalize w.alloc (.cells #[.int .i64 9, .int .i64 X, .int .i64 A, .int .i64 B, .int .i64 C, .int .i64 D, .string s] 27) = wa at HBx HG2 HP ⊢
  obtain ⟨a2, ga⟩ := HG2
  have b2 : wa.cell? ⟨w.heap.size, 2, none⟩ = some (.int .i64 A) := HBx.out.cell 2
  have b3 : wa.cell? ⟨w.heap.size, 3, none⟩ = some (.int .i64 B) := HBx.out.cell 3
  have b4 : wa.cell? ⟨w.heap.size, 4, none⟩ = some (.int .i64 C) := HBx.out.cell 4
  have b5 : wa.cell? ⟨w.heap.size, 5, none⟩ = some (.int .i64 D) := HBx.out.cell 5
  have gb := HBx.out.lt
  refine wp_region_still_tail 10 (by kernel_rfl) (by kernel_rfl) ?_
  simp only [List.take_succ_cons, List.take_zero, List.drop_succ_cons, List.drop_zero]
  repeat still_step
  refine wpStill_nil ?_
  go_wp2_with fail
  refine (HP.out 1).mono ?_
  rintro e w2 ⟨rfl, hF2⟩
  have HF := Hd hF2
  clear hF2
  go_wp2
  go_ret
  exact ⟨rfl, HF.out⟩
 ·have e0 : opX x ⟨10, X, A, B, C, D, s⟩ = Bo x A B := rfl
  rw [e0]
  have HP : Hid (∀ n, Calls Tryz.prog 64 #[.pointer (some ⟨gl, 0, none⟩), .int .i64 A, .int .i64 B] ((w.alloc (.cells #[.int .i64 10, .int .i64 X, .int .i64 A, .int .i64 B, .int .i64 C, .int .i64 D, .string s] 27)).drewN n) fun e w' => e = .returned (.int .i64 (Bo x A B).1) ∧ Cx F w w' gl (Bo x A B).2) := fun n => by
   refine (RT (HE.out _ n) HX.out A B).mono ?_
   rintro e w2 ⟨rfl, hE2, hk2⟩
   exact ⟨rfl, Cx.of hE2 hk2 (HA.out _ n)⟩
  have HBx : Hid (Has (w.alloc (.cells #[.int .i64 10, .int .i64 X, .int .i64 A, .int .i64 B, .int .i64 C, .int .i64 D, .string s] 27)) w.heap.size 27 [.int .i64 10, .int .i64 X, .int .i64 A, .int .i64 B, .int .i64 C, .int .i64 D, .string s]) := Has.newA w _ _
  have HG2 := HL.out (.cells #[.int .i64 10, .int .i64 X, .int .i64 A, .int .i64 B, .int .i64 C, .int .i64 D, .string s] 27)
  clear HE HA hW hZ HX HL
  generalize (Bo x A B) = R at *
  go_enter Tryz.func29, Tryz.ntmps29
  go_wp2_with fail
  generalize w.alloc (.cells #[.int .i64 10, .int .i64 X, .int .i64 A, .int .i64 B, .int .i64 C, .int .i64 D, .string s] 27) = wa at HBx HG2 HP ⊢
  obtain ⟨a2, ga⟩ := HG2
  have b2 : wa.cell? ⟨w.heap.size, 2, none⟩ = some (.int .i64 A) := HBx.out.cell 2
  have b3 : wa.cell? ⟨w.heap.size, 3, none⟩ = some (.int .i64 B) := HBx.out.cell 3
  have b4 : wa.cell? ⟨w.heap.size, 4, none⟩ = some (.int .i64 C) := HBx.out.cell 4
  have b5 : wa.cell? ⟨w.heap.size, 5, none⟩ = some (.int .i64 D) := HBx.out.cell 5
  have gb := HBx.out.lt
  refine wp_region_still_tail 8 (by kernel_rfl) (by kernel_rfl) ?_
  simp only [List.take_succ_cons, List.take_zero, List.drop_succ_cons, List.drop_zero]
  repeat still_step
  refine wpStill_nil ?_
  go_wp2_with fail
  refine (HP.out 1).mono ?_
  rintro e w2 ⟨rfl, hF2⟩
  have HF := Hd hF2
  clear hF2
  go_wp2
  go_ret
  exact ⟨rfl, HF.out⟩
 ·have e0 : opX x ⟨11, X, A, B, C, D, s⟩ = BZ x := rfl
  rw [e0]
  have HP : Hid (∀ n, Calls Tryz.prog 65 #[.pointer (some ⟨gl, 0, none⟩)] ((w.alloc (.cells #[.int .i64 11, .int .i64 X, .int .i64 A, .int .i64 B, .int .i64 C, .int .i64 D, .string s] 27)).drewN n) fun e w' => e = .returned (.int .i64 (BZ x).1) ∧ Cx F w w' gl (BZ x).2) := fun n => by
   refine (Ru (HE.out _ n) HX.out).mono ?_
   rintro e w2 ⟨rfl, hE2, hk2⟩
   exact ⟨rfl, Cx.of hE2 hk2 (HA.out _ n)⟩
  clear HE HA hW hZ HX HL
  generalize (BZ x) = R at *
  go_enter Tryz.func29, Tryz.ntmps29
  go_wp2_with fail
  refine (HP.out 0).mono ?_
  rintro e w2 ⟨rfl, hF2⟩
  have HF := Hd hF2
  clear hF2
  go_wp2
  go_ret
  exact ⟨rfl, HF.out⟩
 ·have e0 : opX x ⟨12, X, A, B, C, D, s⟩ = CG x A B C := rfl
  rw [e0]
  have HQ : Hid (E5 x A B W) := by rw [hW (by simp)]; exact FK x A B
  have HP : Hid (∀ n, Calls Tryz.prog 66 #[.pointer (some ⟨gl, 0, none⟩), .int .i64 A, .int .i64 B, .int .i64 C, .int .i64 W] ((w.alloc (.cells #[.int .i64 12, .int .i64 X, .int .i64 A, .int .i64 B, .int .i64 C, .int .i64 D, .string s] 27)).drewN n) fun e w' => e = .returned (.int .i64 (CG x A B C).1) ∧ Cx F w w' gl (CG x A B C).2) := fun n => by
   refine (Sg (HE.out _ n) HX.out A B C W HQ.out w0 w1).mono ?_
   rintro e w2 ⟨rfl, hE2, hk2⟩
   exact ⟨rfl, Cx.of hE2 hk2 (HA.out _ n)⟩
  have HBx : Hid (Has (w.alloc (.cells #[.int .i64 12, .int .i64 X, .int .i64 A, .int .i64 B, .int .i64 C, .int .i64 D, .string s] 27)) w.heap.size 27 [.int .i64 12, .int .i64 X, .int .i64 A, .int .i64 B, .int .i64 C, .int .i64 D, .string s]) := Has.newA w _ _
  have HG2 := HL.out (.cells #[.int .i64 12, .int .i64 X, .int .i64 A, .int .i64 B, .int .i64 C, .int .i64 D, .string s] 27)
  clear HE HA hW hZ HX HL
  generalize (CG x A B C) = R at *
  go_enter Tryz.func29, Tryz.ntmps29
  go_wp2_with fail
  generalize w.alloc (.cells #[.int .i64 12, .int .i64 X, .int .i64 A, .int .i64 B, .int .i64 C, .int .i64 D, .string s] 27) = wa at HBx HG2 HP ⊢
  obtain ⟨a2, ga⟩ := HG2
  have b2 : wa.cell? ⟨w.heap.size, 2, none⟩ = some (.int .i64 A) := HBx.out.cell 2
  have b3 : wa.cell? ⟨w.heap.size, 3, none⟩ = some (.int .i64 B) := HBx.out.cell 3
  have b4 : wa.cell? ⟨w.heap.size, 4, none⟩ = some (.int .i64 C) := HBx.out.cell 4
  have b5 : wa.cell? ⟨w.heap.size, 5, none⟩ = some (.int .i64 D) := HBx.out.cell 5
  have gb := HBx.out.lt
  refine wp_region_still_tail 11 (by kernel_rfl) (by kernel_rfl) ?_
  simp only [List.take_succ_cons, List.take_zero, List.drop_succ_cons, List.drop_zero]
  repeat still_step
  refine wpStill_nil ?_
  go_wp2_with fail
  refine (HP.out 1).mono ?_
  rintro e w2 ⟨rfl, hF2⟩
  have HF := Hd hF2
  clear hF2
  go_wp2
  go_ret
  exact ⟨rfl, HF.out⟩
 ·have e0 : opX x ⟨13, X, A, B, C, D, s⟩ = D8 x A B C := rfl
  rw [e0]
  have HQ : Hid (E5 x A B W) := by rw [hW (by simp)]; exact FK x A B
  have HP : Hid (∀ n, Calls Tryz.prog 67 #[.pointer (some ⟨gl, 0, none⟩), .int .i64 A, .int .i64 B, .int .i64 C, .int .i64 W] ((w.alloc (.cells #[.int .i64 13, .int .i64 X, .int .i64 A, .int .i64 B, .int .i64 C, .int .i64 D, .string s] 27)).drewN n) fun e w' => e = .returned (.int .i64 (D8 x A B C).1) ∧ Cx F w w' gl (D8 x A B C).2) := fun n => by
   refine (Qt (HE.out _ n) HX.out A B C W HQ.out w0 w1).mono ?_
   rintro e w2 ⟨rfl, hE2, hk2⟩
   exact ⟨rfl, Cx.of hE2 hk2 (HA.out _ n)⟩
  have HBx : Hid (Has (w.alloc (.cells #[.int .i64 13, .int .i64 X, .int .i64 A, .int .i64 B, .int .i64 C, .int .i64 D, .string s] 27)) w.heap.size 27 [.int .i64 13, .int .i64 X, .int .i64 A, .int .i64 B, .int .i64 C, .int .i64 D, .string s]) := Has.newA w _ _
  have HG2 := HL.out (.cells #[.int .i64 13, .int .i64 X, .int .i64 A, .int .i64 B, .int .i64 C, .int .i64 D, .string s] 27)
  clear HE HA hW hZ HX HL
  generalize (D8 x A B C) = R at *
  go_enter Tryz.func29, Tryz.ntmps29
  go_wp2_with fail
  generalize w.alloc (.cells #[.int .i64 13, .int .i64 X, .int .i64 A, .int .i64 B, .int .i64 C, .int .i64 D, .string s] 27) = wa at HBx HG2 HP ⊢
  obtain ⟨a2, ga⟩ := HG2
  have b2 : wa.cell? ⟨w.heap.size, 2, none⟩ = some (.int .i64 A) := HBx.out.cell 2
  have b3 : wa.cell? ⟨w.heap.size, 3, none⟩ = some (.int .i64 B) := HBx.out.cell 3
  have b4 : wa.cell? ⟨w.heap.size, 4, none⟩ = some (.int .i64 C) := HBx.out.cell 4
  have b5 : wa.cell? ⟨w.heap.size, 5, none⟩ = some (.int .i64 D) := HBx.out.cell 5
  have gb := HBx.out.lt
  refine wp_region_still_tail 11 (by kernel_rfl) (by kernel_rfl) ?_
  simp only [List.take_succ_cons, List.take_zero, List.drop_succ_cons, List.drop_zero]
  repeat still_step
  refine wpStill_nil ?_
  go_wp2_with fail
  refine (HP.out 1).mono ?_
  rintro e w2 ⟨rfl, hF2⟩
  have HF := Hd hF2
  clear hF2
  go_wp2
  go_ret
  exact ⟨rfl, HF.out⟩
 ·have e0 : opX x ⟨14, X, A, B, C, D, s⟩ = D7 x A B C D := rfl
  rw [e0]
  have HQ : Hid (E5 x A B W) := by rw [hW (by simp)]; exact FK x A B
  have HZ : Hid (B ≠ C -> E5 x A C Z) := fun hne => by rw [hZ rfl hne]; exact FK x A C
  have HP : Hid (∀ n, Calls Tryz.prog 68 #[.pointer (some ⟨gl, 0, none⟩), .int .i64 A, .int .i64 B, .int .i64 C, .int .i64 D, .int .i64 W, .int .i64 Z] ((w.alloc (.cells #[.int .i64 14, .int .i64 X, .int .i64 A, .int .i64 B, .int .i64 C, .int .i64 D, .string s] 27)).drewN n) fun e w' => e = .returned (.int .i64 (D7 x A B C D).1) ∧ Cx F w w' gl (D7 x A B C D).2) := fun n => by
   refine (SF (HE.out _ n) HX.out A B C D W Z HQ.out HZ.out w0 w1 z0 z1).mono ?_
   rintro e w2 ⟨rfl, hE2, hk2⟩
   exact ⟨rfl, Cx.of hE2 hk2 (HA.out _ n)⟩
  have HBx : Hid (Has (w.alloc (.cells #[.int .i64 14, .int .i64 X, .int .i64 A, .int .i64 B, .int .i64 C, .int .i64 D, .string s] 27)) w.heap.size 27 [.int .i64 14, .int .i64 X, .int .i64 A, .int .i64 B, .int .i64 C, .int .i64 D, .string s]) := Has.newA w _ _
  have HG2 := HL.out (.cells #[.int .i64 14, .int .i64 X, .int .i64 A, .int .i64 B, .int .i64 C, .int .i64 D, .string s] 27)
  clear HE HA hW hZ HX HL
  generalize (D7 x A B C D) = R at *
  go_enter Tryz.func29, Tryz.ntmps29
  go_wp2_with fail
  generalize w.alloc (.cells #[.int .i64 14, .int .i64 X, .int .i64 A, .int .i64 B, .int .i64 C, .int .i64 D, .string s] 27) = wa at HBx HG2 HP ⊢
  obtain ⟨a2, ga⟩ := HG2
  have b2 : wa.cell? ⟨w.heap.size, 2, none⟩ = some (.int .i64 A) := HBx.out.cell 2
  have b3 : wa.cell? ⟨w.heap.size, 3, none⟩ = some (.int .i64 B) := HBx.out.cell 3
  have b4 : wa.cell? ⟨w.heap.size, 4, none⟩ = some (.int .i64 C) := HBx.out.cell 4
  have b5 : wa.cell? ⟨w.heap.size, 5, none⟩ = some (.int .i64 D) := HBx.out.cell 5
  have gb := HBx.out.lt
  refine wp_region_still_tail 14 (by kernel_rfl) (by kernel_rfl) ?_
  simp only [List.take_succ_cons, List.take_zero, List.drop_succ_cons, List.drop_zero]
  repeat still_step
  refine wpStill_nil ?_
  go_wp2_with fail
  refine (HP.out 1).mono ?_
  rintro e w2 ⟨rfl, hF2⟩
  have HF := Hd hF2
  clear hF2
  go_wp2
  go_ret
  exact ⟨rfl, HF.out⟩
 ·have e0 : opX x ⟨16, X, A, B, C, D, s⟩ = CL x A B := rfl
  rw [e0]
  have HQ : Hid (E5 x A B W) := by rw [hW (by simp)]; exact FK x A B
  have HP : Hid (∀ n, Calls Tryz.prog 69 #[.pointer (some ⟨gl, 0, none⟩), .int .i64 A, .int .i64 B, .int .i64 W] ((w.alloc (.cells #[.int .i64 16, .int .i64 X, .int .i64 A, .int .i64 B, .int .i64 C, .int .i64 D, .string s] 27)).drewN n) fun e w' => e = .returned (.int .i64 (CL x A B).1) ∧ Cx F w w' gl (CL x A B).2) := fun n => by
   refine (NA (HE.out _ n) HX.out A B W HQ.out w0 w1).mono ?_
   rintro e w2 ⟨rfl, hE2, hk2⟩
   exact ⟨rfl, Cx.of hE2 hk2 (HA.out _ n)⟩
  have HBx : Hid (Has (w.alloc (.cells #[.int .i64 16, .int .i64 X, .int .i64 A, .int .i64 B, .int .i64 C, .int .i64 D, .string s] 27)) w.heap.size 27 [.int .i64 16, .int .i64 X, .int .i64 A, .int .i64 B, .int .i64 C, .int .i64 D, .string s]) := Has.newA w _ _
  have HG2 := HL.out (.cells #[.int .i64 16, .int .i64 X, .int .i64 A, .int .i64 B, .int .i64 C, .int .i64 D, .string s] 27)
  clear HE HA hW hZ HX HL
  generalize (CL x A B) = R at *
  go_enter Tryz.func29, Tryz.ntmps29
  go_wp2_with fail
  generalize w.alloc (.cells #[.int .i64 16, .int .i64 X, .int .i64 A, .int .i64 B, .int .i64 C, .int .i64 D, .string s] 27) = wa at HBx HG2 HP ⊢
  obtain ⟨a2, ga⟩ := HG2
  have b2 : wa.cell? ⟨w.heap.size, 2, none⟩ = some (.int .i64 A) := HBx.out.cell 2
  have b3 : wa.cell? ⟨w.heap.size, 3, none⟩ = some (.int .i64 B) := HBx.out.cell 3
  have b4 : wa.cell? ⟨w.heap.size, 4, none⟩ = some (.int .i64 C) := HBx.out.cell 4
  have b5 : wa.cell? ⟨w.heap.size, 5, none⟩ = some (.int .i64 D) := HBx.out.cell 5
  have gb := HBx.out.lt
  refine wp_region_still_tail 9 (by kernel_rfl) (by kernel_rfl) ?_
  simp only [List.take_succ_cons, List.take_zero, List.drop_succ_cons, List.drop_zero]
  repeat still_step
  refine wpStill_nil ?_
  go_wp2_with fail
  refine (HP.out 1).mono ?_
  rintro e w2 ⟨rfl, hF2⟩
  have HF := Hd hF2
  clear hF2
  go_wp2
  go_ret
  exact ⟨rfl, HF.out⟩
 ·have e0 : opX x ⟨17, X, A, B, C, D, s⟩ = CH x A B := rfl
  rw [e0]
  have HP : Hid (∀ n, Calls Tryz.prog 70 #[.pointer (some ⟨gl, 0, none⟩), .int .i64 A, .int .i64 B] ((w.alloc (.cells #[.int .i64 17, .int .i64 X, .int .i64 A, .int .i64 B, .int .i64 C, .int .i64 D, .string s] 27)).drewN n) fun e w' => e = .returned (.int .i64 (CH x A B).1) ∧ Cx F w w' gl (CH x A B).2) := fun n => by
   refine (OD (HE.out _ n) HX.out A B).mono ?_
   rintro e w2 ⟨rfl, hE2, hk2⟩
   exact ⟨rfl, Cx.of hE2 hk2 (HA.out _ n)⟩
  have HBx : Hid (Has (w.alloc (.cells #[.int .i64 17, .int .i64 X, .int .i64 A, .int .i64 B, .int .i64 C, .int .i64 D, .string s] 27)) w.heap.size 27 [.int .i64 17, .int .i64 X, .int .i64 A, .int .i64 B, .int .i64 C, .int .i64 D, .string s]) := Has.newA w _ _
  have HG2 := HL.out (.cells #[.int .i64 17, .int .i64 X, .int .i64 A, .int .i64 B, .int .i64 C, .int .i64 D, .string s] 27)
  clear HE HA hW hZ HX HL
  generalize (CH x A B) = R at *
  go_enter Tryz.func29, Tryz.ntmps29
  go_wp2_with fail
  generalize w.alloc (.cells #[.int .i64 17, .int .i64 X, .int .i64 A, .int .i64 B, .int .i64 C, .int .i64 D, .string s] 27) = wa at HBx HG2 HP ⊢
  obtain ⟨a2, ga⟩ := HG2
  have b2 : wa.cell? ⟨w.heap.size, 2, none⟩ = some (.int .i64 A) := HBx.out.cell 2
  have b3 : wa.cell? ⟨w.heap.size, 3, none⟩ = some (.int .i64 B) := HBx.out.cell 3
  have b4 : wa.cell? ⟨w.heap.size, 4, none⟩ = some (.int .i64 C) := HBx.out.cell 4
  have b5 : wa.cell? ⟨w.heap.size, 5, none⟩ = some (.int .i64 D) := HBx.out.cell 5
  have gb := HBx.out.lt
  refine wp_region_still_tail 8 (by kernel_rfl) (by kernel_rfl) ?_
  simp only [List.take_succ_cons, List.take_zero, List.drop_succ_cons, List.drop_zero]
  repeat still_step
  refine wpStill_nil ?_
  go_wp2_with fail
  refine (HP.out 1).mono ?_
  rintro e w2 ⟨rfl, hF2⟩
  have HF := Hd hF2
  clear hF2
  go_wp2
  go_ret
  exact ⟨rfl, HF.out⟩
 ·have e0 : opX x ⟨18, X, A, B, C, D, s⟩ = Bw x A B C := rfl
  rw [e0]
  have HP : Hid (∀ n, Calls Tryz.prog 71 #[.pointer (some ⟨gl, 0, none⟩), .int .i64 A, .int .i64 B, .int .i64 C] ((w.alloc (.cells #[.int .i64 18, .int .i64 X, .int .i64 A, .int .i64 B, .int .i64 C, .int .i64 D, .string s] 27)).drewN n) fun e w' => e = .returned (.int .i64 (Bw x A B C).1) ∧ Cx F w w' gl (Bw x A B C).2) := fun n => by
   refine (RI (HE.out _ n) HX.out A B C).mono ?_
   rintro e w2 ⟨rfl, hE2, hk2⟩
   exact ⟨rfl, Cx.of hE2 hk2 (HA.out _ n)⟩
  have HBx : Hid (Has (w.alloc (.cells #[.int .i64 18, .int .i64 X, .int .i64 A, .int .i64 B, .int .i64 C, .int .i64 D, .string s] 27)) w.heap.size 27 [.int .i64 18, .int .i64 X, .int .i64 A, .int .i64 B, .int .i64 C, .int .i64 D, .string s]) := Has.newA w _ _
  have HG2 := HL.out (.cells #[.int .i64 18, .int .i64 X, .int .i64 A, .int .i64 B, .int .i64 C, .int .i64 D, .string s] 27)
  clear HE HA hW hZ HX HL
  generalize (Bw x A B C) = R at *
  go_enter Tryz.func29, Tryz.ntmps29
  go_wp2_with fail
  generalize w.alloc (.cells #[.int .i64 18, .int .i64 X, .int .i64 A, .int .i64 B, .int .i64 C, .int .i64 D, .string s] 27) = wa at HBx HG2 HP ⊢
  obtain ⟨a2, ga⟩ := HG2
  have b2 : wa.cell? ⟨w.heap.size, 2, none⟩ = some (.int .i64 A) := HBx.out.cell 2
  have b3 : wa.cell? ⟨w.heap.size, 3, none⟩ = some (.int .i64 B) := HBx.out.cell 3
  have b4 : wa.cell? ⟨w.heap.size, 4, none⟩ = some (.int .i64 C) := HBx.out.cell 4
  have b5 : wa.cell? ⟨w.heap.size, 5, none⟩ = some (.int .i64 D) := HBx.out.cell 5
  have gb := HBx.out.lt
  refine wp_region_still_tail 10 (by kernel_rfl) (by kernel_rfl) ?_
  simp only [List.take_succ_cons, List.take_zero, List.drop_succ_cons, List.drop_zero]
  repeat still_step
  refine wpStill_nil ?_
  go_wp2_with fail
  refine (HP.out 1).mono ?_
  rintro e w2 ⟨rfl, hF2⟩
  have HF := Hd hF2
  clear hF2
  go_wp2
  go_ret
  exact ⟨rfl, HF.out⟩
 ·have e0 : opX x ⟨19, X, A, B, C, D, s⟩ = CJ x A B := rfl
  rw [e0]
  have HP : Hid (∀ n, Calls Tryz.prog 72 #[.pointer (some ⟨gl, 0, none⟩), .int .i64 A, .int .i64 B] ((w.alloc (.cells #[.int .i64 19, .int .i64 X, .int .i64 A, .int .i64 B, .int .i64 C, .int .i64 D, .string s] 27)).drewN n) fun e w' => e = .returned (.int .i64 (CJ x A B).1) ∧ Cx F w w' gl (CJ x A B).2) := fun n => by
   refine (Sy (HE.out _ n) HX.out A B).mono ?_
   rintro e w2 ⟨rfl, hE2, hk2⟩
   exact ⟨rfl, Cx.of hE2 hk2 (HA.out _ n)⟩
  have HBx : Hid (Has (w.alloc (.cells #[.int .i64 19, .int .i64 X, .int .i64 A, .int .i64 B, .int .i64 C, .int .i64 D, .string s] 27)) w.heap.size 27 [.int .i64 19, .int .i64 X, .int .i64 A, .int .i64 B, .int .i64 C, .int .i64 D, .string s]) := Has.newA w _ _
  have HG2 := HL.out (.cells #[.int .i64 19, .int .i64 X, .int .i64 A, .int .i64 B, .int .i64 C, .int .i64 D, .string s] 27)
  clear HE HA hW hZ HX HL
  generalize (CJ x A B) = R at *
  go_enter Tryz.func29, Tryz.ntmps29
  go_wp2_with fail
  generalize w.alloc (.cells #[.int .i64 19, .int .i64 X, .int .i64 A, .int .i64 B, .int .i64 C, .int .i64 D, .string s] 27) = wa at HBx HG2 HP ⊢
  obtain ⟨a2, ga⟩ := HG2
  have b2 : wa.cell? ⟨w.heap.size, 2, none⟩ = some (.int .i64 A) := HBx.out.cell 2
  have b3 : wa.cell? ⟨w.heap.size, 3, none⟩ = some (.int .i64 B) := HBx.out.cell 3
  have b4 : wa.cell? ⟨w.heap.size, 4, none⟩ = some (.int .i64 C) := HBx.out.cell 4
  have b5 : wa.cell? ⟨w.heap.size, 5, none⟩ = some (.int .i64 D) := HBx.out.cell 5
  have gb := HBx.out.lt
  refine wp_region_still_tail 8 (by kernel_rfl) (by kernel_rfl) ?_
  simp only [List.take_succ_cons, List.take_zero, List.drop_succ_cons, List.drop_zero]
  repeat still_step
  refine wpStill_nil ?_
  go_wp2_with fail
  refine (HP.out 1).mono ?_
  rintro e w2 ⟨rfl, hF2⟩
  have HF := Hd hF2
  clear hF2
  go_wp2
  go_ret
  exact ⟨rfl, HF.out⟩
theorem Sw (h : Bh F w g x) (hx : AB x) (who v : Int) :
  Calls Tryz.prog 49 #[.pointer (some ⟨g, 0, none⟩), .int .i64 who, .int .i64 v] w fun e w' => e = .returned (.tuple #[.int .i64 (CS x who v), .int .i64 (DL x who v)]) ∧ Below w.heap.size w w' := by
 obtain ⟨bv, vv, ev, hP, _⟩ := h
 have b6 := hx.okx.b6
 have v5 := hx.okx.v5
 by_cases ha : DL x who v = 0
 ·obtain ⟨k, j, rfl, rfl, hk, hj, hs⟩ := Mw ha
  have hd : CS x k j = x.due k j := FK x k j k j rfl rfl hk hj
  rw [ha, hd]
  refine (Sj g x bv vv ev w hP k j b6 hk v5 hj hs (hx.okx.dueOk (by omega) hj)).mono ?_
  rintro e w' ⟨rfl, rfl⟩
  exact ⟨rfl, (Below.refl _ _).drew⟩
 ·rw [Kg hx ha]
  obtain ⟨ba, bc, rfl⟩ := Ac hP.b
  have c4 : w.cell? ⟨g, 4, none⟩ = some (.slice ba x.bal.length bc) := hP.L.cell 4
  have HA : Hid (Calls Tryz.prog 96 #[.pointer (some ⟨g, 0, none⟩), .int .i64 who] w fun e w' => e = .returned (.bool (inB who x.bal.length)) ∧ w = w') := Ns g x.bal.length who ba bc w c4 (by omega)
  have HB : Hid (Below w.heap.size w w) := Below.refl _ _
  by_cases hb : inB who x.bal.length = true
  ·have e1 : DL x who v = BX x who.toNat v := by unfold DL; rw [if_neg (by simp [hb])]
   obtain ⟨k, rfl, hk⟩ := Bn hb
   rw [Int.toNat_natCast] at e1
   rw [e1] at ha ⊢
   have HD : Hid (Calls Tryz.prog 97 #[.pointer (some ⟨g, 0, none⟩), .int .i64 k, .int .i64 v] w fun e w' => e = .returned (.int .i64 (BX x k v)) ∧ w = w') := Jn g x _ _ _ w hP k v (by omega) v5
   rw [hb] at HA
   have hne : (BX x k v == 0) = false := by simpa using ha
   have hne2 : (BX x k v != 0) = true := by simpa using ha
   clear hP hx e1 hb ha
   generalize BX x k v = R at *
   go_enter Tryz.func49, Tryz.ntmps49
   go_wp2_with fail
   refine HA.out.mono ?_
   rintro e w' ⟨rfl, rfl⟩
   clear HA
   go_wp2_with fail
   refine HD.out.mono ?_
   rintro e w' ⟨rfl, rfl⟩
   clear HD
   go_wp2
   go_ret2
   exact ⟨rfl, HB.out⟩
  ·have hb' : inB who x.bal.length = false := by simpa using hb
   have e1 : DL x who v = 2 := by unfold DL; rw [if_pos hb']
   rw [e1]
   rw [hb'] at HA
   clear hP hx e1 hb ha hb'
   go_enter Tryz.func49, Tryz.ntmps49
   go_wp2_with fail
   refine HA.out.mono ?_
   rintro e w' ⟨rfl, rfl⟩
   clear HA
   go_wp2
   go_ret2
   exact ⟨rfl, HB.out⟩
theorem P3 (h : Bj F w g x) (hx : AB x) (who v : Int) :
  Calls Tryz.prog 50 #[.pointer (some ⟨g, 0, none⟩), .int .i64 who, .int .i64 v] w fun e w' => e = .returned (.int .i64 (DL x who v)) ∧ w = w' := by
 obtain ⟨bv, vv, dv, ev, ds, hL, t⟩ := h
 have b6 := hx.okx.b6
 have v5 := hx.okx.v5
 have hd := t.len b6 v5
 have := Jp g _ bv vv dv ev x.vals ds x.ents who v w hL (by show x.bal.length <= _; omega) (by omega) (by omega)
 rwa [Rb hx t] at this
structure Tri (w : World) (ge gx gl : Nat) (py hv mk : Value) (x : EC) : Prop where
 E : Has w ge 54 [.pointer (some ⟨gx, 0, none⟩), py, .pointer (some ⟨gl, 0, none⟩), hv, mk]
 X : Bh (fun _ => True) w gx x
 L : Bj (fun _ => True) w gl x
theorem Tri.below (h : Tri w ge gx gl py hv mk x) (hb : Below w.heap.size w w') : Tri w' ge gx gl py hv mk x :=
 ⟨h.E.below hb h.E.lt, h.X.move (Kp.of_below hb (fun _ => False)) (fun _ _ h => ⟨fun h => h, h⟩), h.L.move (Kp.of_below hb (fun _ => False)) (fun _ _ h => ⟨fun h => h, h⟩)⟩
theorem EI.tri {lab : Nat -> Nat × Nat} {i gy : Nat} {nh : Nat} {hcs : List Value} {mk : Int} (h : EI w lab i ge gx gy gl hv nh hcs mk x x x) : Tri w ge gx gl (.pointer (some ⟨gy, 0, none⟩)) hv (.int .i64 mk) x :=
 ⟨h.E, h.X.move (Kp.refl (fun _ => False) w) (fun _ _ _ => ⟨fun h => h, trivial⟩), h.L.move (Kp.refl (fun _ => False) w) (fun _ _ _ => ⟨fun h => h, trivial⟩)⟩
theorem Mx (h : Tri w ge gx gl py hv mk x) (hx : AB x) (who v : Int) :
  Calls Tryz.prog 27 #[.pointer (some ⟨ge, 0, none⟩), .int .i64 who, .int .i64 v] w fun e w' => e = .returned (.tuple #[.int .i64 (CS x who v), .bool true]) ∧ Below w.heap.size w w' := by
 have c2 : w.cell? ⟨ge, 2, none⟩ = some (.pointer (some ⟨gl, 0, none⟩)) := h.E.cell 2
 have c0 : w.cell? ⟨ge, 0, none⟩ = some (.pointer (some ⟨gx, 0, none⟩)) := h.E.cell 0
 have HA : Hid (Calls Tryz.prog 50 #[.pointer (some ⟨gl, 0, none⟩), .int .i64 who, .int .i64 v] w fun e w' => e = .returned (.int .i64 (DL x who v)) ∧ w = w') := P3 h.L hx who v
 have HB0 : Hid (Below w.heap.size w w) := Below.refl _ _
 by_cases ha : DL x who v = 0
 ·obtain ⟨k, j, rfl, rfl, hk, hj, hs⟩ := Mw ha
  rw [ha] at HA
  have hd0 : CS x k j = x.due k j := FK x k j k j rfl rfl hk hj
  have hdb := CE hx k j
  have HX : Hid (Calls Tryz.prog 49 #[.pointer (some ⟨gx, 0, none⟩), .int .i64 k, .int .i64 j] w fun e w' => e = .returned (.tuple #[.int .i64 (CS x k j), .int .i64 0]) ∧ Below w.heap.size w w') := by
   have := Sw h.X hx k j
   rwa [ha] at this
  obtain ⟨bv, vv, dv, ev, ds, hL, t⟩ := h.L
  have b6 := hx.okx.b6
  have v5 := hx.okx.v5
  have hdl := t.len b6 v5
  obtain ⟨i, hi, hat, hw, hv', hsh, hPR⟩ := t.at hk hj (by omega)
  have hs1 : x.sh k j <= 1000000 := by have := hx.okx.sh_le (show k < 6 by omega) hj; have := (hx.okx.val j hj).s1; omega
  have hmay : LA (x.sh k j) ds[i].1.parts (CS x k j) = true := by
   rw [hd0]
   exact hPR.may hx.okx.hgt1 (by omega) hs1
  have hg1 := hx.okx.hgt1
  have hpl := hPR.len
  have hPB : PB ds[i].1.parts := fun n hn => by
   have q1 := hPR.ofs _ (List.getElem_mem hn)
   have q2 := hPR.shs _ (List.getElem_mem hn)
   omega
  obtain ⟨da, dc, (hda : dv = .slice da ds.length dc)⟩ := Ac hL.d
  subst hda
  obtain ⟨gd, rfl, _⟩ := Ag hL.d (by omega)
  have HS : Hid (∀ w', Below w.heap.size w w' -> w'.cell? ⟨ge, 2, none⟩ = some (.pointer (some ⟨gl, 0, none⟩)) ∧ w'.cell? ⟨gl, 8, none⟩ = some (.slice (some ⟨gd, 0, none⟩) ds.length dc) ∧ w'.cell? ⟨gd, i * 4 + 0, none⟩ = some (.int .i64 k) ∧ w'.cell? ⟨gd, i * 4 + 1, none⟩ = some (.int .i64 j) ∧ w'.cell? ⟨gd, i * 4 + 2, none⟩ = some (.int .i64 (x.sh k j)) ∧ w'.cell? ⟨gd, i * 4 + 3, none⟩ = some ds[i].2 ∧ Calls Tryz.prog 51 #[.pointer (some ⟨gl, 0, none⟩), .int .i64 k, .int .i64 j] w' (fun e w2 => e = .returned (.int .i64 i) ∧ w' = w2)) := fun w' hb => by
   have hL' := hL.below hb
   have z : ∀ n, n < 4 -> w'.cell? ⟨gd, i * 4 + n, none⟩ = (DA.cells ds[i])[n]? := fun n hn => (hL'.d.cellAt (i * 4 + n) (by omega)).trans (BF ds i hi n hn)
   refine ⟨(h.E.below hb h.E.lt).cell 2, hL'.C.L.cell 8, ?_, ?_, ?_, ?_, ?_⟩
   ·rw [z 0 (by omega)]; simp [DA.cells, hw]
   ·rw [z 1 (by omega)]; simp [DA.cells, hv']
   ·rw [z 2 (by omega)]; simp [DA.cells, hsh]
   ·rw [z 3 (by omega)]; simp [DA.cells]
   ·have := Db gl _ ds k j w' (hL'.C.L.cell 8) (Rd.of_owns hL'.d) (by omega)
    rwa [hat] at this
  have HM : Hid (∀ w', Below w.heap.size w w' -> Calls Tryz.prog 52 #[.pointer (some ⟨gl, 0, none⟩), .agg #[.int .i64 k, .int .i64 j, .int .i64 (x.sh k j), ds[i].2], .int .i64 (CS x k j)] w' (fun e w2 => e = .returned (.bool true) ∧ Below w.heap.size w w2)) := fun w' hb => by
   have hL' := hL.below hb
   refine (QI (.pointer (some ⟨gl, 0, none⟩)) k j (x.sh k j) ds[i].2 ds[i].1.parts (CS x k j) w' (Rd.of_owns (hL'.p i hi)) hPB (by omega) (by omega) (by omega) (by omega) (by omega)).mono ?_
   rintro e w2 ⟨rfl, hb2⟩
   rw [hmay]
   exact ⟨rfl, hb.trans (hb2.mono hb.size)⟩
  obtain ⟨pa, pc, hpe⟩ := Ac (hL.p i hi)
  rw [hpe] at HS HM
  clear h hL t hat hw hv' hsh hPR hmay hPB hpe ha hd0 hx hs hs1 hpl hg1
  generalize ds[i].1.parts.length = pn at *
  generalize x.sh k j = sh at *
  generalize CS x k j = q at *
  generalize ds.length = n at *
  go_enter Tryz.func27, Tryz.ntmps27
  go_wp2_with fail
  refine HA.out.mono ?_
  rintro e w' ⟨rfl, rfl⟩
  clear HA
  go_wp2_with fail
  refine HX.out.mono ?_
  rintro e w1 ⟨rfl, hb1⟩
  obtain ⟨d2, d8, y0, y1, y2, y3, hAt⟩ := HS.out w1 hb1
  rw [Nat.add_zero] at y0
  have HAt : Hid _ := hAt
  have HB1 := Hd hb1
  have g1 : ge < w1.heap.size := World.block_lt_of_cell? w1 _ d2
  have g2 : gl < w1.heap.size := World.block_lt_of_cell? w1 _ d8
  have g3 : gd < w1.heap.size := World.block_lt_of_cell? w1 _ y3
  clear hAt hb1 HX c2 c0 HB0
  go_wp2_with fail
  refine Calls.mono HAt.out ?_
  rintro e w2 ⟨rfl, rfl⟩
  clear HAt
  go_wp2_with fail
  refine wp_region_still_tail 15 (by kernel_rfl) (by kernel_rfl) ?_
  simp only [List.take_succ_cons, List.take_zero, List.drop_succ_cons, List.drop_zero]
  repeat still_step
  refine wpStill_nil ?_
  go_wp2_with fail
  refine (HM.out (w1.drewN 1) (below_drewN HB1.out 1)).mono ?_
  rintro e w3 ⟨rfl, hb3⟩
  have HB3 := Hd hb3
  clear hb3 HM HS HB1 d2 d8 y0 y1 y2 y3
  go_wp2
  go_ret2
  exact ⟨rfl, HB3.out⟩
 ·have hd := Kg hx ha
  rw [hd]
  have hne : (DL x who v == 0) = false := by simpa using ha
  have hne2 : (DL x who v != 0) = true := by simpa using ha
  clear h hx hd ha
  generalize DL x who v = R at *
  go_enter Tryz.func27, Tryz.ntmps27
  go_wp2_with fail
  refine HA.out.mono ?_
  rintro e w' ⟨rfl, rfl⟩
  clear HA
  go_wp2
  go_ret2
  exact ⟨rfl, HB0.out⟩
theorem LH (h : Tri w ge gx gl py hv mk x) (hx : AB x) (who v : Int) :
  Calls Tryz.prog 25 #[.pointer (some ⟨ge, 0, none⟩), .int .i64 who, .int .i64 v] w fun e w' => e = .returned (.bool true) ∧ Below w.heap.size w w' := by
 have c0 : w.cell? ⟨ge, 0, none⟩ = some (.pointer (some ⟨gx, 0, none⟩)) := h.E.cell 0
 have HX : Hid (Calls Tryz.prog 49 #[.pointer (some ⟨gx, 0, none⟩), .int .i64 who, .int .i64 v] w fun e w' => e = .returned (.tuple #[.int .i64 (CS x who v), .int .i64 (DL x who v)]) ∧ Below w.heap.size w w') := Sw h.X hx who v
 have HA : Hid (∀ w1, Below w.heap.size w w1 -> w1.cell? ⟨ge, 2, none⟩ = some (.pointer (some ⟨gl, 0, none⟩)) ∧ Calls Tryz.prog 50 #[.pointer (some ⟨gl, 0, none⟩), .int .i64 who, .int .i64 v] w1 fun e w' => e = .returned (.int .i64 (DL x who v)) ∧ w1 = w') := fun w1 hb => ⟨(h.E.below hb h.E.lt).cell 2, P3 (h.below hb).L hx who v⟩
 have HD : Hid (∀ w1, Below w.heap.size w w1 -> Calls Tryz.prog 27 #[.pointer (some ⟨ge, 0, none⟩), .int .i64 who, .int .i64 v] w1 fun e w' => e = .returned (.tuple #[.int .i64 (CS x who v), .bool true]) ∧ Below w.heap.size w w') := fun w1 hb => by
  refine (Mx (h.below hb) hx who v).mono ?_
  rintro e w' ⟨rfl, hb'⟩
  exact ⟨rfl, hb.trans (hb'.mono hb.size)⟩
 have hge := h.E.lt
 have hno : DL x who v ≠ 0 -> CS x who v = 0 := fun ha => Kg hx ha
 clear h hx
 by_cases ha : DL x who v = 0
 ·rw [ha] at HX HA
  clear hno ha
  generalize CS x who v = q at *
  go_enter Tryz.func25, Tryz.ntmps25
  go_wp2_with fail
  refine HX.out.mono ?_
  rintro e w1 ⟨rfl, hb1⟩
  obtain ⟨d2, hA⟩ := HA.out w1 hb1
  have HA1 : Hid _ := hA
  have HB1 := Hd hb1
  have g1 : ge < w1.heap.size := World.block_lt_of_cell? w1 _ d2
  clear hA hb1 HX HA c0
  go_wp2_with fail
  refine Calls.mono HA1.out ?_
  rintro e w2 ⟨rfl, rfl⟩
  clear HA1
  go_wp2_with fail
  refine (HD.out _ HB1.out).mono ?_
  rintro e w3 ⟨rfl, hb3⟩
  have HB3 := Hd hb3
  clear hb3 HD HB1 d2
  go_wp2
  go_ret
  refine ⟨?_, HB3.out⟩
  first | rfl | simp
 ·rw [hno ha] at HX HD
  have hne : (DL x who v == 0) = false := by simpa using ha
  have hne2 : (DL x who v != 0) = true := by simpa using ha
  clear hno ha HD
  generalize DL x who v = R at *
  go_enter Tryz.func25, Tryz.ntmps25
  go_wp2_with fail
  refine HX.out.mono ?_
  rintro e w1 ⟨rfl, hb1⟩
  obtain ⟨d2, hA⟩ := HA.out w1 hb1
  have HA1 : Hid _ := hA
  have HB1 := Hd hb1
  have g1 : ge < w1.heap.size := World.block_lt_of_cell? w1 _ d2
  clear hA hb1 HX HA c0
  go_wp2_with fail
  refine Calls.mono HA1.out ?_
  rintro e w2 ⟨rfl, rfl⟩
  clear HA1
  go_wp2_with (go_at_call 30; refine (DV _ _).mono ?_; rintro e w' ⟨rfl, rfl⟩)
  go_ret
  refine ⟨?_, HB1.out⟩
  first | rfl | simp
end Go.Proofs.YtohjjgefklhmaaaGreatDoor
