import Derived.Test.YtohjjgefklhmaaaGreatDoorEInvM
import Derived.Deep.RegionWith
import Derived.Deep.DeepCutAuto
namespace Go.Proofs.YtohjjgefklhmaaaGreatDoor
open Go.ChangeShapes Go.WideShapes Go.ChangeAt Go.RowKit
set_option linter.unusedVariables false

/-- what the document says of a step: Send, Spend, Block -/
def opF (c : LC) (o : OpD) : Int × LC := if o.kind = 9 then sendF c o.a o.b o.c else if o.kind = 10 then spendF c o.a o.b else blockF c
theorem GoodC.op {c : LC} (h : GoodC c) (o : OpD) : GoodC (opF c o).2 := by
  unfold opF
  split
  · exact h.send _ _ _
  · split
    · exact h.spend _ _
    · exact h.block

theorem EngF.alloc {F : Nat → Prop} {w : World} {g : Nat} {c : LC} {vals : List VS} (h : EngF F w g c vals) (o : Obj) : EngF F (w.alloc o) g c vals := h.move ((Kp.refl (fun _ => False) w).alloc o) (fun b _ hf => ⟨fun h => h, hf⟩)
theorem LedF.alloc {F : Nat → Prop} {w : World} {g : Nat} {c : LC} {vals : List VS} (h : LedF F w g c vals) (o : Obj) : LedF F (w.alloc o) g c vals := h.move ((Kp.refl (fun _ => False) w).alloc o) (fun b _ hf => ⟨fun h => h, hf⟩)

set_option maxHeartbeats 2000000 in
set_option maxRecDepth 100000 in
theorem calls_any {F : Nat → Prop} {w : World} {g : Nat} {c : LC} {vals : List VS} (o : OpD) (h : EngF F w g c vals) (hc : GoodC c) (hz : ZV vals) (l2 : vals.length ≤ 5) (hk : o.kind = 9 ∨ o.kind = 10 ∨ o.kind = 11) :
    Calls Tryz.prog 28 #[.pointer (some ⟨g, 0, none⟩), .agg #[.int .i64 o.kind, .int .i64 o.x, .int .i64 o.a, .int .i64 o.b, .int .i64 o.c, .int .i64 o.d, .string o.s]] w fun e w' => e = .returned (.int .i64 (opF c o).1) ∧ EngF F w' g (opF c o).2 vals ∧ Kp F w w' := by
  obtain ⟨kind, X, A, B, C, D, s⟩ := o
  simp only at hk
  have HE : Hid (∀ ob, EngF F (w.alloc ob) g c vals) := fun ob => h.alloc ob
  have HA : Hid (∀ ob, Kp F w (w.alloc ob)) := fun ob => (Kp.refl F w).alloc ob
  clear h
  rcases hk with rfl | rfl | rfl
  · have e0 : opF c ⟨9, X, A, B, C, D, s⟩ = sendF c A B C := rfl
    rw [e0]
    go_enter Tryz.func28, Tryz.ntmps28
    go_wp2_with fail
    refine (esend (HE.out _) hc A B C).mono ?_
    rintro e w2 ⟨rfl, hE2, hk2⟩
    have HF : Hid (EngF F w2 g (sendF c A B C).2 vals ∧ Kp F w w2) := ⟨hE2, (HA.out _).trans hk2⟩
    clear hE2 hk2
    go_wp2
    go_ret
    exact ⟨rfl, HF.out⟩
  · have e0 : opF c ⟨10, X, A, B, C, D, s⟩ = spendF c A B := rfl
    rw [e0]
    go_enter Tryz.func28, Tryz.ntmps28
    go_wp2_with fail
    refine (espend (HE.out _) hc A B).mono ?_
    rintro e w2 ⟨rfl, hE2, hk2⟩
    have HF : Hid (EngF F w2 g (spendF c A B).2 vals ∧ Kp F w w2) := ⟨hE2, (HA.out _).trans hk2⟩
    clear hE2 hk2
    go_wp2
    go_ret
    exact ⟨rfl, HF.out⟩
  · have e0 : opF c ⟨11, X, A, B, C, D, s⟩ = blockF c := rfl
    rw [e0]
    go_enter Tryz.func28, Tryz.ntmps28
    go_wp2_with fail
    refine (eblock (HE.out _) hc hz l2).mono ?_
    rintro e w2 ⟨rfl, hE2, hk2⟩
    have HF : Hid (EngF F w2 g (blockF c).2 vals ∧ Kp F w w2) := ⟨hE2, (HA.out _).trans hk2⟩
    clear hE2 hk2
    go_wp2
    go_ret
    exact ⟨rfl, HF.out⟩

set_option maxHeartbeats 2000000 in
set_option maxRecDepth 100000 in
theorem ledger_any {F : Nat → Prop} {w : World} {ge gl : Nat} {px py hv mk : Value} {c : LC} {vals : List VS} (o : OpD) (W Z : Int) (hE : Has w ge 54 [px, py, .pointer (some ⟨gl, 0, none⟩), hv, mk]) (h : LedF F w gl c vals) (hc : GoodC c) (hz : ZV vals) (l1 : 1 ≤ vals.length) (l2 : vals.length ≤ 5) (hk : o.kind = 9 ∨ o.kind = 10 ∨ o.kind = 11) :
    Calls Tryz.prog 29 #[.pointer (some ⟨ge, 0, none⟩), .agg #[.int .i64 o.kind, .int .i64 o.x, .int .i64 o.a, .int .i64 o.b, .int .i64 o.c, .int .i64 o.d, .string o.s], .int .i64 W, .int .i64 Z] w fun e w' => e = .returned (.int .i64 (opF c o).1) ∧ LedF (fun k => F k ∨ w.heap.size ≤ k) w' gl (opF c o).2 vals ∧ Kp F w w' := by
  obtain ⟨kind, X, A, B, C, D, s⟩ := o
  simp only at hk
  have HE : Hid (∀ ob, LedF F (w.alloc ob) gl c vals) := fun ob => h.alloc ob
  have HA : Hid (∀ ob, Kp F w (w.alloc ob)) := fun ob => (Kp.refl F w).alloc ob
  have c2 : w.cell? ⟨ge, 2, none⟩ = some (.pointer (some ⟨gl, 0, none⟩)) := hE.cell 2
  have hlt := hE.lt
  clear h hE
  rcases hk with rfl | rfl | rfl
  · have e0 : opF c ⟨9, X, A, B, C, D, s⟩ = sendF c A B C := rfl
    rw [e0]
    have HP : Hid (∀ n ob, Calls Tryz.prog 63 #[.pointer (some ⟨gl, 0, none⟩), .int .i64 A, .int .i64 B, .int .i64 C] ((w.alloc ob).drewN n) fun e w' => e = .returned (.int .i64 (sendF c A B C).1) ∧ LedF (fun k => F k ∨ w.heap.size ≤ k) w' gl (sendF c A B C).2 vals ∧ Kp F w w') := fun n ob => by
      refine (fsend ((HE.out ob).move ((Kp.refl (fun _ => False) _).drewN n) (fun b _ hf => ⟨fun h => h, hf⟩)) hc A B C).mono ?_
      rintro e w2 ⟨rfl, hE2, hk2⟩
      exact ⟨rfl, hE2.move (Kp.refl (fun _ => False) _) (fun b _ hf => ⟨fun h => h, .inl hf⟩), ((HA.out ob).drewN n).trans hk2⟩
    clear HE HA
    go_enter Tryz.func29, Tryz.ntmps29
    go_wp2_with fail
    go_region_with (go_at_call 63; refine (HP.out 1 _).mono ?_; rintro e w2 ⟨rfl, hE2, hk2⟩)
    all_goals
      have HF : Hid (LedF (fun k => F k ∨ w.heap.size ≤ k) w2 gl (sendF c A B C).2 vals ∧ Kp F w w2) := ⟨hE2, hk2⟩
      clear hE2 hk2
      go_wp2
      go_ret
      exact ⟨rfl, HF.out⟩
  · have e0 : opF c ⟨10, X, A, B, C, D, s⟩ = spendF c A B := rfl
    rw [e0]
    have HP : Hid (∀ n ob, Calls Tryz.prog 64 #[.pointer (some ⟨gl, 0, none⟩), .int .i64 A, .int .i64 B] ((w.alloc ob).drewN n) fun e w' => e = .returned (.int .i64 (spendF c A B).1) ∧ LedF (fun k => F k ∨ w.heap.size ≤ k) w' gl (spendF c A B).2 vals ∧ Kp F w w') := fun n ob => by
      refine (fspend ((HE.out ob).move ((Kp.refl (fun _ => False) _).drewN n) (fun b _ hf => ⟨fun h => h, hf⟩)) hc A B).mono ?_
      rintro e w2 ⟨rfl, hE2, hk2⟩
      exact ⟨rfl, hE2.move (Kp.refl (fun _ => False) _) (fun b _ hf => ⟨fun h => h, .inl hf⟩), ((HA.out ob).drewN n).trans hk2⟩
    clear HE HA
    go_enter Tryz.func29, Tryz.ntmps29
    go_wp2_with fail
    go_region_with (go_at_call 64; refine (HP.out 1 _).mono ?_; rintro e w2 ⟨rfl, hE2, hk2⟩)
    all_goals
      have HF : Hid (LedF (fun k => F k ∨ w.heap.size ≤ k) w2 gl (spendF c A B).2 vals ∧ Kp F w w2) := ⟨hE2, hk2⟩
      clear hE2 hk2
      go_wp2
      go_ret
      exact ⟨rfl, HF.out⟩
  · have e0 : opF c ⟨11, X, A, B, C, D, s⟩ = blockF c := rfl
    rw [e0]
    go_enter Tryz.func29, Tryz.ntmps29
    go_wp2_with fail
    refine (fblock (HE.out _) hc hz l1 l2).mono ?_
    rintro e w2 ⟨rfl, hE2, hk2⟩
    have HF : Hid (LedF (fun k => F k ∨ w.heap.size ≤ k) w2 gl (blockF c).2 vals ∧ Kp F w w2) := ⟨hE2.move (Kp.refl (fun _ => False) _) (fun b _ hf => ⟨fun h => h, hf.imp_right (fun h => by simp only [World.size_alloc] at h; omega)⟩), (HA.out _).trans hk2⟩
    clear hE2 hk2
    go_wp2
    go_ret
    exact ⟨rfl, HF.out⟩
end Go.Proofs.YtohjjgefklhmaaaGreatDoor
