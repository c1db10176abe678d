import Derived.Test.YtenjjneobkodbaaGreatDoes2
namespace Go.Proofs.YtenjjneobkodbaaGreat
open Go.ChangeShapes Go.WideShapes Go.ChangeAt Go.RowKit
set_option linter.unusedVariables false

set_option maxHeartbeats 1000000 in
theorem export_any (g : Nat) (w : World) : Calls Tryz.prog 21 #[.pointer (some ⟨g, 0, none⟩)] w fun e w' => e = .returned (.string .empty) ∧ w = w' := by
  go_enter Tryz.func21, Tryz.ntmps21
  go_wp2
  go_ret
  exact ⟨rfl, rfl⟩

set_option maxHeartbeats 4000000 in
set_option maxRecDepth 100000 in
theorem twin_any {w : World} {lab : Nat → Nat × Nat} {i ge gx gy gl : Nat} {hv : Value} {nh : Nat} {hcs : List Value} {mk : Int} {c : LC} {vals : List VS} (h : EI w lab i ge gx gy gl hv nh hcs mk c c c vals) (hc : GoodC c) (hz : ZV vals) (l2 : vals.length ≤ 5) (m1 : 0 ≤ mk) (m2 : mk ≤ 100000000000) (hnh : nh ≤ 1000000) :
    Calls Tryz.prog 25 #[.pointer (some ⟨ge, 0, none⟩)] w fun e w' => e = .returned (.bool true) ∧ DPost w w' lab i ge gx gy gl nh mk vals := by
  have HI : Hid (EI w lab i ge gx gy gl hv nh hcs mk c c c vals) := h
  have c1 : w.cell? ⟨ge, 1, none⟩ = some (.pointer (some ⟨gy, 0, none⟩)) := h.E.cell 1
  clear h
  go_enter Tryz.func25, Tryz.ntmps25
  go_wp2_with fail
  refine (ereads HI.out hc hz l2 m1 m2 hnh gy (esee HI.out.Y hc hz l2)).mono ?_
  rintro e w5 ⟨rfl, lab5, hv5, hcs5, hI5, hL5, hK5⟩
  have HF : Hid (DPost w w5 lab i ge gx gy gl nh mk vals) := ⟨lab5, hv5, hcs5, c, hI5, hc, hL5, hK5⟩
  have d0 : w5.cell? ⟨ge, 0, none⟩ = some (.pointer (some ⟨gx, 0, none⟩)) := hI5.E.cell 0
  have d1 : w5.cell? ⟨ge, 1, none⟩ = some (.pointer (some ⟨gy, 0, none⟩)) := hI5.E.cell 1
  have d2 : w5.cell? ⟨ge, 2, none⟩ = some (.pointer (some ⟨gl, 0, none⟩)) := hI5.E.cell 2
  have q8 : w5.cell? ⟨gl, 8, none⟩ = some (.slice none 0 0) := by
    obtain ⟨bv, vv, ev, hZ, _⟩ := hI5.L
    exact hZ.C.L.cell 8
  clear hI5 hL5 hK5 HI c1
  go_wp2_with fail
  go_loop [4] (fun i => i = .int .i64 0) (fun _ => 0)
  case atStart => rfl
  case round =>
    subst hrel
    go_wp2_with (go_at_call 21; refine (export_any _ _).mono ?_; rintro e w' ⟨rfl, rfl⟩)
    go_ret
    refine ⟨?_, HF.out⟩
    first | rfl | simp

set_option maxHeartbeats 4000000 in
set_option maxRecDepth 100000 in
theorem look_any {w : World} {lab : Nat → Nat × Nat} {i ge gx gy gl : Nat} {hv : Value} {nh : Nat} {hcs : List Value} {mk : Int} {c : LC} {vals : List VS} (o : OpD) (h : EI w lab i ge gx gy gl hv nh hcs mk c c c vals) (hc : GoodC c) (hz : ZV vals) (l2 : vals.length ≤ 5) (m1 : 0 ≤ mk) (m2 : mk ≤ 100000000000) (hnh : nh ≤ 1000000) (hk : o.kind = 22) :
    Calls Tryz.prog 17 #[.pointer (some ⟨ge, 0, none⟩), .agg #[.int .i64 o.kind, .int .i64 o.x, .int .i64 o.a, .int .i64 o.b, .int .i64 o.c, .int .i64 o.d, .string o.s]] w fun e w' => e = .returned (.bool true) ∧ DPost w w' lab i ge gx gy gl nh mk vals := by
  rw [hk]
  have HI : Hid (∀ ob, EI (w.alloc ob) lab i ge gx gy gl hv nh hcs mk c c c vals) := fun ob => h.kp0 ((Kp.refl _ w).alloc ob)
  clear h hk
  go_enter Tryz.func17, Tryz.ntmps17
  go_wp2_with fail
  refine (twin_any (HI.out _) hc hz l2 m1 m2 hnh).mono ?_
  rintro e w5 ⟨rfl, lab5, hv5, hcs5, c', hI5, hc', hL5, hK5⟩
  have HF : Hid (DPost w w5 lab i ge gx gy gl nh mk vals) := ⟨lab5, hv5, hcs5, c', hI5, hc', fun k hk => hL5 k (by simp only [World.size_alloc]; omega), ((Kp.refl _ w).alloc _).trans hK5⟩
  clear hI5 hL5 hK5 HI
  go_wp2
  go_ret
  exact ⟨rfl, HF.out⟩
end Go.Proofs.YtenjjneobkodbaaGreat
