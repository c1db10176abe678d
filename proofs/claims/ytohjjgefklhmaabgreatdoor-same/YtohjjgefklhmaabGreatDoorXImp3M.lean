import Derived.Test.YtohjjgefklhmaabGreatDoorXImp2M
namespace Go.Proofs.YtohjjgefklhmaabGreatDoor
open Go.ChangeShapes Go.WideShapes Go.ChangeAt Go.RowKit
set_option linter.unusedVariables false

def GGen (gn : Gn) : Prop := GoodGen gn.bs gn.os gn.rs gn.top gn.mat gn.fee
/-- what readEngine answers -/
def RdPost (s : ByteArray) (w w' : World) (e : Ending) : Prop :=
  (e = .returned (.tuple #[.pointer none, .bool false]) ∧ Below w.heap.size w w' ∧ (¬ GGen (rdG s.data.toList ⟨0, false⟩).1 ∨ (rdX s.data.toList).2.bad = true)) ∨
  (∃ g bv vv ev, e = .returned (.tuple #[.pointer (some ⟨g, 0, none⟩), .bool true]) ∧ PE (fun k => w.heap.size ≤ k) w w' g (rdX s.data.toList).1 bv vv ev ∧ GGen (rdG s.data.toList ⟨0, false⟩).1 ∧ (rdX s.data.toList).2.bad = false)
theorem vs0_val (os rs : List Int) (i : Nat) (h : rs.length = os.length) (hi : i < os.length) : ((vs0 os rs).getD i v0).shares = 0 := by
  rw [vs0_at' os rs i h hi]

set_option maxHeartbeats 4000000 in
set_option maxRecDepth 100000 in
theorem readX_any (w : World) (s : ByteArray) (hs : s.size ≤ 8192) :
    Calls Tryz.prog 37 #[.string s] w fun e w' => RdPost s w w' e := by
  have HN : Hid (∀ (w' : World) (gr : Nat) (st : RS) (m : Int), RDS w' gr s st → 0 ≤ m → m ≤ 1073741824000000 → Calls Tryz.prog 76 #[.pointer (some ⟨gr, 0, none⟩), .int .i64 m] w' fun e w'' => e = .returned (.int .i64 (nx s.data.toList m st).1) ∧ RDS w'' gr s (nx s.data.toList m st).2 ∧ Kp (fun b => b = gr) w' w'') := fun w' gr st m a b c => next_any w' gr s st m a b c
  have HG : Hid (∀ (w' : World) (gr : Nat) (st : RS), RDS w' gr s st → Calls Tryz.prog 75 #[.pointer (some ⟨gr, 0, none⟩)] w' fun e w'' => ∃ vb vo vr, e = .returned (genV vb vo vr (rdG s.data.toList st).1.top (rdG s.data.toList st).1.mat (rdG s.data.toList st).1.fee) ∧ GnV w' w'' (rdG s.data.toList st).1 vb vo vr ∧ RDS w'' gr s (rdG s.data.toList st).2 ∧ Kp (fun b => b = gr) w' w'') := fun w' gr st a => nextG_any w' gr s st a
  have HR : Hid (RDS (w.alloc (.cells #[.string s, .int .i64 0, .bool false] 96)) w.heap.size s ⟨0, false⟩) := ⟨Has.new _ _ [.string s, .int .i64 0, .bool false], Nat.zero_le _, hs⟩
  have hgb := rdG_bd s.data.toList ⟨0, false⟩
  have HGB : Hid _ := hgb
  clear hgb
  go_enter Tryz.func37, Tryz.ntmps37
  go_wp2_with fail
  refine (HG.out _ _ _ HR.out).mono ?_
  rintro e w1 ⟨vb, vo, vr, rfl, hgv, hr1, hk1⟩
  have hb1 : Below w.heap.size w w1 := ((Below.refl _ w).alloc (Nat.le_refl _) _).trans (hk1.toBelow (by simp) (fun k hk e => by omega))
  obtain ⟨ba, bc, rfl⟩ := ownsRow_slice hgv.b
  obtain ⟨oa, oc, rfl⟩ := ownsRow_slice hgv.o
  obtain ⟨ra, rc, rfl⟩ := ownsRow_slice hgv.r
  unfold genV
  have HB1 : Hid (Below w.heap.size w w1) := hb1
  have HGV : Hid (GnV (w.alloc (.cells #[.string s, .int .i64 0, .bool false] 96)) w1 (rdG s.data.toList ⟨0, false⟩).1 (.slice ba (rdG s.data.toList ⟨0, false⟩).1.bs.length bc) (.slice oa (rdG s.data.toList ⟨0, false⟩).1.os.length oc) (.slice ra (rdG s.data.toList ⟨0, false⟩).1.rs.length rc)) := hgv
  have HR1 : Hid (RDS w1 w.heap.size s (rdG s.data.toList ⟨0, false⟩).2) := hr1
  clear hb1 hgv hr1 hk1 HR HG
  go_wp2_with fail
  have hA : Below w1.heap.size w1 (w1.alloc (.cells #[.slice ba (rdG s.data.toList ⟨0, false⟩).1.bs.length bc, .slice oa (rdG s.data.toList ⟨0, false⟩).1.os.length oc, .slice ra (rdG s.data.toList ⟨0, false⟩).1.rs.length rc, .int .i64 (rdG s.data.toList ⟨0, false⟩).1.top, .int .i64 (rdG s.data.toList ⟨0, false⟩).1.mat, .int .i64 (rdG s.data.toList ⟨0, false⟩).1.fee] 25)) := (Below.refl _ _).alloc (Nat.le_refl _) _
  have hib := (Rd.of_owns HGV.out.b).ints.below hA (Nat.le_refl _)
  have hio := (Rd.of_owns HGV.out.o).ints.below hA (Nat.le_refl _)
  have hir := (Rd.of_owns HGV.out.r).ints.below hA (Nat.le_refl _)
  obtain ⟨q1, q2, q3, q4, q5, q6, q7, q8, q9⟩ := HGB.out
  have hbA : Below w.heap.size w (w1.alloc (.cells #[.slice ba (rdG s.data.toList ⟨0, false⟩).1.bs.length bc, .slice oa (rdG s.data.toList ⟨0, false⟩).1.os.length oc, .slice ra (rdG s.data.toList ⟨0, false⟩).1.rs.length rc, .int .i64 (rdG s.data.toList ⟨0, false⟩).1.top, .int .i64 (rdG s.data.toList ⟨0, false⟩).1.mat, .int .i64 (rdG s.data.toList ⟨0, false⟩).1.fee] 25)) := HB1.out.alloc HB1.out.size _
  by_cases hg : GGen (rdG s.data.toList ⟨0, false⟩).1
  · refine (new_good _ _ _ _ _ _ _ _ _ _ hib hio hir (by omega) (by omega) (by omega) hg).mono ?_
    rintro e w2 hbeg
    obtain ⟨g, bv, vv, rfl, hpe⟩ := begun_pe hbeg hg
    have hfr : Below w.heap.size w w2 := hbA.trans ((hpe.fr.toBelow (B := (w1.alloc (.cells #[.slice ba (rdG s.data.toList ⟨0, false⟩).1.bs.length bc, .slice oa (rdG s.data.toList ⟨0, false⟩).1.os.length oc, .slice ra (rdG s.data.toList ⟨0, false⟩).1.rs.length rc, .int .i64 (rdG s.data.toList ⟨0, false⟩).1.top, .int .i64 (rdG s.data.toList ⟨0, false⟩).1.mat, .int .i64 (rdG s.data.toList ⟨0, false⟩).1.fee] 25)).heap.size) (Nat.le_refl _) (fun k hk h => by omega)).mono hbA.size)
    have hx : XR w w2 g w.heap.size s (xN' (rdG s.data.toList ⟨0, false⟩).1) (rdG s.data.toList ⟨0, false⟩).2 bv vv (.slice none 0 0) := ⟨hpe.rebase (Kp.of_below hfr _) (fun k hk => hk) (fun k hk => Nat.le_trans hbA.size (hpe.own k hk)), (HR1.out.alloc _).below (hpe.fr.toBelow (Nat.le_refl _) (fun k hk h => by omega)), Nat.le_refl _⟩
    have HX : Hid (XR w w2 g w.heap.size s (xN' (rdG s.data.toList ⟨0, false⟩).1) (rdG s.data.toList ⟨0, false⟩).2 bv vv (.slice none 0 0)) := hx
    have HGD : Hid (GGen (rdG s.data.toList ⟨0, false⟩).1) := hg
    have hvl : (xN' (rdG s.data.toList ⟨0, false⟩).1).vals.length = (rdG s.data.toList ⟨0, false⟩).1.os.length := vs0_len' _ _ hg.2.1.2.2.1
    have HVL : Hid ((xN' (rdG s.data.toList ⟨0, false⟩).1).vals.length = (rdG s.data.toList ⟨0, false⟩).1.os.length) := hvl
    have hz : ∀ i, i < (xN' (rdG s.data.toList ⟨0, false⟩).1).vals.length → ((xN' (rdG s.data.toList ⟨0, false⟩).1).val i).shares = 0 := fun i hi => vs0_val _ _ i hg.2.1.2.2.1 (by rw [hvl] at hi; exact hi)
    have HZ : Hid (∀ i, i < (xN' (rdG s.data.toList ⟨0, false⟩).1).vals.length → ((xN' (rdG s.data.toList ⟨0, false⟩).1).val i).shares = 0) := hz
    have o1 : 1 ≤ (rdG s.data.toList ⟨0, false⟩).1.os.length := hg.2.1.1
    have b1 : 1 ≤ (rdG s.data.toList ⟨0, false⟩).1.bs.length := hg.1.1
    have HXX : Hid (rdX s.data.toList = rdX4 s.data.toList (rdX3 s.data.toList (xN' (rdG s.data.toList ⟨0, false⟩).1, (rdG s.data.toList ⟨0, false⟩).2))) := rfl
    have cg3 : w2.cell? ⟨g, 3, none⟩ = some (.int .i64 0) := hx.e.L.cell 3
    have fg3 := hx.e.L.frozen 3
    clear hpe hfr hx hg hvl hz hib hio hir hA hbeg q7 q8 q9 q4 q5 q6 HGV HGB HR1 HB1 hbA
    obtain ⟨y0, hy0⟩ : ∃ y0, y0 = xN' (rdG s.data.toList ⟨0, false⟩).1 := ⟨_, rfl⟩
    obtain ⟨st0, hst0⟩ : ∃ st0, st0 = (rdG s.data.toList ⟨0, false⟩).2 := ⟨_, rfl⟩
    rw [← hy0] at HX HVL HZ HXX
    rw [← hst0] at HX HXX
    have HY0 : Hid (y0 = xN' (rdG s.data.toList ⟨0, false⟩).1) := hy0
    have yb : y0.bal.length = (rdG s.data.toList ⟨0, false⟩).1.bs.length := by rw [hy0]; rfl
    clear hy0 hst0
    go_wp2_with fail
    refine (HN.out _ _ st0 1000 HX.out.r (by decide) (by decide)).mono ?_
    rintro e w3 ⟨rfl, hr3, hk3⟩
    have hx3 := HX.out.next hr3 hk3
    have d3 : w3.cell? ⟨g, 3, none⟩ = some (.int .i64 y0.height) := hx3.e.L.cell 3
    have f3 := hx3.e.L.frozen 3
    have lg3 := hx3.e.L.lt
    have HX3 : Hid _ := hx3.head (x' := { y0 with height := (nx s.data.toList 1000 st0).1 }) 3 (.int .i64 (nx s.data.toList 1000 st0).1) rfl rfl rfl rfl rfl
    clear hr3 hk3 hx3 HX cg3 fg3
    go_wp2_with fail
    refine (HN.out _ _ _ 1000000 HX3.out.r (by decide) (by decide)).mono ?_
    rintro e w4 ⟨rfl, hr4, hk4⟩
    have hx4 := HX3.out.next hr4 hk4
    have d5 : w4.cell? ⟨g, 5, none⟩ = some (.int .i64 y0.fees) := hx4.e.L.cell 5
    have f5 := hx4.e.L.frozen 5
    have lg4 := hx4.e.L.lt
    have HX4 : Hid _ := hx4.head (x' := { y0 with height := (nx s.data.toList 1000 st0).1, fees := (nx s.data.toList 1000000 (nx s.data.toList 1000 st0).2).1 }) 5 (.int .i64 (nx s.data.toList 1000000 (nx s.data.toList 1000 st0).2).1) rfl rfl rfl rfl rfl
    clear hr4 hk4 hx4 HX3 d3 f3 lg3
    go_wp2_with fail
    refine (HN.out _ _ _ 1000000 HX4.out.r (by decide) (by decide)).mono ?_
    rintro e w5 ⟨rfl, hr5, hk5⟩
    have hx5 := HX4.out.next hr5 hk5
    have d6 : w5.cell? ⟨g, 6, none⟩ = some (.int .i64 y0.pool) := hx5.e.L.cell 6
    have f6 := hx5.e.L.frozen 6
    have lg5 := hx5.e.L.lt
    have HX5 : Hid (XR w (w5.setCell ⟨g, 6, none⟩ (.int .i64 (nx s.data.toList 1000000 (nx s.data.toList 1000000 (nx s.data.toList 1000 st0).2).2).1)) g w.heap.size s (rdX1 s.data.toList (y0, st0)).1 (rdX1 s.data.toList (y0, st0)).2 bv vv (.slice none 0 0)) := hx5.head (x' := (rdX1 s.data.toList (y0, st0)).1) 6 (.int .i64 (nx s.data.toList 1000000 (nx s.data.toList 1000000 (nx s.data.toList 1000 st0).2).2).1) rfl rfl rfl rfl rfl
    clear hr5 hk5 hx5 HX4 d5 f5 lg4
    have hhb := nx_bd s.data.toList 1000 st0 (by decide)
    have hh1 : (rdX1 s.data.toList (y0, st0)).1.height = (nx s.data.toList 1000 st0).1 := rfl
    have hv1 : (rdX1 s.data.toList (y0, st0)).1.vals = y0.vals := rfl
    have hb1 : (rdX1 s.data.toList (y0, st0)).1.bal = y0.bal := rfl
    have ht1 : (rdX1 s.data.toList (y0, st0)).1.tab = List.replicate 65 0 := by show y0.tab = _; rw [HY0.out]; rfl
    have he1 : (rdX1 s.data.toList (y0, st0)).1.ents = [] := by show y0.ents = _; rw [HY0.out]; rfl
    have hz1 : ∀ i, i < (rdX1 s.data.toList (y0, st0)).1.vals.length → ((rdX1 s.data.toList (y0, st0)).1.val i).shares = 0 := HZ.out
    have HXX2 : Hid (rdX s.data.toList = rdX4 s.data.toList (rdX3 s.data.toList (y0, st0))) := HXX.out
    obtain ⟨q, hq⟩ : ∃ q, q = rdX1 s.data.toList (y0, st0) := ⟨_, rfl⟩
    have hX3 : rdX3 s.data.toList (y0, st0) = rdDa s.data.toList (rdV s.data.toList q q.1.vals.length) (rdV s.data.toList q q.1.vals.length).1.vals.length (rdV s.data.toList q q.1.vals.length).1.bal.length := by rw [hq]; rfl
    rw [← hq] at HX5 hh1 hv1 hb1 ht1 he1 hz1
    rw [hX3] at HXX2
    have hvl1 : q.1.vals.length = (rdG s.data.toList ⟨0, false⟩).1.os.length := by rw [hv1]; exact HVL.out
    have hbl1 : q.1.bal.length = (rdG s.data.toList ⟨0, false⟩).1.bs.length := by rw [hb1]; exact yb
    have vm := rdV_bd s.data.toList q q.1.vals.length (Nat.le_refl _)
    obtain ⟨q', hq'⟩ : ∃ q', q' = rdV s.data.toList q q.1.vals.length := ⟨_, rfl⟩
    rw [← hq'] at vm HXX2
    have HV : Hid (∀ w', XR w w' g w.heap.size s q.1 q.2 bv vv (.slice none 0 0) → Calls Tryz.prog 77 #[.pointer (some ⟨g, 0, none⟩), .pointer (some ⟨w.heap.size, 0, none⟩)] w' fun e w'' => e = .returned (.tuple #[]) ∧ XR w w'' g w.heap.size s q'.1 q'.2 bv vv (.slice none 0 0)) := fun w' hxr => by rw [hq']; exact readV_any w w' g w.heap.size s q.1 q.2 bv vv (.slice none 0 0) hxr (by omega)
    have hvl2 : q'.1.vals.length = (rdG s.data.toList ⟨0, false⟩).1.os.length := vm.vl.trans hvl1
    have hbl2 : q'.1.bal.length = (rdG s.data.toList ⟨0, false⟩).1.bs.length := by rw [vm.eq]; exact hbl1
    have ht2 : q'.1.tab = List.replicate 65 0 := by rw [vm.eq]; exact ht1
    have he2 : q'.1.ents = [] := by rw [vm.eq]; exact he1
    have hh2 : q'.1.height = (nx s.data.toList 1000 st0).1 := by rw [vm.eq]; exact hh1
    have hz2 : ∀ i, i < q'.1.vals.length → (q'.1.val i).shares = 0 := fun i hi => by
      have h1 := vm.lo i (by omega) (by omega)
      rw [h1.2.2.2]; exact hz1 i (by omega)
    have HD : Hid (∀ w', XR w w' g w.heap.size s q'.1 q'.2 bv vv (.slice none 0 0) → Calls Tryz.prog 78 #[.pointer (some ⟨g, 0, none⟩), .pointer (some ⟨w.heap.size, 0, none⟩)] w' fun e w'' => e = .returned (.tuple #[]) ∧ XR w w'' g w.heap.size s (rdDa s.data.toList q' q'.1.vals.length q'.1.bal.length).1 (rdDa s.data.toList q' q'.1.vals.length q'.1.bal.length).2 bv vv (.slice none 0 0)) := fun w' hxr => readD_any w w' g w.heap.size s q'.1 q'.2 bv vv (.slice none 0 0) hxr (by omega) (by omega) ht2 hz2
    have dm := rdDa_bd (s := s.data.toList) (q := q') ht2 (by omega) q'.1.bal.length (by omega)
    obtain ⟨q3, hq3⟩ : ∃ q3, q3 = rdDa s.data.toList q' q'.1.vals.length q'.1.bal.length := ⟨_, rfl⟩
    rw [← hq3] at dm HD HXX2
    have HE : Hid (∀ w', XR w w' g w.heap.size s q3.1 q3.2 bv vv (.slice none 0 0) → Calls Tryz.prog 79 #[.pointer (some ⟨g, 0, none⟩), .pointer (some ⟨w.heap.size, 0, none⟩)] w' fun e w'' => e = .returned (.tuple #[]) ∧ ∃ ev', XR w w'' g w.heap.size s (rdX s.data.toList).1 (rdX s.data.toList).2 bv vv ev') := fun w' hxr => by
      rw [HXX2.out]
      exact readE_any w w' g w.heap.size s q3.1 q3.2 bv vv (.slice none 0 0) hxr (by rw [dm.eq]; show 1 ≤ q'.1.bal.length; omega) (by rw [dm.eq]; show q'.1.bal.length ≤ 6; omega) (by rw [dm.vl]; omega) (by rw [dm.vl]; omega) (by rw [dm.eq]; show 0 ≤ q'.1.height; omega) (by rw [dm.eq]; show q'.1.height ≤ 1000; omega) (by rw [dm.eq]; exact he2)
    clear hq hX3 hh1 hv1 hb1 ht1 he1 hz1 hvl1 hbl1 vm hq' hvl2 hbl2 ht2 he2 hh2 hz2 dm hq3 HXX HXX2 HVL HZ yb hhb q1 q2 o1 b1
    go_wp2_with fail
    refine (HV.out _ HX5.out).mono ?_
    rintro e w6 ⟨rfl, hx6⟩
    have HX6 : Hid (XR w w6 g w.heap.size s q'.1 q'.2 bv vv (.slice none 0 0)) := hx6
    clear hx6 HX5 HV d6 f6
    go_wp2_with fail
    refine (HD.out _ HX6.out).mono ?_
    rintro e w7 ⟨rfl, hx7⟩
    have HX7 : Hid (XR w w7 g w.heap.size s q3.1 q3.2 bv vv (.slice none 0 0)) := hx7
    clear hx7 HX6 HD
    go_wp2_with fail
    refine (HE.out _ HX7.out).mono ?_
    rintro e w8 ⟨rfl, ev', hx8⟩
    have c2 : w8.cell? ⟨w.heap.size, 2, none⟩ = some (.bool (rdX s.data.toList).2.bad) := Has.cell hx8.r.rd 2
    have HX8 : Hid (PE (fun k => w.heap.size ≤ k) w w8 g (rdX s.data.toList).1 bv vv ev') := hx8.e
    have HB8 : Hid (Below w.heap.size w w8) := hx8.e.fr.toBelow (Nat.le_refl _) (fun k hk h => by omega)
    obtain ⟨bad, hbad⟩ : ∃ b, (rdX s.data.toList).2.bad = b := ⟨_, rfl⟩
    rw [hbad] at c2
    have HBD : Hid ((rdX s.data.toList).2.bad = bad) := hbad
    clear hx8 HX7 HE hbad
    cases bad
    · go_wp2
      go_ret2
      exact .inr ⟨g, bv, vv, ev', rfl, HX8.out, HGD.out, HBD.out⟩
    · go_wp2
      go_ret2
      exact .inl ⟨rfl, HB8.out, .inr HBD.out⟩
  · refine (new_bad _ _ _ _ _ _ _ _ _ _ hib hio hir (by omega) (by omega) (by omega) hg).mono ?_
    rintro e w2 ⟨rfl, hb2⟩
    have HB2 : Hid (Below w.heap.size w w2) := hbA.trans (hb2.mono hbA.size)
    have HG2 : Hid (¬ GGen (rdG s.data.toList ⟨0, false⟩).1) := hg
    clear hb2 hbA hg hib hio hir hA HGV HGB HR1 HB1 q1 q2 q3 q4 q5 q6 q7 q8 q9
    go_wp2
    go_ret2
    exact .inl ⟨rfl, HB2.out, .inl HG2.out⟩
end Go.Proofs.YtohjjgefklhmaabGreatDoor
