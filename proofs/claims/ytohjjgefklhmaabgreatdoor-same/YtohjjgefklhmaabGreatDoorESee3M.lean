import Derived.Test.YtohjjgefklhmaabGreatDoorESeeM
namespace Go.Proofs.YtohjjgefklhmaabGreatDoor
open Go.ChangeShapes Go.WideShapes Go.ChangeAt Go.RowKit
set_option linter.unusedVariables false

/-- what See hands out, as far as it is looked at -/
def SeeQ (w w' : World) (e : Ending) (x : EC) : Prop :=
  ∃ bv vv dv ev, e = .returned (.agg #[.int .i64 x.height, bv, .int .i64 x.fees, .int .i64 x.pool, .int .i64 (bondedN x.vals), .int .i64 (looseV x.vals + sumE x.ents), vv, dv, ev]) ∧
    w'.ownsRow w.heap.size 3 1 bv x.bal.length (ints x.bal) ∧ w'.ownsRow w.heap.size 76 8 vv x.vals.length (vrow x.vals) ∧ w'.ownsRow w.heap.size 80 4 ev x.ents.length (erow x.ents) ∧ (∃ a n c, dv = .slice a n c) ∧ Below w.heap.size w w'

set_option maxHeartbeats 2000000 in
set_option maxRecDepth 100000 in
theorem kseeQ {S : Nat → Prop} {W0 : World} (g : Nat) (x : EC) (bv vv ev : Value) (w : World) (hC : PE S W0 w g x bv vv ev) (hB : VB x.vals) (hBe : EB x.ents) (l1 : x.bal.length ≤ 6) (l2 : x.vals.length ≤ 5) (l3 : x.ents.length ≤ 1000) :
    Calls Tryz.prog 11 #[.pointer (some ⟨g, 0, none⟩)] w fun e w' => SeeQ w w' e x := by
  obtain ⟨ba, bc, rfl⟩ := ownsRow_slice hC.b
  obtain ⟨va, vc, rfl⟩ := ownsRow_slice hC.v
  obtain ⟨ea, ec, rfl⟩ := ownsRow_slice hC.e
  have c3 : w.cell? ⟨g, 3, none⟩ = some (.int .i64 x.height) := hC.L.cell 3
  have c4 : w.cell? ⟨g, 4, none⟩ = some (.slice ba x.bal.length bc) := hC.L.cell 4
  have c5 : w.cell? ⟨g, 5, none⟩ = some (.int .i64 x.fees) := hC.L.cell 5
  have c6 : w.cell? ⟨g, 6, none⟩ = some (.int .i64 x.pool) := hC.L.cell 6
  have hlt := hC.L.lt
  have hlt1 : g < w.heap.size + 1 := by omega
  have hlt2 : g < w.heap.size + 1 + 1 := by omega
  go_enter Tryz.func11, Tryz.ntmps11
  go_wp2_with fail
  go_region
  go_wp2_with fail
  refine (copyNumbers_any _ x.bal _ (((Rd.of_owns hC.b).ints).below (B := w.heap.size) (((Below.refl _ _).alloc (Nat.le_refl _) _).alloc (by simp) _).drew (Nat.le_refl _)) (by omega)).mono ?_
  rintro e w1 ⟨rfl, rfl⟩
  go_wp2_with fail
  have hR : Has (((w.alloc (.cells #[.int .i64 0, .slice none 0 0, .int .i64 0, .int .i64 0, .int .i64 0, .int .i64 0, .slice none 0 0, .slice none 0 0, .slice none 0 0] 41)).alloc (.cells #[.int .i64 x.height, .slice (some ⟨w.heap.size + 1 + 1, 0, none⟩) x.bal.length x.bal.length, .int .i64 x.fees, .int .i64 x.pool, .int .i64 0, .int .i64 0, .slice none 0 0, .slice none 0 0, .slice none 0 0] 41)).alloc (.cells (ints x.bal).toArray 3)).drew w.heap.size 41 [.int .i64 0, .slice none 0 0, .int .i64 0, .int .i64 0, .int .i64 0, .int .i64 0, .slice none 0 0, .slice none 0 0, .slice none 0 0] := (((Has.newA w _ _).alloc _).alloc _).drew
  have hV : Has (((w.alloc (.cells #[.int .i64 0, .slice none 0 0, .int .i64 0, .int .i64 0, .int .i64 0, .int .i64 0, .slice none 0 0, .slice none 0 0, .slice none 0 0] 41)).alloc (.cells #[.int .i64 x.height, .slice (some ⟨w.heap.size + 1 + 1, 0, none⟩) x.bal.length x.bal.length, .int .i64 x.fees, .int .i64 x.pool, .int .i64 0, .int .i64 0, .slice none 0 0, .slice none 0 0, .slice none 0 0] 41)).alloc (.cells (ints x.bal).toArray 3)).drew (w.heap.size + 1) 41 [.int .i64 x.height, .slice (some ⟨w.heap.size + 1 + 1, 0, none⟩) x.bal.length x.bal.length, .int .i64 x.fees, .int .i64 x.pool, .int .i64 0, .int .i64 0, .slice none 0 0, .slice none 0 0, .slice none 0 0] := by
    have h := (Has.newA (w.alloc (.cells #[.int .i64 0, .slice none 0 0, .int .i64 0, .int .i64 0, .int .i64 0, .int .i64 0, .slice none 0 0, .slice none 0 0, .slice none 0 0] 41)) 41 #[.int .i64 x.height, .slice (some ⟨w.heap.size + 1 + 1, 0, none⟩) x.bal.length x.bal.length, .int .i64 x.fees, .int .i64 x.pool, .int .i64 0, .int .i64 0, .slice none 0 0, .slice none 0 0, .slice none 0 0]).alloc (.cells (ints x.bal).toArray 3)
    rw [World.size_alloc] at h
    exact h.drew
  have hBl : (((w.alloc (.cells #[.int .i64 0, .slice none 0 0, .int .i64 0, .int .i64 0, .int .i64 0, .int .i64 0, .slice none 0 0, .slice none 0 0, .slice none 0 0] 41)).alloc (.cells #[.int .i64 x.height, .slice (some ⟨w.heap.size + 1 + 1, 0, none⟩) x.bal.length x.bal.length, .int .i64 x.fees, .int .i64 x.pool, .int .i64 0, .int .i64 0, .slice none 0 0, .slice none 0 0, .slice none 0 0] 41)).alloc (.cells (ints x.bal).toArray 3)).drew.ownsRow w.heap.size 3 1 (.slice (some ⟨w.heap.size + 1 + 1, 0, none⟩) x.bal.length x.bal.length) x.bal.length (ints x.bal) := by
    have h := ownsRow_new ((w.alloc (.cells #[.int .i64 0, .slice none 0 0, .int .i64 0, .int .i64 0, .int .i64 0, .int .i64 0, .slice none 0 0, .slice none 0 0, .slice none 0 0] 41)).alloc (.cells #[.int .i64 x.height, .slice (some ⟨w.heap.size + 1 + 1, 0, none⟩) x.bal.length x.bal.length, .int .i64 x.fees, .int .i64 x.pool, .int .i64 0, .int .i64 0, .slice none 0 0, .slice none 0 0, .slice none 0 0] 41)) 3 1 x.bal.length (ints x.bal) (by simp [ints]) (by simp [maxLen]; omega)
    simp only [World.size_alloc] at h
    exact ownsRow_base h (by omega)
  have hw : Below w.heap.size w (((w.alloc (.cells #[.int .i64 0, .slice none 0 0, .int .i64 0, .int .i64 0, .int .i64 0, .int .i64 0, .slice none 0 0, .slice none 0 0, .slice none 0 0] 41)).alloc (.cells #[.int .i64 x.height, .slice (some ⟨w.heap.size + 1 + 1, 0, none⟩) x.bal.length x.bal.length, .int .i64 x.fees, .int .i64 x.pool, .int .i64 0, .int .i64 0, .slice none 0 0, .slice none 0 0, .slice none 0 0] 41)).alloc (.cells (ints x.bal).toArray 3)).drew := ((((Below.refl _ _).alloc (Nat.le_refl _) _).alloc (by simp) _).alloc (by simp; omega) _).drew
  generalize (((w.alloc (.cells #[.int .i64 0, .slice none 0 0, .int .i64 0, .int .i64 0, .int .i64 0, .int .i64 0, .slice none 0 0, .slice none 0 0, .slice none 0 0] 41)).alloc (.cells #[.int .i64 x.height, .slice (some ⟨w.heap.size + 1 + 1, 0, none⟩) x.bal.length x.bal.length, .int .i64 x.fees, .int .i64 x.pool, .int .i64 0, .int .i64 0, .slice none 0 0, .slice none 0 0, .slice none 0 0] 41)).alloc (.cells (ints x.bal).toArray 3)).drew = wA at hR hV hBl hw ⊢
  generalize hbvv : Value.slice (some ⟨w.heap.size + 1 + 1, 0, none⟩) x.bal.length x.bal.length = bvn at hV hBl
  have hCw : ∀ {w'}, Below w.heap.size w w' → PE S W0 w' g x (.slice ba x.bal.length bc) (.slice va x.vals.length vc) (.slice ea x.ents.length ec) := fun hb => hC.below hb
  have hvw : ∀ {w'}, Below w.heap.size w w' → Rd w' (.slice va x.vals.length vc) x.vals.length 8 (vrow x.vals) := fun hb => (Rd.of_owns hC.v).below hb (Nat.le_refl _)
  have HCw : Hid (∀ {w'}, Below w.heap.size w w' → PE S W0 w' g x (.slice ba x.bal.length bc) (.slice va x.vals.length vc) (.slice ea x.ents.length ec)) := @hCw
  have Hvw : Hid (∀ {w'}, Below w.heap.size w w' → Rd w' (.slice va x.vals.length vc) x.vals.length 8 (vrow x.vals)) := @hvw
  clear hCw hvw hC c3 c4 c5 c6 hlt1 hlt2
  refine (pbonded_any g x.vals _ _ ((HCw.out hw).L.cell 7) (Hvw.out hw) hB (by omega)).mono ?_
  rintro e w1 ⟨rfl, hb1⟩
  have hR1 := hR.below hb1 hR.lt
  have hV1 := hV.below hb1 hV.lt
  have hBl1 := ownsRow_below hBl hb1 (Nat.le_refl _)
  have hw1 := hw.trans (hb1.mono hw.size)
  clear hR hV hBl hw hb1
  have p4 : w1.cell? ⟨w.heap.size + 1, 4, none⟩ = some (.int .i64 0) := hV1.cell 4
  have f4 := hV1.frozen 4
  have hne : bvn.ownBlock ≠ some (w.heap.size + 1) := by rw [← hbvv]; simp [Value.ownBlock]
  go_wp2_with fail
  have hR2 := hR1.other ⟨w.heap.size + 1, 4, none⟩ (.int .i64 (bondedN x.vals)) (by simp)
  have hV2 := hV1.set 4 (.int .i64 (bondedN x.vals))
  have hBl2 := ownsRow_setCell hBl1 ⟨w.heap.size + 1, 4, none⟩ (.int .i64 (bondedN x.vals)) hne
  have hw2 := hw1.setCell (p := ⟨w.heap.size + 1, 4, none⟩) (by simp) (.int .i64 (bondedN x.vals))
  clear hR1 hV1 hBl1 hw1 p4 f4
  refine (kloose g x.vals _ _ ((HCw.out hw2).L.cell 7) (.slice ea x.ents.length ec) x.ents ((HCw.out hw2).evAt) (Rd.of_owns (HCw.out hw2).e) hBe l3 (Hvw.out hw2) hB (by omega)).mono ?_
  rintro e w3 ⟨rfl, hb3⟩
  have hR3 := hR2.below hb3 hR2.lt
  have hV3 := hV2.below hb3 hV2.lt
  have hBl3 := ownsRow_below hBl2 hb3 (Nat.le_refl _)
  have hw3 := hw2.trans (hb3.mono hw2.size)
  clear hR2 hV2 hBl2 hw2 hb3
  have p5 : w3.cell? ⟨w.heap.size + 1, 5, none⟩ = some (.int .i64 0) := hV3.cell 5
  have f5 := hV3.frozen 5
  have q7 : w3.cell? ⟨g, 7, none⟩ = some (.slice va x.vals.length vc) := (HCw.out hw3).L.cell 7
  have hg1 : g ≠ w.heap.size + 1 := by omega
  have hg2 : w.heap.size + 1 ≠ g := by omega
  go_wp2_with fail
  have hR4 := hR3.other ⟨w.heap.size + 1, 5, none⟩ (.int .i64 (looseV x.vals + sumE x.ents)) (by simp)
  have hV4 := hV3.set 5 (.int .i64 (looseV x.vals + sumE x.ents))
  have hBl4 := ownsRow_setCell hBl3 ⟨w.heap.size + 1, 5, none⟩ (.int .i64 (looseV x.vals + sumE x.ents)) hne
  have hw4 := hw3.setCell (p := ⟨w.heap.size + 1, 5, none⟩) (by simp) (.int .i64 (looseV x.vals + sumE x.ents))
  clear hR3 hV3 hBl3 hw3 p5 f5 q7
  refine (copyValidators_any _ x.vals.length (vrow x.vals) _ (Hvw.out hw4) (by omega) (vrow_one _)).mono ?_
  rintro e w5 ⟨rfl, rfl⟩
  have hsz := hV4.lt
  have hR5 := hR4.alloc (.cells (vrow x.vals).toArray 76)
  have hV5 := hV4.alloc (.cells (vrow x.vals).toArray 76)
  have hBl5 := hBl4.alloc (.cells (vrow x.vals).toArray 76)
  have hw5 := hw4.alloc hw4.size (.cells (vrow x.vals).toArray 76)
  have hvr5 := ownsRow_base (ownsRow_new _ 76 8 x.vals.length (vrow x.vals) (vrow_length _) (by simp [maxLen]; omega)) hw4.size
  obtain ⟨vvn, hvvn⟩ : ∃ z, z = Value.slice (some ⟨((w3.setCell ⟨w.heap.size + 1, 5, none⟩ (.int .i64 (looseV x.vals + sumE x.ents)))).heap.size, 0, none⟩) x.vals.length x.vals.length := ⟨_, rfl⟩
  have hne5 : vvn.ownBlock ≠ some (w.heap.size + 1) := by rw [hvvn]; simp [Value.ownBlock]; simp at hsz; omega
  rw [← hvvn] at hvr5 ⊢
  generalize ((w3.setCell ⟨w.heap.size + 1, 5, none⟩ (.int .i64 (looseV x.vals + sumE x.ents))).alloc (.cells (vrow x.vals).toArray 76)) = w5 at hR5 hV5 hBl5 hw5 hvr5 ⊢
  clear hR4 hV4 hBl4 hw4 hsz
  have p6 : w5.cell? ⟨w.heap.size + 1, 6, none⟩ = some (.slice none 0 0) := hV5.cell 6
  have f6 := hV5.frozen 6
  obtain ⟨vva, vvc, hvs⟩ := ownsRow_slice hvr5
  clear hvvn
  subst hvs
  go_wp2_with fail
  have hR6 := hR5.other ⟨w.heap.size + 1, 6, none⟩ (.slice vva x.vals.length vvc) (by simp)
  have hV6 := hV5.set 6 (.slice vva x.vals.length vvc)
  have hBl6 := ownsRow_setCell hBl5 ⟨w.heap.size + 1, 6, none⟩ (.slice vva x.vals.length vvc) hne
  have hvr6 := ownsRow_setCell hvr5 ⟨w.heap.size + 1, 6, none⟩ (.slice vva x.vals.length vvc) hne5
  have hw6 := hw5.setCell (p := ⟨w.heap.size + 1, 6, none⟩) (by simp) (.slice vva x.vals.length vvc)
  clear hR5 hV5 hBl5 hvr5 hw5 p6 f6
  refine (kdels g x.bal.length x.vals.length ba va bc vc x.tab _ ((HCw.out hw6).L.cell 4) ((HCw.out hw6).L.cell 7) (fun j hj => ((HCw.out hw6).L.cell (8 + j)).trans (eL_tab _ _ _ _ j (by rw [(HCw.out hw6).ht]; omega))) l1 l2).mono ?_
  rintro e w7 ⟨⟨da, dn, dc, rfl⟩, hb7⟩
  have hR7 := hR6.below hb7 hR6.lt
  have hV7 := hV6.below hb7 hV6.lt
  have hBl7 := ownsRow_below hBl6 hb7 (Nat.le_refl _)
  have hvr7 := ownsRow_below hvr6 hb7 (Nat.le_refl _)
  have hw7 := hw6.trans (hb7.mono hw6.size)
  clear hR6 hV6 hBl6 hvr6 hw6 hb7
  have p7 : w7.cell? ⟨w.heap.size + 1, 7, none⟩ = some (.slice none 0 0) := hV7.cell 7
  have f7 := hV7.frozen 7
  have q38 : w7.cell? ⟨g, 73, none⟩ = some (.slice ea x.ents.length ec) := (HCw.out hw7).evAt
  go_wp2_with fail
  have hR8 := hR7.other ⟨w.heap.size + 1, 7, none⟩ (.slice da dn dc) (by simp)
  have hV8 := hV7.set 7 (.slice da dn dc)
  have hBl8 := ownsRow_setCell hBl7 ⟨w.heap.size + 1, 7, none⟩ (.slice da dn dc) hne
  have hvr8 := ownsRow_setCell hvr7 ⟨w.heap.size + 1, 7, none⟩ (.slice da dn dc) hne5
  have hw8 := hw7.setCell (p := ⟨w.heap.size + 1, 7, none⟩) (by simp) (.slice da dn dc)
  clear hR7 hV7 hBl7 hvr7 hw7 p7 f7 q38
  refine (copyEntries_any _ x.ents.length (erow x.ents) _ (Rd.of_owns (HCw.out hw8).e) (by omega) (erow_one _)).mono ?_
  rintro e w9 ⟨rfl, rfl⟩
  have hsz := hV8.lt
  have hR9 := hR8.alloc (.cells (erow x.ents).toArray 80)
  have hV9 := hV8.alloc (.cells (erow x.ents).toArray 80)
  have hBl9 := hBl8.alloc (.cells (erow x.ents).toArray 80)
  have hvr9 := hvr8.alloc (.cells (erow x.ents).toArray 80)
  have hw9 := hw8.alloc hw8.size (.cells (erow x.ents).toArray 80)
  have her9 := ownsRow_base (ownsRow_new _ 80 4 x.ents.length (erow x.ents) (erow_length _) (by simp [maxLen]; omega)) hw8.size
  obtain ⟨een, heen⟩ : ∃ z, z = Value.slice (some ⟨((w7.setCell ⟨w.heap.size + 1, 7, none⟩ (.slice da dn dc))).heap.size, 0, none⟩) x.ents.length x.ents.length := ⟨_, rfl⟩
  have hne9 : een.ownBlock ≠ some (w.heap.size + 1) := by rw [heen]; simp [Value.ownBlock]; simp at hsz; omega
  have hne0 : een.ownBlock ≠ some w.heap.size := by rw [heen]; simp [Value.ownBlock]; simp at hsz; omega
  rw [← heen] at her9 ⊢
  generalize ((w7.setCell ⟨w.heap.size + 1, 7, none⟩ (.slice da dn dc)).alloc (.cells (erow x.ents).toArray 80)) = w9 at hR9 hV9 hBl9 hvr9 hw9 her9 ⊢
  clear hR8 hV8 hBl8 hvr8 hw8 hsz
  have p8 : w9.cell? ⟨w.heap.size + 1, 8, none⟩ = some (.slice none 0 0) := hV9.cell 8
  have f8 := hV9.frozen 8
  obtain ⟨eea, eec, hes⟩ := ownsRow_slice her9
  obtain ⟨bba, bbc, hbs⟩ := ownsRow_slice hBl9
  clear heen hbvv
  subst hes hbs
  have p0 : w9.cell? ⟨w.heap.size + 1, 0, none⟩ = some (.int .i64 x.height) := hV9.cell 0
  have p1 : w9.cell? ⟨w.heap.size + 1, 1, none⟩ = some (.slice bba x.bal.length bbc) := hV9.cell 1
  have p2 : w9.cell? ⟨w.heap.size + 1, 2, none⟩ = some (.int .i64 x.fees) := hV9.cell 2
  have p3 : w9.cell? ⟨w.heap.size + 1, 3, none⟩ = some (.int .i64 x.pool) := hV9.cell 3
  have p4 : w9.cell? ⟨w.heap.size + 1, 4, none⟩ = some (.int .i64 (bondedN x.vals)) := hV9.cell 4
  have p5 : w9.cell? ⟨w.heap.size + 1, 5, none⟩ = some (.int .i64 (looseV x.vals + sumE x.ents)) := hV9.cell 5
  have p6 : w9.cell? ⟨w.heap.size + 1, 6, none⟩ = some (.slice vva x.vals.length vvc) := hV9.cell 6
  have p7 : w9.cell? ⟨w.heap.size + 1, 7, none⟩ = some (.slice da dn dc) := hV9.cell 7
  have r0 : w9.cell? ⟨w.heap.size, 0, none⟩ = some (.int .i64 0) := hR9.cell 0
  have r1 : w9.cell? ⟨w.heap.size, 1, none⟩ = some (.slice none 0 0) := hR9.cell 1
  have r2 : w9.cell? ⟨w.heap.size, 2, none⟩ = some (.int .i64 0) := hR9.cell 2
  have r3 : w9.cell? ⟨w.heap.size, 3, none⟩ = some (.int .i64 0) := hR9.cell 3
  have r4 : w9.cell? ⟨w.heap.size, 4, none⟩ = some (.int .i64 0) := hR9.cell 4
  have r5 : w9.cell? ⟨w.heap.size, 5, none⟩ = some (.int .i64 0) := hR9.cell 5
  have r6 : w9.cell? ⟨w.heap.size, 6, none⟩ = some (.slice none 0 0) := hR9.cell 6
  have r7 : w9.cell? ⟨w.heap.size, 7, none⟩ = some (.slice none 0 0) := hR9.cell 7
  have r8 : w9.cell? ⟨w.heap.size, 8, none⟩ = some (.slice none 0 0) := hR9.cell 8
  have k0 := hR9.frozen 0
  have k1 := hR9.frozen 1
  have k2 := hR9.frozen 2
  have k3 := hR9.frozen 3
  have k4 := hR9.frozen 4
  have k5 := hR9.frozen 5
  have k6 := hR9.frozen 6
  have k7 := hR9.frozen 7
  have k8 := hR9.frozen 8
  go_wp2
  have neB : (Value.slice bba x.bal.length bbc).ownBlock ≠ some w.heap.size := fun h => Has.apart hR9 hBl9 (by decide) h.symm
  have neV : (Value.slice vva x.vals.length vvc).ownBlock ≠ some w.heap.size := fun h => Has.apart hR9 hvr9 (by decide) h.symm
  have zR : Has ((((((((((w9.setCell ⟨w.heap.size + 1, 8, none⟩ (.slice eea x.ents.length eec)).setCell ⟨w.heap.size, 0, none⟩ (.int .i64 x.height)).setCell ⟨w.heap.size, 1, none⟩ (.slice bba x.bal.length bbc)).setCell ⟨w.heap.size, 2, none⟩ (.int .i64 x.fees)).setCell ⟨w.heap.size, 3, none⟩ (.int .i64 x.pool)).setCell ⟨w.heap.size, 4, none⟩ (.int .i64 (bondedN x.vals))).setCell ⟨w.heap.size, 5, none⟩ (.int .i64 (looseV x.vals + sumE x.ents))).setCell ⟨w.heap.size, 6, none⟩ (.slice vva x.vals.length vvc)).setCell ⟨w.heap.size, 7, none⟩ (.slice da dn dc)).setCell ⟨w.heap.size, 8, none⟩ (.slice eea x.ents.length eec)) w.heap.size 41 [.int .i64 x.height, .slice bba x.bal.length bbc, .int .i64 x.fees, .int .i64 x.pool, .int .i64 (bondedN x.vals), .int .i64 (looseV x.vals + sumE x.ents), .slice vva x.vals.length vvc, .slice da dn dc, .slice eea x.ents.length eec] := ((((((((((hR9.other ⟨w.heap.size + 1, 8, none⟩ (.slice eea x.ents.length eec) (by simp)).set 0 (.int .i64 x.height)).set 1 (.slice bba x.bal.length bbc)).set 2 (.int .i64 x.fees)).set 3 (.int .i64 x.pool)).set 4 (.int .i64 (bondedN x.vals))).set 5 (.int .i64 (looseV x.vals + sumE x.ents))).set 6 (.slice vva x.vals.length vvc)).set 7 (.slice da dn dc)).set 8 (.slice eea x.ents.length eec))
  have zb := (ownsRow_setCell (ownsRow_setCell (ownsRow_setCell (ownsRow_setCell (ownsRow_setCell (ownsRow_setCell (ownsRow_setCell (ownsRow_setCell (ownsRow_setCell (ownsRow_setCell hBl9 ⟨w.heap.size + 1, 8, none⟩ (.slice eea x.ents.length eec) hne) ⟨w.heap.size, 0, none⟩ (.int .i64 x.height) neB) ⟨w.heap.size, 1, none⟩ (.slice bba x.bal.length bbc) neB) ⟨w.heap.size, 2, none⟩ (.int .i64 x.fees) neB) ⟨w.heap.size, 3, none⟩ (.int .i64 x.pool) neB) ⟨w.heap.size, 4, none⟩ (.int .i64 (bondedN x.vals)) neB) ⟨w.heap.size, 5, none⟩ (.int .i64 (looseV x.vals + sumE x.ents)) neB) ⟨w.heap.size, 6, none⟩ (.slice vva x.vals.length vvc) neB) ⟨w.heap.size, 7, none⟩ (.slice da dn dc) neB) ⟨w.heap.size, 8, none⟩ (.slice eea x.ents.length eec) neB)
  have zv := (ownsRow_setCell (ownsRow_setCell (ownsRow_setCell (ownsRow_setCell (ownsRow_setCell (ownsRow_setCell (ownsRow_setCell (ownsRow_setCell (ownsRow_setCell (ownsRow_setCell hvr9 ⟨w.heap.size + 1, 8, none⟩ (.slice eea x.ents.length eec) hne5) ⟨w.heap.size, 0, none⟩ (.int .i64 x.height) neV) ⟨w.heap.size, 1, none⟩ (.slice bba x.bal.length bbc) neV) ⟨w.heap.size, 2, none⟩ (.int .i64 x.fees) neV) ⟨w.heap.size, 3, none⟩ (.int .i64 x.pool) neV) ⟨w.heap.size, 4, none⟩ (.int .i64 (bondedN x.vals)) neV) ⟨w.heap.size, 5, none⟩ (.int .i64 (looseV x.vals + sumE x.ents)) neV) ⟨w.heap.size, 6, none⟩ (.slice vva x.vals.length vvc) neV) ⟨w.heap.size, 7, none⟩ (.slice da dn dc) neV) ⟨w.heap.size, 8, none⟩ (.slice eea x.ents.length eec) neV)
  have ze := (ownsRow_setCell (ownsRow_setCell (ownsRow_setCell (ownsRow_setCell (ownsRow_setCell (ownsRow_setCell (ownsRow_setCell (ownsRow_setCell (ownsRow_setCell (ownsRow_setCell her9 ⟨w.heap.size + 1, 8, none⟩ (.slice eea x.ents.length eec) hne9) ⟨w.heap.size, 0, none⟩ (.int .i64 x.height) hne0) ⟨w.heap.size, 1, none⟩ (.slice bba x.bal.length bbc) hne0) ⟨w.heap.size, 2, none⟩ (.int .i64 x.fees) hne0) ⟨w.heap.size, 3, none⟩ (.int .i64 x.pool) hne0) ⟨w.heap.size, 4, none⟩ (.int .i64 (bondedN x.vals)) hne0) ⟨w.heap.size, 5, none⟩ (.int .i64 (looseV x.vals + sumE x.ents)) hne0) ⟨w.heap.size, 6, none⟩ (.slice vva x.vals.length vvc) hne0) ⟨w.heap.size, 7, none⟩ (.slice da dn dc) hne0) ⟨w.heap.size, 8, none⟩ (.slice eea x.ents.length eec) hne0)
  have zw := ((((((((((hw9.setCell (p := ⟨w.heap.size + 1, 8, none⟩) (by simp) (.slice eea x.ents.length eec)).setCell (p := ⟨w.heap.size, 0, none⟩) (Nat.le_refl _) (.int .i64 x.height)).setCell (p := ⟨w.heap.size, 1, none⟩) (Nat.le_refl _) (.slice bba x.bal.length bbc)).setCell (p := ⟨w.heap.size, 2, none⟩) (Nat.le_refl _) (.int .i64 x.fees)).setCell (p := ⟨w.heap.size, 3, none⟩) (Nat.le_refl _) (.int .i64 x.pool)).setCell (p := ⟨w.heap.size, 4, none⟩) (Nat.le_refl _) (.int .i64 (bondedN x.vals))).setCell (p := ⟨w.heap.size, 5, none⟩) (Nat.le_refl _) (.int .i64 (looseV x.vals + sumE x.ents))).setCell (p := ⟨w.heap.size, 6, none⟩) (Nat.le_refl _) (.slice vva x.vals.length vvc)).setCell (p := ⟨w.heap.size, 7, none⟩) (Nat.le_refl _) (.slice da dn dc)).setCell (p := ⟨w.heap.size, 8, none⟩) (Nat.le_refl _) (.slice eea x.ents.length eec))
  generalize ((((((((((w9.setCell ⟨w.heap.size + 1, 8, none⟩ (.slice eea x.ents.length eec)).setCell ⟨w.heap.size, 0, none⟩ (.int .i64 x.height)).setCell ⟨w.heap.size, 1, none⟩ (.slice bba x.bal.length bbc)).setCell ⟨w.heap.size, 2, none⟩ (.int .i64 x.fees)).setCell ⟨w.heap.size, 3, none⟩ (.int .i64 x.pool)).setCell ⟨w.heap.size, 4, none⟩ (.int .i64 (bondedN x.vals))).setCell ⟨w.heap.size, 5, none⟩ (.int .i64 (looseV x.vals + sumE x.ents))).setCell ⟨w.heap.size, 6, none⟩ (.slice vva x.vals.length vvc)).setCell ⟨w.heap.size, 7, none⟩ (.slice da dn dc)).setCell ⟨w.heap.size, 8, none⟩ (.slice eea x.ents.length eec)) = wF at zR zb zv ze zw ⊢
  have z0 : wF.cell? ⟨w.heap.size, 0, none⟩ = some (.int .i64 x.height) := zR.cell 0
  have z1 : wF.cell? ⟨w.heap.size, 1, none⟩ = some (.slice bba x.bal.length bbc) := zR.cell 1
  have z2 : wF.cell? ⟨w.heap.size, 2, none⟩ = some (.int .i64 x.fees) := zR.cell 2
  have z3 : wF.cell? ⟨w.heap.size, 3, none⟩ = some (.int .i64 x.pool) := zR.cell 3
  have z4 : wF.cell? ⟨w.heap.size, 4, none⟩ = some (.int .i64 (bondedN x.vals)) := zR.cell 4
  have z5 : wF.cell? ⟨w.heap.size, 5, none⟩ = some (.int .i64 (looseV x.vals + sumE x.ents)) := zR.cell 5
  have z6 : wF.cell? ⟨w.heap.size, 6, none⟩ = some (.slice vva x.vals.length vvc) := zR.cell 6
  have z7 : wF.cell? ⟨w.heap.size, 7, none⟩ = some (.slice da dn dc) := zR.cell 7
  have z8 : wF.cell? ⟨w.heap.size, 8, none⟩ = some (.slice eea x.ents.length eec) := zR.cell 8
  refine bodyPost_ret (v := .agg #[.int .i64 x.height, .slice bba x.bal.length bbc, .int .i64 x.fees, .int .i64 x.pool, .int .i64 (bondedN x.vals), .int .i64 (looseV x.vals + sumE x.ents), .slice vva x.vals.length vvc, .slice da dn dc, .slice eea x.ents.length eec]) (by simp [results, Tryz.results11, go_sem, z0, z1, z2, z3, z4, z5, z6, z7, z8]) rfl ?_
  exact ⟨_, _, _, _, rfl, zb, zv, ze, ⟨_, _, _, rfl⟩, zw⟩
end Go.Proofs.YtohjjgefklhmaabGreatDoor
