import Derived.Test.YtohjjgefklhmaabCutS2M
import Derived.Below
namespace Go.Proofs.Ytohjjgefklhmaab
open Go.ChangeShapes Go.WideShapes Go.ChangeAt Go.RowKit
set_option linter.unusedVariables false

set_option maxHeartbeats 4000000 in
set_option maxRecDepth 100000 in
theorem cut_walk (a b : Int) (late : Bool) (w : World) (ha1 : -9223372036854775808 ≤ a) (ha2 : a ≤ 9223372036854775807) (hp1 : -9223372036854775808 ≤ b) (hp2 : b ≤ 9223372036854775807) :
    Calls Try.prog 5 #[.int .i64 a, .int .i64 b, .bool late] w fun e w' => e = .returned (.bool true) ∧ Below w.heap.size w w' := by
  obtain ⟨r1, r2⟩ := pickN_range a 100000 (by omega)
  obtain ⟨r3, r4⟩ := pickN_range b 100 (by omega)
  have HT : Hid (∀ u, Calls Try.prog 6 #[.int .i64 5] u fun e w' => ∃ g bv vv, e = .returned (.pointer (some ⟨g, 0, none⟩)) ∧ PE (fun k => u.heap.size ≤ k) u w' g (x0 5) bv vv (.slice none 0 0)) := two_any 5 (by omega) (by omega)
  have HPa : Hid (∀ u, Calls Try.prog 7 #[.int .i64 a, .int .i64 100000] u fun e w' => e = .returned (.int .i64 (pickN a 100000)) ∧ u = w') := fun u => pick_any a 100000 u ha1 ha2 (by omega) (by omega)
  have HPb : Hid (∀ u, Calls Try.prog 7 #[.int .i64 b, .int .i64 100] u fun e w' => e = .returned (.int .i64 (pickN b 100)) ∧ u = w') := fun u => pick_any b 100 u hp1 hp2 (by omega) (by omega)
  generalize pickN a 100000 = pa at *
  generalize pickN b 100 = pb at *
  clear ha1 ha2 hp1 hp2
  go_enter Try.func5, Try.ntmps5
  go_wp2_with fail
  refine (HT.out _).mono ?_
  rintro e w1 ⟨g, bv, vv, rfl, hP1⟩
  have H1 : Hid (CS (fun k => w.heap.size ≤ k) w w1 g bv vv (fun x => QC x 0 0 0 [200000, 200000, 200000, 200000] ⟨1, 0, 0, 0, 0, 0, false, false⟩ [] 0)) := ⟨x0 5, ⟨_, hP1⟩, x0_fine 5 (by omega) (by omega), x0_qc⟩
  clear hP1 HT
  go_wp2_with fail
  refine (HPa.out _).mono ?_
  rintro e w' ⟨rfl, rfl⟩
  clear HPa
  go_wp2_with fail
  refine (HPb.out _).mono ?_
  rintro e w' ⟨rfl, rfl⟩
  clear HPb
  go_wp2_with fail
  obtain ⟨m, hm⟩ : ∃ m, m = 10 + pa := ⟨_, rfl⟩
  obtain ⟨p, hp⟩ : ∃ p, p = 1 + pb := ⟨_, rfl⟩
  have m1 : 10 ≤ m := by omega
  have m2 : m ≤ 100009 := by omega
  have p1 : 1 ≤ p := by omega
  have p2 : p ≤ 100 := by omega
  rw [← hm, ← hp]
  clear hm hp r1 r2 r3 r4
  refine (cBond H1.out rfl m (by omega) (by omega) (by show m + 90 ≤ 200000; omega)).mono ?_
  rintro e w2 ⟨rfl, hc⟩
  have H2 : Hid (CS (fun k => w.heap.size ≤ k) w w2 g bv vv (fun x => QC x 0 90 0 [200000, 200000, 199910 - m, 200000] ⟨1, 0, m, m, 0, 0, false, false⟩ [] m)) := hc
  clear hc H1
  go_wp2_with fail
  refine (cUnb H2.out rfl 3 (by omega) (by omega) (by show 90 ≤ 199910 - m; omega) (by decide) (by decide)).mono ?_
  rintro e w3 ⟨rfl, hc⟩
  have H3 : Hid (CS (fun k => w.heap.size ≤ k) w w3 g bv vv (fun x => QC x 0 180 0 [200000, 200000, 199910 - m - 90, 200000] ⟨1, 0, m - 3, m - 3, 0, 0, false, false⟩ [⟨2, 1, 0, 3⟩] (m - 3))) := hc
  clear hc H2
  go_wp2_with fail
  refine (cBlock H3.out (by omega) (by omega) (by intro e he; simp only [List.mem_singleton] at he; subst he; decide) (by decide)).mono ?_
  rintro e w4 ⟨rfl, hc⟩
  have H4 : Hid (CS (fun k => w.heap.size ≤ k) w w4 g bv vv (fun x => QC x 1 0 180 [200000, 200000, 199910 - m - 90, 200000] ⟨1, 0, m - 3, m - 3, 0, 0, false, true⟩ [⟨2, 1, 0, 3⟩] (m - 3))) := by
    have e : (!false && decide (0 < m - 3)) = true := by simp; omega
    rw [e] at hc
    exact hc
  clear hc H3
  go_wp2_with fail
  refine (cUnb H4.out rfl 4 (by omega) (by omega) (by show 90 ≤ 199910 - m - 90; omega) (by decide) (by decide)).mono ?_
  rintro e w5 ⟨rfl, hc⟩
  have H5 : Hid (CS (fun k => w.heap.size ≤ k) w w5 g bv vv (fun x => QC x 1 90 180 [200000, 200000, 199910 - m - 90 - 90, 200000] ⟨1, 0, m - 7, m - 7, 0, 0, false, true⟩ [⟨2, 1, 0, 3⟩, ⟨2, 1, 1, 4⟩] (m - 7))) := by
    have e : m - 3 - 4 = m - 7 := by omega
    rw [e] at hc
    exact hc
  clear hc H4
  go_wp2_with fail
  refine (cSee H5.out (fun x q => by rw [q.en]; decide)).mono ?_
  rintro e w6 ⟨x5, q5, sb, sv, sd, se, rfl, hsb, hsv, hse, ⟨da, dn, dc, rfl⟩, hb6⟩
  obtain ⟨b0, bc, rfl⟩ := ownsRow_slice hsb
  obtain ⟨va, vc, rfl⟩ := ownsRow_slice hsv
  obtain ⟨e0', ec, rfl⟩ := ownsRow_slice hse
  have H6 : Hid (CS (fun k => w.heap.size ≤ k) w w6 g bv vv (fun x => QC x 1 90 180 [200000, 200000, 199910 - m - 90 - 90, 200000] ⟨1, 0, m - 7, m - 7, 0, 0, false, true⟩ [⟨2, 1, 0, 3⟩, ⟨2, 1, 1, 4⟩] (m - 7))) := H5.out.below hb6
  have hpool : x5.pool = 180 := q5.pp
  rw [hpool]
  have hfd : ∀ u : World, (Instr.field 37 (.agg #[.int .i64 x5.height, .slice b0 x5.bal.length bc, .int .i64 x5.fees, .int .i64 180, .int .i64 (bondedN x5.vals), .int .i64 (looseV x5.vals + sumE x5.ents), .slice va x5.vals.length vc, .slice da dn dc, .slice e0' x5.ents.length ec]) 3).run Try.prog u = .ok (.int .i64 180) u := fun _ => by kernel_rfl
  clear hsb hsv hse hb6 q5 hpool H5
  have M0 : 0 ≤ (m - 7) * p := Int.mul_nonneg (by omega) (by omega)
  have M1 : (m - 7) * p ≤ (m - 7) * 100 := Int.mul_le_mul_of_nonneg_left p2 (by omega)
  have M2 : (m - 7) * p ≤ 10000200 := by omega
  have M3 : 0 ≤ m - 7 - (m - 7) * p / 100 := by omega
  cases late
  · go_wp2_with fail
    refine (cSlash H6.out (hgt := 0) (by omega) (by omega) p1 p2).mono ?_
    rintro e w7 ⟨rfl, hc⟩
    have H7 : Hid (CS (fun k => w.heap.size ≤ k) w w7 g bv vv (fun x => QC x 1 90 (180 + (m - 7) * p / 100 + 3 - (3 - 3 * p / 100) + 4 * p / 100) [200000, 200000, 199910 - m - 90 - 90, 200000] ⟨1, 0, m - 7 - (m - 7) * p / 100, m - 7, 0, 0, true, false⟩ [⟨2, 1, 0, 3 - 3 * p / 100⟩, ⟨2, 1, 1, 4 - 4 * p / 100⟩] (m - 7))) := by
      rw [if_pos (by decide), if_pos (by decide)] at hc
      unfold lostF at hc
      rw [show 180 + (m - 7) * p / 100 + 3 * p / 100 + 4 * p / 100 = 180 + (m - 7) * p / 100 + 3 - (3 - 3 * p / 100) + 4 * p / 100 by omega] at hc
      exact hc
    clear hc H6
    go_wp2_with fail
    refine (cSee H7.out (fun x q => by rw [q.en]; simp)).mono ?_
    rintro e w8 ⟨x7, q7, sb, sv, sd, se, rfl, hsb, hsv, hse, ⟨da', dn', dc', rfl⟩, hb8⟩
    rw [q7.vs] at hsv
    rw [q7.en] at hse
    obtain ⟨b1, bc1, rfl⟩ := ownsRow_slice hsb
    obtain ⟨va1, vc1, rfl⟩ := ownsRow_slice hsv
    obtain ⟨ea1, ec1, rfl⟩ := ownsRow_slice hse
    obtain ⟨gv, rfl, _⟩ := ownsRow_some hsv (by simp)
    obtain ⟨ge, rfl, _⟩ := ownsRow_some hse (by simp)
    have H8 : Hid (∀ o, CS (fun k => w.heap.size ≤ k) w (w8.alloc o) g bv vv (fun x => QC x 1 90 (180 + (m - 7) * p / 100 + 3 - (3 - 3 * p / 100) + 4 * p / 100) [200000, 200000, 199910 - m - 90 - 90, 200000] ⟨1, 0, m - 7 - (m - 7) * p / 100, m - 7, 0, 0, true, false⟩ [⟨2, 1, 0, 3 - 3 * p / 100⟩, ⟨2, 1, 1, 4 - 4 * p / 100⟩] (m - 7))) := fun o => (H7.out.below hb8).below ((Below.refl _ _).alloc (Nat.le_refl _) o)
    rw [q7.pp]
    have y2 : w8.cell? ⟨gv, 10, none⟩ = some (.int .i64 (m - 7 - (m - 7) * p / 100)) := hsv.cellAt 10 (by simp)
    have y3 : w8.cell? ⟨gv, 11, none⟩ = some (.int .i64 (m - 7)) := hsv.cellAt 11 (by simp)
    have y6 : w8.cell? ⟨gv, 14, none⟩ = some (.bool true) := hsv.cellAt 14 (by simp)
    have y7 : w8.cell? ⟨gv, 15, none⟩ = some (.bool false) := hsv.cellAt 15 (by simp)
    have z0 : w8.cell? ⟨ge, 3, none⟩ = some (.int .i64 (3 - 3 * p / 100)) := hse.cellAt 3 (by simp)
    have z1 : w8.cell? ⟨ge, 7, none⟩ = some (.int .i64 (4 - 4 * p / 100)) := hse.cellAt 7 (by simp)
    have lgv : gv < w8.heap.size := World.block_lt_of_cell? w8 _ y2
    have lge : ge < w8.heap.size := World.block_lt_of_cell? w8 _ z0
    clear hsb hsv hse hb8 q7 H7
    go_wp2_with fail
    refine (cBlock (H8.out _) M3 (by omega) (by intro e he; simp only [List.mem_cons, List.not_mem_nil, or_false] at he; rcases he with rfl | rfl <;> simp) (by simp)).mono ?_
    rintro e w9 ⟨rfl, hc⟩
    have H9 : Hid (CS (fun k => w.heap.size ≤ k) w w9 g bv vv (fun x => QC x 2 0 (180 + (m - 7) * p / 100 + 3 - (3 - 3 * p / 100) + 4 * p / 100 + 90) [200000, 200000, 199910 - m - 90 - 90, 200000] ⟨1, 0, m - 7 - (m - 7) * p / 100, m - 7, 0, 0, true, false⟩ [⟨2, 1, 0, 3 - 3 * p / 100⟩, ⟨2, 1, 1, 4 - 4 * p / 100⟩] (m - 7))) := hc
    clear hc H8 y2 y3 y6 y7 z0 z1 lgv lge
    go_wp2_with fail
    refine (cSee H9.out (fun x q => by rw [q.en]; simp)).mono ?_
    rintro e w10 ⟨x9, q9, sb, sv, sd, se, rfl, hsb, hsv, hse, ⟨d0, d1, d2, rfl⟩, hb10⟩
    rw [q9.vs] at hsv
    obtain ⟨b2, bc2, rfl⟩ := ownsRow_slice hsb
    obtain ⟨va2, vc2, rfl⟩ := ownsRow_slice hsv
    obtain ⟨ea2, ec2, rfl⟩ := ownsRow_slice hse
    obtain ⟨gv2, rfl, _⟩ := ownsRow_some hsv (by simp)
    have H10 : Hid (CS (fun k => w.heap.size ≤ k) w w10 g bv vv (fun x => QC x 2 0 (180 + (m - 7) * p / 100 + 3 - (3 - 3 * p / 100) + 4 * p / 100 + 90) [200000, 200000, 199910 - m - 90 - 90, 200000] ⟨1, 0, m - 7 - (m - 7) * p / 100, m - 7, 0, 0, true, false⟩ [⟨2, 1, 0, 3 - 3 * p / 100⟩, ⟨2, 1, 1, 4 - 4 * p / 100⟩] (m - 7))) := H9.out.below hb10
    have y0 : w10.cell? ⟨gv2, 8, none⟩ = some (.int .i64 1) := hsv.cellAt 8 (by simp)
    have y7 : w10.cell? ⟨gv2, 15, none⟩ = some (.bool false) := hsv.cellAt 15 (by simp)
    generalize bondedN x9.vals = n1
    generalize looseV x9.vals + sumE x9.ents = n2
    have hfd2 : ∀ u : World, (Instr.field 37 (.agg #[.int .i64 x9.height, .slice b2 x9.bal.length bc2, .int .i64 x9.fees, .int .i64 x9.pool, .int .i64 n1, .int .i64 n2, .slice (some ⟨gv2, 0, none⟩) 2 vc2, .slice d0 d1 d2, .slice ea2 x9.ents.length ec2]) 6).run Try.prog u = .ok (.slice (some ⟨gv2, 0, none⟩) 2 vc2) u := fun _ => by kernel_rfl
    clear hsb hsv hse hb10 q9 H9
    go_wp2_with fail
    refine (cFree2 H10.out rfl (by show 90 ≤ 199910 - m - 90 - 90; omega)).mono ?_
    rintro e w11 ⟨rfl, hc⟩
    have H11 : Hid (CS (fun k => w.heap.size ≤ k) w w11 g bv vv (fun x => QC x 2 90 (180 + (m - 7) * p / 100 + 3 - (3 - 3 * p / 100) + 4 * p / 100 + 90) [200000, 200000, 199910 - m - 90 - 90 - 90, 200000] ⟨1, 0, m - 7 - (m - 7) * p / 100, m - 7, 0, 0, true, false⟩ [⟨2, 1, 0, 3 - 3 * p / 100⟩, ⟨2, 1, 1, 4 - 4 * p / 100⟩] (m - 7))) := hc
    clear hc H10 y0 y7
    go_wp2_with fail
    refine (cFree1 H11.out rfl (by show (90 : Int) ≤ 200000; omega)).mono ?_
    rintro e w12 ⟨rfl, hc⟩
    have H12 : Hid (CS (fun k => w.heap.size ≤ k) w w12 g bv vv (fun x => QC x 2 180 (180 + (m - 7) * p / 100 + 3 - (3 - 3 * p / 100) + 4 * p / 100 + 90) [200000, 199910, 199910 - m - 90 - 90 - 90, 200000] ⟨1, 0, m - 7 - (m - 7) * p / 100, m - 7, 0, 0, false, false⟩ [⟨2, 1, 0, 3 - 3 * p / 100⟩, ⟨2, 1, 1, 4 - 4 * p / 100⟩] (m - 7))) := hc
    clear hc H11
    go_wp2_with fail
    refine (cBlock2 H12.out M3 (by omega) (by simp) rfl).mono ?_
    rintro e w13 ⟨rfl, hc⟩
    obtain ⟨T, hT⟩ : ∃ T, T = m - 7 - (m - 7) * p / 100 := ⟨_, rfl⟩
    rw [← hT] at hc
    have H13 : Hid (CS (fun k => w.heap.size ≤ k) w w13 g bv vv (fun x => x.vals = [⟨0, 5, 0, 0, 0, 0, false, false⟩, ⟨1, 0, T, m - 7, 0, 0, false, decide (0 < T)⟩] ∧ x.ents.length ≤ 101)) := hc
    clear hc H12 hT M3 M0 M1 M2
    go_wp2_with fail
    refine (cSee H13.out (fun x q => by have := q.2; omega)).mono ?_
    rintro e w14 ⟨x13, q13, sb, sv, sd, se, rfl, hsb, hsv, hse, ⟨d3, d4, d5, rfl⟩, hb14⟩
    rw [q13.1] at hsv
    obtain ⟨b3, bc3, rfl⟩ := ownsRow_slice hsb
    obtain ⟨va3, vc3, rfl⟩ := ownsRow_slice hsv
    obtain ⟨ea3, ec3, rfl⟩ := ownsRow_slice hse
    obtain ⟨gv3, rfl, _⟩ := ownsRow_some hsv (by simp)
    have HF : Hid (∀ u, Below w14.heap.size w14 u → Below w.heap.size w u) := fun u hu => by
      obtain ⟨x, ⟨ev, hP⟩, _, _⟩ := H13.out
      have h1 := (hP.below hb14).fr.toBelow (B := w.heap.size) (Nat.le_refl _) (fun k hk h => by omega)
      exact h1.trans (hu.mono h1.size)
    have y0 : w14.cell? ⟨gv3, 8, none⟩ = some (.int .i64 1) := hsv.cellAt 8 (by simp)
    have y1 : w14.cell? ⟨gv3, 9, none⟩ = some (.int .i64 0) := hsv.cellAt 9 (by simp)
    have y2 : w14.cell? ⟨gv3, 10, none⟩ = some (.int .i64 T) := hsv.cellAt 10 (by simp)
    have y3 : w14.cell? ⟨gv3, 11, none⟩ = some (.int .i64 (m - 7)) := hsv.cellAt 11 (by simp)
    have y4 : w14.cell? ⟨gv3, 12, none⟩ = some (.int .i64 0) := hsv.cellAt 12 (by simp)
    have y5 : w14.cell? ⟨gv3, 13, none⟩ = some (.int .i64 0) := hsv.cellAt 13 (by simp)
    have y6 : w14.cell? ⟨gv3, 14, none⟩ = some (.bool false) := hsv.cellAt 14 (by simp)
    have y7 : w14.cell? ⟨gv3, 15, none⟩ = some (.bool (decide (0 < T))) := hsv.cellAt 15 (by simp)
    generalize bondedN x13.vals = n3
    generalize looseV x13.vals + sumE x13.ents = n4
    have hfd3 : ∀ u : World, (Instr.field 37 (.agg #[.int .i64 x13.height, .slice b3 x13.bal.length bc3, .int .i64 x13.fees, .int .i64 x13.pool, .int .i64 n3, .int .i64 n4, .slice (some ⟨gv3, 0, none⟩) 2 vc3, .slice d3 d4 d5, .slice ea3 x13.ents.length ec3]) 6).run Try.prog u = .ok (.slice (some ⟨gv3, 0, none⟩) 2 vc3) u := fun _ => by kernel_rfl
    clear hsb hsv hse hb14 q13 H13
    have HFa : Hid (∀ o, Below w.heap.size w (w14.alloc o)) := fun o => HF.out _ ((Below.refl _ _).alloc (Nat.le_refl _) o)
    have HFb : Hid (∀ o, Below w.heap.size w (w14.alloc o).drew) := fun o => HF.out _ ((Below.refl _ _).alloc (Nat.le_refl _) o).drew
    clear HF
    go_wp2_with fail
    all_goals try go_region
    all_goals try go_wp2
    all_goals go_ret
    all_goals first | exact ⟨by simp, HFa.out _⟩ | exact ⟨by simp, HFb.out _⟩ | exact ⟨rfl, HFa.out _⟩ | exact ⟨rfl, HFb.out _⟩
  · go_wp2_with fail
    refine (cSlash H6.out (hgt := 1) (by omega) (by omega) p1 p2).mono ?_
    rintro e w7 ⟨rfl, hc⟩
    have H7 : Hid (CS (fun k => w.heap.size ≤ k) w w7 g bv vv (fun x => QC x 1 90 (180 + (m - 7) * p / 100 + 3 - 3 + 4 * p / 100) [200000, 200000, 199910 - m - 90 - 90, 200000] ⟨1, 0, m - 7 - (m - 7) * p / 100, m - 7, 0, 0, true, false⟩ [⟨2, 1, 0, 3⟩, ⟨2, 1, 1, 4 - 4 * p / 100⟩] (m - 7))) := by
      rw [if_neg (by decide), if_neg (by decide)] at hc
      unfold lostF at hc
      rw [show 180 + (m - 7) * p / 100 + 0 + 4 * p / 100 = 180 + (m - 7) * p / 100 + 3 - 3 + 4 * p / 100 by omega] at hc
      exact hc
    clear hc H6
    go_wp2_with fail
    refine (cSee H7.out (fun x q => by rw [q.en]; simp)).mono ?_
    rintro e w8 ⟨x7, q7, sb, sv, sd, se, rfl, hsb, hsv, hse, ⟨da', dn', dc', rfl⟩, hb8⟩
    rw [q7.vs] at hsv
    rw [q7.en] at hse
    obtain ⟨b1, bc1, rfl⟩ := ownsRow_slice hsb
    obtain ⟨va1, vc1, rfl⟩ := ownsRow_slice hsv
    obtain ⟨ea1, ec1, rfl⟩ := ownsRow_slice hse
    obtain ⟨gv, rfl, _⟩ := ownsRow_some hsv (by simp)
    obtain ⟨ge, rfl, _⟩ := ownsRow_some hse (by simp)
    have H8 : Hid (∀ o, CS (fun k => w.heap.size ≤ k) w (w8.alloc o) g bv vv (fun x => QC x 1 90 (180 + (m - 7) * p / 100 + 3 - 3 + 4 * p / 100) [200000, 200000, 199910 - m - 90 - 90, 200000] ⟨1, 0, m - 7 - (m - 7) * p / 100, m - 7, 0, 0, true, false⟩ [⟨2, 1, 0, 3⟩, ⟨2, 1, 1, 4 - 4 * p / 100⟩] (m - 7))) := fun o => (H7.out.below hb8).below ((Below.refl _ _).alloc (Nat.le_refl _) o)
    rw [q7.pp]
    have y2 : w8.cell? ⟨gv, 10, none⟩ = some (.int .i64 (m - 7 - (m - 7) * p / 100)) := hsv.cellAt 10 (by simp)
    have y3 : w8.cell? ⟨gv, 11, none⟩ = some (.int .i64 (m - 7)) := hsv.cellAt 11 (by simp)
    have y6 : w8.cell? ⟨gv, 14, none⟩ = some (.bool true) := hsv.cellAt 14 (by simp)
    have y7 : w8.cell? ⟨gv, 15, none⟩ = some (.bool false) := hsv.cellAt 15 (by simp)
    have z0 : w8.cell? ⟨ge, 3, none⟩ = some (.int .i64 (3)) := hse.cellAt 3 (by simp)
    have z1 : w8.cell? ⟨ge, 7, none⟩ = some (.int .i64 (4 - 4 * p / 100)) := hse.cellAt 7 (by simp)
    have lgv : gv < w8.heap.size := World.block_lt_of_cell? w8 _ y2
    have lge : ge < w8.heap.size := World.block_lt_of_cell? w8 _ z0
    clear hsb hsv hse hb8 q7 H7
    go_wp2_with fail
    refine (cBlock (H8.out _) M3 (by omega) (by intro e he; simp only [List.mem_cons, List.not_mem_nil, or_false] at he; rcases he with rfl | rfl <;> simp) (by simp)).mono ?_
    rintro e w9 ⟨rfl, hc⟩
    have H9 : Hid (CS (fun k => w.heap.size ≤ k) w w9 g bv vv (fun x => QC x 2 0 (180 + (m - 7) * p / 100 + 3 - 3 + 4 * p / 100 + 90) [200000, 200000, 199910 - m - 90 - 90, 200000] ⟨1, 0, m - 7 - (m - 7) * p / 100, m - 7, 0, 0, true, false⟩ [⟨2, 1, 0, 3⟩, ⟨2, 1, 1, 4 - 4 * p / 100⟩] (m - 7))) := hc
    clear hc H8 y2 y3 y6 y7 z0 z1 lgv lge
    go_wp2_with fail
    refine (cSee H9.out (fun x q => by rw [q.en]; simp)).mono ?_
    rintro e w10 ⟨x9, q9, sb, sv, sd, se, rfl, hsb, hsv, hse, ⟨d0, d1, d2, rfl⟩, hb10⟩
    rw [q9.vs] at hsv
    obtain ⟨b2, bc2, rfl⟩ := ownsRow_slice hsb
    obtain ⟨va2, vc2, rfl⟩ := ownsRow_slice hsv
    obtain ⟨ea2, ec2, rfl⟩ := ownsRow_slice hse
    obtain ⟨gv2, rfl, _⟩ := ownsRow_some hsv (by simp)
    have H10 : Hid (CS (fun k => w.heap.size ≤ k) w w10 g bv vv (fun x => QC x 2 0 (180 + (m - 7) * p / 100 + 3 - 3 + 4 * p / 100 + 90) [200000, 200000, 199910 - m - 90 - 90, 200000] ⟨1, 0, m - 7 - (m - 7) * p / 100, m - 7, 0, 0, true, false⟩ [⟨2, 1, 0, 3⟩, ⟨2, 1, 1, 4 - 4 * p / 100⟩] (m - 7))) := H9.out.below hb10
    have y0 : w10.cell? ⟨gv2, 8, none⟩ = some (.int .i64 1) := hsv.cellAt 8 (by simp)
    have y7 : w10.cell? ⟨gv2, 15, none⟩ = some (.bool false) := hsv.cellAt 15 (by simp)
    generalize bondedN x9.vals = n1
    generalize looseV x9.vals + sumE x9.ents = n2
    have hfd2 : ∀ u : World, (Instr.field 37 (.agg #[.int .i64 x9.height, .slice b2 x9.bal.length bc2, .int .i64 x9.fees, .int .i64 x9.pool, .int .i64 n1, .int .i64 n2, .slice (some ⟨gv2, 0, none⟩) 2 vc2, .slice d0 d1 d2, .slice ea2 x9.ents.length ec2]) 6).run Try.prog u = .ok (.slice (some ⟨gv2, 0, none⟩) 2 vc2) u := fun _ => by kernel_rfl
    clear hsb hsv hse hb10 q9 H9
    go_wp2_with fail
    refine (cFree2 H10.out rfl (by show 90 ≤ 199910 - m - 90 - 90; omega)).mono ?_
    rintro e w11 ⟨rfl, hc⟩
    have H11 : Hid (CS (fun k => w.heap.size ≤ k) w w11 g bv vv (fun x => QC x 2 90 (180 + (m - 7) * p / 100 + 3 - 3 + 4 * p / 100 + 90) [200000, 200000, 199910 - m - 90 - 90 - 90, 200000] ⟨1, 0, m - 7 - (m - 7) * p / 100, m - 7, 0, 0, true, false⟩ [⟨2, 1, 0, 3⟩, ⟨2, 1, 1, 4 - 4 * p / 100⟩] (m - 7))) := hc
    clear hc H10 y0 y7
    go_wp2_with fail
    refine (cFree1 H11.out rfl (by show (90 : Int) ≤ 200000; omega)).mono ?_
    rintro e w12 ⟨rfl, hc⟩
    have H12 : Hid (CS (fun k => w.heap.size ≤ k) w w12 g bv vv (fun x => QC x 2 180 (180 + (m - 7) * p / 100 + 3 - 3 + 4 * p / 100 + 90) [200000, 199910, 199910 - m - 90 - 90 - 90, 200000] ⟨1, 0, m - 7 - (m - 7) * p / 100, m - 7, 0, 0, false, false⟩ [⟨2, 1, 0, 3⟩, ⟨2, 1, 1, 4 - 4 * p / 100⟩] (m - 7))) := hc
    clear hc H11
    go_wp2_with fail
    refine (cBlock2 H12.out M3 (by omega) (by simp) rfl).mono ?_
    rintro e w13 ⟨rfl, hc⟩
    obtain ⟨T, hT⟩ : ∃ T, T = m - 7 - (m - 7) * p / 100 := ⟨_, rfl⟩
    rw [← hT] at hc
    have H13 : Hid (CS (fun k => w.heap.size ≤ k) w w13 g bv vv (fun x => x.vals = [⟨0, 5, 0, 0, 0, 0, false, false⟩, ⟨1, 0, T, m - 7, 0, 0, false, decide (0 < T)⟩] ∧ x.ents.length ≤ 101)) := hc
    clear hc H12 hT M3 M0 M1 M2
    go_wp2_with fail
    refine (cSee H13.out (fun x q => by have := q.2; omega)).mono ?_
    rintro e w14 ⟨x13, q13, sb, sv, sd, se, rfl, hsb, hsv, hse, ⟨d3, d4, d5, rfl⟩, hb14⟩
    rw [q13.1] at hsv
    obtain ⟨b3, bc3, rfl⟩ := ownsRow_slice hsb
    obtain ⟨va3, vc3, rfl⟩ := ownsRow_slice hsv
    obtain ⟨ea3, ec3, rfl⟩ := ownsRow_slice hse
    obtain ⟨gv3, rfl, _⟩ := ownsRow_some hsv (by simp)
    have HF : Hid (∀ u, Below w14.heap.size w14 u → Below w.heap.size w u) := fun u hu => by
      obtain ⟨x, ⟨ev, hP⟩, _, _⟩ := H13.out
      have h1 := (hP.below hb14).fr.toBelow (B := w.heap.size) (Nat.le_refl _) (fun k hk h => by omega)
      exact h1.trans (hu.mono h1.size)
    have y0 : w14.cell? ⟨gv3, 8, none⟩ = some (.int .i64 1) := hsv.cellAt 8 (by simp)
    have y1 : w14.cell? ⟨gv3, 9, none⟩ = some (.int .i64 0) := hsv.cellAt 9 (by simp)
    have y2 : w14.cell? ⟨gv3, 10, none⟩ = some (.int .i64 T) := hsv.cellAt 10 (by simp)
    have y3 : w14.cell? ⟨gv3, 11, none⟩ = some (.int .i64 (m - 7)) := hsv.cellAt 11 (by simp)
    have y4 : w14.cell? ⟨gv3, 12, none⟩ = some (.int .i64 0) := hsv.cellAt 12 (by simp)
    have y5 : w14.cell? ⟨gv3, 13, none⟩ = some (.int .i64 0) := hsv.cellAt 13 (by simp)
    have y6 : w14.cell? ⟨gv3, 14, none⟩ = some (.bool false) := hsv.cellAt 14 (by simp)
    have y7 : w14.cell? ⟨gv3, 15, none⟩ = some (.bool (decide (0 < T))) := hsv.cellAt 15 (by simp)
    generalize bondedN x13.vals = n3
    generalize looseV x13.vals + sumE x13.ents = n4
    have hfd3 : ∀ u : World, (Instr.field 37 (.agg #[.int .i64 x13.height, .slice b3 x13.bal.length bc3, .int .i64 x13.fees, .int .i64 x13.pool, .int .i64 n3, .int .i64 n4, .slice (some ⟨gv3, 0, none⟩) 2 vc3, .slice d3 d4 d5, .slice ea3 x13.ents.length ec3]) 6).run Try.prog u = .ok (.slice (some ⟨gv3, 0, none⟩) 2 vc3) u := fun _ => by kernel_rfl
    clear hsb hsv hse hb14 q13 H13
    have HFa : Hid (∀ o, Below w.heap.size w (w14.alloc o)) := fun o => HF.out _ ((Below.refl _ _).alloc (Nat.le_refl _) o)
    have HFb : Hid (∀ o, Below w.heap.size w (w14.alloc o).drew) := fun o => HF.out _ ((Below.refl _ _).alloc (Nat.le_refl _) o).drew
    clear HF
    go_wp2_with fail
    all_goals try go_region
    all_goals try go_wp2
    all_goals go_ret
    all_goals first | exact ⟨by simp, HFa.out _⟩ | exact ⟨by simp, HFb.out _⟩ | exact ⟨rfl, HFa.out _⟩ | exact ⟨rfl, HFb.out _⟩
theorem own0 : ownKnob Try.prog.godebug = none := by kernel_rfl
theorem wf_i64 {a : Int} (h : (Lit.int .i64 a).wf = true) : -9223372036854775808 ≤ a ∧ a ≤ 9223372036854775807 := by
  simpa [Lit.wf, IntKind.min, IntKind.max, IntKind.signed, IntKind.bits] using h

set_option maxRecDepth 100000 in
theorem cut_lifted (os : Os) (started : os.Started) (H : Type) (enc : TypeId × Value → H) :
    ReturnsInHanded {} Try.checked os 5 .any (Rows.cutSpec.pre6 enc Try.prog Try.f5 Rows.cutRow.domain false) (Rows.cutSpec.post enc Try.prog Try.f5 false true false false) := by
  refine returnsInHanded_of_change (C := Try.checked) own0 started (by kernel_rfl) Try.func5
    (ChangeSpec.witness6 (enc := enc) (C := Try.checked) false ⟨#[], #[.int .i64 0, .int .i64 0, .bool false], []⟩ 8 (by kernel_rfl) (by kernel_rfl) (by kernel_rfl) (by kernel_rfl)) ?_
  intro W base args ds gs before hval0 hW hcnd _
  have hval : ∀ (j : Nat) t v, Try.f5.params[j]? = some t → args[j]? = some v → Value.okWide Try.prog W .any base t v := hval0
  have hW' := hW
  obtain ⟨p, q, hA0, hV, rfl, hfz, hnd⟩ := hW
  have hA : DataW.TrodAll enc Try.prog W 0 (fun _ => true) true Try.f5.params.toList args.toList ds p := hA0
  rw [Try.params5] at hA hval
  obtain ⟨v0, vs0, d0, ds0, p0, q0, hargs, rfl, rfl, h0, r0⟩ := trodAll_cons hA
  obtain ⟨v1, vs1, d1, ds1, p1, q1, rfl, rfl, rfl, h1, r1⟩ := trodAll_cons r0
  obtain ⟨v2, vs2, d2, ds2, p2, q2, rfl, rfl, rfl, h2, r2⟩ := trodAll_cons r1
  obtain ⟨rfl, rfl, rfl⟩ := trodAll_nil r2
  obtain rfl : args = #[v0, v1, v2] := by cases args; simp_all
  obtain ⟨rfl, rfl⟩ := trodVars_none hV
  obtain ⟨a0, rfl, rfl, rfl, w0⟩ := open_int Try.underlying3 (hval 0 3 v0 rfl rfl) h0
  obtain ⟨a1, rfl, rfl, rfl, w1⟩ := open_int Try.underlying3 (hval 1 3 v1 rfl rfl) h1
  obtain ⟨a2, rfl, rfl, rfl⟩ := open_bool Try.underlying4 (hval 2 4 v2 rfl rfl) h2
  clear hA0 hval0
  simp only [List.append_nil] at hW'
  have q0 := wf_i64 w0
  have q1 := wf_i64 w1
  refine (cut_walk a0 a1 a2 W q0.1 q0.2 q1.1 q1.2).mono fun e W' ⟨he, bel⟩ => ?_
  subst he
  exact ⟨_, rfl, _, _, _, [], _, [], hW', trodAll_mk1 (shut_bool Try.underlying4 _), (trodAll_cons_mk (shut_int Try.underlying3 w0) (trodAll_cons_mk (shut_int Try.underlying3 w1) (trodAll_cons_mk (shut_bool Try.underlying4 _) trodAll_mk0))), rfl, bel.frame _, fun h => by cases h⟩

theorem cut_over : Rows.cutRow.holds Try.pinned (OpenSpec.ofChange Rows.cutSpec) :=
  OpenClaim.holds_of_wide 5 Try.f5 rfl rfl rfl rfl rfl rfl rfl ⟨rfl, rfl, rfl, rfl, rfl⟩ rfl rfl rfl rfl rfl (by kernel_rfl) Try.func5 (by kernel_rfl)
    (of_decide_eq_true (by kernel_rfl)) (by unfold Func.isWrapper; first | (rw [if_pos (by decide +kernel)]; kernel_rfl) | (rw [if_neg (by decide +kernel)]; exact ⟨rfl, rfl⟩))
    (fun os started H enc _ => cut_lifted os started H enc)

theorem cut_proved : Rows.CutSaid := cut_over
end Go.Proofs.Ytohjjgefklhmaab
