import Derived.Test.YtohjjgefklhmaaaGreatDoorGSlashM
namespace Go.Proofs.YtohjjgefklhmaaaGreatDoor
open Go.ChangeShapes Go.WideShapes Go.ChangeAt Go.RowKit
set_option linter.unusedVariables false
set_option maxHeartbeats 40000000
set_option maxRecDepth 100000
variable {bs os rs : List Int} {top mature fee : Int} {f : Nat -> Int} {x : EC}
def CQ (s : Nat -> Nat -> Int) (who : Nat) : Nat -> List DS
 | 0 => []
 | k + 1 => if 0 < s who k then CQ s who k ++ [⟨who, k, s who k⟩] else CQ s who k
def Bz (s : Nat -> Nat -> Int) (nv : Nat) : Nat -> List DS
 | 0 => []
 | n + 1 => Bz s nv n ++ CQ s n nv
theorem Lf (s : Nat -> Nat -> Int) (who k : Nat) : (CQ s who k).length <= k := by
 induction k with
 | zero => simp [CQ]
 | succ k ih =>
  unfold CQ
  split
  ·rw [List.length_append, List.length_singleton]; omega
  ·omega
theorem M2 (s : Nat -> Nat -> Int) (nv n : Nat) : (Bz s nv n).length <= n * nv := by
 induction n with
 | zero => simp [Bz]
 | succ n ih =>
  have := Lf s n nv
  unfold Bz
  rw [List.length_append, Nat.succ_mul]; omega
theorem PC (s : Nat -> Nat -> Int) (nv k k2 : Nat) (h : k2 <= nv) : (Bz s nv k ++ CQ s k k2).length <= k * nv + k2 := by
 have h1 := M2 s nv k
 have h2 := Lf s k k2
 rw [List.length_append]; omega
theorem Of (l : List DS) (o : DS) : EU (l ++ [o]) = EU l ++ o.cells := by
 induction l with
 | nil => simp [EU]
 | cons v l ih => simp [EU, ih]
theorem RC (g nb nv : Nat) (ba va : Option Addr) (bc vc : Nat) (s : Nat -> Nat -> Int) (w : World) (c4 : w.cell? ⟨g, 4, none⟩ = some (.slice ba nb bc)) (c7 : w.cell? ⟨g, 7, none⟩ = some (.slice va nv vc))
  (cz : ∀ k j, k < 6 -> j < 5 -> w.cell? ⟨g, 8 + k * 5 + j, none⟩ = some (.int .i64 (s k j))) (l1 : nb <= 6) (l2 : nv <= 5) :
  Calls Tryz.prog 92 #[.pointer (some ⟨g, 0, none⟩)] w fun e w' => ∃ dv, e = .returned dv ∧ w'.ownsRow w.heap.size 130 3 dv (Bz s nv nb).length (EU (Bz s nv nb)) ∧ Below w.heap.size w w' := by
 obtain ⟨i5, hi5, hz50, hz51, hz52⟩ := info_parts NG
 have hlt := World.block_lt_of_cell? w _ c4
 go_enter Tryz.func92, Tryz.ntmps92
 go_wp2
 go_loopw [3, 12] (fun l i wr => ∃ k : Nat, k <= nb ∧ i = .int .i64 k ∧ wr.ownsRow w.heap.size 130 3 l (Bz s nv k).length (EU (Bz s nv k)) ∧ Below w.heap.size w wr) (fun _ i _ => nb - (intOf i).toNat)
 case atStart => exact ⟨0, Nat.zero_le _, rfl, World.ownsRow_nil _ _ _ _, Below.refl _ _⟩
 case round =>
  obtain ⟨k, hk, rfl, hrow, hbw⟩ := hrel
  have HB := Hd hbw
  have HR := Hd hrow
  have d7 : wr.cell? ⟨g, 7, none⟩ = some (.slice va nv vc) := by rw [hbw.cell (p := ⟨g, 7, none⟩) hlt]; exact c7
  by_cases hk1 : k < nb
  ·clear hrow hbw
   go_wp2
   obtain ⟨wo, rfl⟩ : ∃ wo : World, wo = wr := ⟨_, rfl⟩
   go_loopw [3, 20] (fun l i wr => ∃ k2 : Nat, k2 <= nv ∧ i = .int .i64 k2 ∧ wr.ownsRow w.heap.size 130 3 l (Bz s nv k ++ CQ s k k2).length (EU (Bz s nv k ++ CQ s k k2)) ∧ Below w.heap.size w wr) (fun _ i _ => nv - (intOf i).toNat)
   case atStart => exact ⟨0, Nat.zero_le _, rfl, by simp only [CQ, List.append_nil]; exact HR.out, HB.out⟩
   case round =>
    clear HR HB
    obtain ⟨k2, hk2, rfl, hrow, hbw⟩ := hrel
    have hlen := PC s nv k k2 hk2
    by_cases hlt2 : k2 < nv
    ·have y := cz k k2 (by omega) (by omega)
     have y' : wr.cell? ⟨g, 8 + k * 5 + k2, none⟩ = some (.int .i64 (s k k2)) := by rw [hbw.cell (p := ⟨g, 8 + k * 5 + k2, none⟩) hlt]; exact y
     have HD1 : Hid (0 < s k k2 -> Bz s nv k ++ CQ s k (k2 + 1) = (Bz s nv k ++ CQ s k k2) ++ [⟨k, k2, s k k2⟩]) := fun h => by
      show Bz s nv k ++ (if 0 < s k k2 then CQ s k k2 ++ [⟨k, k2, s k k2⟩] else CQ s k k2) = _
      rw [if_pos h, List.append_assoc]
     have HD2 : Hid (¬ 0 < s k k2 -> Bz s nv k ++ CQ s k (k2 + 1) = Bz s nv k ++ CQ s k k2) := fun h => by
      show Bz s nv k ++ (if 0 < s k k2 then CQ s k k2 ++ [⟨k, k2, s k k2⟩] else CQ s k k2) = _
      rw [if_neg h]
     have hkk : k * nv <= 30 := Nat.le_trans (Nat.mul_le_mul_right nv (show k <= 6 by omega)) (by omega)
     generalize Bz s nv k ++ CQ s k k2 = L2 at *
     generalize hsv : s k k2 = sv at *
     clear hsv
     obtain ⟨n2, hn2⟩ : ∃ n2, n2 = L2.length := ⟨_, rfl⟩
     rw [<- hn2] at hrow hlen
     have HN2 := Hd hn2
     clear hn2
     obtain ⟨la, lc, rfl⟩ := Ac hrow
     have HR := Hd hrow
     have HB := Hd hbw
     have hsz := hbw.size
     clear hrow hbw y
     by_cases hs : 0 < sv
     ·go_wp2_with (at_builtin; go_loud (refine Ak rfl (.tmp 33) (.tmp 38) 86 rfl 130 i5 _ 3 24 Tryz.underlying86 hi5 hz50 hz51 hz52 rfl (by decide) w.heap.size _ n2 (EU L2) rfl (HR.out.alloc _) (by simp; omega) ⟨_, 0, none⟩ 1 1 [.int .i64 k, .int .i64 k2, .int .i64 sv] rfl (by rfl) (Ap _ [.int .i64 k, .int .i64 k2, .int .i64 sv] _ _ rfl) (by simp [Value.oneCell']) (by decide) (by simp [maxLen]; omega) (by omega) ?_))
      intro g5 cap5 v5 hown5 hgrow5 hor5 hold5
      have HB5 : Hid (Below w.heap.size w v5) := (HB.out.alloc HB.out.size _).grown hgrow5 (by simp; omega) (fun j hj => (HR.out.lt j hj).1)
      have HR5 : Hid (v5.ownsRow w.heap.size 130 3 (.slice (some ⟨g5, 0, none⟩) (n2 + 1) cap5) (Bz s nv k ++ CQ s k (k2 + 1)).length (EU (Bz s nv k ++ CQ s k (k2 + 1)))) := by
       rw [HD1.out hs, Of, List.length_append, <- HN2.out]; exact hown5
      clear hown5 hgrow5 hor5 hold5 HR HB
      go_wp2
      refine And.intro ?_ ?_
      ·first | exact ⟨k2 + 1, by omega, by go_num, HR5.out, HB5.out⟩ | ((repeat apply Exists.intro); exact ⟨⟨k2 + 1, by omega, by go_num, HR5.out, HB5.out⟩, rfl⟩)
      ·simp [intOf]; omega
     ·have HR5 : Hid (wr.ownsRow w.heap.size 130 3 (.slice la n2 lc) (Bz s nv k ++ CQ s k (k2 + 1)).length (EU (Bz s nv k ++ CQ s k (k2 + 1)))) := by
       rw [HD2.out hs, <- HN2.out]; exact HR.out
      clear HR
      go_wp2
      refine And.intro ?_ ?_
      ·first | exact ⟨k2 + 1, by omega, by go_num, HR5.out, HB.out⟩ | ((repeat apply Exists.intro); exact ⟨⟨k2 + 1, by omega, by go_num, HR5.out, HB.out⟩, rfl⟩)
      ·simp [intOf]; omega
    ·have ek : k2 = nv := by omega
     have HR : Hid (wr.ownsRow w.heap.size 130 3 u3 (Bz s nv (k + 1)).length (EU (Bz s nv (k + 1)))) := by
      rw [ek] at hrow; exact hrow
     have HB := Hd hbw
     clear hrow hbw ek
     go_wp2
     refine And.intro ?_ ?_
     ·first | exact ⟨k + 1, by omega, by go_num, HR.out, HB.out⟩ | ((repeat apply Exists.intro); exact ⟨⟨k + 1, by omega, by go_num, HR.out, HB.out⟩, rfl⟩)
     ·simp [intOf]; omega
  ·have ek : k = nb := by omega
   rw [ek] at hrow
   obtain ⟨la, lc, rfl⟩ := Ac hrow
   have HRf := Hd hrow
   clear hrow HR hbw ek
   go_wp2
   go_ret
   exact ⟨_, rfl, HRf.out, HB.out⟩
def SeeR (w w' : World) (e : Ending) (x : EC) : Prop :=
 ∃ bv vv dv ev, e = .returned (.agg #[.int .i64 x.height, bv, .int .i64 x.fees, .int .i64 x.pool, .int .i64 (Ad x.vals), .int .i64 (AI x.vals + B2 x.ents), vv, dv, ev]) ∧
  w'.ownsRow w.heap.size 3 1 bv x.bal.length (Ai x.bal) ∧ w'.ownsRow w.heap.size 122 8 vv x.vals.length (A5 x.vals) ∧ w'.ownsRow w.heap.size 125 4 ev x.ents.length (Bi x.ents) ∧ w'.ownsRow w.heap.size 130 3 dv (Bz x.sh x.vals.length x.bal.length).length (EU (Bz x.sh x.vals.length x.bal.length)) ∧ Below w.heap.size w w'
theorem SJ {S : Nat -> Prop} {W0 : World} (g : Nat) (x : EC) (bv vv ev : Value) (w : World) (hC : PE S W0 w g x bv vv ev) (hB : VB x.vals) (hBe : EB x.ents) (l1 : x.bal.length <= 6) (l2 : x.vals.length <= 5) (l3 : x.ents.length <= 1000) :
  Calls Tryz.prog 42 #[.pointer (some ⟨g, 0, none⟩)] w fun e w' => SeeR w w' e x := by
 obtain ⟨ba, bc, rfl⟩ := Ac hC.b
 obtain ⟨va, vc, rfl⟩ := Ac hC.v
 obtain ⟨ea, ec, rfl⟩ := Ac hC.e
 have c3 : w.cell? ⟨g, 3, none⟩ = some (.int .i64 x.height) := hC.L.cell 3
 have c4 : w.cell? ⟨g, 4, none⟩ = some (.slice ba x.bal.length bc) := hC.L.cell 4
 have c5 : w.cell? ⟨g, 5, none⟩ = some (.int .i64 x.fees) := hC.L.cell 5
 have c6 : w.cell? ⟨g, 6, none⟩ = some (.int .i64 x.pool) := hC.L.cell 6
 have hlt := hC.L.lt
 have hlt1 : g < w.heap.size + 1 := by omega
 have hlt2 : g < w.heap.size + 1 + 1 := by omega
 go_enter Tryz.func42, Tryz.ntmps42
 go_wp2_with fail
 go_region
 go_wp2_with fail
 refine (EN _ x.bal _ (((Rd.of_owns hC.b).ints).below (B := w.heap.size) (((Below.refl _ _).alloc (Nat.le_refl _) _).alloc (by simp) _).drew (Nat.le_refl _)) (by omega)).mono ?_
 rintro e w1 ⟨rfl, rfl⟩
 go_wp2_with fail
 have hR : Has (((w.alloc (.cells #[.int .i64 0, .slice none 0 0, .int .i64 0, .int .i64 0, .int .i64 0, .int .i64 0, .slice none 0 0, .slice none 0 0, .slice none 0 0] 89)).alloc (.cells #[.int .i64 x.height, .slice (some ⟨w.heap.size + 1 + 1, 0, none⟩) x.bal.length x.bal.length, .int .i64 x.fees, .int .i64 x.pool, .int .i64 0, .int .i64 0, .slice none 0 0, .slice none 0 0, .slice none 0 0] 89)).alloc (.cells (Ai x.bal).toArray 3)).drew w.heap.size 89 [.int .i64 0, .slice none 0 0, .int .i64 0, .int .i64 0, .int .i64 0, .int .i64 0, .slice none 0 0, .slice none 0 0, .slice none 0 0] := (((Has.newA w _ _).alloc _).alloc _).drew
 have hV : Has (((w.alloc (.cells #[.int .i64 0, .slice none 0 0, .int .i64 0, .int .i64 0, .int .i64 0, .int .i64 0, .slice none 0 0, .slice none 0 0, .slice none 0 0] 89)).alloc (.cells #[.int .i64 x.height, .slice (some ⟨w.heap.size + 1 + 1, 0, none⟩) x.bal.length x.bal.length, .int .i64 x.fees, .int .i64 x.pool, .int .i64 0, .int .i64 0, .slice none 0 0, .slice none 0 0, .slice none 0 0] 89)).alloc (.cells (Ai x.bal).toArray 3)).drew (w.heap.size + 1) 89 [.int .i64 x.height, .slice (some ⟨w.heap.size + 1 + 1, 0, none⟩) x.bal.length x.bal.length, .int .i64 x.fees, .int .i64 x.pool, .int .i64 0, .int .i64 0, .slice none 0 0, .slice none 0 0, .slice none 0 0] := by
  have h := (Has.newA (w.alloc (.cells #[.int .i64 0, .slice none 0 0, .int .i64 0, .int .i64 0, .int .i64 0, .int .i64 0, .slice none 0 0, .slice none 0 0, .slice none 0 0] 89)) 89 #[.int .i64 x.height, .slice (some ⟨w.heap.size + 1 + 1, 0, none⟩) x.bal.length x.bal.length, .int .i64 x.fees, .int .i64 x.pool, .int .i64 0, .int .i64 0, .slice none 0 0, .slice none 0 0, .slice none 0 0]).alloc (.cells (Ai x.bal).toArray 3)
  rw [World.size_alloc] at h
  exact h.drew
 have hBl : (((w.alloc (.cells #[.int .i64 0, .slice none 0 0, .int .i64 0, .int .i64 0, .int .i64 0, .int .i64 0, .slice none 0 0, .slice none 0 0, .slice none 0 0] 89)).alloc (.cells #[.int .i64 x.height, .slice (some ⟨w.heap.size + 1 + 1, 0, none⟩) x.bal.length x.bal.length, .int .i64 x.fees, .int .i64 x.pool, .int .i64 0, .int .i64 0, .slice none 0 0, .slice none 0 0, .slice none 0 0] 89)).alloc (.cells (Ai x.bal).toArray 3)).drew.ownsRow w.heap.size 3 1 (.slice (some ⟨w.heap.size + 1 + 1, 0, none⟩) x.bal.length x.bal.length) x.bal.length (Ai x.bal) := by
  have h := Dz ((w.alloc (.cells #[.int .i64 0, .slice none 0 0, .int .i64 0, .int .i64 0, .int .i64 0, .int .i64 0, .slice none 0 0, .slice none 0 0, .slice none 0 0] 89)).alloc (.cells #[.int .i64 x.height, .slice (some ⟨w.heap.size + 1 + 1, 0, none⟩) x.bal.length x.bal.length, .int .i64 x.fees, .int .i64 x.pool, .int .i64 0, .int .i64 0, .slice none 0 0, .slice none 0 0, .slice none 0 0] 89)) 3 1 x.bal.length (Ai x.bal) (by simp [Ai]) (by simp [maxLen]; omega)
  simp only [World.size_alloc] at h
  exact Aj h (by omega)
 have hw : Below w.heap.size w (((w.alloc (.cells #[.int .i64 0, .slice none 0 0, .int .i64 0, .int .i64 0, .int .i64 0, .int .i64 0, .slice none 0 0, .slice none 0 0, .slice none 0 0] 89)).alloc (.cells #[.int .i64 x.height, .slice (some ⟨w.heap.size + 1 + 1, 0, none⟩) x.bal.length x.bal.length, .int .i64 x.fees, .int .i64 x.pool, .int .i64 0, .int .i64 0, .slice none 0 0, .slice none 0 0, .slice none 0 0] 89)).alloc (.cells (Ai x.bal).toArray 3)).drew := ((((Below.refl _ _).alloc (Nat.le_refl _) _).alloc (by simp) _).alloc (by simp; omega) _).drew
 generalize (((w.alloc (.cells #[.int .i64 0, .slice none 0 0, .int .i64 0, .int .i64 0, .int .i64 0, .int .i64 0, .slice none 0 0, .slice none 0 0, .slice none 0 0] 89)).alloc (.cells #[.int .i64 x.height, .slice (some ⟨w.heap.size + 1 + 1, 0, none⟩) x.bal.length x.bal.length, .int .i64 x.fees, .int .i64 x.pool, .int .i64 0, .int .i64 0, .slice none 0 0, .slice none 0 0, .slice none 0 0] 89)).alloc (.cells (Ai x.bal).toArray 3)).drew = wA at hR hV hBl hw ⊢
 generalize hbvv : Value.slice (some ⟨w.heap.size + 1 + 1, 0, none⟩) x.bal.length x.bal.length = bvn at hV hBl
 have hCw : ∀ {w'}, Below w.heap.size w w' -> PE S W0 w' g x (.slice ba x.bal.length bc) (.slice va x.vals.length vc) (.slice ea x.ents.length ec) := fun hb => hC.below hb
 have hvw : ∀ {w'}, Below w.heap.size w w' -> Rd w' (.slice va x.vals.length vc) x.vals.length 8 (A5 x.vals) := fun hb => (Rd.of_owns hC.v).below hb (Nat.le_refl _)
 have HCw : Hid (∀ {w'}, Below w.heap.size w w' -> PE S W0 w' g x (.slice ba x.bal.length bc) (.slice va x.vals.length vc) (.slice ea x.ents.length ec)) := @hCw
 have Hvw : Hid (∀ {w'}, Below w.heap.size w w' -> Rd w' (.slice va x.vals.length vc) x.vals.length 8 (A5 x.vals)) := @hvw
 clear hCw hvw hC c3 c4 c5 c6 hlt1 hlt2
 refine (Gs g x.vals _ _ ((HCw.out hw).L.cell 7) (Hvw.out hw) hB (by omega)).mono ?_
 rintro e w1 ⟨rfl, hb1⟩
 have hR1 := hR.below hb1 hR.lt
 have hV1 := hV.below hb1 hV.lt
 have hBl1 := Ar hBl hb1 (Nat.le_refl _)
 have hw1 := hw.trans (hb1.mono hw.size)
 clear hR hV hBl hw hb1
 have p4 : w1.cell? ⟨w.heap.size + 1, 4, none⟩ = some (.int .i64 0) := hV1.cell 4
 have f4 := hV1.frozen 4
 have hne : bvn.ownBlock ≠ some (w.heap.size + 1) := by rw [<- hbvv]; simp [Value.ownBlock]
 go_wp2_with fail
 have hR2 := hR1.other ⟨w.heap.size + 1, 4, none⟩ (.int .i64 (Ad x.vals)) (by simp)
 have hV2 := hV1.set 4 (.int .i64 (Ad x.vals))
 have hBl2 := Aa hBl1 ⟨w.heap.size + 1, 4, none⟩ (.int .i64 (Ad x.vals)) hne
 have hw2 := hw1.setCell (p := ⟨w.heap.size + 1, 4, none⟩) (by simp) (.int .i64 (Ad x.vals))
 clear hR1 hV1 hBl1 hw1 p4 f4
 refine (Rt g x.vals _ _ ((HCw.out hw2).L.cell 7) (.slice ea x.ents.length ec) x.ents ((HCw.out hw2).evAt) (Rd.of_owns (HCw.out hw2).e) hBe l3 (Hvw.out hw2) hB (by omega)).mono ?_
 rintro e w3 ⟨rfl, hb3⟩
 have hR3 := hR2.below hb3 hR2.lt
 have hV3 := hV2.below hb3 hV2.lt
 have hBl3 := Ar hBl2 hb3 (Nat.le_refl _)
 have hw3 := hw2.trans (hb3.mono hw2.size)
 clear hR2 hV2 hBl2 hw2 hb3
 have p5 : w3.cell? ⟨w.heap.size + 1, 5, none⟩ = some (.int .i64 0) := hV3.cell 5
 have f5 := hV3.frozen 5
 have q7 : w3.cell? ⟨g, 7, none⟩ = some (.slice va x.vals.length vc) := (HCw.out hw3).L.cell 7
 have hg1 : g ≠ w.heap.size + 1 := by omega
 have hg2 : w.heap.size + 1 ≠ g := by omega
 go_wp2_with fail
 have hR4 := hR3.other ⟨w.heap.size + 1, 5, none⟩ (.int .i64 (AI x.vals + B2 x.ents)) (by simp)
 have hV4 := hV3.set 5 (.int .i64 (AI x.vals + B2 x.ents))
 have hBl4 := Aa hBl3 ⟨w.heap.size + 1, 5, none⟩ (.int .i64 (AI x.vals + B2 x.ents)) hne
 have hw4 := hw3.setCell (p := ⟨w.heap.size + 1, 5, none⟩) (by simp) (.int .i64 (AI x.vals + B2 x.ents))
 clear hR3 hV3 hBl3 hw3 p5 f5 q7
 refine (FR _ x.vals.length (A5 x.vals) _ (Hvw.out hw4) (by omega) (OP _)).mono ?_
 rintro e w5 ⟨rfl, rfl⟩
 have hsz := hV4.lt
 have hR5 := hR4.alloc (.cells (A5 x.vals).toArray 122)
 have hV5 := hV4.alloc (.cells (A5 x.vals).toArray 122)
 have hBl5 := hBl4.alloc (.cells (A5 x.vals).toArray 122)
 have hw5 := hw4.alloc hw4.size (.cells (A5 x.vals).toArray 122)
 have hvr5 := Aj (Dz _ 122 8 x.vals.length (A5 x.vals) (KZ _) (by simp [maxLen]; omega)) hw4.size
 obtain ⟨vvn, hvvn⟩ : ∃ z, z = Value.slice (some ⟨((w3.setCell ⟨w.heap.size + 1, 5, none⟩ (.int .i64 (AI x.vals + B2 x.ents)))).heap.size, 0, none⟩) x.vals.length x.vals.length := ⟨_, rfl⟩
 have hne5 : vvn.ownBlock ≠ some (w.heap.size + 1) := by rw [hvvn]; simp [Value.ownBlock]; simp at hsz; omega
 rw [<- hvvn] at hvr5 ⊢
 generalize ((w3.setCell ⟨w.heap.size + 1, 5, none⟩ (.int .i64 (AI x.vals + B2 x.ents))).alloc (.cells (A5 x.vals).toArray 122)) = w5 at hR5 hV5 hBl5 hw5 hvr5 ⊢
 clear hR4 hV4 hBl4 hw4 hsz
 have p6 : w5.cell? ⟨w.heap.size + 1, 6, none⟩ = some (.slice none 0 0) := hV5.cell 6
 have f6 := hV5.frozen 6
 obtain ⟨vva, vvc, hvs⟩ := Ac hvr5
 clear hvvn
 subst hvs
 go_wp2_with fail
 have hR6 := hR5.other ⟨w.heap.size + 1, 6, none⟩ (.slice vva x.vals.length vvc) (by simp)
 have hV6 := hV5.set 6 (.slice vva x.vals.length vvc)
 have hBl6 := Aa hBl5 ⟨w.heap.size + 1, 6, none⟩ (.slice vva x.vals.length vvc) hne
 have hvr6 := Aa hvr5 ⟨w.heap.size + 1, 6, none⟩ (.slice vva x.vals.length vvc) hne5
 have hw6 := hw5.setCell (p := ⟨w.heap.size + 1, 6, none⟩) (by simp) (.slice vva x.vals.length vvc)
 clear hR5 hV5 hBl5 hvr5 hw5 p6 f6
 refine (RC g x.bal.length x.vals.length ba va bc vc x.sh _ ((HCw.out hw6).L.cell 4) ((HCw.out hw6).L.cell 7) (fun k j hk hj => (HCw.out hw6).shAt hk hj) l1 l2).mono ?_
 rintro e w7 ⟨sd, rfl, hdr0, hb7⟩
 have hned : sd.ownBlock ≠ some (w.heap.size + 1) := fun e => by have h1 := (hdr0.lt _ e).1; have h2 := hV6.lt; omega
 have hned0 : sd.ownBlock ≠ some w.heap.size := fun e => by have h1 := (hdr0.lt _ e).1; have h2 := hV6.lt; omega
 have hdr7 := Aj hdr0 hw6.size
 clear hdr0
 obtain ⟨da, dc, rfl⟩ := Ac hdr7
 have hR7 := hR6.below hb7 hR6.lt
 have hV7 := hV6.below hb7 hV6.lt
 have hBl7 := Ar hBl6 hb7 (Nat.le_refl _)
 have hvr7 := Ar hvr6 hb7 (Nat.le_refl _)
 have hw7 := hw6.trans (hb7.mono hw6.size)
 clear hR6 hV6 hBl6 hvr6 hw6 hb7
 have p7 : w7.cell? ⟨w.heap.size + 1, 7, none⟩ = some (.slice none 0 0) := hV7.cell 7
 have f7 := hV7.frozen 7
 have q38 : w7.cell? ⟨g, 73, none⟩ = some (.slice ea x.ents.length ec) := (HCw.out hw7).evAt
 go_wp2_with fail
 have hR8 := hR7.other ⟨w.heap.size + 1, 7, none⟩ (.slice da (Bz x.sh x.vals.length x.bal.length).length dc) (by simp)
 have hV8 := hV7.set 7 (.slice da (Bz x.sh x.vals.length x.bal.length).length dc)
 have hBl8 := Aa hBl7 ⟨w.heap.size + 1, 7, none⟩ (.slice da (Bz x.sh x.vals.length x.bal.length).length dc) hne
 have hvr8 := Aa hvr7 ⟨w.heap.size + 1, 7, none⟩ (.slice da (Bz x.sh x.vals.length x.bal.length).length dc) hne5
 have hdr8 := Aa hdr7 ⟨w.heap.size + 1, 7, none⟩ (.slice da (Bz x.sh x.vals.length x.bal.length).length dc) hned
 have hw8 := hw7.setCell (p := ⟨w.heap.size + 1, 7, none⟩) (by simp) (.slice da (Bz x.sh x.vals.length x.bal.length).length dc)
 clear hR7 hV7 hBl7 hvr7 hdr7 hw7 p7 f7 q38
 refine (GB _ x.ents.length (Bi x.ents) _ (Rd.of_owns (HCw.out hw8).e) (by omega) (Pf _)).mono ?_
 rintro e w9 ⟨rfl, rfl⟩
 have hsz := hV8.lt
 have hR9 := hR8.alloc (.cells (Bi x.ents).toArray 125)
 have hV9 := hV8.alloc (.cells (Bi x.ents).toArray 125)
 have hBl9 := hBl8.alloc (.cells (Bi x.ents).toArray 125)
 have hvr9 := hvr8.alloc (.cells (Bi x.ents).toArray 125)
 have hdr9 := hdr8.alloc (.cells (Bi x.ents).toArray 125)
 have hw9 := hw8.alloc hw8.size (.cells (Bi x.ents).toArray 125)
 have her9 := Aj (Dz _ 125 4 x.ents.length (Bi x.ents) (KW _) (by simp [maxLen]; omega)) hw8.size
 obtain ⟨een, heen⟩ : ∃ z, z = Value.slice (some ⟨((w7.setCell ⟨w.heap.size + 1, 7, none⟩ (.slice da (Bz x.sh x.vals.length x.bal.length).length dc))).heap.size, 0, none⟩) x.ents.length x.ents.length := ⟨_, rfl⟩
 have hne9 : een.ownBlock ≠ some (w.heap.size + 1) := by rw [heen]; simp [Value.ownBlock]; simp at hsz; omega
 have hne0 : een.ownBlock ≠ some w.heap.size := by rw [heen]; simp [Value.ownBlock]; simp at hsz; omega
 rw [<- heen] at her9 ⊢
 generalize ((w7.setCell ⟨w.heap.size + 1, 7, none⟩ (.slice da (Bz x.sh x.vals.length x.bal.length).length dc)).alloc (.cells (Bi x.ents).toArray 125)) = w9 at hR9 hV9 hBl9 hvr9 hdr9 hw9 her9 ⊢
 clear hR8 hV8 hBl8 hvr8 hdr8 hw8 hsz
 have p8 : w9.cell? ⟨w.heap.size + 1, 8, none⟩ = some (.slice none 0 0) := hV9.cell 8
 have f8 := hV9.frozen 8
 obtain ⟨eea, eec, hes⟩ := Ac her9
 obtain ⟨bba, bbc, hbs⟩ := Ac hBl9
 clear heen hbvv
 subst hes hbs
 have p0 : w9.cell? ⟨w.heap.size + 1, 0, none⟩ = some (.int .i64 x.height) := hV9.cell 0
 have p1 : w9.cell? ⟨w.heap.size + 1, 1, none⟩ = some (.slice bba x.bal.length bbc) := hV9.cell 1
 have p2 : w9.cell? ⟨w.heap.size + 1, 2, none⟩ = some (.int .i64 x.fees) := hV9.cell 2
 have p3 : w9.cell? ⟨w.heap.size + 1, 3, none⟩ = some (.int .i64 x.pool) := hV9.cell 3
 have p4 : w9.cell? ⟨w.heap.size + 1, 4, none⟩ = some (.int .i64 (Ad x.vals)) := hV9.cell 4
 have p5 : w9.cell? ⟨w.heap.size + 1, 5, none⟩ = some (.int .i64 (AI x.vals + B2 x.ents)) := hV9.cell 5
 have p6 : w9.cell? ⟨w.heap.size + 1, 6, none⟩ = some (.slice vva x.vals.length vvc) := hV9.cell 6
 have p7 : w9.cell? ⟨w.heap.size + 1, 7, none⟩ = some (.slice da (Bz x.sh x.vals.length x.bal.length).length dc) := hV9.cell 7
 have r0 : w9.cell? ⟨w.heap.size, 0, none⟩ = some (.int .i64 0) := hR9.cell 0
 have r1 : w9.cell? ⟨w.heap.size, 1, none⟩ = some (.slice none 0 0) := hR9.cell 1
 have r2 : w9.cell? ⟨w.heap.size, 2, none⟩ = some (.int .i64 0) := hR9.cell 2
 have r3 : w9.cell? ⟨w.heap.size, 3, none⟩ = some (.int .i64 0) := hR9.cell 3
 have r4 : w9.cell? ⟨w.heap.size, 4, none⟩ = some (.int .i64 0) := hR9.cell 4
 have r5 : w9.cell? ⟨w.heap.size, 5, none⟩ = some (.int .i64 0) := hR9.cell 5
 have r6 : w9.cell? ⟨w.heap.size, 6, none⟩ = some (.slice none 0 0) := hR9.cell 6
 have r7 : w9.cell? ⟨w.heap.size, 7, none⟩ = some (.slice none 0 0) := hR9.cell 7
 have r8 : w9.cell? ⟨w.heap.size, 8, none⟩ = some (.slice none 0 0) := hR9.cell 8
 have k0 := hR9.frozen 0
 have k1 := hR9.frozen 1
 have k2 := hR9.frozen 2
 have k3 := hR9.frozen 3
 have k4 := hR9.frozen 4
 have k5 := hR9.frozen 5
 have k6 := hR9.frozen 6
 have k7 := hR9.frozen 7
 have k8 := hR9.frozen 8
 go_wp2
 have neB : (Value.slice bba x.bal.length bbc).ownBlock ≠ some w.heap.size := fun h => Has.apart hR9 hBl9 (by decide) h.symm
 have neV : (Value.slice vva x.vals.length vvc).ownBlock ≠ some w.heap.size := fun h => Has.apart hR9 hvr9 (by decide) h.symm
 have zR : Has ((((((((((w9.setCell ⟨w.heap.size + 1, 8, none⟩ (.slice eea x.ents.length eec)).setCell ⟨w.heap.size, 0, none⟩ (.int .i64 x.height)).setCell ⟨w.heap.size, 1, none⟩ (.slice bba x.bal.length bbc)).setCell ⟨w.heap.size, 2, none⟩ (.int .i64 x.fees)).setCell ⟨w.heap.size, 3, none⟩ (.int .i64 x.pool)).setCell ⟨w.heap.size, 4, none⟩ (.int .i64 (Ad x.vals))).setCell ⟨w.heap.size, 5, none⟩ (.int .i64 (AI x.vals + B2 x.ents))).setCell ⟨w.heap.size, 6, none⟩ (.slice vva x.vals.length vvc)).setCell ⟨w.heap.size, 7, none⟩ (.slice da (Bz x.sh x.vals.length x.bal.length).length dc)).setCell ⟨w.heap.size, 8, none⟩ (.slice eea x.ents.length eec)) w.heap.size 89 [.int .i64 x.height, .slice bba x.bal.length bbc, .int .i64 x.fees, .int .i64 x.pool, .int .i64 (Ad x.vals), .int .i64 (AI x.vals + B2 x.ents), .slice vva x.vals.length vvc, .slice da (Bz x.sh x.vals.length x.bal.length).length dc, .slice eea x.ents.length eec] := ((((((((((hR9.other ⟨w.heap.size + 1, 8, none⟩ (.slice eea x.ents.length eec) (by simp)).set 0 (.int .i64 x.height)).set 1 (.slice bba x.bal.length bbc)).set 2 (.int .i64 x.fees)).set 3 (.int .i64 x.pool)).set 4 (.int .i64 (Ad x.vals))).set 5 (.int .i64 (AI x.vals + B2 x.ents))).set 6 (.slice vva x.vals.length vvc)).set 7 (.slice da (Bz x.sh x.vals.length x.bal.length).length dc)).set 8 (.slice eea x.ents.length eec))
 have zb := (Aa (Aa (Aa (Aa (Aa (Aa (Aa (Aa (Aa (Aa hBl9 ⟨w.heap.size + 1, 8, none⟩ (.slice eea x.ents.length eec) hne) ⟨w.heap.size, 0, none⟩ (.int .i64 x.height) neB) ⟨w.heap.size, 1, none⟩ (.slice bba x.bal.length bbc) neB) ⟨w.heap.size, 2, none⟩ (.int .i64 x.fees) neB) ⟨w.heap.size, 3, none⟩ (.int .i64 x.pool) neB) ⟨w.heap.size, 4, none⟩ (.int .i64 (Ad x.vals)) neB) ⟨w.heap.size, 5, none⟩ (.int .i64 (AI x.vals + B2 x.ents)) neB) ⟨w.heap.size, 6, none⟩ (.slice vva x.vals.length vvc) neB) ⟨w.heap.size, 7, none⟩ (.slice da (Bz x.sh x.vals.length x.bal.length).length dc) neB) ⟨w.heap.size, 8, none⟩ (.slice eea x.ents.length eec) neB)
 have zv := (Aa (Aa (Aa (Aa (Aa (Aa (Aa (Aa (Aa (Aa hvr9 ⟨w.heap.size + 1, 8, none⟩ (.slice eea x.ents.length eec) hne5) ⟨w.heap.size, 0, none⟩ (.int .i64 x.height) neV) ⟨w.heap.size, 1, none⟩ (.slice bba x.bal.length bbc) neV) ⟨w.heap.size, 2, none⟩ (.int .i64 x.fees) neV) ⟨w.heap.size, 3, none⟩ (.int .i64 x.pool) neV) ⟨w.heap.size, 4, none⟩ (.int .i64 (Ad x.vals)) neV) ⟨w.heap.size, 5, none⟩ (.int .i64 (AI x.vals + B2 x.ents)) neV) ⟨w.heap.size, 6, none⟩ (.slice vva x.vals.length vvc) neV) ⟨w.heap.size, 7, none⟩ (.slice da (Bz x.sh x.vals.length x.bal.length).length dc) neV) ⟨w.heap.size, 8, none⟩ (.slice eea x.ents.length eec) neV)
 have zd := (Aa (Aa (Aa (Aa (Aa (Aa (Aa (Aa (Aa (Aa hdr9 ⟨w.heap.size + 1, 8, none⟩ (.slice eea x.ents.length eec) hned) ⟨w.heap.size, 0, none⟩ (.int .i64 x.height) hned0) ⟨w.heap.size, 1, none⟩ (.slice bba x.bal.length bbc) hned0) ⟨w.heap.size, 2, none⟩ (.int .i64 x.fees) hned0) ⟨w.heap.size, 3, none⟩ (.int .i64 x.pool) hned0) ⟨w.heap.size, 4, none⟩ (.int .i64 (Ad x.vals)) hned0) ⟨w.heap.size, 5, none⟩ (.int .i64 (AI x.vals + B2 x.ents)) hned0) ⟨w.heap.size, 6, none⟩ (.slice vva x.vals.length vvc) hned0) ⟨w.heap.size, 7, none⟩ (.slice da (Bz x.sh x.vals.length x.bal.length).length dc) hned0) ⟨w.heap.size, 8, none⟩ (.slice eea x.ents.length eec) hned0)
 have ze := (Aa (Aa (Aa (Aa (Aa (Aa (Aa (Aa (Aa (Aa her9 ⟨w.heap.size + 1, 8, none⟩ (.slice eea x.ents.length eec) hne9) ⟨w.heap.size, 0, none⟩ (.int .i64 x.height) hne0) ⟨w.heap.size, 1, none⟩ (.slice bba x.bal.length bbc) hne0) ⟨w.heap.size, 2, none⟩ (.int .i64 x.fees) hne0) ⟨w.heap.size, 3, none⟩ (.int .i64 x.pool) hne0) ⟨w.heap.size, 4, none⟩ (.int .i64 (Ad x.vals)) hne0) ⟨w.heap.size, 5, none⟩ (.int .i64 (AI x.vals + B2 x.ents)) hne0) ⟨w.heap.size, 6, none⟩ (.slice vva x.vals.length vvc) hne0) ⟨w.heap.size, 7, none⟩ (.slice da (Bz x.sh x.vals.length x.bal.length).length dc) hne0) ⟨w.heap.size, 8, none⟩ (.slice eea x.ents.length eec) hne0)
 have zw := ((((((((((hw9.setCell (p := ⟨w.heap.size + 1, 8, none⟩) (by simp) (.slice eea x.ents.length eec)).setCell (p := ⟨w.heap.size, 0, none⟩) (Nat.le_refl _) (.int .i64 x.height)).setCell (p := ⟨w.heap.size, 1, none⟩) (Nat.le_refl _) (.slice bba x.bal.length bbc)).setCell (p := ⟨w.heap.size, 2, none⟩) (Nat.le_refl _) (.int .i64 x.fees)).setCell (p := ⟨w.heap.size, 3, none⟩) (Nat.le_refl _) (.int .i64 x.pool)).setCell (p := ⟨w.heap.size, 4, none⟩) (Nat.le_refl _) (.int .i64 (Ad x.vals))).setCell (p := ⟨w.heap.size, 5, none⟩) (Nat.le_refl _) (.int .i64 (AI x.vals + B2 x.ents))).setCell (p := ⟨w.heap.size, 6, none⟩) (Nat.le_refl _) (.slice vva x.vals.length vvc)).setCell (p := ⟨w.heap.size, 7, none⟩) (Nat.le_refl _) (.slice da (Bz x.sh x.vals.length x.bal.length).length dc)).setCell (p := ⟨w.heap.size, 8, none⟩) (Nat.le_refl _) (.slice eea x.ents.length eec))
 generalize ((((((((((w9.setCell ⟨w.heap.size + 1, 8, none⟩ (.slice eea x.ents.length eec)).setCell ⟨w.heap.size, 0, none⟩ (.int .i64 x.height)).setCell ⟨w.heap.size, 1, none⟩ (.slice bba x.bal.length bbc)).setCell ⟨w.heap.size, 2, none⟩ (.int .i64 x.fees)).setCell ⟨w.heap.size, 3, none⟩ (.int .i64 x.pool)).setCell ⟨w.heap.size, 4, none⟩ (.int .i64 (Ad x.vals))).setCell ⟨w.heap.size, 5, none⟩ (.int .i64 (AI x.vals + B2 x.ents))).setCell ⟨w.heap.size, 6, none⟩ (.slice vva x.vals.length vvc)).setCell ⟨w.heap.size, 7, none⟩ (.slice da (Bz x.sh x.vals.length x.bal.length).length dc)).setCell ⟨w.heap.size, 8, none⟩ (.slice eea x.ents.length eec)) = wF at zR zb zv zd ze zw ⊢
 have z0 : wF.cell? ⟨w.heap.size, 0, none⟩ = some (.int .i64 x.height) := zR.cell 0
 have z1 : wF.cell? ⟨w.heap.size, 1, none⟩ = some (.slice bba x.bal.length bbc) := zR.cell 1
 have z2 : wF.cell? ⟨w.heap.size, 2, none⟩ = some (.int .i64 x.fees) := zR.cell 2
 have z3 : wF.cell? ⟨w.heap.size, 3, none⟩ = some (.int .i64 x.pool) := zR.cell 3
 have z4 : wF.cell? ⟨w.heap.size, 4, none⟩ = some (.int .i64 (Ad x.vals)) := zR.cell 4
 have z5 : wF.cell? ⟨w.heap.size, 5, none⟩ = some (.int .i64 (AI x.vals + B2 x.ents)) := zR.cell 5
 have z6 : wF.cell? ⟨w.heap.size, 6, none⟩ = some (.slice vva x.vals.length vvc) := zR.cell 6
 have z7 : wF.cell? ⟨w.heap.size, 7, none⟩ = some (.slice da (Bz x.sh x.vals.length x.bal.length).length dc) := zR.cell 7
 have z8 : wF.cell? ⟨w.heap.size, 8, none⟩ = some (.slice eea x.ents.length eec) := zR.cell 8
 refine bodyPost_ret (v := .agg #[.int .i64 x.height, .slice bba x.bal.length bbc, .int .i64 x.fees, .int .i64 x.pool, .int .i64 (Ad x.vals), .int .i64 (AI x.vals + B2 x.ents), .slice vva x.vals.length vvc, .slice da (Bz x.sh x.vals.length x.bal.length).length dc, .slice eea x.ents.length eec]) (by simp [results, Tryz.results42, go_sem, z0, z1, z2, z3, z4, z5, z6, z7, z8]) rfl ?_
 exact ⟨_, _, _, _, rfl, zb, zv, ze, zd, zw⟩
def xN (bs os rs : List Int) (top mature fee : Int) : EC := { top := top, mature := mature, fee := fee, height := 0, fees := 0, pool := 0, bal := bs, tab := List.replicate 65 0, vals := vs0 os rs, ents := [] }
theorem JO (l : List Int) : Dd l = AE l := by
 have key : ∀ (l : List Int) (a : Int), l.foldl (· + ·) a = a + AE l := by
  intro l
  induction l with
  | nil => intro a; simp [AE]
  | cons b l ih => intro a; simp only [List.foldl_cons, ih, AE]; omega
 unfold Dd; rw [key]; omega
theorem Rq (os rs : List Int) (j : Nat) (h : rs.length = os.length) (hj : j < os.length) : (vs0 os rs).getD j v0 = ⟨os.getD j 0, rs.getD j 0, 0, 0, 0, 0, false, false⟩ := by
 simp [vs0, List.getD, hj, h]
theorem J4 (os rs : List Int) (f : VS -> Int) (hf : ∀ o r, f ⟨o, r, 0, 0, 0, 0, false, false⟩ = 0) : AT f (vs0 os rs) = 0 := by
 unfold AT vs0
 induction os generalizing rs with
 | nil => simp [AE]
 | cons o os ih =>
  cases rs with
  | nil => simp [AE]
  | cons r rs => simp only [List.zipWith_cons_cons, List.map_cons, AE, hf, ih rs]; rfl
theorem Gr (n i : Nat) : (List.replicate n (0 : Int)).getD i 0 = 0 := by
 simp only [List.getD, List.getElem?_replicate]
 split <;> rfl
theorem QS (h : Bm bs os rs top mature fee) : Bl (xN bs os rs top mature fee) ∧ (xN bs os rs top mature fee).tot = AE bs ∧ (xN bs os rs top mature fee).vals.length = os.length := by
 obtain ⟨⟨g1, g2, g3, g4⟩, ⟨g5, g6, g7, g8, g9⟩, ⟨g10, g11, g12, g13, g14, g15⟩⟩ := h
 have hl : (vs0 os rs).length = os.length := FV os rs g7
 have ht : (xN bs os rs top mature fee).tot = AE bs := by
  show AE bs + 0 + 0 + AT (·.tokens) (vs0 os rs) + AT (·.outs) (vs0 os rs) + AE (List.map (·.amount) ([] : List ES)) = AE bs
  rw [J4 _ _ _ (fun _ _ => rfl), J4 _ _ _ (fun _ _ => rfl)]
  simp [AE]
 have hsh : ∀ k j, (xN bs os rs top mature fee).sh k j = 0 := fun k j => Gr 65 _
 have hpr : ∀ j, (xN bs os rs top mature fee).per j = 0 := fun j => Gr 65 _
 have hup : ∀ k j, (xN bs os rs top mature fee).upto k j = 0 := fun k j => Gr 65 _
 have hv : ∀ j, j < os.length -> (xN bs os rs top mature fee).val j = ⟨os.getD j 0, rs.getD j 0, 0, 0, 0, 0, false, false⟩ := fun j hj => Rq os rs j g7 hj
 refine ⟨⟨g2, by show (vs0 os rs).length <= 5; omega, by simp [xN], g14, g15, g10, g11, g12, g13, Int.le_refl _, by show (0 : Int) <= 1000; omega, Int.le_refl _, by show (0 : Int) <= 1001; omega, fun k hk => ?_, Int.le_refl _, Int.le_refl _, fun j hj => ?_, fun e he => by simp [xN] at he, by rw [ht, <- JO]; exact g4, fun k j _ _ => by rw [hsh]; exact Int.le_refl _, fun j hj => ?_, fun j _ => by rw [hpr]; exact ⟨Int.le_refl _, by show (0 : Int) <= 0 * _; simp⟩, fun k j _ _ => by rw [hup, hpr]; exact ⟨by decide, Int.le_refl _⟩, fun j hj => ?_⟩, ht, hl⟩
 ·have hk' : k < bs.length := hk
  have := g3 k bs[k] hk' (List.getElem?_eq_getElem hk')
  have e : (xN bs os rs top mature fee).balAt k = bs[k] := by simp [xN, EC.balAt, hk']
  rw [e]; exact this.1
 ·have hj' : j < os.length := by rw [<- hl]; exact hj
  rw [hv j hj']
  have hr : j < rs.length := by omega
  have h9 := g9 j rs[j] hr (List.getElem?_eq_getElem hr)
  have e : rs.getD j 0 = rs[j] := by simp [hr]
  rw [e]
  exact ⟨Int.le_refl _, Int.le_refl _, by show (0 : Int) <= 1000000; decide, h9.1, h9.2, Int.le_refl _, Int.le_refl _, fun h => by simp at h, fun _ => rfl, fun _ => rfl⟩
 ·have hj' : j < os.length := by rw [<- hl]; exact hj
  rw [hv j hj']
  simp only [hsh]
  rfl
 ·have hj' : j < os.length := by rw [<- hl]; exact hj
  rw [hv j hj']
  simp only [hsh, Int.zero_mul]
  show (0 : Int) + 0 + 0 + 0 + 0 + 0 <= _
  decide
theorem OI {w w' : World} {e : Ending} (h : OS w w' e bs os rs top mature fee) (hg : Bm bs os rs top mature fee) : ∃ g bv vv, e = .returned (.tuple #[.pointer (some ⟨g, 0, none⟩), .int .i64 0]) ∧ PE (fun k => w.heap.size <= k) w w' g (xN bs os rs top mature fee) bv vv (.slice none 0 0) := by
 obtain ⟨g, bv, vv, rfl, hge, hL, hb, hv, hb4⟩ := h
 have hl : (vs0 os rs).length = os.length := FV os rs hg.2.1.2.2.1
 refine ⟨g, bv, vv, rfl, ⟨Kp.of_below hb4 _, fun k hk => hk, hge, hL, by simp [xN], Aj hb (Nat.zero_le _), ?_, World.ownsRow_nil _ _ _ _, fun k hk => (hb.lt k hk).1, fun k hk => (hv.lt k hk).1, fun k hk => by simp [Value.ownBlock] at hk⟩⟩
 show w'.ownsRow 0 122 8 vv (vs0 os rs).length (A5 (vs0 os rs))
 rw [hl]; exact Aj hv (Nat.zero_le _)
def KA (x : EC) (k a b c d : Int) : Int × EC :=
 if k = 1 then Co x a b c else if k = 2 then Bo x a b else if k = 3 then CG x a b c else if k = 4 then D8 x a b c else if k = 5 then D7 x a b c d else if k = 6 then CL x a b else if k = 7 then CH x a b else if k = 8 then Bw x a b c else if k = 9 then CJ x a b else BZ x
theorem NU (f : VS -> Int) (l : List VS) (k : Nat) (h : k < l.length) : AT f (l.take (k + 1)) = AT f (l.take k) + f l[k] := by
 unfold AT
 rw [List.take_succ_eq_append_getElem h, List.map_append, C2]; simp [AE]
def inI (v : VS) : Int := if v.inset = true then 1 else 0
def Iz (v : VS) : Int := if v.jailed = false ∧ 0 < v.tokens then 1 else 0
theorem Fk (l : List VS) (n : Nat) : ∀ k, k < n -> (l.getD k v0).inset = false -> (l.getD k v0).jailed = false -> (l.getD k v0).tokens <= (Bs l n).2 := by
 induction n with
 | zero => intro k hk; omega
 | succ n ih =>
  intro k hk h1 h2
  unfold Bs
  by_cases e : k = n
  ·subst e
   split
   ·exact Int.le_refl _
   ·rename_i h
    have : ¬ (Bs l k).2 < (l.getD k v0).tokens := fun h3 => h ⟨h1, h2, h3⟩
    omega
  ·have h3 := ih k (by omega) h1 h2
   split
   ·rename_i h; simp only; omega
   ·exact h3
theorem LG (l : List VS) (n : Nat) (h : (Bs l n).1 < 0) : (Bs l n).2 = 0 := by
 induction n with
 | zero => rfl
 | succ n ih =>
  unfold Bs at h ⊢
  split at h
  ·simp only at h; omega
  ·rename_i h2
   rw [if_neg h2]; exact ih h
structure OT (m : List VS) : Prop where
 le : ∀ i k, i < m.length -> k < m.length -> (m.getD i v0).inset = true -> (m.getD k v0).inset = false -> (m.getD k v0).jailed = false -> (m.getD k v0).tokens <= (m.getD i v0).tokens
 ok : ∀ i, i < m.length -> (m.getD i v0).inset = true -> (m.getD i v0).jailed = false ∧ 0 < (m.getD i v0).tokens
theorem G9 {f f' : VS -> Int} {l : List VS} (h : ∀ j, j < l.length -> f (l.getD j v0) = f' (l.getD j v0)) : AT f l = AT f' l := by
 unfold AT
 congr 1
 apply List.ext_getElem?
 intro i
 simp only [List.getElem?_map]
 by_cases hi : i < l.length
 ·have := h i hi
  have e2 : l[i] = l.getD i v0 := by simp [hi]
  rw [List.getElem?_eq_getElem hi, Option.map_some, Option.map_some, e2, this]
 ·rw [List.getElem?_eq_none (by omega)]; rfl
theorem J1 (n : Nat) (m : List VS) (h : OT m) : OT (BY n m) ∧ (BY n m).length = m.length ∧ AT Iz (BY n m) = AT Iz m ∧ AT inI (BY n m) <= AT inI m + n ∧ (AT inI (BY n m) = AT inI m + n ∨ AT inI (BY n m) = AT Iz m) := by
 induction n generalizing m with
 | zero => exact ⟨h, rfl, rfl, by show AT inI m <= _; omega, .inl (by show AT inI m = _; omega)⟩
 | succ n ih =>
  unfold BY
  by_cases hb : (Bs m m.length).1 < 0
  ·rw [if_pos hb]
   refine ⟨h, rfl, rfl, by omega, .inr ?_⟩
   refine G9 (fun j hj => ?_)
   unfold inI Iz
   have hz := LG m m.length hb
   have hmax := Fk m m.length j hj
   by_cases hi : (m.getD j v0).inset = true
   ·rw [if_pos hi, if_pos (h.ok j hj hi)]
   ·rw [if_neg hi]
    have hi' : (m.getD j v0).inset = false := by simpa using hi
    rw [if_neg]
    rintro ⟨h1, h2⟩
    have := hmax hi' h1
    omega
  ·rw [if_neg hb]
   rcases I3 m m.length with hm | ⟨i, h1, h2, h3, h4, h5, h6⟩
   ·rw [hm] at hb; omega
   ·rw [h1, Int.toNat_natCast]
    have hmax := Fk m m.length
    have hat : ∀ j, (m.modify i (fun v => { v with inset := true })).getD j v0 = if j = i then { m.getD i v0 with inset := true } else m.getD j v0 := fun j => AK m i j _ h2
    have hlen : (m.modify i (fun v => { v with inset := true })).length = m.length := by simp
    have hB : OT (m.modify i (fun v => { v with inset := true })) := by
     refine ⟨fun a k ha hk hin hout hj => ?_, fun a ha hin => ?_⟩
     ·rw [hlen] at ha hk
      rw [hat k] at hout hj ⊢
      rw [hat a] at hin ⊢
      by_cases ek : k = i
      ·rw [if_pos ek] at hout; simp at hout
      ·rw [if_neg ek] at hout hj ⊢
       by_cases ea : a = i
       ·rw [if_pos ea]
        have := hmax k hk hout hj
        simp only; omega
       ·rw [if_neg ea] at hin ⊢
        exact h.le a k ha hk hin hout hj
     ·rw [hlen] at ha
      rw [hat a] at hin ⊢
      by_cases ea : a = i
      ·rw [if_pos ea]; exact ⟨h4, by simp only; omega⟩
      ·rw [if_neg ea] at hin ⊢; exact h.ok a ha hin
    obtain ⟨g1, g2, g3, g4, g5⟩ := ih _ hB
    have s1 : AT inI (m.modify i (fun v => { v with inset := true })) = AT inI m + 1 := by
     rw [AY _ _ _ _ h2]
     have e1 : inI (m.getD i v0) = 0 := by unfold inI; rw [if_neg (by rw [h3]; decide)]
     have e2 : inI { m.getD i v0 with inset := true } = 1 := by unfold inI; rw [if_pos rfl]
     rw [e1, e2]; omega
    have s2 : AT Iz (m.modify i (fun v => { v with inset := true })) = AT Iz m := by
     rw [AY _ _ _ _ h2]
     have e2 : Iz { m.getD i v0 with inset := true } = Iz (m.getD i v0) := rfl
     rw [e2]; omega
    rw [s1] at g4 g5
    rw [s2] at g3 g5
    refine ⟨g1, g2.trans hlen, g3, by omega, ?_⟩
    rcases g5 with g5 | g5
    ·left; omega
    ·right; exact g5
theorem NS (l : List VS) : OT (Dw l l.length) ∧ AT inI (Dw l l.length) = 0 := by
 have hat : ∀ j, j < l.length -> (Dw l l.length).getD j v0 = { l.getD j v0 with inset := false } := fun j hj => by rw [J5 l _ j hj, if_pos hj]
 have hl := DF l l.length
 refine ⟨⟨fun i k hi hk hin => ?_, fun i hi hin => ?_⟩, ?_⟩
 ·rw [hl] at hi; rw [hat i hi] at hin; simp at hin
 ·rw [hl] at hi; rw [hat i hi] at hin; simp at hin
 ·have : AT inI (Dw l l.length) = AT (fun _ => 0) (Dw l l.length) := G9 (fun j hj => by
   rw [hl] at hj
   rw [hat j hj]; rfl)
  rw [this]
  unfold AT
  generalize Dw l l.length = m
  induction m with
  | nil => rfl
  | cons a m ih => simp only [List.map_cons, AE, ih]; rfl
theorem Gf (l : List VS) (top : Int) (ht : 0 <= top) : OT (Bc l top) ∧ (Bc l top).length = l.length ∧ AT inI (Bc l top) <= top ∧ (AT inI (Bc l top) = top ∨ AT inI (Bc l top) = AT Iz (Bc l top)) := by
 obtain ⟨h1, h2⟩ := NS l
 obtain ⟨g1, g2, g3, g4, g5⟩ := J1 top.toNat _ h1
 rw [h2] at g4 g5
 unfold Bc
 refine ⟨g1, g2.trans (DF l _), by omega, ?_⟩
 rw [g3]
 rcases g5 with g5 | g5
 ·left; omega
 ·right; exact g5
theorem PT (v : VS) : 0 <= inI v ∧ inI v <= 1 := by unfold inI; split <;> omega
theorem AL (f : VS -> Int) (g : VS -> VS) (l : List VS) (j : Nat) (h : ∀ v, f (g v) <= f v) : AT f (l.modify j g) <= AT f l := by
 by_cases hj : j < l.length
 ·rw [AY f l j g hj]
  have := h (l.getD j v0)
  omega
 ·have e : l.modify j g = l := by
   apply List.ext_getElem?
   intro i
   rw [List.getElem?_modify]
   by_cases ei : j = i
   ·subst ei; rw [List.getElem?_eq_none (by omega)]; rfl
   ·simp [ei]
  rw [e]; exact Int.le_refl _
structure BE (x x' : EC) : Prop where
 bl : x'.bal.length = x.bal.length
 top : x'.top = x.top
 sh : ∀ k j, x.bal.length <= k -> k < 6 -> j < 5 -> x'.sh k j = x.sh k j
 ins : AT inI x'.vals <= AT inI x.vals
theorem BE.refl (x : EC) : BE x x := ⟨rfl, rfl, fun _ _ _ _ _ => rfl, Int.le_refl _⟩
theorem BE.trans {y z : EC} (h : BE x y) (h' : BE y z) : BE x z :=
 ⟨h'.bl.trans h.bl, h'.top.trans h.top, fun k j hk h6 h5 => (h'.sh k j (by rw [h.bl]; exact hk) h6 h5).trans (h.sh k j hk h6 h5), Int.le_trans h'.ins h.ins⟩
theorem B5 {l : List Int} {i n : Nat} {y : Int} (h : i ≠ n) : (l.set i y).getD n 0 = l.getD n 0 := by
 simp only [List.getD]; rw [List.getElem?_set_ne h]
theorem BE.charge (x : EC) (k : Nat) : BE x (Ab x k) := ⟨by simp [Ab], rfl, fun _ _ _ _ _ => rfl, Int.le_refl _⟩
theorem BE.pay (x : EC) (k j : Nat) : BE x (AF x k j) :=
 ⟨by simp [AF], rfl, fun k' j' _ h6 h5 => by simp only [AF, EC.sh]; exact B5 (by omega), AL _ _ _ _ (fun v => Int.le_refl _)⟩
theorem BE.join (x : EC) (k j : Nat) (t : Int) (hk : k < x.bal.length) (hj : j < 5) : BE x (AV x k j t) :=
 (BE.pay x k j).trans ⟨rfl, rfl, fun k' j' hk' h6 h5 => by
  have : k < k' := by simp [AF] at hk'; omega
  simp only [AV, EC.sh]; exact B5 (by omega), by
  simp only [AV]
  exact Int.le_trans (AL _ _ _ _ (fun v => Int.le_refl _)) (AL _ _ _ _ (fun v => Int.le_refl _))⟩
theorem BE.gone (x : EC) (k j : Nat) (n t : Int) (hk : k < x.bal.length) (hj : j < 5) : BE x (AZ x k j n t) :=
 ⟨rfl, rfl, fun k' j' hk' h6 h5 => by simp only [AZ, EC.sh]; exact B5 (by omega), by
  simp only [AZ]
  exact Int.le_trans (AL _ _ _ _ (fun v => Int.le_refl _)) (AL _ _ _ _ (fun v => Int.le_refl _))⟩
theorem BE.clear (x : EC) (j : Nat) : BE x (BQ x j) := ⟨rfl, rfl, fun _ _ _ _ _ => rfl, AL _ _ _ _ (fun v => Int.le_refl _)⟩
theorem BE.leave (x : EC) (k j : Nat) (n : Int) (hk : k < x.bal.length) (hj : j < 5) : BE x (AA x k j n) := by
 have h1 := (BE.pay x k j).trans (BE.gone (AF x k j) k j n (Af (x.val j) n) (by simp [AF]; exact hk) hj)
 unfold AA
 split
 ·exact h1.trans (BE.clear _ _)
 ·exact h1
theorem BE.ent (x : EC) (k j : Nat) (t : Int) : BE x (ER x k j t) := by
 unfold ER
 split
 ·exact BE.refl x
 ·exact ⟨rfl, rfl, fun _ _ _ _ _ => rfl, Int.le_refl _⟩
theorem BE.coll (x : EC) (k j : Nat) : BE x (Ce x k j) :=
 ⟨by simp [Ce], rfl, fun _ _ _ _ _ => rfl, by
  simp only [Ce]
  exact Int.le_trans (AL _ _ _ _ (fun v => Int.le_refl _)) (AL _ _ _ _ (fun v => Int.le_refl _))⟩
theorem QC (v : VS) : inI { v with inset := false } <= inI v := by
 have := (PT v).1
 have e : inI { v with inset := false } = 0 := by unfold inI; rw [if_neg (by simp)]
 omega
theorem BE.slash (x : EC) (j : Nat) (hgt p : Int) : BE x (Bg x j hgt p) :=
 ⟨rfl, rfl, fun _ _ _ _ _ => rfl, by
  simp only [Bg, GW, C9, AJ]
  exact Int.le_trans (AL _ _ _ _ (fun v => QC v)) (Int.le_trans (AL _ _ _ _ (fun v => Int.le_refl _)) (AL _ _ _ _ (fun v => Int.le_refl _)))⟩
theorem BE.out (x : EC) (j : Nat) : BE x (ET x j) := ⟨rfl, rfl, fun _ _ _ _ _ => rfl, AL _ _ _ _ (fun v => Int.le_refl _)⟩
theorem BE.take (x : EC) (j : Nat) (a : Int) : BE x (AH x j a) := by
 have h1 : BE x { x with vals := (x.vals.modify j (fun v => { v with comm := v.comm + a * (x.val j).rate / 100 })).modify j (fun v => { v with outs := v.outs + a }) } :=
  ⟨rfl, rfl, fun _ _ _ _ _ => rfl, Int.le_trans (AL _ _ _ _ (fun v => Int.le_refl _)) (AL _ _ _ _ (fun v => Int.le_refl _))⟩
 refine h1.trans ?_
 unfold AH A7
 split
 ·exact BE.refl _
 ·exact ⟨rfl, rfl, fun k' j' _ h6 h5 => by simp only [EC.sh]; exact B5 (by omega), Int.le_refl _⟩
theorem BE.loop (x : EC) (f b : Int) (k : Nat) : BE x (Am x f b k).1 := by
 induction k with
 | zero => exact BE.refl x
 | succ k ih =>
  unfold Am
  split
  ·exact ih.trans (BE.take _ _ _)
  ·exact ih
structure DK (x : EC) : Prop where
 ins : AT inI x.vals <= x.top
 sh : ∀ k j, x.bal.length <= k -> k < 6 -> j < 5 -> x.sh k j = 0
theorem DK.keep {x' : EC} (h : DK x) (k : BE x x') : DK x' :=
 ⟨by rw [k.top]; exact Int.le_trans k.ins h.ins, fun a b ha h6 h5 => by rw [k.bl] at ha; rw [k.sh a b ha h6 h5]; exact h.sh a b ha h6 h5⟩
theorem DK.block (h : DK x) (ok : Bl x) : DK (BZ x).2 := by
 have okx : Ok x.height x := ok
 have k1 := BE.loop x x.fees (Ad x.vals) x.vals.length
 unfold BZ
 split
 ·exact h
 ·have k2 : BE x (Ba (upF x)) := k1.trans ⟨Cz _ _, rfl, fun _ _ _ _ _ => rfl, Int.le_refl _⟩
  have h2 := h.keep k2
  have ht : 0 <= (Ba (upF x)).top := by rw [k2.top]; have := okx.top0; omega
  exact ⟨(Gf _ _ ht).2.2.1, h2.sh⟩
theorem BK {P : EC -> Prop} {who : Int} {err : EC -> Nat -> Int} {act : EC -> Nat -> EC} (h0 : P x) (h1 : ∀ k : Nat, k < x.bal.length -> P (Ab x k)) (h2 : ∀ k : Nat, k < x.bal.length -> err (Ab x k) k = 0 -> P (act (Ab x k) k)) : P (Gc x who err act).2 := by
 by_cases hc : Az x who = 0
 ·obtain ⟨k, rfl, hk, _⟩ := Cs hc
  by_cases he : err (Ab x k) k = 0
  ·rw [B8 hc he]; exact h2 k hk he
  ·rw [AP hc he]; exact h1 k hk
 ·rw [Bq hc]; exact h0
theorem DK.does (h : DK x) (ok : Bl x) (k a b c d : Int) : DK (KA x k a b c d).2 := by
 have okx : Ok x.height x := ok
 have v5 := okx.v5
 have hch : ∀ k : Nat, k < x.bal.length -> DK (Ab x k) := fun k _ => h.keep (BE.charge x k)
 have hl : ∀ k : Nat, (Ab x k).bal.length = x.bal.length := fun k => (BE.charge x k).bl
 have hvl : ∀ k : Nat, (Ab x k).vals.length = x.vals.length := fun k => rfl
 unfold KA
 split
 ·refine BK h hch (fun k hk he => (hch k hk).keep ⟨by simp [Ec], rfl, fun _ _ _ _ _ => rfl, Int.le_refl _⟩)
 split
 ·unfold Bo
  split
  ·exact h
  ·exact h.keep ⟨by simp, rfl, fun _ _ _ _ _ => rfl, Int.le_refl _⟩
 split
 ·refine BK h hch (fun k hk he => ?_)
  obtain ⟨j, rfl, hj, _⟩ := EY he
  have hkb : BE (Ab x k) { Ab x k with bal := (Ab x k).bal.set k ((Ab x k).balAt k - c) } := ⟨by simp, rfl, fun _ _ _ _ _ => rfl, Int.le_refl _⟩
  refine (hch k hk).keep (hkb.trans (BE.join _ k _ c ?_ ?_))
  ·simp only [List.length_set]; rw [hl]; exact hk
  ·rw [Int.toNat_natCast]; have := hvl k; omega
 split
 ·refine BK h hch (fun k hk he => ?_)
  obtain ⟨j, rfl, hj, _⟩ := FY he
  refine (hch k hk).keep ((BE.leave _ k _ c ?_ ?_).trans (BE.ent _ _ _ _))
  ·rw [hl]; exact hk
  ·rw [Int.toNat_natCast]; have := hvl k; omega
 split
 ·refine BK h hch (fun k hk he => ?_)
  obtain ⟨j, t, rfl, rfl, hj, ht, _⟩ := F6 he
  have k1 := BE.leave (Ab x k) k (Int.toNat (j : Int)) d (by rw [hl]; exact hk) (by rw [Int.toNat_natCast]; have := hvl k; omega)
  refine (hch k hk).keep (k1.trans (BE.join _ k _ _ ?_ ?_))
  ·rw [k1.bl, hl]; exact hk
  ·rw [Int.toNat_natCast]; have := hvl k; omega
 split
 ·exact BK h hch (fun k hk he => (hch k hk).keep (BE.pay _ _ _))
 split
 ·exact BK h hch (fun k hk he => (hch k hk).keep (BE.coll _ _ _))
 split
 ·unfold Bw
  split
  ·exact h
  ·exact h.keep (BE.slash _ _ _ _)
 split
 ·exact BK h hch (fun k hk he => (hch k hk).keep (BE.out _ _))
 ·exact h.block ok
theorem Rs (h : Bm bs os rs top mature fee) : DK (xN bs os rs top mature fee) := by
 refine ⟨?_, fun k j _ _ _ => Gr 65 _⟩
 have e : AT inI (xN bs os rs top mature fee).vals = 0 := J4 os rs inI (fun o r => by unfold inI; rw [if_neg (by simp)])
 rw [e]
 have := h.2.2.1
 show 0 <= top
 omega
def BJ (f : Nat -> Int) : Nat -> Int
 | 0 => 0
 | n + 1 => BJ f n + f n
theorem Oy (f : Nat -> Int) : BJ f 6 = Eh f := by simp [BJ, Eh]
theorem D6 {f' : Nat -> Int} (n : Nat) (h : ∀ k, k < n -> f' k = f k) : BJ f' n = BJ f n := by
 induction n with
 | zero => rfl
 | succ n ih => simp only [BJ]; rw [ih (fun k hk => h k (by omega)), h n (by omega)]
theorem GI (n d : Nat) (h : ∀ k, n <= k -> k < n + d -> f k = 0) : BJ f (n + d) = BJ f n := by
 induction d with
 | zero => rfl
 | succ d ih =>
  show BJ f (n + d) + f (n + d) = _
  rw [ih (fun k h1 h2 => h k h1 (by omega)), h (n + d) (by omega) (by omega)]; omega
theorem NQ (n d : Nat) (h : ∀ k, n <= k -> k < n + d -> 0 <= f k) : BJ f n <= BJ f (n + d) := by
 induction d with
 | zero => exact Int.le_refl _
 | succ d ih =>
  have h1 := ih (fun k h1 h2 => h k h1 (by omega))
  have h2 := h (n + d) (by omega) (by omega)
  show _ <= BJ f (n + d) + f (n + d)
  omega
theorem RO {g : Nat -> Int} (c : Int) (n : Nat) (h : ∀ k, k < n -> c * f k <= g k) : c * BJ f n <= BJ g n := by
 induction n with
 | zero => simp [BJ]
 | succ n ih =>
  have h1 := ih (fun k hk => h k (by omega))
  have h2 := h n (by omega)
  simp only [BJ]
  rw [Int.mul_add]; omega
theorem Lh (s : Nat -> Nat -> Int) (who n : Nat) (d : DS) (h : d ∈ CQ s who n) : ∃ j : Nat, j < n ∧ d = ⟨who, j, s who j⟩ ∧ 0 < s who j := by
 induction n with
 | zero => simp [CQ] at h
 | succ n ih =>
  unfold CQ at h
  split at h
  ·rename_i h0
   rw [List.mem_append] at h
   rcases h with h | h
   ·obtain ⟨j, h1, h2⟩ := ih h; exact ⟨j, by omega, h2⟩
   ·simp only [List.mem_singleton] at h; exact ⟨n, by omega, h, h0⟩
  ·obtain ⟨j, h1, h2⟩ := ih h; exact ⟨j, by omega, h2⟩
theorem KR (s : Nat -> Nat -> Int) (nv n : Nat) (d : DS) (h : d ∈ Bz s nv n) : ∃ k j : Nat, k < n ∧ j < nv ∧ d = ⟨k, j, s k j⟩ ∧ 0 < s k j := by
 induction n with
 | zero => simp [Bz] at h
 | succ n ih =>
  unfold Bz at h
  rw [List.mem_append] at h
  rcases h with h | h
  ·obtain ⟨k, j, h1, h2⟩ := ih h; exact ⟨k, j, by omega, h2⟩
  ·obtain ⟨j, h1, h2⟩ := Lh s n nv d h; exact ⟨n, j, by omega, h1, h2⟩
def dels (x : EC) : List DS := Bz x.sh x.vals.length x.bal.length
section
variable {H : Int} {x : EC}
end
end Go.Proofs.YtohjjgefklhmaaaGreatDoor
