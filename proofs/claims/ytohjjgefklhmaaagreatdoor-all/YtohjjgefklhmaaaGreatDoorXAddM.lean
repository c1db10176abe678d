import Derived.Test.YtohjjgefklhmaaaGreatDoorXTxtM
import Derived.Lib.AppendStr
import Derived.Lib.ItoaMem
import Derived.Lib.ItoaLen
import Derived.Laws.IdiomStrings
namespace Go.Proofs.YtohjjgefklhmaaaGreatDoor
open Go.ChangeShapes Go.WideShapes Go.ChangeAt Go.RowKit
set_option linter.unusedVariables false
set_option maxHeartbeats 40000000
set_option maxRecDepth 100000
variable {B gw : Nat} {w W0 w' a b : World} {tv : Value} {bs : List UInt8} {ns : List Int}
def BU (B : Nat) (w : World) : Prop := ∀ w', Below B w w' -> ∀ n : Int, -9223372036854775808 <= n -> n <= 9223372036854775807 ->
 Calls Tryz.prog 143 #[.int .i64 n] w' fun e w'' => e = .returned (.string ⟨(Lib.itoa n).toArray⟩) ∧ Below w'.heap.size w' w''
theorem BU.on {w1 : World} (h : BU B w) (hb : Below B w w1) : BU B w1 := fun w' h' => h w' (hb.trans h')
def DJ (bs : List UInt8) : List Value := bs.map fun b => Value.int .u8 (b.toNat : Int)
structure WR (W0 w : World) (gw : Nat) (tv : Value) (bs : List UInt8) : Prop where
 fr : Below W0.heap.size W0 w
 hg : W0.heap.size <= gw
 L : Has w gw 75 [tv]
 t : w.ownsRow W0.heap.size 5 1 tv bs.length (DJ bs)
theorem WR.below (h : WR W0 w gw tv bs) (hb : Below w.heap.size w w') : WR W0 w' gw tv bs :=
 ⟨h.fr.trans (hb.mono h.fr.size), h.hg, h.L.below hb h.L.lt, Ar h.t hb (Nat.le_refl _)⟩
theorem WR.alloc (h : WR W0 w gw tv bs) (o : Obj) : WR W0 (w.alloc o) gw tv bs := h.below ((Below.refl _ _).alloc (Nat.le_refl _) o)
def KT (w w' : World) : Prop := ∀ b e L, Has w b e L -> e ≠ 75 -> e ≠ 5 -> Has w' b e L
theorem KT.trans {c : World} (h : KT a b) (k : KT b c) : KT a c := fun n e L h1 h2 h3 => k n e L (h n e L h1 h2 h3) h2 h3
theorem KT.below (h : Below a.heap.size a b) : KT a b := fun n e L h1 h2 h3 => h1.below h h1.lt
theorem WR.put {tv' : Value} {bs' : List UInt8} (h : WR W0 w gw tv bs) (hg : w.grownBy w' tv.ownBlock) (hown : w'.ownsRow W0.heap.size 5 1 tv' (bs.length + bs'.length) (DJ bs ++ DJ bs')) :
  Has w' gw 75 [tv] ∧ WR W0 (w'.setCell ⟨gw, 0, none⟩ tv') gw tv' (bs ++ bs') ∧ KT w (w'.setCell ⟨gw, 0, none⟩ tv') := by
 have hL := Ao hg h.L (Has.apart h.L h.t (by decide))
 have hb : ∀ k, tv.ownBlock = some k -> W0.heap.size <= k := fun k hk => (h.t.lt k hk).1
 have hfr := h.fr.grown hg h.fr.size hb
 refine ⟨hL, ⟨hfr.setCell h.hg _, h.hg, hL.set 0 tv', ?_⟩, fun b e' L' h1 h2 h3 => (Ao hg h1 (Has.apart h1 h.t h3)).other _ _ (fun eb => h2 (by
  have h4 := h.L
  unfold Has at h1 h4
  rw [eb] at h1
  rw [h1] at h4
  simp only [Option.some.injEq, Obj.cells.injEq] at h4
  exact h4.2.1))⟩
 have e : DJ (bs ++ bs') = DJ bs ++ DJ bs' := by simp [DJ]
 rw [e, List.length_append]
 exact Aa hown _ _ (fun e => Has.apart hL hown (by decide) e.symm)
theorem Q5 : (Tryz.prog.info? 5).map (fun i => (i.zero, i.size, i.bytes)) = some (some (.int .u8 0), 1, 1) := by kernel_rfl
theorem wadd (h : WR W0 w gw tv bs) (hI : BU B W0) (hB : B <= W0.heap.size) (n : Int) (h0 : -9223372036854775808 <= n) (h1 : n <= 9223372036854775807) (hl : bs.length <= 1000000) :
  Calls Tryz.prog 86 #[.pointer (some ⟨gw, 0, none⟩), .int .i64 n] w fun e w' => e = .returned (.tuple #[]) ∧ (∃ tv', WR W0 w' gw tv' (bs ++ (Lib.itoa n ++ [32]))) ∧ KT w w' := by
 have HI : Hid (Calls Tryz.prog 143 #[.int .i64 n] w fun e w'' => e = .returned (.string ⟨(Lib.itoa n).toArray⟩) ∧ Below w.heap.size w w'') := hI w (h.fr.mono hB) n h0 h1
 obtain ⟨ta, tc, rfl⟩ := Ac h.t
 have HP := Hd h
 obtain ⟨i5, hi5, hz50, hz51, hz52⟩ := info_parts Q5
 clear h hI
 go_enter Tryz.func86, Tryz.ntmps86
 go_wp2_with fail
 refine HI.out.mono ?_
 rintro e w1 ⟨rfl, hb⟩
 have HP1 : Hid (WR W0 w1 gw (.slice ta bs.length tc) bs) := HP.out.below hb
 have HK1 : Hid (KT w w1) := KT.below hb
 clear hb HI HP
 have c0 : w1.cell? ⟨gw, 0, none⟩ = some (.slice ta bs.length tc) := HP1.out.L.cell 0
 have hil := Lib.itoa_length_le n h0 h1
 have hsz : (⟨(Lib.itoa n).toArray⟩ : ByteArray).size = (Lib.itoa n).length := by simp [ByteArray.size]
 have hsc : Lib.strCells ⟨(Lib.itoa n).toArray⟩ = DJ (Lib.itoa n) := by simp [Lib.strCells, DJ]
 have b1 : bs.length + (⟨(Lib.itoa n).toArray⟩ : ByteArray).size <= maxLen := by rw [hsz]; simp only [maxLen]; omega
 have b2 : bs.length + (⟨(Lib.itoa n).toArray⟩ : ByteArray).size <= 140737488355328 := by rw [hsz]; omega
 obtain ⟨sd, hsd⟩ : ∃ sd : ByteArray, sd = ⟨(Lib.itoa n).toArray⟩ := ⟨_, rfl⟩
 rw [<- hsd] at hsz hsc b1 b2 ⊢
 have HSZ := Hd hsz
 have HSC := Hd hsc
 clear hsz hsc hsd
 have g0 := HP1.out.L.lt
 go_wp2_with (first | (at_builtin; refine Lib.wpList_append_own_string _ rfl (.tmp 11) (.tmp 12) 63 9 rfl W0.heap.size 5 i5 Tryz.underlying63 Tryz.underlying9 hi5 hz50 hz51 hz52 (.slice ta bs.length tc) bs.length (DJ bs) (by first | rfl | simp [Act.eval]) HP1.out.t sd (by first | rfl | simp [Act.eval]) b1 b2 HP1.out.fr.size ?_; intro v2 w2 hown2 hgrow2 hnil2; rw [HSZ.out, HSC.out] at hown2; obtain ⟨ta2, tc2, rfl⟩ := Ac hown2; obtain ⟨hL2, hW2, hK2⟩ := HP1.out.put hgrow2 hown2; have HK2 : Hid (KT w (w2.setCell ⟨gw, 0, none⟩ (.slice ta2 (bs.length + (Lib.itoa n).length) tc2))) := HK1.out.trans hK2; have c2 : w2.cell? ⟨gw, 0, none⟩ = some (.slice ta bs.length tc) := hL2.cell 0; have f2 := hL2.frozen 0; have g2 := hL2.lt; have HW2 := Hd hW2; clear hown2 hgrow2 hnil2 hL2 hW2 HP1 c0 hK2 HK1) | (at_builtin; go_loud (refine Ak rfl (.tmp 20) (.tmp 21) 63 rfl 5 i5 _ 1 1 Tryz.underlying63 hi5 hz50 hz51 hz52 rfl (by decide) W0.heap.size (.slice ta2 (bs.length + (Lib.itoa n).length) tc2) (bs.length + (Lib.itoa n).length) (DJ (bs ++ Lib.itoa n)) rfl (by have := (HW2.out.alloc (.cells #[.int .u8 32] 5)).t; rw [List.length_append] at this; exact this) (HW2.out.alloc (.cells #[.int .u8 32] 5)).fr.size ⟨_, 0, none⟩ 1 1 [.int .u8 32] rfl rfl (Ap _ [.int .u8 32] _ _ (by simp)) (by simp [Value.oneCell']) (by decide) (by simp only [maxLen]; omega) (by omega) ?_); intro g5 cap5 v5 hown5 hgrow5 hor5 hold5; obtain ⟨hL5, hW5, hK5⟩ := (HW2.out.alloc _).put (bs' := [32]) hgrow5 (by rw [List.length_append]; exact hown5); have c5 : v5.cell? ⟨gw, 0, none⟩ = some (.slice ta2 (bs.length + (Lib.itoa n).length) tc2) := hL5.cell 0; have f5 := hL5.frozen 0; have HW5 : Hid _ := hW5; have HK5 : Hid (KT w (v5.setCell ⟨gw, 0, none⟩ (.slice (some ⟨g5, 0, none⟩) (bs.length + (Lib.itoa n).length + 1) cap5))) := KT.trans (KT.trans HK2.out (KT.below ((Below.refl _ _).alloc (Nat.le_refl _) _))) hK5; clear hK5 hown5 hgrow5 hor5 hold5 hL5 hW5))
 go_end0
 have := HW5.out
 rw [List.append_assoc] at this
 exact ⟨rfl, ⟨_, this⟩, HK5.out⟩
def NB (ns : List Int) : Prop := ∀ n, n ∈ ns -> 0 <= n ∧ n <= 1073741824000000
def WS (W0 w : World) (gw : Nat) (ns : List Int) : Prop := NB ns ∧ ∃ tv, WR W0 w gw tv (txt ns)
theorem Ir (h : WS W0 w gw ns) (hI : BU B W0) (hB : B <= W0.heap.size) (n : Int) (h0 : 0 <= n) (h1 : n <= 1073741824000000) (hl : ns.length <= 10000) :
  Calls Tryz.prog 86 #[.pointer (some ⟨gw, 0, none⟩), .int .i64 n] w fun e w' => e = .returned (.tuple #[]) ∧ WS W0 w' gw (ns ++ [n]) ∧ KT w w' := by
 obtain ⟨hb, tv, hw⟩ := h
 have hlen : (txt ns).length <= 22 * ns.length := Ek ns 22 (fun n hn => by have := hb n hn; exact LI n (by omega) (by omega))
 refine (wadd hw hI hB n (by omega) (by omega) (by omega)).mono ?_
 rintro e w' ⟨rfl, ⟨tv', h'⟩, hk⟩
 refine ⟨rfl, ⟨fun m hm => ?_, tv', ?_⟩, hk⟩
 ·simp only [List.mem_append, List.mem_singleton] at hm
  rcases hm with hm | rfl
  ·exact hb m hm
  ·exact ⟨h0, h1⟩
 ·rw [O8]; exact h'
theorem WS.below (h : WS W0 w gw ns) (hb : Below w.heap.size w w') : WS W0 w' gw ns := by
 obtain ⟨a, tv, b⟩ := h; exact ⟨a, tv, b.below hb⟩
theorem WS.alloc (h : WS W0 w gw ns) (o : Obj) : WS W0 (w.alloc o) gw ns := h.below ((Below.refl _ _).alloc (Nat.le_refl _) o)
theorem WS.fr (h : WS W0 w gw ns) : Below W0.heap.size W0 w := by obtain ⟨a, tv, b⟩ := h; exact b.fr
section
variable {S : Nat -> Prop} {Wb W0 : World} (g : Nat) (x : EC) (bv vv ev : Value) (h : PE S Wb W0 g x bv vv ev) (B : Nat) (hI : BU B W0) (hB : B <= W0.heap.size) (gw : Nat)
include h hI hB
theorem RQ (w : World) (ns : List Int) (hw : WS W0 w gw ns) (hl : ns.length <= 5000) (h1 : 0 <= x.height ∧ x.height <= 1000000) (h2 : 0 <= x.fees ∧ x.fees <= 1000000) (h3 : 0 <= x.pool ∧ x.pool <= 1000000) :
  Calls Tryz.prog 38 #[.pointer (some ⟨g, 0, none⟩), .pointer (some ⟨gw, 0, none⟩)] w fun e w' => e = .returned (.tuple #[]) ∧ WS W0 w' gw (ns ++ [x.height, x.fees, x.pool]) := by
 have HA : Hid (∀ (w : World) (ns : List Int) (n : Int), WS W0 w gw ns -> 0 <= n -> n <= 1073741824000000 -> ns.length <= 10000 -> Calls Tryz.prog 86 #[.pointer (some ⟨gw, 0, none⟩), .int .i64 n] w fun e w' => e = .returned (.tuple #[]) ∧ WS W0 w' gw (ns ++ [n])) := fun w ns n a b c d => (Ir a hI hB n b c d).mono (fun _ _ h => ⟨h.1, h.2.1⟩)
 have HC : Hid (∀ w, WS W0 w gw ns ∨ True -> Below W0.heap.size W0 w -> w.cell? ⟨g, 3, none⟩ = some (.int .i64 x.height) ∧ w.cell? ⟨g, 5, none⟩ = some (.int .i64 x.fees) ∧ w.cell? ⟨g, 6, none⟩ = some (.int .i64 x.pool)) := fun w _ hb => ⟨(h.below hb).L.cell 3, (h.below hb).L.cell 5, (h.below hb).L.cell 6⟩
 obtain ⟨c3, c5, c6⟩ := HC.out w (.inr trivial) hw.fr
 have HW := Hd hw
 clear h hI hw
 go_enter Tryz.func38, Tryz.ntmps38
 go_wp2_with fail
 refine (HA.out _ ns x.height HW.out h1.1 (by omega) (by omega)).mono ?_
 rintro e w1 ⟨rfl, hw1⟩
 obtain ⟨d3, d5, d6⟩ := HC.out w1 (.inr trivial) hw1.fr
 have HW1 := Hd hw1
 clear hw1 c3 c5 c6 HW
 go_wp2_with fail
 refine (HA.out _ _ x.fees HW1.out h2.1 (by omega) (by simp only [List.length_append, List.length_singleton]; omega)).mono ?_
 rintro e w2 ⟨rfl, hw2⟩
 obtain ⟨e3, e5, e6⟩ := HC.out w2 (.inr trivial) hw2.fr
 have HW2 := Hd hw2
 clear hw2 d3 d5 d6 HW1
 go_wp2_with fail
 refine (HA.out _ _ x.pool HW2.out h3.1 (by omega) (by simp only [List.length_append, List.length_singleton]; omega)).mono ?_
 rintro e w3 ⟨rfl, hw3⟩
 have HW3 := Hd hw3
 clear hw3
 go_wp2
 go_end0
 have := HW3.out
 simp only [List.append_assoc, List.cons_append, List.nil_append] at this
 exact ⟨rfl, this⟩
theorem Ol (w : World) (hw : WS W0 w gw []) (b6 : x.bal.length <= 6) (v5 : x.vals.length <= 5) (hb : NB x.bal) (ho : NB (x.vals.map (fun v => v.owner))) (hr : NB (x.vals.map (fun v => v.rate))) (h1 : 0 <= x.top ∧ x.top <= 1000000) (h2 : 0 <= x.mature ∧ x.mature <= 1000000) (h3 : 0 <= x.fee ∧ x.fee <= 1000000) :
  Calls Tryz.prog 37 #[.pointer (some ⟨g, 0, none⟩), .pointer (some ⟨gw, 0, none⟩)] w fun e w' => e = .returned (.tuple #[]) ∧ WS W0 w' gw (Es x) := by
 have HA : Hid (∀ (w : World) (ns : List Int) (n : Int), WS W0 w gw ns -> 0 <= n -> n <= 1073741824000000 -> ns.length <= 10000 -> Calls Tryz.prog 86 #[.pointer (some ⟨gw, 0, none⟩), .int .i64 n] w fun e w' => e = .returned (.tuple #[]) ∧ WS W0 w' gw (ns ++ [n])) := fun w ns n a b c d => (Ir a hI hB n b c d).mono (fun _ _ h => ⟨h.1, h.2.1⟩)
 obtain ⟨ba, bc, rfl⟩ := Ac h.b
 obtain ⟨va, vc, rfl⟩ := Ac h.v
 have HC : Hid (∀ w, Below W0.heap.size W0 w -> w.cell? ⟨g, 4, none⟩ = some (.slice ba x.bal.length bc) ∧ w.cell? ⟨g, 7, none⟩ = some (.slice va x.vals.length vc)) := fun w hb => ⟨(h.below hb).L.cell 4, (h.below hb).L.cell 7⟩
 have HP := Hd h
 obtain ⟨c4, c7⟩ := HC.out w hw.fr
 have HW := Hd hw
 clear h hI hw
 go_enter Tryz.func37, Tryz.ntmps37
 go_wp2_with fail
 refine (HA.out _ [] x.bal.length HW.out (by omega) (by omega) (by simp)).mono ?_
 rintro e w1 ⟨rfl, hw1⟩
 obtain ⟨d4, d7⟩ := HC.out w1 hw1.fr
 have HW1 := Hd hw1
 clear hw1 c4 c7 HW
 go_wp2
 go_loopw [22] (fun i wr => ∃ k : Nat, k <= x.bal.length ∧ i = .int .i64 k ∧ WS W0 wr gw ([(x.bal.length : Int)] ++ x.bal.take k)) (fun i _ => x.bal.length - (intOf i).toNat)
 case atStart => exact ⟨0, Nat.zero_le _, rfl, by rw [List.take_zero, List.append_nil]; exact HW1.out⟩
 case round =>
  obtain ⟨k, hk, rfl, hwr⟩ := hrel
  have hP := HP.out.below hwr.fr
  by_cases hlt : k < x.bal.length
  ·obtain ⟨gb, rfl, _⟩ := Ag hP.b (by omega)
   have cb := hP.balAt' hlt
   have hbk := hb (x.balAt k) (by simp [EC.balAt, hlt])
   have ht0 : x.bal.take (k + 1) = x.bal.take k ++ [x.balAt k] := by rw [List.take_succ_eq_append_getElem hlt]; simp [EC.balAt, hlt]
   have HT := Hd ht0
   clear ht0
   have hl1 : ([(x.bal.length : Int)] ++ x.bal.take k).length <= 10000 := by simp; omega
   have HWR := Hd hwr
   clear hP hwr HP HC
   generalize x.balAt k = bk at *
   go_wp2_with fail
   refine (HA.out _ _ bk HWR.out hbk.1 hbk.2 hl1).mono ?_
   rintro e w2 ⟨rfl, hw2⟩
   rw [List.append_assoc, <- HT.out] at hw2
   have HW2 := Hd hw2
   clear hw2 HWR HT
   go_wp2
   refine And.intro ?_ ?_
   ·first | exact ⟨k + 1, by omega, by go_num, HW2.out⟩ | ((repeat apply Exists.intro); exact ⟨⟨k + 1, by omega, by go_num, HW2.out⟩, rfl⟩)
   ·simp [intOf]; omega
  ·have hke : k = x.bal.length := by omega
   subst hke
   rw [List.take_length] at hwr
   obtain ⟨e4, e7⟩ := HC.out wr hwr.fr
   have HWR := Hd hwr
   clear hP hwr HW1
   go_wp2_with fail
   refine (HA.out _ _ x.vals.length HWR.out (by omega) (by omega) (by simp; omega)).mono ?_
   rintro e w3 ⟨rfl, hw3⟩
   obtain ⟨f4, f7⟩ := HC.out w3 hw3.fr
   have HW3 := Hd hw3
   clear hw3 HWR e4 e7 d4 d7
   go_wp2
   go_loopw [42] (fun i wr => ∃ k : Nat, k <= x.vals.length ∧ i = .int .i64 k ∧ WS W0 wr gw ([(x.bal.length : Int)] ++ x.bal ++ [(x.vals.length : Int)] ++ (x.vals.map (fun v => v.owner)).take k)) (fun i _ => x.vals.length - (intOf i).toNat)
   case atStart => exact ⟨0, Nat.zero_le _, rfl, by rw [List.take_zero, List.append_nil]; exact HW3.out⟩
   case round =>
    obtain ⟨k, hk, rfl, hwr⟩ := hrel
    have hP := HP.out.below hwr.fr
    by_cases hlt : k < x.vals.length
    ·obtain ⟨gv, rfl, hcell, hfr⟩ := hP.val8 rfl hlt
     have y0 := hcell 0 (by omega)
     have y1 := hcell 1 (by omega)
     have y2 := hcell 2 (by omega)
     have y3 := hcell 3 (by omega)
     have y4 := hcell 4 (by omega)
     have y5 := hcell 5 (by omega)
     have y6 := hcell 6 (by omega)
     have y7 := hcell 7 (by omega)
     rw [Nat.add_zero] at y0
     have hbk := ho x.vals[k].owner (List.mem_map_of_mem (List.getElem_mem hlt))
     have ht0 : (x.vals.map (fun v => v.owner)).take (k + 1) = (x.vals.map (fun v => v.owner)).take k ++ [x.vals[k].owner] := by rw [List.take_succ_eq_append_getElem (by simpa using hlt)]; simp
     have HT := Hd ht0
     have hl1 : ([(x.bal.length : Int)] ++ x.bal ++ [(x.vals.length : Int)] ++ (x.vals.map (fun v => v.owner)).take k).length <= 10000 := by simp; omega
     have HWR : Hid (∀ o, WS W0 (wr.alloc o) gw ([(x.bal.length : Int)] ++ x.bal ++ [(x.vals.length : Int)] ++ (x.vals.map (fun v => v.owner)).take k)) := fun o => hwr.alloc o
     clear hP hwr HP HC ht0 hcell hfr
     generalize x.vals[k] = vk at *
     obtain ⟨v1, v2, v3, v4, v5', v6, v7, v8⟩ := vk
     simp only [VS.cells, List.getElem?_cons_zero, List.getElem?_cons_succ] at y0 y1 y2 y3 y4 y5 y6 y7
     dsimp only at hbk HT
     go_wp2_with fail
     refine (HA.out _ _ _ (HWR.out _) hbk.1 hbk.2 hl1).mono ?_
     rintro e w5 ⟨rfl, hw5⟩
     rw [List.append_assoc, <- HT.out] at hw5
     have HW5 := Hd hw5
     clear hw5 HWR HT
     go_wp2
     refine And.intro ?_ ?_
     ·first | exact ⟨k + 1, by omega, by go_num, HW5.out⟩ | ((repeat apply Exists.intro); exact ⟨⟨k + 1, by omega, by go_num, HW5.out⟩, rfl⟩)
     ·simp [intOf]; omega
    ·have hke : k = x.vals.length := by omega
     subst hke
     rw [List.take_of_length_le (by simp)] at hwr
     obtain ⟨e4, e7⟩ := HC.out wr hwr.fr
     have HWR := Hd hwr
     have hPw := Hd hwr.fr
     clear hP hwr HW3
     go_wp2_with fail
     refine (HA.out _ _ x.vals.length HWR.out (by omega) (by omega) (by simp; omega)).mono ?_
     rintro e w6 ⟨rfl, hw6⟩
     obtain ⟨k4, k7⟩ := HC.out w6 hw6.fr
     have HW6 := Hd hw6
     clear hw6 HWR e4 e7 f4 f7 hPw
     go_wp2
     go_loopw [63] (fun i wr => ∃ k : Nat, k <= x.vals.length ∧ i = .int .i64 k ∧ WS W0 wr gw ([(x.bal.length : Int)] ++ x.bal ++ [(x.vals.length : Int)] ++ x.vals.map (fun v => v.owner) ++ [(x.vals.length : Int)] ++ (x.vals.map (fun v => v.rate)).take k)) (fun i _ => x.vals.length - (intOf i).toNat)
     case atStart => exact ⟨0, Nat.zero_le _, rfl, by rw [List.take_zero, List.append_nil]; exact HW6.out⟩
     case round =>
      obtain ⟨k, hk, rfl, hwr⟩ := hrel
      have hP := HP.out.below hwr.fr
      by_cases hlt : k < x.vals.length
      ·obtain ⟨gv, rfl, hcell, hfr⟩ := hP.val8 rfl hlt
       have y0 := hcell 0 (by omega)
       have y1 := hcell 1 (by omega)
       have y2 := hcell 2 (by omega)
       have y3 := hcell 3 (by omega)
       have y4 := hcell 4 (by omega)
       have y5 := hcell 5 (by omega)
       have y6 := hcell 6 (by omega)
       have y7 := hcell 7 (by omega)
       rw [Nat.add_zero] at y0
       have hbk := hr x.vals[k].rate (List.mem_map_of_mem (List.getElem_mem hlt))
       have ht0 : (x.vals.map (fun v => v.rate)).take (k + 1) = (x.vals.map (fun v => v.rate)).take k ++ [x.vals[k].rate] := by rw [List.take_succ_eq_append_getElem (by simpa using hlt)]; simp
       have HT := Hd ht0
       have hl1 : ([(x.bal.length : Int)] ++ x.bal ++ [(x.vals.length : Int)] ++ x.vals.map (fun v => v.owner) ++ [(x.vals.length : Int)] ++ (x.vals.map (fun v => v.rate)).take k).length <= 10000 := by simp; omega
       have HWR : Hid (∀ o, WS W0 (wr.alloc o) gw ([(x.bal.length : Int)] ++ x.bal ++ [(x.vals.length : Int)] ++ x.vals.map (fun v => v.owner) ++ [(x.vals.length : Int)] ++ (x.vals.map (fun v => v.rate)).take k)) := fun o => hwr.alloc o
       clear hP hwr HP HC ht0 hcell hfr
       generalize x.vals[k] = vk at *
       obtain ⟨v1, v2, v3, v4, v5', v6, v7, v8⟩ := vk
       simp only [VS.cells, List.getElem?_cons_zero, List.getElem?_cons_succ] at y0 y1 y2 y3 y4 y5 y6 y7
       dsimp only at hbk HT
       go_wp2_with fail
       refine (HA.out _ _ _ (HWR.out _) hbk.1 hbk.2 hl1).mono ?_
       rintro e w5 ⟨rfl, hw5⟩
       rw [List.append_assoc, <- HT.out] at hw5
       have HW5 := Hd hw5
       clear hw5 HWR HT
       go_wp2
       refine And.intro ?_ ?_
       ·first | exact ⟨k + 1, by omega, by go_num, HW5.out⟩ | ((repeat apply Exists.intro); exact ⟨⟨k + 1, by omega, by go_num, HW5.out⟩, rfl⟩)
       ·simp [intOf]; omega
      ·have hke : k = x.vals.length := by omega
       subst hke
       rw [List.take_of_length_le (by simp)] at hwr
       obtain ⟨e4, e7⟩ := HC.out wr hwr.fr
       have HWR := Hd hwr
       have hPw := Hd hwr.fr
       clear hP hwr HW6
       have c0 : wr.cell? ⟨g, 0, none⟩ = some (.int .i64 x.top) := (HP.out.below hPw.out).L.cell 0
       clear hPw
       go_wp2_with fail
       refine (HA.out _ _ x.top HWR.out h1.1 (by omega) (by simp; omega)).mono ?_
       rintro e w7 ⟨rfl, hw7⟩
       have c1 : w7.cell? ⟨g, 1, none⟩ = some (.int .i64 x.mature) := (HP.out.below hw7.fr).L.cell 1
       have HW7 := Hd hw7
       clear hw7 HWR c0
       go_wp2_with fail
       refine (HA.out _ _ x.mature HW7.out h2.1 (by omega) (by simp; omega)).mono ?_
       rintro e w8 ⟨rfl, hw8⟩
       have c2 : w8.cell? ⟨g, 2, none⟩ = some (.int .i64 x.fee) := (HP.out.below hw8.fr).L.cell 2
       have HW8 := Hd hw8
       clear hw8 HW7 c1
       go_wp2_with fail
       refine (HA.out _ _ x.fee HW8.out h3.1 (by omega) (by simp; omega)).mono ?_
       rintro e w9 ⟨rfl, hw9⟩
       have HW9 := Hd hw9
       clear hw9 HW8
       go_wp2
       go_end0
       have := HW9.out
       refine ⟨rfl, ?_⟩
       unfold Es
       simp only [List.append_assoc, List.cons_append, List.nil_append] at this ⊢
       exact this
end
theorem R1 (v : VS) (w : World) : Calls Tryz.prog 87 #[v.agg] w fun e w' => e = .returned (.int .i64 (C8 v)) ∧ Below w.heap.size w w' := by
 obtain ⟨v1, v2, v3, v4, v5, v6, j, i⟩ := v
 have HB : Hid (∀ o, Below w.heap.size w (w.alloc o)) := fun o => (Below.refl _ _).alloc (Nat.le_refl _) o
 unfold VS.agg
 cases j with
 | true =>
  have HS : Hid (C8 ⟨v1, v2, v3, v4, v5, v6, true, i⟩ = 2) := rfl
  go_enter Tryz.func87, Tryz.ntmps87
  go_wp2
  go_ret
  exact ⟨As HS.out.symm, HB.out _⟩
 | false =>
  cases i with
  | true =>
   have HS : Hid (C8 ⟨v1, v2, v3, v4, v5, v6, false, true⟩ = 1) := rfl
   go_enter Tryz.func87, Tryz.ntmps87
   go_wp2
   go_ret
   exact ⟨As HS.out.symm, HB.out _⟩
  | false =>
   have HS : Hid (C8 ⟨v1, v2, v3, v4, v5, v6, false, false⟩ = 0) := rfl
   go_enter Tryz.func87, Tryz.ntmps87
   go_wp2
   go_ret
   exact ⟨As HS.out.symm, HB.out _⟩
section
variable {S : Nat -> Prop} {Wb W0 : World} (g : Nat) (x : EC) (bv vv ev : Value) (h : PE S Wb W0 g x bv vv ev) (B : Nat) (hI : BU B W0) (hB : B <= W0.heap.size) (gw : Nat)
include h hI hB
theorem SM (w : World) (ns : List Int) (hw : WS W0 w gw ns) (hl : ns.length <= 5000) (v5 : x.vals.length <= 5) (hb : ∀ v, v ∈ x.vals -> VB0 v) :
  Calls Tryz.prog 39 #[.pointer (some ⟨g, 0, none⟩), .pointer (some ⟨gw, 0, none⟩)] w fun e w' => e = .returned (.tuple #[]) ∧ WS W0 w' gw (ns ++ x.vals.flatMap C1) := by
 have HA : Hid (∀ (w : World) (ns : List Int) (n : Int), WS W0 w gw ns -> 0 <= n -> n <= 1073741824000000 -> ns.length <= 10000 -> Calls Tryz.prog 86 #[.pointer (some ⟨gw, 0, none⟩), .int .i64 n] w fun e w' => e = .returned (.tuple #[]) ∧ WS W0 w' gw (ns ++ [n]) ∧ KT w w') := fun w ns n a b c d => Ir a hI hB n b c d
 obtain ⟨va, vc, rfl⟩ := Ac h.v
 have HP := Hd h
 have c7 : w.cell? ⟨g, 7, none⟩ = some (.slice va x.vals.length vc) := (h.below hw.fr).L.cell 7
 have HW := Hd hw
 have HL : Hid (∀ k, k <= x.vals.length -> (ns ++ (x.vals.take k).flatMap C1).length <= 5020) := fun k hk => by
  have h1 := Fc C1 4 (x.vals.take k) (fun _ => rfl)
  rw [List.length_append, h1, List.length_take]; omega
 clear h hI hw
 go_enter Tryz.func39, Tryz.ntmps39
 go_wp2
 go_loopw [11] (fun i wr => ∃ k : Nat, k <= x.vals.length ∧ i = .int .i64 k ∧ WS W0 wr gw (ns ++ (x.vals.take k).flatMap C1)) (fun i _ => x.vals.length - (intOf i).toNat)
 case atStart => exact ⟨0, Nat.zero_le _, rfl, by rw [List.take_zero, List.flatMap_nil, List.append_nil]; exact HW.out⟩
 case round =>
  obtain ⟨k, hk, rfl, hwr⟩ := hrel
  have hP := HP.out.below hwr.fr
  by_cases hlt : k < x.vals.length
  ·obtain ⟨gv, rfl, hcell, hfr⟩ := hP.val8 rfl hlt
   have y0 := hcell 0 (by omega)
   have y1 := hcell 1 (by omega)
   have y2 := hcell 2 (by omega)
   have y3 := hcell 3 (by omega)
   have y4 := hcell 4 (by omega)
   have y5 := hcell 5 (by omega)
   have y6 := hcell 6 (by omega)
   have y7 := hcell 7 (by omega)
   rw [Nat.add_zero] at y0
   have hbk := hb x.vals[k] (List.getElem_mem hlt)
   have hst := Fx x.vals[k]
   have ht0 : (x.vals.take (k + 1)).flatMap C1 = (x.vals.take k).flatMap C1 ++ C1 x.vals[k] := by rw [List.take_succ_eq_append_getElem hlt, List.flatMap_append]; simp
   have HT := Hd ht0
   have hl1 := HL.out k hk
   have HWR : Hid (∀ o, WS W0 (wr.alloc o) gw (ns ++ (x.vals.take k).flatMap C1)) := fun o => hwr.alloc o
   have HS : Hid (∀ w', Calls Tryz.prog 87 #[x.vals[k].agg] w' fun e w'' => e = .returned (.int .i64 (C8 x.vals[k])) ∧ Below w'.heap.size w' w'') := fun w' => R1 x.vals[k] w'
   have HV : Hid (Has (wr.alloc (.cells x.vals[k].cells.toArray 122)) wr.heap.size 122 x.vals[k].cells) := Has.new _ _ _
   clear hP hwr HP ht0 hcell hfr HL HW
   generalize x.vals[k] = vk at *
   generalize (x.vals.take k).flatMap C1 = A at *
   obtain ⟨v1, v2, v3, v4, v5', v6, v7, v8⟩ := vk
   obtain ⟨t0, t1, k0, k1, o0, o1, _⟩ := hbk
   simp only [VS.cells, List.getElem?_cons_zero, List.getElem?_cons_succ] at y0 y1 y2 y3 y4 y5 y6 y7
   dsimp only at t0 t1 k0 k1 o0 o1
   unfold VS.agg at HS
   generalize hsd : C8 ⟨v1, v2, v3, v4, v5', v6, v7, v8⟩ = sd at *
   simp only [C1, hsd] at HT
   clear hsd
   go_wp2_with fail
   refine (HA.out _ _ _ (HWR.out _) t0 (by omega) (by omega)).mono ?_
   rintro e w5 ⟨rfl, hw5, hk5⟩
   have hv5 := hk5 _ _ _ HV.out (by decide) (by decide)
   have z4 : w5.cell? ⟨wr.heap.size, 4, none⟩ = some (.int .i64 v5') := hv5.cell 4
   have HV5 := Hd hv5
   have HW5 := Hd hw5
   clear hw5 hk5 hv5 HWR HV
   go_wp2_with fail
   refine (HA.out _ _ _ HW5.out k0 (by omega) (by simp only [List.length_append, List.length_singleton] at hl1 ⊢; omega)).mono ?_
   rintro e w6 ⟨rfl, hw6, hk6⟩
   have hv6 := hk6 _ _ _ HV5.out (by decide) (by decide)
   have z5 : w6.cell? ⟨wr.heap.size, 5, none⟩ = some (.int .i64 v6) := hv6.cell 5
   have HV6 := Hd hv6
   have HW6 := Hd hw6
   clear hw6 hk6 hv6 HW5 HV5 z4
   go_wp2_with fail
   refine (HA.out _ _ _ HW6.out o0 (by omega) (by simp only [List.length_append, List.length_singleton] at hl1 ⊢; omega)).mono ?_
   rintro e w7 ⟨rfl, hw7, hk7⟩
   have hv7 := hk7 _ _ _ HV6.out (by decide) (by decide)
   have q0 : w7.cell? ⟨wr.heap.size, 0, none⟩ = some (.int .i64 v1) := hv7.cell 0
   have q1 : w7.cell? ⟨wr.heap.size, 1, none⟩ = some (.int .i64 v2) := hv7.cell 1
   have q2 : w7.cell? ⟨wr.heap.size, 2, none⟩ = some (.int .i64 v3) := hv7.cell 2
   have q3 : w7.cell? ⟨wr.heap.size, 3, none⟩ = some (.int .i64 v4) := hv7.cell 3
   have q4 : w7.cell? ⟨wr.heap.size, 4, none⟩ = some (.int .i64 v5') := hv7.cell 4
   have q5 : w7.cell? ⟨wr.heap.size, 5, none⟩ = some (.int .i64 v6) := hv7.cell 5
   have q6 : w7.cell? ⟨wr.heap.size, 6, none⟩ = some (.bool v7) := hv7.cell 6
   have q7 : w7.cell? ⟨wr.heap.size, 7, none⟩ = some (.bool v8) := hv7.cell 7
   have HW7 := Hd hw7
   clear hw7 hk7 hv7 HW6 HV6 z5
   go_wp2_with fail
   refine (HS.out _).mono ?_
   rintro e w8 ⟨rfl, hb8⟩
   have HW8 : Hid (WS W0 w8 gw (ns ++ A ++ [v3] ++ [v5'] ++ [v6])) := HW7.out.below hb8
   clear hb8 HW7
   go_wp2_with fail
   refine (HA.out _ _ _ HW8.out hst.1 (by omega) (by simp only [List.length_append, List.length_singleton] at hl1 ⊢; omega)).mono ?_
   rintro e w9 ⟨rfl, hw9, _⟩
   simp only [List.append_assoc, List.cons_append, List.nil_append] at hw9
   rw [<- HT.out] at hw9
   have HW9 := Hd hw9
   clear hw9 HW8 HT
   go_wp2
   refine And.intro ?_ ?_
   ·first | exact ⟨k + 1, by omega, by go_num, HW9.out⟩ | ((repeat apply Exists.intro); exact ⟨⟨k + 1, by omega, by go_num, HW9.out⟩, rfl⟩)
   ·simp [intOf]; omega
  ·rw [List.take_of_length_le (by omega)] at hwr
   have HWR := Hd hwr
   clear hP hwr
   go_wp2
   go_end0
   exact ⟨rfl, HWR.out⟩
theorem SI (w : World) (ns : List Int) (hw : WS W0 w gw ns) (hl : ns.length <= 5000) (el : x.ents.length <= 1000) (hb : ∀ e, e ∈ x.ents -> NB (entNs e)) :
  Calls Tryz.prog 41 #[.pointer (some ⟨g, 0, none⟩), .pointer (some ⟨gw, 0, none⟩)] w fun e w' => e = .returned (.tuple #[]) ∧ WS W0 w' gw (ns ++ [(x.ents.length : Int)] ++ x.ents.flatMap entNs) := by
 have HA : Hid (∀ (w : World) (ns : List Int) (n : Int), WS W0 w gw ns -> 0 <= n -> n <= 1073741824000000 -> ns.length <= 10000 -> Calls Tryz.prog 86 #[.pointer (some ⟨gw, 0, none⟩), .int .i64 n] w fun e w' => e = .returned (.tuple #[]) ∧ WS W0 w' gw (ns ++ [n]) ∧ KT w w') := fun w ns n a b c d => Ir a hI hB n b c d
 obtain ⟨ea, ec, rfl⟩ := Ac h.e
 have HP := Hd h
 have c73 : w.cell? ⟨g, 73, none⟩ = some (.slice ea x.ents.length ec) := (h.below hw.fr).evAt
 have HW := Hd hw
 have HL : Hid (∀ k, k <= x.ents.length -> (ns ++ [(x.ents.length : Int)] ++ (x.ents.take k).flatMap entNs).length <= 9001) := fun k hk => by
  have h1 := Fc entNs 4 (x.ents.take k) (fun _ => rfl)
  rw [List.length_append, h1, List.length_take, List.length_append, List.length_singleton]; omega
 clear h hI hw
 go_enter Tryz.func41, Tryz.ntmps41
 go_wp2_with fail
 refine (HA.out _ ns x.ents.length HW.out (by omega) (by omega) (by omega)).mono ?_
 rintro e w1 ⟨rfl, hw1, _⟩
 have d73 : w1.cell? ⟨g, 73, none⟩ = some (.slice ea x.ents.length ec) := (HP.out.below hw1.fr).evAt
 have HW1 := Hd hw1
 clear hw1 HW c73
 go_wp2
 go_loopw [18] (fun i wr => ∃ k : Nat, k <= x.ents.length ∧ i = .int .i64 k ∧ WS W0 wr gw (ns ++ [(x.ents.length : Int)] ++ (x.ents.take k).flatMap entNs)) (fun i _ => x.ents.length - (intOf i).toNat)
 case atStart => exact ⟨0, Nat.zero_le _, rfl, by rw [List.take_zero, List.flatMap_nil, List.append_nil]; exact HW1.out⟩
 case round =>
  obtain ⟨k, hk, rfl, hwr⟩ := hrel
  have hP := HP.out.below hwr.fr
  by_cases hlt : k < x.ents.length
  ·obtain ⟨ge, rfl, hc⟩ := (Rd.of_owns hP.e).get (by omega)
   have y0 := hc _ _ (AC x.ents k hlt 0 (by omega))
   have y1 := hc _ _ (AC x.ents k hlt 1 (by omega))
   have y2 := hc _ _ (AC x.ents k hlt 2 (by omega))
   have y3 := hc _ _ (AC x.ents k hlt 3 (by omega))
   rw [Nat.add_zero] at y0
   have hbk := hb x.ents[k] (List.getElem_mem hlt)
   have ht0 : (x.ents.take (k + 1)).flatMap entNs = (x.ents.take k).flatMap entNs ++ entNs x.ents[k] := by rw [List.take_succ_eq_append_getElem hlt, List.flatMap_append]; simp
   have HT := Hd ht0
   have hl1 := HL.out k hk
   have HWR : Hid (∀ o, WS W0 (wr.alloc o) gw (ns ++ [(x.ents.length : Int)] ++ (x.ents.take k).flatMap entNs)) := fun o => hwr.alloc o
   have HV : Hid (Has (wr.alloc (.cells x.ents[k].cells.toArray 125)) wr.heap.size 125 x.ents[k].cells) := Has.new _ _ _
   clear hP hwr HP ht0 hc HL HW1
   generalize x.ents[k] = en at *
   generalize (x.ents.take k).flatMap entNs = A at *
   obtain ⟨ew, evl, em, ea2⟩ := en
   have b1 := hbk ew (by simp [entNs])
   have b2 := hbk evl (by simp [entNs])
   have b3 := hbk em (by simp [entNs])
   have b4 := hbk ea2 (by simp [entNs])
   simp only [List.length_append, List.length_singleton] at hl1
   dsimp only at y0 y1 y2 y3
   simp only [entNs] at HT
   clear hbk
   go_wp2_with fail
   refine (HA.out _ _ _ (HWR.out _) b1.1 b1.2 (by simp only [List.length_append, List.length_singleton]; omega)).mono ?_
   rintro e w5 ⟨rfl, hw5, hk5⟩
   have hv5 := hk5 _ _ _ HV.out (by decide) (by decide)
   have z1 : w5.cell? ⟨wr.heap.size, 1, none⟩ = some (.int .i64 evl) := hv5.cell 1
   have HV5 := Hd hv5
   have HW5 := Hd hw5
   clear hw5 hk5 hv5 HWR HV
   go_wp2_with fail
   refine (HA.out _ _ _ HW5.out b2.1 b2.2 (by simp only [List.length_append, List.length_singleton]; omega)).mono ?_
   rintro e w6 ⟨rfl, hw6, hk6⟩
   have hv6 := hk6 _ _ _ HV5.out (by decide) (by decide)
   have z2 : w6.cell? ⟨wr.heap.size, 2, none⟩ = some (.int .i64 em) := hv6.cell 2
   have HV6 := Hd hv6
   have HW6 := Hd hw6
   clear hw6 hk6 hv6 HW5 HV5 z1
   go_wp2_with fail
   refine (HA.out _ _ _ HW6.out b3.1 b3.2 (by simp only [List.length_append, List.length_singleton]; omega)).mono ?_
   rintro e w7 ⟨rfl, hw7, hk7⟩
   have hv7 := hk7 _ _ _ HV6.out (by decide) (by decide)
   have z3 : w7.cell? ⟨wr.heap.size, 3, none⟩ = some (.int .i64 ea2) := hv7.cell 3
   have HW7 := Hd hw7
   clear hw7 hk7 hv7 HW6 HV6 z2
   go_wp2_with fail
   refine (HA.out _ _ _ HW7.out b4.1 b4.2 (by simp only [List.length_append, List.length_singleton]; omega)).mono ?_
   rintro e w9 ⟨rfl, hw9, _⟩
   have e9 : ns ++ [(x.ents.length : Int)] ++ A ++ [ew] ++ [evl] ++ [em] ++ [ea2] = ns ++ [(x.ents.length : Int)] ++ (x.ents.take (k + 1)).flatMap entNs := by rw [HT.out]; simp
   rw [e9] at hw9
   have HW9 := Hd hw9
   clear hw9 HW7 HT e9
   go_wp2
   refine And.intro ?_ ?_
   ·first | exact ⟨k + 1, by omega, by go_num, HW9.out⟩ | ((repeat apply Exists.intro); exact ⟨⟨k + 1, by omega, by go_num, HW9.out⟩, rfl⟩)
   ·simp [intOf]; omega
  ·rw [List.take_of_length_le (by omega)] at hwr
   have HWR := Hd hwr
   clear hP hwr
   go_wp2
   go_end0
   exact ⟨rfl, HWR.out⟩
end
section
variable {S : Nat -> Prop} {Wb W0 : World} (g : Nat) (x : EC) (bv vv ev : Value) (h : PE S Wb W0 g x bv vv ev) (B : Nat) (hI : BU B W0) (hB : B <= W0.heap.size) (gw : Nat)
include h hI hB
theorem Sn (w : World) (ns : List Int) (hw : WS W0 w gw ns) (hl : ns.length <= 5000) (b6 : x.bal.length <= 6) (v5 : x.vals.length <= 5) (hb : DB x) (hu : ∀ k j, k < 6 -> j < 5 -> -1073741824000000 <= x.upto k j ∧ x.upto k j <= x.per j ∧ x.per j <= 4611686018427387904) :
  Calls Tryz.prog 40 #[.pointer (some ⟨g, 0, none⟩), .pointer (some ⟨gw, 0, none⟩)] w fun e w' => e = .returned (.tuple #[]) ∧ WS W0 w' gw (ns ++ Di x x.bal.length) := by
 have HA : Hid (∀ (w : World) (ns : List Int) (n : Int), WS W0 w gw ns -> 0 <= n -> n <= 1073741824000000 -> ns.length <= 10000 -> Calls Tryz.prog 86 #[.pointer (some ⟨gw, 0, none⟩), .int .i64 n] w fun e w' => e = .returned (.tuple #[]) ∧ WS W0 w' gw (ns ++ [n])) := fun w ns n a b c d => (Ir a hI hB n b c d).mono (fun _ _ h => ⟨h.1, h.2.1⟩)
 obtain ⟨ba, bc, rfl⟩ := Ac h.b
 obtain ⟨va, vc, rfl⟩ := Ac h.v
 have HP := Hd h
 have c4 : w.cell? ⟨g, 4, none⟩ = some (.slice ba x.bal.length bc) := (h.below hw.fr).L.cell 4
 have HW := Hd hw
 have HL : Hid (∀ k j, k <= x.bal.length -> j <= x.vals.length -> (ns ++ (Di x k ++ De x k j)).length <= 5080) := fun k j hk hj => by
  have h1 := IZ x v5 k
  have h2 := KB x k j
  rw [List.length_append, List.length_append]; omega
 clear h hI hw
 go_enter Tryz.func40, Tryz.ntmps40
 go_wp2
 go_loopw [11] (fun i wr => ∃ k : Nat, k <= x.bal.length ∧ i = .int .i64 k ∧ WS W0 wr gw (ns ++ Di x k)) (fun i _ => x.bal.length - (intOf i).toNat)
 case atStart => exact ⟨0, Nat.zero_le _, rfl, by simp only [Di, List.append_nil]; exact HW.out⟩
 case round =>
  obtain ⟨k, hk, rfl, hwr⟩ := hrel
  have HWR := Hd hwr
  have d7 : wr.cell? ⟨g, 7, none⟩ = some (.slice va x.vals.length vc) := (HP.out.below hwr.fr).L.cell 7
  by_cases hk1 : k < x.bal.length
  ·clear hwr HW
   go_wp2
   obtain ⟨wo, rfl⟩ : ∃ wo : World, wo = wr := ⟨_, rfl⟩
   go_loopw [19] (fun i wr => ∃ j : Nat, j <= x.vals.length ∧ i = .int .i64 j ∧ WS W0 wr gw (ns ++ (Di x k ++ De x k j))) (fun i _ => x.vals.length - (intOf i).toNat)
   case atStart => exact ⟨0, Nat.zero_le _, rfl, by simp only [De, List.append_nil]; exact HWR.out⟩
   case round =>
    clear HWR
    obtain ⟨j, hj, rfl, hwr⟩ := hrel
    by_cases hj1 : j < x.vals.length
    ·have hP := HP.out.below hwr.fr
     have y1 := hP.shAt (k := k) (j := j) (by omega) (by omega)
     have hs := hb.s0 k j (by omega) (by omega)
     have hl1 := HL.out k j hk hj
     have HWR := Hd hwr
     clear hP hwr
     by_cases h0 : 0 < x.sh k j
     ·have hp := hb.p0 k j (by omega) (by omega) h0
      have hu1 := hu k j (by omega) (by omega)
      have e9 : ns ++ (Di x k ++ De x k j) ++ [x.sh k j] ++ [x.per j - x.upto k j] = ns ++ (Di x k ++ De x k (j + 1)) := by
       simp only [De, FA, if_pos h0, List.append_assoc, List.cons_append, List.nil_append]
      have HT := Hd e9
      have HD : Hid (∀ w', Below W0.heap.size W0 w' -> w'.cell? ⟨g, 8 + k * 5 + j, none⟩ = some (.int .i64 (x.sh k j)) ∧ Calls Tryz.prog 88 #[.pointer (some ⟨g, 0, none⟩), .int .i64 k, .int .i64 j] w' fun e w'' => e = .returned (.int .i64 (x.per j - x.upto k j)) ∧ w'' = w'.drew) := fun w' hb' => ⟨(HP.out.below hb').shAt (by omega) (by omega), IU g x _ _ _ w' (HP.out.below hb') k j (by omega) (by omega) hu1.1 hu1.2.1 hu1.2.2⟩
      clear e9 HP HL hu hb hu1
      generalize x.sh k j = sv at *
      generalize x.per j - x.upto k j = pv at *
      go_wp2_with fail
      refine (HA.out _ _ _ HWR.out hs.1 (by omega) (by omega)).mono ?_
      rintro e w5 ⟨rfl, hw5⟩
      obtain ⟨z1, hpd⟩ := HD.out w5 hw5.fr
      have HPD := Hd hpd
      have HW5 := Hd hw5
      clear hw5 hpd HD HWR
      go_wp2_with fail
      refine HPD.out.mono ?_
      rintro e w6 ⟨rfl, rfl⟩
      clear HPD
      go_wp2_with fail
      refine (HA.out _ _ _ (HW5.out.below (Below.refl _ _).drew) hp.1 hp.2 (by rw [List.length_append, List.length_singleton]; omega)).mono ?_
      rintro e w7 ⟨rfl, hw7⟩
      rw [HT.out] at hw7
      have HW7 := Hd hw7
      clear hw7 HW5 HT
      go_wp2
      refine And.intro ?_ ?_
      ·first | exact ⟨j + 1, by omega, by go_num, HW7.out⟩ | ((repeat apply Exists.intro); exact ⟨⟨j + 1, by omega, by go_num, HW7.out⟩, rfl⟩)
      ·simp [intOf]; omega
     ·have e9 : ns ++ (Di x k ++ De x k j) ++ [x.sh k j] = ns ++ (Di x k ++ De x k (j + 1)) := by
       simp only [De, FA, if_neg h0, List.append_assoc]
      have HT := Hd e9
      have HD : Hid (∀ w', Below W0.heap.size W0 w' -> w'.cell? ⟨g, 8 + k * 5 + j, none⟩ = some (.int .i64 (x.sh k j))) := fun w' hb' => (HP.out.below hb').shAt (by omega) (by omega)
      clear e9 HP HL hu hb
      generalize x.sh k j = sv at *
      go_wp2_with fail
      refine (HA.out _ _ _ HWR.out hs.1 (by omega) (by omega)).mono ?_
      rintro e w5 ⟨rfl, hw5⟩
      have z1 := HD.out w5 hw5.fr
      rw [HT.out] at hw5
      have HW7 := Hd hw5
      clear hw5 HD HWR HT
      go_wp2
      refine And.intro ?_ ?_
      ·first | exact ⟨j + 1, by omega, by go_num, HW7.out⟩ | ((repeat apply Exists.intro); exact ⟨⟨j + 1, by omega, by go_num, HW7.out⟩, rfl⟩)
      ·simp [intOf]; omega
    ·have ek : j = x.vals.length := by omega
     rw [ek] at hwr
     have HW7 := Hd hwr
     clear hwr ek
     go_wp2
     refine And.intro ?_ ?_
     ·first | exact ⟨k + 1, by omega, by go_num, HW7.out⟩ | ((repeat apply Exists.intro); exact ⟨⟨k + 1, by omega, by go_num, HW7.out⟩, rfl⟩)
     ·simp [intOf]; omega
  ·have ek : k = x.bal.length := by omega
   rw [ek] at hwr
   have HW7 := Hd hwr
   clear hwr ek HWR
   go_wp2
   go_end0
   exact ⟨rfl, HW7.out⟩
end
structure WBd (x : EC) : Prop where
 b6 : x.bal.length <= 6
 v5 : x.vals.length <= 5
 bb : NB x.bal
 ob : NB (x.vals.map (fun v => v.owner))
 rb : NB (x.vals.map (fun v => v.rate))
 t : 0 <= x.top ∧ x.top <= 1000000
 m : 0 <= x.mature ∧ x.mature <= 1000000
 f : 0 <= x.fee ∧ x.fee <= 1000000
 hh : 0 <= x.height ∧ x.height <= 1000000
 ff : 0 <= x.fees ∧ x.fees <= 1000000
 pp : 0 <= x.pool ∧ x.pool <= 1000000
 vb : ∀ v, v ∈ x.vals -> VB0 v
 db : DB x
 hu : ∀ k j, k < 6 -> j < 5 -> -1073741824000000 <= x.upto k j ∧ x.upto k j <= x.per j ∧ x.per j <= 4611686018427387904
 el : x.ents.length <= 1000
 eb : ∀ e, e ∈ x.ents -> NB (entNs e)
theorem RX {y : EC} (ok : Bl y) (hB : DK y) (hE : CP y) : WBd y := by
 have okx : Ok y.height y := ok
 have yb := K1 ok hB hE
 have b6 := okx.b6
 have v5 := okx.v5
 refine ⟨b6, v5, fun n hn => ?_, fun n hn => ?_, fun n hn => ?_, ⟨by have := okx.top0; omega, by have := okx.top1; omega⟩, ⟨by have := okx.mat0; omega, by have := okx.mat1; omega⟩, ⟨okx.fee0, by have := okx.fee1; omega⟩, ⟨okx.hgt0, by have := okx.hgt1; omega⟩, ⟨okx.fees, yb.fb⟩, ⟨okx.pool, yb.pb⟩, yb.vb, yb.db, fun k j hk hj => ?_, by have := yb.el; omega, fun e he n hn => ?_⟩
 ·have := yb.bb n hn; omega
 ·have := yb.ob n hn; omega
 ·have := yb.rb n hn; omega
 ·have h1 := okx.upt k j hk hj
  have h2 := okx.per j hj
  have := okx.hgt1
  refine ⟨h1.1, h1.2, by omega⟩
 ·obtain ⟨w0, w1, v0, v1, m0, m1, a0, a1⟩ := yb.eb e he
  have := okx.hgt1
  simp only [entNs, List.mem_cons, List.not_mem_nil, or_false] at hn
  omega
theorem M6 (x : EC) (b6 : x.bal.length <= 6) (v5 : x.vals.length <= 5) : (Es x).length <= 30 := by
 simp only [Es, List.length_append, List.length_cons, List.length_nil, List.length_map]; omega
theorem F3 {S : Nat -> Prop} {Wb : World} (g : Nat) (x : EC) (bv vv ev : Value) (h : PE S Wb w g x bv vv ev) (B : Nat) (hI : BU B w) (hB : B <= w.heap.size) (wb : WBd x) :
  Calls Tryz.prog 22 #[.pointer (some ⟨g, 0, none⟩)] w fun e w' => e = .returned (.string ⟨(txt (BO x)).toArray⟩) ∧ Below w.heap.size w w' := by
 have gl := M6 x wb.b6 wb.v5
 have H1 : Hid (∀ w1, WS w w1 w.heap.size [] -> Calls Tryz.prog 37 #[.pointer (some ⟨g, 0, none⟩), .pointer (some ⟨w.heap.size, 0, none⟩)] w1 fun e w' => e = .returned (.tuple #[]) ∧ WS w w' w.heap.size (Es x)) := fun w1 hw => Ol g x bv vv ev h B hI hB _ w1 hw wb.b6 wb.v5 wb.bb wb.ob wb.rb wb.t wb.m wb.f
 have H2 : Hid (∀ w1 ns, WS w w1 w.heap.size ns -> ns.length <= 5000 -> Calls Tryz.prog 38 #[.pointer (some ⟨g, 0, none⟩), .pointer (some ⟨w.heap.size, 0, none⟩)] w1 fun e w' => e = .returned (.tuple #[]) ∧ WS w w' w.heap.size (ns ++ [x.height, x.fees, x.pool])) := fun w1 ns hw hl => RQ g x bv vv ev h B hI hB _ w1 ns hw hl wb.hh wb.ff wb.pp
 have H3 : Hid (∀ w1 ns, WS w w1 w.heap.size ns -> ns.length <= 5000 -> Calls Tryz.prog 39 #[.pointer (some ⟨g, 0, none⟩), .pointer (some ⟨w.heap.size, 0, none⟩)] w1 fun e w' => e = .returned (.tuple #[]) ∧ WS w w' w.heap.size (ns ++ x.vals.flatMap C1)) := fun w1 ns hw hl => SM g x bv vv ev h B hI hB _ w1 ns hw hl wb.v5 wb.vb
 have H4 : Hid (∀ w1 ns, WS w w1 w.heap.size ns -> ns.length <= 5000 -> Calls Tryz.prog 40 #[.pointer (some ⟨g, 0, none⟩), .pointer (some ⟨w.heap.size, 0, none⟩)] w1 fun e w' => e = .returned (.tuple #[]) ∧ WS w w' w.heap.size (ns ++ Di x x.bal.length)) := fun w1 ns hw hl => Sn g x bv vv ev h B hI hB _ w1 ns hw hl wb.b6 wb.v5 wb.db wb.hu
 have H5 : Hid (∀ w1 ns, WS w w1 w.heap.size ns -> ns.length <= 5000 -> Calls Tryz.prog 41 #[.pointer (some ⟨g, 0, none⟩), .pointer (some ⟨w.heap.size, 0, none⟩)] w1 fun e w' => e = .returned (.tuple #[]) ∧ WS w w' w.heap.size (ns ++ [(x.ents.length : Int)] ++ x.ents.flatMap entNs)) := fun w1 ns hw hl => SI g x bv vv ev h B hI hB _ w1 ns hw hl wb.el wb.eb
 have h0 : WS w (w.alloc (.cells #[.slice none 0 0] 75)) w.heap.size [] := ⟨(fun n hn => by cases hn), .slice none 0 0, ⟨(Below.refl _ _).alloc (Nat.le_refl _) _, Nat.le_refl _, Has.new _ _ [.slice none 0 0], World.ownsRow_nil _ _ _ _⟩⟩
 have HW := Hd h0
 have hd := IZ x wb.v5 x.bal.length
 have hvl := Fc C1 4 x.vals (fun _ => rfl)
 have b6 := wb.b6
 have v5 := wb.v5
 clear h hI h0 wb
 go_enter Tryz.func22, Tryz.ntmps22
 go_wp2_with fail
 refine (H1.out _ HW.out).mono ?_
 rintro e w1 ⟨rfl, hw⟩
 have HW1 := Hd hw
 clear hw HW
 go_wp2_with fail
 refine (H2.out _ _ HW1.out (by omega)).mono ?_
 rintro e w2 ⟨rfl, hw⟩
 have HW2 := Hd hw
 clear hw HW1
 go_wp2_with fail
 refine (H3.out _ _ HW2.out (by simp only [List.length_append, List.length_cons, List.length_nil]; omega)).mono ?_
 rintro e w3 ⟨rfl, hw⟩
 have HW3 := Hd hw
 clear hw HW2
 go_wp2_with fail
 refine (H4.out _ _ HW3.out (by simp only [List.length_append, List.length_cons, List.length_nil, hvl]; omega)).mono ?_
 rintro e w4 ⟨rfl, hw⟩
 have HW4 := Hd hw
 clear hw HW3
 go_wp2_with fail
 refine (H5.out _ _ HW4.out (by simp only [List.length_append, List.length_cons, List.length_nil, hvl]; omega)).mono ?_
 rintro e w5 ⟨rfl, hw⟩
 have hwN : WS w w5 w.heap.size (BO x) := hw
 obtain ⟨hnb, tv, hwr⟩ := hwN
 clear HW4 hw
 have hlen1 : 0 < (txt (BO x)).length := by
  have e : BO x = (x.bal.length : Int) :: (BO x).tail := by simp [BO, Es]
  rw [e]; simp only [txt, J9, List.length_append, List.length_singleton]; omega
 obtain ⟨ta, tc, rfl⟩ := Ac hwr.t
 obtain ⟨gt, rfl, _⟩ := Ag hwr.t hlen1
 have c0 : w5.cell? ⟨w.heap.size, 0, none⟩ = some (.slice (some ⟨gt, 0, none⟩) (txt (BO x)).length tc) := hwr.L.cell 0
 have HB := Hd hwr.fr
 have hconv : (convert 63 9 (.slice (some ⟨gt, 0, none⟩) (txt (BO x)).length tc)).run Tryz.prog w5 = .ok (.string ⟨(txt (BO x)).toArray⟩) w5 := by
  refine run_convert_bytes_back (P := Tryz.prog) w5 63 9 5 ⟨gt, 0, none⟩ tc (txt (BO x)) Tryz.underlying63 Tryz.underlying5 Tryz.underlying9 (fun j hj => ?_)
  have := hwr.t.cells (g := gt) rfl j (.int .u8 ((txt (BO x))[j].toNat : Int)) (by simp [DJ, hj])
  exact this
 clear hwr hnb
 go_wp2
 go_ret
 exact ⟨rfl, HB.out⟩
end Go.Proofs.YtohjjgefklhmaaaGreatDoor
