import Derived.Test.YtohjjgefklhmaaaGreatDoorXReadM
import Derived.Lib.AppendStr
import Derived.Lib.ItoaMem
import Derived.Lib.ItoaLen
namespace Go.Proofs.YtohjjgefklhmaaaGreatDoor
open Go.ChangeShapes Go.WideShapes Go.ChangeAt Go.RowKit
set_option linter.unusedVariables false

/-! ### a writer -/
/-- Itoa answers the numeral, wherever only blocks from B on were written since w -/
def ItoaOk (B : Nat) (w : World) : Prop := ∀ w', Below B w w' → ∀ n : Int, -9223372036854775808 ≤ n → n ≤ 9223372036854775807 →
  Calls Tryz.prog 143 #[.int .i64 n] w' fun e w'' => e = .returned (.string ⟨(Lib.itoa n).toArray⟩) ∧ Below w'.heap.size w' w''
theorem ItoaOk.on {B : Nat} {w w1 : World} (h : ItoaOk B w) (hb : Below B w w1) : ItoaOk B w1 := fun w' h' => h w' (hb.trans h')
def bcells (bs : List UInt8) : List Value := bs.map fun b => Value.int .u8 (b.toNat : Int)
structure WR (W0 w : World) (gw : Nat) (tv : Value) (bs : List UInt8) : Prop where
  fr : Below W0.heap.size W0 w
  hg : W0.heap.size ≤ gw
  L : Has w gw 75 [tv]
  t : w.ownsRow W0.heap.size 5 1 tv bs.length (bcells bs)
theorem WR.below {W0 w w' : World} {gw : Nat} {tv : Value} {bs : List UInt8} (h : WR W0 w gw tv bs) (hb : Below w.heap.size w w') : WR W0 w' gw tv bs :=
  ⟨h.fr.trans (hb.mono h.fr.size), h.hg, h.L.below hb h.L.lt, ownsRow_below h.t hb (Nat.le_refl _)⟩
theorem WR.alloc {W0 w : World} {gw : Nat} {tv : Value} {bs : List UInt8} (h : WR W0 w gw tv bs) (o : Obj) : WR W0 (w.alloc o) gw tv bs := h.below ((Below.refl _ _).alloc (Nat.le_refl _) o)
/-- blocks that are no writer's stand -/
def KT (w w' : World) : Prop := ∀ b e L, Has w b e L → e ≠ 75 → e ≠ 5 → Has w' b e L
theorem KT.trans {a b c : World} (h : KT a b) (k : KT b c) : KT a c := fun n e L h1 h2 h3 => k n e L (h n e L h1 h2 h3) h2 h3
theorem KT.below {a b : World} (h : Below a.heap.size a b) : KT a b := fun n e L h1 h2 h3 => h1.below h h1.lt
theorem WR.put {W0 w w' : World} {gw : Nat} {tv tv' : Value} {bs bs' : List UInt8} (h : WR W0 w gw tv bs) (hg : w.grownBy w' tv.ownBlock) (hown : w'.ownsRow W0.heap.size 5 1 tv' (bs.length + bs'.length) (bcells bs ++ bcells bs')) :
    Has w' gw 75 [tv] ∧ WR W0 (w'.setCell ⟨gw, 0, none⟩ tv') gw tv' (bs ++ bs') ∧ KT w (w'.setCell ⟨gw, 0, none⟩ tv') := by
  have hL := grown_has hg h.L (Has.apart h.L h.t (by decide))
  have hb : ∀ k, tv.ownBlock = some k → W0.heap.size ≤ k := fun k hk => (h.t.lt k hk).1
  have hfr := h.fr.grown hg h.fr.size hb
  refine ⟨hL, ⟨hfr.setCell h.hg _, h.hg, hL.set 0 tv', ?_⟩, fun b e' L' h1 h2 h3 => (grown_has hg h1 (Has.apart h1 h.t h3)).other _ _ (fun eb => h2 (by
    have h4 := h.L
    unfold Has at h1 h4
    rw [eb] at h1
    rw [h1] at h4
    simp only [Option.some.injEq, Obj.cells.injEq] at h4
    exact h4.2.1))⟩
  have e : bcells (bs ++ bs') = bcells bs ++ bcells bs' := by simp [bcells]
  rw [e, List.length_append]
  exact ownsRow_setCell hown _ _ (fun e => Has.apart hL hown (by decide) e.symm)
theorem info_u8 : (Tryz.prog.info? 5).map (fun i => (i.zero, i.size, i.bytes)) = some (some (.int .u8 0), 1, 1) := by kernel_rfl

set_option maxHeartbeats 2000000 in
set_option maxRecDepth 100000 in
theorem wadd {B : Nat} {W0 w : World} {gw : Nat} {tv : Value} {bs : List UInt8} (h : WR W0 w gw tv bs) (hI : ItoaOk B W0) (hB : B ≤ W0.heap.size) (n : Int) (h0 : -9223372036854775808 ≤ n) (h1 : n ≤ 9223372036854775807) (hl : bs.length ≤ 1000000) :
    Calls Tryz.prog 86 #[.pointer (some ⟨gw, 0, none⟩), .int .i64 n] w fun e w' => e = .returned (.tuple #[]) ∧ (∃ tv', WR W0 w' gw tv' (bs ++ (Lib.itoa n ++ [32]))) ∧ KT w w' := by
  have HI : Hid (Calls Tryz.prog 143 #[.int .i64 n] w fun e w'' => e = .returned (.string ⟨(Lib.itoa n).toArray⟩) ∧ Below w.heap.size w w'') := hI w (h.fr.mono hB) n h0 h1
  obtain ⟨ta, tc, rfl⟩ := ownsRow_slice h.t
  have HP : Hid (WR W0 w gw (.slice ta bs.length tc) bs) := h
  obtain ⟨i5, hi5, hz50, hz51, hz52⟩ := info_parts info_u8
  clear h hI
  go_enter Tryz.func86, Tryz.ntmps86
  go_wp2_with fail
  refine HI.out.mono ?_
  rintro e w1 ⟨rfl, hb⟩
  have HP1 : Hid (WR W0 w1 gw (.slice ta bs.length tc) bs) := HP.out.below hb
  have HK1 : Hid (KT w w1) := KT.below hb
  clear hb HI HP
  have c0 : w1.cell? ⟨gw, 0, none⟩ = some (.slice ta bs.length tc) := HP1.out.L.cell 0
  have hil := Lib.itoa_length_le n h0 h1
  have hsz : (⟨(Lib.itoa n).toArray⟩ : ByteArray).size = (Lib.itoa n).length := by simp [ByteArray.size]
  have hsc : Lib.strCells ⟨(Lib.itoa n).toArray⟩ = bcells (Lib.itoa n) := by simp [Lib.strCells, bcells]
  have b1 : bs.length + (⟨(Lib.itoa n).toArray⟩ : ByteArray).size ≤ maxLen := by rw [hsz]; simp only [maxLen]; omega
  have b2 : bs.length + (⟨(Lib.itoa n).toArray⟩ : ByteArray).size ≤ 140737488355328 := by rw [hsz]; omega
  obtain ⟨sd, hsd⟩ : ∃ sd : ByteArray, sd = ⟨(Lib.itoa n).toArray⟩ := ⟨_, rfl⟩
  rw [← hsd] at hsz hsc b1 b2 ⊢
  have HSZ : Hid (sd.size = (Lib.itoa n).length) := hsz
  have HSC : Hid (Lib.strCells sd = bcells (Lib.itoa n)) := hsc
  clear hsz hsc hsd
  have g0 := HP1.out.L.lt
  go_wp2_with (first | (at_builtin; refine Lib.wpList_append_own_string _ rfl (.tmp 11) (.tmp 12) 63 9 rfl W0.heap.size 5 i5 Tryz.underlying63 Tryz.underlying9 hi5 hz50 hz51 hz52 (.slice ta bs.length tc) bs.length (bcells bs) (by first | rfl | simp [Act.eval]) HP1.out.t sd (by first | rfl | simp [Act.eval]) b1 b2 HP1.out.fr.size ?_; intro v2 w2 hown2 hgrow2 hnil2; rw [HSZ.out, HSC.out] at hown2; obtain ⟨ta2, tc2, rfl⟩ := ownsRow_slice hown2; obtain ⟨hL2, hW2, hK2⟩ := HP1.out.put hgrow2 hown2; have HK2 : Hid (KT w (w2.setCell ⟨gw, 0, none⟩ (.slice ta2 (bs.length + (Lib.itoa n).length) tc2))) := HK1.out.trans hK2; have c2 : w2.cell? ⟨gw, 0, none⟩ = some (.slice ta bs.length tc) := hL2.cell 0; have f2 := hL2.frozen 0; have g2 := hL2.lt; have HW2 : Hid (WR W0 (w2.setCell ⟨gw, 0, none⟩ (.slice ta2 (bs.length + (Lib.itoa n).length) tc2)) gw (.slice ta2 (bs.length + (Lib.itoa n).length) tc2) (bs ++ Lib.itoa n)) := hW2; clear hown2 hgrow2 hnil2 hL2 hW2 HP1 c0 hK2 HK1) | (at_builtin; go_loud (refine wpList_append_sl2 rfl (.tmp 20) (.tmp 21) 63 rfl 5 i5 _ 1 1 Tryz.underlying63 hi5 hz50 hz51 hz52 rfl (by decide) W0.heap.size (.slice ta2 (bs.length + (Lib.itoa n).length) tc2) (bs.length + (Lib.itoa n).length) (bcells (bs ++ Lib.itoa n)) rfl (by have := (HW2.out.alloc (.cells #[.int .u8 32] 5)).t; rw [List.length_append] at this; exact this) (HW2.out.alloc (.cells #[.int .u8 32] 5)).fr.size ⟨_, 0, none⟩ 1 1 [.int .u8 32] rfl rfl (cell_newAt _ [.int .u8 32] _ _ (by simp)) (by simp [Value.oneCell']) (by decide) (by simp only [maxLen]; omega) (by omega) ?_); intro g5 cap5 v5 hown5 hgrow5 hor5 hold5; obtain ⟨hL5, hW5, hK5⟩ := (HW2.out.alloc _).put (bs' := [32]) hgrow5 (by rw [List.length_append]; exact hown5); have c5 : v5.cell? ⟨gw, 0, none⟩ = some (.slice ta2 (bs.length + (Lib.itoa n).length) tc2) := hL5.cell 0; have f5 := hL5.frozen 0; have HW5 : Hid _ := hW5; have HK5 : Hid (KT w (v5.setCell ⟨gw, 0, none⟩ (.slice (some ⟨g5, 0, none⟩) (bs.length + (Lib.itoa n).length + 1) cap5))) := KT.trans (KT.trans HK2.out (KT.below ((Below.refl _ _).alloc (Nat.le_refl _) _))) hK5; clear hK5 hown5 hgrow5 hor5 hold5 hL5 hW5))
  go_end0
  have := HW5.out
  rw [List.append_assoc] at this
  exact ⟨rfl, ⟨_, this⟩, HK5.out⟩
end Go.Proofs.YtohjjgefklhmaaaGreatDoor

namespace Go.Proofs.YtohjjgefklhmaaaGreatDoor
open Go.ChangeShapes Go.WideShapes Go.ChangeAt Go.RowKit
set_option linter.unusedVariables false

def NB (ns : List Int) : Prop := ∀ n, n ∈ ns → 0 ≤ n ∧ n ≤ 1073741824000000
/-- what is written so far -/
def WS (W0 w : World) (gw : Nat) (ns : List Int) : Prop := NB ns ∧ ∃ tv, WR W0 w gw tv (txt ns)
theorem ws_add {B : Nat} {W0 w : World} {gw : Nat} {ns : List Int} (h : WS W0 w gw ns) (hI : ItoaOk B W0) (hB : B ≤ W0.heap.size) (n : Int) (h0 : 0 ≤ n) (h1 : n ≤ 1073741824000000) (hl : ns.length ≤ 10000) :
    Calls Tryz.prog 86 #[.pointer (some ⟨gw, 0, none⟩), .int .i64 n] w fun e w' => e = .returned (.tuple #[]) ∧ WS W0 w' gw (ns ++ [n]) ∧ KT w w' := by
  obtain ⟨hb, tv, hw⟩ := h
  have hlen : (txt ns).length ≤ 22 * ns.length := txt_length_le ns 22 (fun n hn => by have := hb n hn; exact numT_len22 n (by omega) (by omega))
  refine (wadd hw hI hB n (by omega) (by omega) (by omega)).mono ?_
  rintro e w' ⟨rfl, ⟨tv', h'⟩, hk⟩
  refine ⟨rfl, ⟨fun m hm => ?_, tv', ?_⟩, hk⟩
  · simp only [List.mem_append, List.mem_singleton] at hm
    rcases hm with hm | rfl
    · exact hb m hm
    · exact ⟨h0, h1⟩
  · rw [txt_snoc]; exact h'
theorem WS.below {W0 w w' : World} {gw : Nat} {ns : List Int} (h : WS W0 w gw ns) (hb : Below w.heap.size w w') : WS W0 w' gw ns := by
  obtain ⟨a, tv, b⟩ := h; exact ⟨a, tv, b.below hb⟩
theorem WS.alloc {W0 w : World} {gw : Nat} {ns : List Int} (h : WS W0 w gw ns) (o : Obj) : WS W0 (w.alloc o) gw ns := h.below ((Below.refl _ _).alloc (Nat.le_refl _) o)
theorem WS.fr {W0 w : World} {gw : Nat} {ns : List Int} (h : WS W0 w gw ns) : Below W0.heap.size W0 w := by obtain ⟨a, tv, b⟩ := h; exact b.fr

section
variable {S : Nat → Prop} {Wb W0 : World} (g : Nat) (x : EC) (bv vv ev : Value) (h : PE S Wb W0 g x bv vv ev) (B : Nat) (hI : ItoaOk B W0) (hB : B ≤ W0.heap.size) (gw : Nat)
include h hI hB

set_option maxHeartbeats 2000000 in
set_option maxRecDepth 100000 in
theorem wchain (w : World) (ns : List Int) (hw : WS W0 w gw ns) (hl : ns.length ≤ 5000) (h1 : 0 ≤ x.height ∧ x.height ≤ 1000000) (h2 : 0 ≤ x.fees ∧ x.fees ≤ 1000000) (h3 : 0 ≤ x.pool ∧ x.pool ≤ 1000000) :
    Calls Tryz.prog 38 #[.pointer (some ⟨g, 0, none⟩), .pointer (some ⟨gw, 0, none⟩)] w fun e w' => e = .returned (.tuple #[]) ∧ WS W0 w' gw (ns ++ [x.height, x.fees, x.pool]) := by
  have HA : Hid (∀ (w : World) (ns : List Int) (n : Int), WS W0 w gw ns → 0 ≤ n → n ≤ 1073741824000000 → ns.length ≤ 10000 → Calls Tryz.prog 86 #[.pointer (some ⟨gw, 0, none⟩), .int .i64 n] w fun e w' => e = .returned (.tuple #[]) ∧ WS W0 w' gw (ns ++ [n])) := fun w ns n a b c d => (ws_add a hI hB n b c d).mono (fun _ _ h => ⟨h.1, h.2.1⟩)
  have HC : Hid (∀ w, WS W0 w gw ns ∨ True → Below W0.heap.size W0 w → w.cell? ⟨g, 3, none⟩ = some (.int .i64 x.height) ∧ w.cell? ⟨g, 5, none⟩ = some (.int .i64 x.fees) ∧ w.cell? ⟨g, 6, none⟩ = some (.int .i64 x.pool)) := fun w _ hb => ⟨(h.below hb).L.cell 3, (h.below hb).L.cell 5, (h.below hb).L.cell 6⟩
  obtain ⟨c3, c5, c6⟩ := HC.out w (.inr trivial) hw.fr
  have HW : Hid (WS W0 w gw ns) := hw
  clear h hI hw
  go_enter Tryz.func38, Tryz.ntmps38
  go_wp2_with fail
  refine (HA.out _ ns x.height HW.out h1.1 (by omega) (by omega)).mono ?_
  rintro e w1 ⟨rfl, hw1⟩
  obtain ⟨d3, d5, d6⟩ := HC.out w1 (.inr trivial) hw1.fr
  have HW1 : Hid (WS W0 w1 gw (ns ++ [x.height])) := hw1
  clear hw1 c3 c5 c6 HW
  go_wp2_with fail
  refine (HA.out _ _ x.fees HW1.out h2.1 (by omega) (by simp only [List.length_append, List.length_singleton]; omega)).mono ?_
  rintro e w2 ⟨rfl, hw2⟩
  obtain ⟨e3, e5, e6⟩ := HC.out w2 (.inr trivial) hw2.fr
  have HW2 : Hid (WS W0 w2 gw (ns ++ [x.height] ++ [x.fees])) := hw2
  clear hw2 d3 d5 d6 HW1
  go_wp2_with fail
  refine (HA.out _ _ x.pool HW2.out h3.1 (by omega) (by simp only [List.length_append, List.length_singleton]; omega)).mono ?_
  rintro e w3 ⟨rfl, hw3⟩
  have HW3 : Hid (WS W0 w3 gw (ns ++ [x.height] ++ [x.fees] ++ [x.pool])) := hw3
  clear hw3
  go_wp2
  go_end0
  have := HW3.out
  simp only [List.append_assoc, List.cons_append, List.nil_append] at this
  exact ⟨rfl, this⟩

set_option maxHeartbeats 2000000 in
set_option maxRecDepth 100000 in
theorem wgenesis (w : World) (hw : WS W0 w gw []) (b6 : x.bal.length ≤ 6) (v5 : x.vals.length ≤ 5) (hb : NB x.bal) (ho : NB (x.vals.map (fun v => v.owner))) (hr : NB (x.vals.map (fun v => v.rate))) (h1 : 0 ≤ x.top ∧ x.top ≤ 1000000) (h2 : 0 ≤ x.mature ∧ x.mature ≤ 1000000) (h3 : 0 ≤ x.fee ∧ x.fee ≤ 1000000) :
    Calls Tryz.prog 37 #[.pointer (some ⟨g, 0, none⟩), .pointer (some ⟨gw, 0, none⟩)] w fun e w' => e = .returned (.tuple #[]) ∧ WS W0 w' gw (genNs x) := by
  have HA : Hid (∀ (w : World) (ns : List Int) (n : Int), WS W0 w gw ns → 0 ≤ n → n ≤ 1073741824000000 → ns.length ≤ 10000 → Calls Tryz.prog 86 #[.pointer (some ⟨gw, 0, none⟩), .int .i64 n] w fun e w' => e = .returned (.tuple #[]) ∧ WS W0 w' gw (ns ++ [n])) := fun w ns n a b c d => (ws_add a hI hB n b c d).mono (fun _ _ h => ⟨h.1, h.2.1⟩)
  obtain ⟨ba, bc, rfl⟩ := ownsRow_slice h.b
  obtain ⟨va, vc, rfl⟩ := ownsRow_slice h.v
  have HC : Hid (∀ w, Below W0.heap.size W0 w → w.cell? ⟨g, 4, none⟩ = some (.slice ba x.bal.length bc) ∧ w.cell? ⟨g, 7, none⟩ = some (.slice va x.vals.length vc)) := fun w hb => ⟨(h.below hb).L.cell 4, (h.below hb).L.cell 7⟩
  have HP : Hid (PE S Wb W0 g x (.slice ba x.bal.length bc) (.slice va x.vals.length vc) ev) := h
  obtain ⟨c4, c7⟩ := HC.out w hw.fr
  have HW : Hid (WS W0 w gw []) := hw
  clear h hI hw
  go_enter Tryz.func37, Tryz.ntmps37
  go_wp2_with fail
  refine (HA.out _ [] x.bal.length HW.out (by omega) (by omega) (by simp)).mono ?_
  rintro e w1 ⟨rfl, hw1⟩
  obtain ⟨d4, d7⟩ := HC.out w1 hw1.fr
  have HW1 : Hid (WS W0 w1 gw [(x.bal.length : Int)]) := hw1
  clear hw1 c4 c7 HW
  go_wp2
  go_loopw [22] (fun i wr => ∃ k : Nat, k ≤ x.bal.length ∧ i = .int .i64 k ∧ WS W0 wr gw ([(x.bal.length : Int)] ++ x.bal.take k)) (fun i _ => x.bal.length - (intOf i).toNat)
  case atStart => exact ⟨0, Nat.zero_le _, rfl, by rw [List.take_zero, List.append_nil]; exact HW1.out⟩
  case round =>
    obtain ⟨k, hk, rfl, hwr⟩ := hrel
    have hP := HP.out.below hwr.fr
    by_cases hlt : k < x.bal.length
    · obtain ⟨gb, rfl, _⟩ := ownsRow_some hP.b (by omega)
      have cb := hP.balAt' hlt
      have hbk := hb (x.balAt k) (by simp [EC.balAt, hlt])
      have ht0 : x.bal.take (k + 1) = x.bal.take k ++ [x.balAt k] := by rw [List.take_succ_eq_append_getElem hlt]; simp [EC.balAt, hlt]
      have HT : Hid (x.bal.take (k + 1) = x.bal.take k ++ [x.balAt k]) := ht0
      clear ht0
      have hl1 : ([(x.bal.length : Int)] ++ x.bal.take k).length ≤ 10000 := by simp; omega
      have HWR : Hid (WS W0 wr gw ([(x.bal.length : Int)] ++ x.bal.take k)) := hwr
      clear hP hwr HP HC
      generalize x.balAt k = bk at *
      go_wp2_with fail
      refine (HA.out _ _ bk HWR.out hbk.1 hbk.2 hl1).mono ?_
      rintro e w2 ⟨rfl, hw2⟩
      rw [List.append_assoc, ← HT.out] at hw2
      have HW2 : Hid (WS W0 w2 gw ([(x.bal.length : Int)] ++ x.bal.take (k + 1))) := hw2
      clear hw2 HWR HT
      go_wp2
      refine And.intro ?_ ?_
      · first | exact ⟨k + 1, by omega, by go_num, HW2.out⟩ | ((repeat apply Exists.intro); exact ⟨⟨k + 1, by omega, by go_num, HW2.out⟩, rfl⟩)
      · simp [intOf]; omega
    · have hke : k = x.bal.length := by omega
      subst hke
      rw [List.take_length] at hwr
      obtain ⟨e4, e7⟩ := HC.out wr hwr.fr
      have HWR : Hid (WS W0 wr gw ([(x.bal.length : Int)] ++ x.bal)) := hwr
      clear hP hwr HW1
      go_wp2_with fail
      refine (HA.out _ _ x.vals.length HWR.out (by omega) (by omega) (by simp; omega)).mono ?_
      rintro e w3 ⟨rfl, hw3⟩
      obtain ⟨f4, f7⟩ := HC.out w3 hw3.fr
      have HW3 : Hid (WS W0 w3 gw ([(x.bal.length : Int)] ++ x.bal ++ [(x.vals.length : Int)])) := hw3
      clear hw3 HWR e4 e7 d4 d7
      go_wp2
      go_loopw [42] (fun i wr => ∃ k : Nat, k ≤ x.vals.length ∧ i = .int .i64 k ∧ WS W0 wr gw ([(x.bal.length : Int)] ++ x.bal ++ [(x.vals.length : Int)] ++ (x.vals.map (fun v => v.owner)).take k)) (fun i _ => x.vals.length - (intOf i).toNat)
      case atStart => exact ⟨0, Nat.zero_le _, rfl, by rw [List.take_zero, List.append_nil]; exact HW3.out⟩
      case round =>
        obtain ⟨k, hk, rfl, hwr⟩ := hrel
        have hP := HP.out.below hwr.fr
        by_cases hlt : k < x.vals.length
        · obtain ⟨gv, rfl, hcell, hfr⟩ := hP.val8 rfl hlt
          have y0 := hcell 0 (by omega)
          have y1 := hcell 1 (by omega)
          have y2 := hcell 2 (by omega)
          have y3 := hcell 3 (by omega)
          have y4 := hcell 4 (by omega)
          have y5 := hcell 5 (by omega)
          have y6 := hcell 6 (by omega)
          have y7 := hcell 7 (by omega)
          rw [Nat.add_zero] at y0
          have hbk := ho x.vals[k].owner (List.mem_map_of_mem (List.getElem_mem hlt))
          have ht0 : (x.vals.map (fun v => v.owner)).take (k + 1) = (x.vals.map (fun v => v.owner)).take k ++ [x.vals[k].owner] := by rw [List.take_succ_eq_append_getElem (by simpa using hlt)]; simp
          have HT : Hid ((x.vals.map (fun v => v.owner)).take (k + 1) = (x.vals.map (fun v => v.owner)).take k ++ [x.vals[k].owner]) := ht0
          have hl1 : ([(x.bal.length : Int)] ++ x.bal ++ [(x.vals.length : Int)] ++ (x.vals.map (fun v => v.owner)).take k).length ≤ 10000 := by simp; omega
          have HWR : Hid (∀ o, WS W0 (wr.alloc o) gw ([(x.bal.length : Int)] ++ x.bal ++ [(x.vals.length : Int)] ++ (x.vals.map (fun v => v.owner)).take k)) := fun o => hwr.alloc o
          clear hP hwr HP HC ht0 hcell hfr
          generalize x.vals[k] = vk at *
          obtain ⟨v1, v2, v3, v4, v5', v6, v7, v8⟩ := vk
          simp only [VS.cells, List.getElem?_cons_zero, List.getElem?_cons_succ] at y0 y1 y2 y3 y4 y5 y6 y7
          dsimp only at hbk HT
          go_wp2_with fail
          refine (HA.out _ _ _ (HWR.out _) hbk.1 hbk.2 hl1).mono ?_
          rintro e w5 ⟨rfl, hw5⟩
          rw [List.append_assoc, ← HT.out] at hw5
          have HW5 : Hid (WS W0 w5 gw ([(x.bal.length : Int)] ++ x.bal ++ [(x.vals.length : Int)] ++ (x.vals.map (fun v => v.owner)).take (k + 1))) := hw5
          clear hw5 HWR HT
          go_wp2
          refine And.intro ?_ ?_
          · first | exact ⟨k + 1, by omega, by go_num, HW5.out⟩ | ((repeat apply Exists.intro); exact ⟨⟨k + 1, by omega, by go_num, HW5.out⟩, rfl⟩)
          · simp [intOf]; omega
        · have hke : k = x.vals.length := by omega
          subst hke
          rw [List.take_of_length_le (by simp)] at hwr
          obtain ⟨e4, e7⟩ := HC.out wr hwr.fr
          have HWR : Hid (WS W0 wr gw ([(x.bal.length : Int)] ++ x.bal ++ [(x.vals.length : Int)] ++ x.vals.map (fun v => v.owner))) := hwr
          have hPw : Hid (Below W0.heap.size W0 wr) := hwr.fr
          clear hP hwr HW3
          go_wp2_with fail
          refine (HA.out _ _ x.vals.length HWR.out (by omega) (by omega) (by simp; omega)).mono ?_
          rintro e w6 ⟨rfl, hw6⟩
          obtain ⟨k4, k7⟩ := HC.out w6 hw6.fr
          have HW6 : Hid (WS W0 w6 gw ([(x.bal.length : Int)] ++ x.bal ++ [(x.vals.length : Int)] ++ x.vals.map (fun v => v.owner) ++ [(x.vals.length : Int)])) := hw6
          clear hw6 HWR e4 e7 f4 f7 hPw
          go_wp2
          go_loopw [63] (fun i wr => ∃ k : Nat, k ≤ x.vals.length ∧ i = .int .i64 k ∧ WS W0 wr gw ([(x.bal.length : Int)] ++ x.bal ++ [(x.vals.length : Int)] ++ x.vals.map (fun v => v.owner) ++ [(x.vals.length : Int)] ++ (x.vals.map (fun v => v.rate)).take k)) (fun i _ => x.vals.length - (intOf i).toNat)
          case atStart => exact ⟨0, Nat.zero_le _, rfl, by rw [List.take_zero, List.append_nil]; exact HW6.out⟩
          case round =>
            obtain ⟨k, hk, rfl, hwr⟩ := hrel
            have hP := HP.out.below hwr.fr
            by_cases hlt : k < x.vals.length
            · obtain ⟨gv, rfl, hcell, hfr⟩ := hP.val8 rfl hlt
              have y0 := hcell 0 (by omega)
              have y1 := hcell 1 (by omega)
              have y2 := hcell 2 (by omega)
              have y3 := hcell 3 (by omega)
              have y4 := hcell 4 (by omega)
              have y5 := hcell 5 (by omega)
              have y6 := hcell 6 (by omega)
              have y7 := hcell 7 (by omega)
              rw [Nat.add_zero] at y0
              have hbk := hr x.vals[k].rate (List.mem_map_of_mem (List.getElem_mem hlt))
              have ht0 : (x.vals.map (fun v => v.rate)).take (k + 1) = (x.vals.map (fun v => v.rate)).take k ++ [x.vals[k].rate] := by rw [List.take_succ_eq_append_getElem (by simpa using hlt)]; simp
              have HT : Hid ((x.vals.map (fun v => v.rate)).take (k + 1) = (x.vals.map (fun v => v.rate)).take k ++ [x.vals[k].rate]) := ht0
              have hl1 : ([(x.bal.length : Int)] ++ x.bal ++ [(x.vals.length : Int)] ++ x.vals.map (fun v => v.owner) ++ [(x.vals.length : Int)] ++ (x.vals.map (fun v => v.rate)).take k).length ≤ 10000 := by simp; omega
              have HWR : Hid (∀ o, WS W0 (wr.alloc o) gw ([(x.bal.length : Int)] ++ x.bal ++ [(x.vals.length : Int)] ++ x.vals.map (fun v => v.owner) ++ [(x.vals.length : Int)] ++ (x.vals.map (fun v => v.rate)).take k)) := fun o => hwr.alloc o
              clear hP hwr HP HC ht0 hcell hfr
              generalize x.vals[k] = vk at *
              obtain ⟨v1, v2, v3, v4, v5', v6, v7, v8⟩ := vk
              simp only [VS.cells, List.getElem?_cons_zero, List.getElem?_cons_succ] at y0 y1 y2 y3 y4 y5 y6 y7
              dsimp only at hbk HT
              go_wp2_with fail
              refine (HA.out _ _ _ (HWR.out _) hbk.1 hbk.2 hl1).mono ?_
              rintro e w5 ⟨rfl, hw5⟩
              rw [List.append_assoc, ← HT.out] at hw5
              have HW5 : Hid (WS W0 w5 gw ([(x.bal.length : Int)] ++ x.bal ++ [(x.vals.length : Int)] ++ x.vals.map (fun v => v.owner) ++ [(x.vals.length : Int)] ++ (x.vals.map (fun v => v.rate)).take (k + 1))) := hw5
              clear hw5 HWR HT
              go_wp2
              refine And.intro ?_ ?_
              · first | exact ⟨k + 1, by omega, by go_num, HW5.out⟩ | ((repeat apply Exists.intro); exact ⟨⟨k + 1, by omega, by go_num, HW5.out⟩, rfl⟩)
              · simp [intOf]; omega
            · have hke : k = x.vals.length := by omega
              subst hke
              rw [List.take_of_length_le (by simp)] at hwr
              obtain ⟨e4, e7⟩ := HC.out wr hwr.fr
              have HWR : Hid (WS W0 wr gw ([(x.bal.length : Int)] ++ x.bal ++ [(x.vals.length : Int)] ++ x.vals.map (fun v => v.owner) ++ [(x.vals.length : Int)] ++ x.vals.map (fun v => v.rate))) := hwr
              have hPw : Hid (Below W0.heap.size W0 wr) := hwr.fr
              clear hP hwr HW6
              have c0 : wr.cell? ⟨g, 0, none⟩ = some (.int .i64 x.top) := (HP.out.below hPw.out).L.cell 0
              clear hPw
              go_wp2_with fail
              refine (HA.out _ _ x.top HWR.out h1.1 (by omega) (by simp; omega)).mono ?_
              rintro e w7 ⟨rfl, hw7⟩
              have c1 : w7.cell? ⟨g, 1, none⟩ = some (.int .i64 x.mature) := (HP.out.below hw7.fr).L.cell 1
              have HW7 : Hid (WS W0 w7 gw ([(x.bal.length : Int)] ++ x.bal ++ [(x.vals.length : Int)] ++ x.vals.map (fun v => v.owner) ++ [(x.vals.length : Int)] ++ x.vals.map (fun v => v.rate) ++ [x.top])) := hw7
              clear hw7 HWR c0
              go_wp2_with fail
              refine (HA.out _ _ x.mature HW7.out h2.1 (by omega) (by simp; omega)).mono ?_
              rintro e w8 ⟨rfl, hw8⟩
              have c2 : w8.cell? ⟨g, 2, none⟩ = some (.int .i64 x.fee) := (HP.out.below hw8.fr).L.cell 2
              have HW8 : Hid (WS W0 w8 gw ([(x.bal.length : Int)] ++ x.bal ++ [(x.vals.length : Int)] ++ x.vals.map (fun v => v.owner) ++ [(x.vals.length : Int)] ++ x.vals.map (fun v => v.rate) ++ [x.top] ++ [x.mature])) := hw8
              clear hw8 HW7 c1
              go_wp2_with fail
              refine (HA.out _ _ x.fee HW8.out h3.1 (by omega) (by simp; omega)).mono ?_
              rintro e w9 ⟨rfl, hw9⟩
              have HW9 : Hid (WS W0 w9 gw ([(x.bal.length : Int)] ++ x.bal ++ [(x.vals.length : Int)] ++ x.vals.map (fun v => v.owner) ++ [(x.vals.length : Int)] ++ x.vals.map (fun v => v.rate) ++ [x.top] ++ [x.mature] ++ [x.fee])) := hw9
              clear hw9 HW8
              go_wp2
              go_end0
              have := HW9.out
              refine ⟨rfl, ?_⟩
              unfold genNs
              simp only [List.append_assoc, List.cons_append, List.nil_append] at this ⊢
              exact this
end
end Go.Proofs.YtohjjgefklhmaaaGreatDoor
