import Derived.Test.YtohjjgefklhmaaaGreatDoorWStM
import Derived.Deep.RegionWith
import Derived.Deep.DeepCutAuto
import Derived.Laws.IdiomStrings
namespace Go.Proofs.YtohjjgefklhmaaaGreatDoor
open Go.ChangeShapes Go.WideShapes Go.ChangeAt Go.RowKit
set_option linter.unusedVariables false
set_option maxHeartbeats 40000000
set_option maxRecDepth 100000
def CN : List (ByteArray × Option Addr) -> List Value
 | [] => []
 | t :: l => .string t.1 :: .pointer t.2 :: CN l
theorem Hq (l : List (ByteArray × Option Addr)) (k : Nat) (h : k < l.length) : (CN l)[k * 2]? = some (.string l[k].1) ∧ (CN l)[k * 2 + 1]? = some (.pointer l[k].2) := by
 induction l generalizing k with
 | nil => simp at h
 | cons v l ih =>
  cases k with
  | zero => simp [CN]
  | succ k =>
   have := ih k (by simpa using h)
   have e : (k + 1) * 2 = k * 2 + 1 + 1 := by omega
   rw [e]
   simpa [CN] using this
theorem Fw (l : List (ByteArray × Option Addr)) (t : ByteArray × Option Addr) : CN (l ++ [t]) = CN l ++ [.string t.1, .pointer t.2] := by
 induction l with
 | nil => rfl
 | cons v l ih => simp [CN, ih]
def Fy (w : World) (g : Nat) (l : List UInt8) : Prop := ∀ (j : Nat) x, l[j]? = some x -> w.cell? ⟨g, j, none⟩ = some (.int .u8 (x.toNat : Int)) ∧ w.frozen? ⟨g, j, none⟩ = false
theorem Li (u : World) (s : ByteArray) : ∃ cap wx, (convert 9 63 (.string s)).run Tryz.prog u = .ok (.slice (some ⟨u.heap.size, 0, none⟩) s.size cap) wx ∧ Fy wx u.heap.size s.data.toList ∧ Below u.heap.size u wx ∧ u.heap.size < wx.heap.size := by
 refine ⟨_, _, run_bytes_of_string u 9 63 5 s Tryz.underlying9 Tryz.underlying63 Tryz.underlying5, ?_, ((Below.refl _ u).drew).alloc (Nat.le_refl _) _, by simp⟩
 intro j x hx
 have hj : j < s.data.size := by simpa using (List.getElem?_eq_some_iff.1 hx).1
 have hx' : s.data[j] = x := by
  have := (List.getElem?_eq_some_iff.1 hx).2
  simpa using this
 have hsz : j < (bytesRow s (grownCap u s.size 0 5)).size := by
  by_cases h : j < (bytesRow s (grownCap u s.size 0 5)).size
  ·exact h
  ·have := bytesRow_at s (grownCap u s.size 0 5) j hj
   rw [Array.getElem?_eq_none (by omega)] at this
   cases this
 refine ⟨?_, ?_⟩
 ·have h := World.cell?_alloc_mark u.drew (bytesRow s (grownCap u s.size 0 5)) 5 ((bytesRow s (grownCap u s.size 0 5)).size, (bytesRow s (grownCap u s.size 0 5)).size + 1) j
  rw [bytesRow_at s _ j hj, hx'] at h
  exact h
 ·have h := World.frozen?_alloc_mark u.drew (bytesRow s (grownCap u s.size 0 5)) 5 (bytesRow s (grownCap u s.size 0 5)).size ((bytesRow s (grownCap u s.size 0 5)).size + 1) j
  refine h.trans ?_
  simp; omega
theorem Fy.set {u : World} {g : Nat} {l : List UInt8} (h : Fy u g l) (k : Nat) (x : UInt8) : Fy (u.setCell ⟨g, k, none⟩ (.int .u8 (x.toNat : Int))) g (l.set k x) := by
 intro j y hy
 rw [World.frozen?_setCell]
 by_cases hjk : k = j
 ·subst hjk
  have hk : k < l.length := by
   have := (List.getElem?_eq_some_iff.1 hy).1
   simpa using this
  have e : y = x := by rw [List.getElem?_set_self (by simpa using hk)] at hy; exact (Option.some.inj hy).symm
  subst e
  have h1 := h k l[k] (by simp)
  exact ⟨World.cell?_setCell_same _ _ _ h1.1, h1.2⟩
 ·rw [List.getElem?_set_ne hjk] at hy
  have h1 := h j y hy
  refine ⟨?_, h1.2⟩
  rw [World.cell?_setCell_other _ _ _ _ (by intro h; cases h; exact hjk rfl)]
  exact h1.1
theorem Nz (u : World) (g cap n : Nat) (l : List UInt8) (hn : n = l.length) (h : Fy u g l) : (convert 63 9 (.slice (some ⟨g, 0, none⟩) n cap)).run Tryz.prog u = .ok (.string ⟨l.toArray⟩) u := by
 subst hn
 refine run_convert_bytes_back u 63 9 5 ⟨g, 0, none⟩ cap l Tryz.underlying63 Tryz.underlying5 Tryz.underlying9 (fun j hj => ?_)
 rw [Dl]
 exact (h j l[j] (by simp [hj])).1
theorem GN : (Tryz.prog.info? 42).map (fun i => (i.zero, i.size, i.bytes)) = some (some (.agg #[.string .empty, .pointer none]), 2, 24) := by kernel_rfl
def TxS (Q : ByteArray × Option Addr -> Prop) (ts : List (ByteArray × Option Addr)) : Prop := ∀ k (h : k < ts.length), ts[k].1.size <= 16384 ∧ Q ts[k]
def Mz (base : Nat) (w0 w' : World) (gw : Nat) (b o r x : RowV) (l : Nat -> Obj -> Prop) (Q : ByteArray × Option Addr -> Prop) (n : Nat) : Prop :=
 ∃ tv' ts', List.length ts' <= n ∧ TxS Q ts' ∧ WSt base w0 w' gw b o r { v := tv', n := ts'.length, xs := CN ts' } x l
theorem Ra (a : Int) : (((UInt8.ofNat (a % 256).toNat).toNat : Nat) : Int) = a % 256 := by
 have h1 : 0 <= a % 256 := Int.emod_nonneg _ (by omega)
 have h2 : a % 256 < 256 := Int.emod_lt_of_pos _ (by omega)
 rw [UInt8.toNat_ofNat']
 omega
theorem EH {Q : ByteArray × Option Addr -> Prop} {ts : List (ByteArray × Option Addr)} (h : TxS Q ts) (s : ByteArray) (p : Option Addr) (hs : s.size <= 16384) (hq : Q (s, p)) : TxS Q (ts ++ [(s, p)]) := by
 intro k hk
 by_cases hl : k < ts.length
 ·rw [List.getElem_append_left hl]; exact h k hl
 ·rw [List.getElem_append_right (by omega)]; simpa using ⟨hs, hq⟩
theorem Mf (s : ByteArray) : (⟨s.toList.toArray⟩ : ByteArray) = s := by
 rw [ByteArray.toList_eq]
theorem LR (base : Nat) (w0 : World) (gw : Nat) (b o r x : RowV) (l : Nat -> Obj -> Prop) (Q : ByteArray × Option Addr -> Prop) (hQ : ∀ s, Q (s, none)) (tv : Value) (ts : List (ByteArray × Option Addr)) (a1 a2 a3 : Int) (w : World) (hS : WSt base w0 w gw b o r { v := tv, n := ts.length, xs := CN ts } x l)
  (hts : ts.length <= 100000) (hsz : TxS Q ts)
  (p1 : -9223372036854775808 <= a1) (p2 : a1 <= 9223372036854775807) (p3 : -9223372036854775808 <= a2) (p4 : a2 <= 9223372036854775807) :
  Calls Tryz.prog 19 #[.pointer (some ⟨gw, 0, none⟩), .int .i64 a1, .int .i64 a2, .int .i64 a3] w fun e w' => e = .returned (.tuple #[]) ∧ Mz base w0 w' gw b o r x l Q (ts.length + 1) := by
 obtain ⟨ta, tc, (hta : tv = .slice ta ts.length tc)⟩ := Ac hS.rt
 subst hta
 have c3 : w.cell? ⟨gw, 3, none⟩ = some (.slice ta ts.length tc) := hS.W.cell 3
 by_cases h0 : ts.length = 0
 ·have h0b : ((ts.length : Int) == 0) = true := by simp [h0]
  have HS := Hd hS
  have HZ := Hd hsz
  clear hS hsz h0
  go_enter Tryz.func19, Tryz.ntmps19
  go_wp2
  refine bodyPost_ret (results_none rfl _ _ _) rfl ?_
  exact ⟨rfl, _, ts, by omega, HZ.out, HS.out⟩
 ·have h0b : ((ts.length : Int) == 0) = false := by rw [beq_eq_false_iff_ne]; omega
  obtain ⟨q1, q2⟩ := D9 a1 ts.length (by omega)
  obtain ⟨k, hk⟩ := Int.eq_ofNat_of_zero_le q1
  have hkl : k < ts.length := by omega
  obtain ⟨gt, rfl, _⟩ := Ag hS.rt (by omega)
  have t0 := (hS.rt.cellAt (k * 2) (by show k * 2 < ts.length * 2; omega)).trans (Hq ts k hkl).1
  have t1 := (hS.rt.cellAt (k * 2 + 1) (by show k * 2 + 1 < ts.length * 2; omega)).trans (Hq ts k hkl).2
  have hs := (hsz k hkl).1
  have HQk : Hid (Q (ts[k].1, ts[k].2)) := (hsz k hkl).2
  have HQ := Hd hQ
  have HZ := Hd hsz
  generalize ts[k].1 = s at *
  generalize ts[k].2 = pl at *
  have HP : Hid (∀ u, Calls Tryz.prog 16 #[.int .i64 a1, .int .i64 ts.length] u fun e w' => e = .returned (.int .i64 k) ∧ u = w') := fun u => by
   rw [<- hk]; exact Gp _ _ _ p1 p2 (by omega) (by omega)
  clear hk q1 q2 hsz h0
  go_enter Tryz.func19, Tryz.ntmps19
  go_wp2_with fail
  have g1 : gt < w.heap.size := World.block_lt_of_cell? w _ t0
  have g2 : gw < w.heap.size := hS.W.lt
  go_cut [8] (fun s8 wx => s8 = .pointer (some ⟨w.heap.size, 0, none⟩) ∧ wx = (w.alloc (.cells #[.string s, .pointer pl] 42)).drew)
  case first =>
   go_region_with (go_at_call 16; refine (HP.out _).mono ?_; rintro e w' ⟨rfl, rfl⟩)
   all_goals (go_wp2_with fail; go_meet; exact ⟨rfl, rfl⟩)
  case rest =>
   obtain ⟨rfl, rfl⟩ := hcut
   clear HP t0 t1 c3
   obtain ⟨cap, W2, hcv, hby, hb2, hs2⟩ := Li (w.alloc (.cells #[.string s, .pointer pl] 42)).drew s
   have e1 : (w.alloc (.cells #[.string s, .pointer pl] 42)).drew.heap.size = w.heap.size + 1 := by simp
   rw [e1] at hcv hby hb2 hs2
   have hT1 : Has (w.alloc (.cells #[.string s, .pointer pl] 42)).drew w.heap.size 42 [.string s, .pointer pl] := (Has.newA w _ _).drew
   have hT := hT1.below hb2 (Nat.lt_succ_self _)
   have HB : Hid (Below w.heap.size w W2) := (((Below.refl _ w).alloc (Nat.le_refl _) _).drew).trans (hb2.mono (by omega))
   have HBY := Hd hby
   clear hT1 e1 hb2 hby
   go_upto_if 35 with fail
   go_cut [] (fun wx => ∃ l' : List UInt8, l'.length = s.size ∧ Fy wx (w.heap.size + 1) l' ∧ Below w.heap.size w wx ∧ Has wx w.heap.size 42 [.string s, .pointer pl])
   case first =>
    by_cases hpos : 0 < s.size
    ·obtain ⟨q1, q2⟩ := D9 a2 s.size (by omega)
     obtain ⟨k2, hk2⟩ := Int.eq_ofNat_of_zero_le q1
     have hk2l : k2 < s.size := by omega
     have HP2 : Hid (∀ u, Calls Tryz.prog 16 #[.int .i64 a2, .int .i64 s.size] u fun e w' => e = .returned (.int .i64 k2) ∧ u = w') := fun u => by
      rw [<- hk2]; exact Gp _ _ _ p3 p4 (by omega) (by omega)
     clear hk2 q1 q2
     have hcl := HBY.out k2 (s.data.toList[k2]'(by simpa using hk2l)) (by simp)
     obtain ⟨hc1, hc2⟩ := hcl
     go_wp2_with (go_at_call 16; refine (HP2.out _).mono ?_; rintro e w' ⟨rfl, rfl⟩)
     go_meet
     have eb := Ra a3
     refine ⟨s.data.toList.set k2 (UInt8.ofNat (a3 % 256).toNat), by simp, ?_, ?_, ?_⟩
     ·have h := HBY.out.set k2 (UInt8.ofNat (a3 % 256).toNat)
      rw [eb] at h; exact h
     ·exact HB.out.setCell (by simp) _
     ·exact hT.other _ _ (by show w.heap.size ≠ w.heap.size + 1; omega)
    ·go_wp2_with fail
     go_meet
     exact ⟨s.data.toList, by simp, HBY.out, HB.out, hT⟩
   case rest =>
    obtain ⟨l', hl', hby, hbw, hTc⟩ := hcut
    have HT2 := Hd hTc
    have x0 : wc.cell? ⟨w.heap.size, 0, none⟩ = some (.string s) := hTc.cell 0
    have x1 : wc.cell? ⟨w.heap.size, 1, none⟩ = some (.pointer pl) := hTc.cell 1
    have hgt := hTc.lt
    have hbk := fun c => Nz wc (w.heap.size + 1) c s.size l' hl'.symm hby
    have HBW := Hd hbw
    clear hby hbw hTc hT HBY HB hcv
    have HSc : Hid (WSt base w0 wc gw b o r { v := .slice (some ⟨gt, 0, none⟩) ts.length tc, n := ts.length, xs := CN ts } x l) := hS.below HBW.out
    have c3 : wc.cell? ⟨gw, 3, none⟩ = some (.slice (some ⟨gt, 0, none⟩) ts.length tc) := HSc.out.W.cell 3
    have g3 := HSc.out.W.lt
    have g4 : gw < wc.heap.size + 1 := by omega
    obtain ⟨i6, hi6, hz60, hz61, hz62⟩ := info_parts GN
    clear hS
    by_cases heq : (l' == s.toList) = true
    ·go_wp2_with fail
     go_region_law (refine AU rfl (.tmp 59) (.tmp 61) 30 rfl 42 i6 _ 2 24 Tryz.underlying30 hi6 hz60 hz61 hz62 rfl (by decide) base (.slice (some ⟨gt, 0, none⟩) ts.length tc) ts.length (CN ts) (by first | rfl | simp [Act.eval]) ((HSc.out.alloc _).alloc _).rt ((HSc.out.alloc _).alloc _).hsz ⟨_, 0, none⟩ 1 1 [.string ⟨l'.toArray⟩, .pointer pl] (by first | rfl | simp [Act.eval]) (by rfl) (Ap _ [.string ⟨l'.toArray⟩, .pointer pl] _ _ (by simp only [World.size_alloc])) (by simp [Value.oneCell']) (by decide) (by simp [maxLen]; omega) (by omega) ?_; intro g5 cap5 v5 hown5 hgrow5 hor5 hold5; obtain ⟨hW5, hS5⟩ := (((HSc.out.alloc _).alloc _).drew).pushT hgrow5 hown5 (by simpa using hor5); have c3' : v5.cell? ⟨gw, 3, none⟩ = some (.slice (some ⟨gt, 0, none⟩) ts.length tc) := hW5.cell 3; have f3' := hW5.frozen 3; have HS5 : Hid _ := hS5; clear hS5 hown5 hgrow5 hold5 hW5)
     all_goals
      go_wp2
      go_end0
      refine ⟨rfl, .slice (some ⟨g5, 0, none⟩) (ts.length + 1) cap5, ts ++ [(⟨l'.toArray⟩, pl)], by simp, ?_, ?_⟩
      ·exact EH HZ.out _ _ (by show l'.toArray.size <= 16384; simp; omega) (by have e1 := eq_of_beq heq; rw [e1, Mf]; exact HQk.out)
      ·rw [Fw, List.length_append]; exact HS5.out
    ·have heq' : (l' == s.toList) = false := by simpa using heq
     clear heq
     go_wp2_with fail
     go_region_law (refine AU rfl (.tmp 59) (.tmp 61) 30 rfl 42 i6 _ 2 24 Tryz.underlying30 hi6 hz60 hz61 hz62 rfl (by decide) base (.slice (some ⟨gt, 0, none⟩) ts.length tc) ts.length (CN ts) (by first | rfl | simp [Act.eval]) ((HSc.out.alloc _).alloc _).rt ((HSc.out.alloc _).alloc _).hsz ⟨_, 0, none⟩ 1 1 [.string ⟨l'.toArray⟩, .pointer none] (by first | rfl | simp [Act.eval]) (by rfl) (Ap _ [.string ⟨l'.toArray⟩, .pointer none] _ _ (by simp only [World.size_alloc])) (by simp [Value.oneCell']) (by decide) (by simp [maxLen]; omega) (by omega) ?_; intro g5 cap5 v5 hown5 hgrow5 hor5 hold5; obtain ⟨hW5, hS5⟩ := (((HSc.out.alloc _).alloc _).drew).pushT hgrow5 hown5 (by simpa using hor5); have c3' : v5.cell? ⟨gw, 3, none⟩ = some (.slice (some ⟨gt, 0, none⟩) ts.length tc) := hW5.cell 3; have f3' := hW5.frozen 3; have HS5 : Hid _ := hS5; clear hS5 hown5 hgrow5 hold5 hW5)
     all_goals
      go_wp2
      go_end0
      refine ⟨rfl, .slice (some ⟨g5, 0, none⟩) (ts.length + 1) cap5, ts ++ [(⟨l'.toArray⟩, none)], by simp, ?_, ?_⟩
      ·exact EH HZ.out _ _ (by show l'.toArray.size <= 16384; simp; omega) (HQ.out _)
      ·rw [Fw, List.length_append]; exact HS5.out
end Go.Proofs.YtohjjgefklhmaaaGreatDoor
