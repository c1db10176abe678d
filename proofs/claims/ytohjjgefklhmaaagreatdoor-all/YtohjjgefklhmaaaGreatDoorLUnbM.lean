import Derived.Test.YtohjjgefklhmaaaGreatDoorLLeave4M
import Derived.Test.YtohjjgefklhmaaaGreatDoorLMayM
namespace Go.Proofs.YtohjjgefklhmaaaGreatDoor
open Go.ChangeShapes Go.WideShapes Go.ChangeAt Go.RowKit
set_option linter.unusedVariables false
set_option linter.unusedSimpArgs false
set_option maxHeartbeats 40000000
set_option maxRecDepth 100000
variable {F0 : Nat -> Prop} {W0 w : World} {g : Nat} {c : LC} {bv vv dv ev : Value} {vals : List VS} {ds : List (DA × Value)} {ents : List ES} {n : Int}
def lvF (c : LC) (vals : List VS) (ds : List (DA × Value)) (kw k : Nat) (n q : Int) : Int × LC × List VS × List (DA × Value) :=
 if ¬ ((ds[(atF ds kw k).toNat]?).map (fun d => d.1.shares)).getD 0 - n = 0 then
  (AG (vals.getD k ⟨0, 0, 0, 0, 0, 0, false, false⟩) n, Bf c kw (c.bal.getD kw 0 + q), Ck (AS vals k q) k (-(AG (vals.getD k ⟨0, 0, 0, 0, 0, 0, false, false⟩) n)) (-n), CY (AW ds (atF ds kw k).toNat) (atF ds kw k).toNat n)
 else if ¬ (vals.getD k ⟨0, 0, 0, 0, 0, 0, false, false⟩).shares - n = 0 then
  (AG (vals.getD k ⟨0, 0, 0, 0, 0, 0, false, false⟩) n, Bf c kw (c.bal.getD kw 0 + q), Ck (AS vals k q) k (-(AG (vals.getD k ⟨0, 0, 0, 0, 0, 0, false, false⟩) n)) (-n), (CY (AW ds (atF ds kw k).toNat) (atF ds kw k).toNat n).eraseIdx (atF ds kw k).toNat)
 else
  (AG (vals.getD k ⟨0, 0, 0, 0, 0, 0, false, false⟩) n, { Bf c kw (c.bal.getD kw 0 + q) with pool := c.pool + ((vals.getD k ⟨0, 0, 0, 0, 0, 0, false, false⟩).outs - q) - (vals.getD k ⟨0, 0, 0, 0, 0, 0, false, false⟩).comm }, KK (Ck (AS vals k q) k (-(AG (vals.getD k ⟨0, 0, 0, 0, 0, 0, false, false⟩) n)) (-n)) k, (CY (AW ds (atF ds kw k).toNat) (atF ds kw k).toNat n).eraseIdx (atF ds kw k).toNat)
theorem Ju (g : Nat) (c : LC) (bv vv dv ev : Value) (vals : List VS) (ds : List (DA × Value)) (ents : List ES) (kw k : Nat) (n q : Int) (w : World) (h : LF F0 W0 w g c bv vv dv ev vals ds ents) (ld : ds.length <= 900) (lv : vals.length <= 1000) (lb : c.bal.length <= 1000) (hk : k < vals.length) (hkw : kw < c.bal.length) (i : Nat) (hi : i < ds.length) (hat : atF ds kw k = i) (hw : ds[i].1.who = kw) (hv : ds[i].1.val = k) (n0 : 1 <= n) (n1 : n <= ds[i].1.shares) (n2 : ds[i].1.shares <= vals[k].shares) (t0 : 0 <= vals[k].tokens) (t1 : vals[k].tokens <= 1000000) (s1 : vals[k].shares <= 1000000) (q0 : 0 <= q) (q1 : q <= 1000000000000) (b0 : 0 <= c.bal.getD kw 0) (b1 : c.bal.getD kw 0 <= 1000000000000) (o0 : 0 <= vals[k].outs) (o1 : vals[k].outs <= 1000000000000) (p0 : 0 <= c.pool) (p1 : c.pool <= 1000000000000) (m0 : 0 <= vals[k].comm) (m1 : vals[k].comm <= 1000000000000) :
  Calls Tryz.prog 131 #[.pointer (some ⟨g, 0, none⟩), .int .i64 kw, .int .i64 k, .int .i64 n, .int .i64 q] w fun e w' => e = .returned (.int .i64 (lvF c vals ds kw k n q).1) ∧ ∃ dv', LF F0 W0 w' g (lvF c vals ds kw k n q).2.1 bv vv dv' ev (lvF c vals ds kw k n q).2.2.1 (lvF c vals ds kw k n q).2.2.2 ents := by
 have hgv : vals.getD k ⟨0, 0, 0, 0, 0, 0, false, false⟩ = vals[k] := by simp [List.getD, hk]
 have hgi : ((ds[i]?).map (fun d => d.1.shares)).getD 0 = ds[i].1.shares := by simp [hi]
 unfold lvF
 rw [hat, Int.toNat_natCast, hgv, hgi]
 by_cases hz : ds[i].1.shares - n = 0
 ·rw [if_neg (by simpa using hz)]
  by_cases hl : vals[k].shares - n = 0
  ·rw [if_neg (by simpa using hl)]
   exact Lj g c bv vv dv ev vals ds ents kw k n q w h ld lv lb hk hkw i hi hat hw hv n0 n1 n2 t0 t1 s1 q0 q1 b0 b1 o0 o1 hz hl p0 p1 m0 m1
  ·rw [if_pos hl]
   exact MY g c bv vv dv ev vals ds ents kw k n q w h ld lv lb hk hkw i hi hat hw hv n0 n1 n2 t0 t1 s1 q0 q1 b0 b1 o0 o1 hz hl
 ·rw [if_pos hz]
  refine (Mb g c bv vv dv ev vals ds ents kw k n q w h ld lv lb hk hkw i hi hat hw hv n0 n1 n2 t0 t1 s1 q0 q1 b0 b1 o0 o1 hz).mono ?_
  rintro e w' ⟨rfl, h'⟩
  exact ⟨rfl, dv, h'⟩
theorem LF.push {v5 : World} {ev' : Value} {o : ES} (h : LF F0 W0 w g c bv vv dv ev vals ds ents) (hg : w.grownBy v5 ev.ownBlock) (hown : v5.ownsRow 0 131 4 ev' (ents.length + 1) (Bi ents ++ o.cells)) (hev : ∀ k, ev'.ownBlock = some k -> ev.ownBlock = some k ∨ w.heap.size <= k) :
  Has v5 g 81 [.int .i64 c.top, .int .i64 c.mature, .int .i64 c.fee, .int .i64 c.height, bv, .int .i64 c.fees, .int .i64 c.pool, vv, dv, ev] ∧ LF F0 W0 (v5.setCell ⟨g, 9, none⟩ ev') g c bv vv dv ev' vals ds (ents ++ [o]) := by
 have hL := Ao hg h.C.L (Has.apart h.C.L h.e (by decide))
 have hb := h.C.b.kept hg (Ae h.C.b h.e (by decide))
 have hv := h.v.kept hg (Ae h.v h.e (by decide))
 have hd := h.d.kept hg (Ae h.d h.e (by decide))
 have hp : ∀ i (hi : i < ds.length), v5.ownsRow 0 134 2 ds[i].2 ds[i].1.parts.length (Dh ds[i].1.parts) := fun i hi => (h.p i hi).kept hg (Ae (h.p i hi) h.e (by decide))
 have hk : Kp (LB F0 W0) W0 v5 := h.fr.trans ⟨hg.os, hg.tape, hg.output, hg.size, fun k hk hs => hg.block k hk (fun e => hs (h.fe k e.symm))⟩
 have hF : ∀ {e : TypeId} {size n : Nat} {x : Value} {xs : List Value}, v5.ownsRow 0 e size x n xs -> 81 ≠ e -> (v5.setCell ⟨g, 9, none⟩ ev').ownsRow 0 e size x n xs := fun hr hn => Aa hr _ _ (fun e => Has.apart hL hr hn e.symm)
 refine ⟨hL, hk.setCell (p := ⟨g, 9, none⟩) h.fg _, h.fg, h.fb, h.fv, h.fd, fun k hk' => ?_, h.fp, ⟨hL.set 9 ev', hF hb (by decide)⟩, hF hv (by decide), hF hd (by decide), fun i hi => hF (hp i hi) (by decide), ?_⟩
 ·rcases hev k hk' with h1 | h1
  ·exact h.fe k h1
  ·exact .inr (Nat.le_trans h.fr.size h1)
 ·simp only [List.length_append, List.length_singleton]
  rw [Fr]
  exact hF hown (by decide)
theorem LF.alloc (h : LF F0 W0 w g c bv vv dv ev vals ds ents) (o : Obj) : LF F0 W0 (w.alloc o) g c bv vv dv ev vals ds ents := h.below ((Below.refl _ _).alloc (Nat.le_refl _) o)
theorem LF.drew (h : LF F0 W0 w g c bv vv dv ev vals ds ents) : LF F0 W0 w.drew g c bv vv dv ev vals ds ents := h.eta rfl rfl rfl rfl
def Ep (who v : Int) (l : List ES) : Nat := l.countP (fun e => decide (e.who = who) && decide (e.val = v))
theorem Og (who v : Int) (l : List ES) (k : Nat) (h : k < l.length) : Ep who v (l.take (k + 1)) = Ep who v (l.take k) + (if l[k].who = who ∧ l[k].val = v then 1 else 0) := by
 unfold Ep
 rw [List.take_succ_eq_append_getElem h, List.countP_append]
 simp [List.countP_cons, List.countP_nil]
theorem Qs (who v : Int) (l : List ES) : Ep who v l <= l.length := List.countP_le_length
def DT (c : LC) (vals : List VS) (ds : List (DA × Value)) (ents : List ES) (who v n q : Int) : Int × LC × List VS × List (DA × Value) × List ES :=
 if (Ah c who).1 = 0 then
  if inN v 0 ((vals.length : Int) - 1) = true then
   if DN ds who v n = true then
    if Ep who v ents = 4 then (9, (Ah c who).2, vals, ds, ents)
    else (0, (lvF (Ah c who).2 vals ds who.toNat v.toNat n q).2.1, (lvF (Ah c who).2 vals ds who.toNat v.toNat n q).2.2.1, (lvF (Ah c who).2 vals ds who.toNat v.toNat n q).2.2.2, if 0 < (lvF (Ah c who).2 vals ds who.toNat v.toNat n q).1 then ents ++ [⟨who, v, (lvF (Ah c who).2 vals ds who.toNat v.toNat n q).2.1.height, (lvF (Ah c who).2 vals ds who.toNat v.toNat n q).1⟩] else ents)
   else (6, (Ah c who).2, vals, ds, ents)
  else (3, (Ah c who).2, vals, ds, ents)
 else ((Ah c who).1, (Ah c who).2, vals, ds, ents)
theorem JP {who v : Int} (h : DN ds who v n = true) : ∃ i : Nat, ∃ hi : i < ds.length, atF ds who v = i ∧ ds[i].1.who = who ∧ ds[i].1.val = v ∧ 1 <= n ∧ n <= ds[i].1.shares := by
 rcases Dt ds who v with ⟨hat, hf⟩ | ⟨i, hi, hat, hf, hw, hv⟩
 ·unfold DN at h; rw [hf] at h; simp at h
 ·unfold DN at h; rw [hf] at h
  simp [hi] at h
  exact ⟨i, hi, hat, hw, hv, h.1, h.2⟩
structure RM (c : LC) (vals : List VS) (ds : List (DA × Value)) : Prop where
 b : Gx c vals ds
 m : ∀ k (h : k < vals.length), 0 <= vals[k].comm ∧ vals[k].comm <= 1000000000000
 s : ∀ d ∈ ds, ∀ k (h : k < vals.length), d.1.val = k -> d.1.shares <= vals[k].shares
theorem Gx.charge (hb : Gx c vals ds) (who : Int) : (Ah c who).2.pool = c.pool ∧ (Ah c who).2.height = c.height := by
 unfold Ah
 split
 ·split <;> exact ⟨rfl, rfl⟩
 ·exact ⟨rfl, rfl⟩
theorem LU (g : Nat) (c : LC) (bv vv dv ev : Value) (vals : List VS) (ds : List (DA × Value)) (ents : List ES) (who v n q : Int) (w : World) (h : LF F0 W0 w g c bv vv dv ev vals ds ents) (ok : RM c vals ds) (le : ents.length <= 100000) (q0 : 0 <= q) (q1 : q <= 1000000000000) :
  Calls Tryz.prog 67 #[.pointer (some ⟨g, 0, none⟩), .int .i64 who, .int .i64 v, .int .i64 n, .int .i64 q] w fun e w' => e = .returned (.int .i64 (DT c vals ds ents who v n q).1) ∧ ∃ dv' ev', LF F0 W0 w' g (DT c vals ds ents who v n q).2.1 bv vv dv' ev' (DT c vals ds ents who v n q).2.2.1 (DT c vals ds ents who v n q).2.2.2.1 (DT c vals ds ents who v n q).2.2.2.2 := by
 have hb := ok.b
 obtain ⟨hcl, hcb, hcw⟩ := B7 hb who
 obtain ⟨hcp, hch⟩ := hb.charge who
 have HCh : Hid _ := Hp g c bv vv dv ev vals ds ents who w h hb.hc
 have lb : (Ah c who).2.bal.length <= 1000 := by rw [hcl]; exact hb.hc.len
 rw [<- hcl] at hcw
 generalize hR : DT c vals ds ents who v n q = R
 have HR := Hd hR
 clear hR
 unfold DT at HR
 have p0 := hb.hc.pool0
 have p1 := hb.hc.pool1
 rw [<- hcp] at p0 p1
 cases hr : Ah c who with
 | mk r1 c1 =>
 rw [hr] at hcl hcb hcw lb HCh HR p0 p1
 simp only at hcl hcb hcw lb HCh HR p0 p1
 clear hr h hcp hch
 have lv := hb.lv
 have ld := hb.ld
 go_enter Tryz.func67, Tryz.ntmps67
 go_wp2_with fail
 refine Calls.mono HCh.out ?_
 rintro e w1 ⟨rfl, h1⟩
 clear HCh
 have HL := Hd h1
 clear h1
 by_cases h0 : r1 = 0
 case neg =>
  rw [if_neg h0] at HR
  have e0 : (r1 == 0) = false := by simp [h0]
  clear hcb hcw h0
  go_wp2
  go_ret
  rw [<- HR.out]; exact ⟨rfl, dv, ev, HL.out⟩
 subst h0
 obtain ⟨kw, rfl, hkw⟩ := hcw rfl
 rw [if_pos rfl] at HR
 simp only [Int.toNat_natCast] at HR
 clear hcw
 have HV : Hid (Calls Tryz.prog 100 #[.pointer (some ⟨g, 0, none⟩), .int .i64 v] w1 fun e w' => e = .returned (.bool (inN v 0 ((vals.length : Int) - 1))) ∧ w1 = w') := DG g vv vals v w1 (HL.out.lvals lv)
 by_cases hin : inN v 0 ((vals.length : Int) - 1) = true
 case neg =>
  have hin' : inN v 0 ((vals.length : Int) - 1) = false := by simpa using hin
  rw [if_neg hin] at HR
  rw [hin'] at HV
  clear hcb hin hin'
  go_wp2_with fail
  refine HV.out.mono ?_
  rintro e w' ⟨rfl, rfl⟩
  clear HV
  go_wp2
  go_ret
  rw [<- HR.out]; exact ⟨rfl, dv, ev, HL.out⟩
 rw [if_pos hin] at HR
 rw [hin] at HV
 obtain ⟨u1, u2⟩ := AQ.1 hin
 obtain ⟨k, rfl⟩ := Int.eq_ofNat_of_zero_le u1
 have hk : k < vals.length := by omega
 clear hin u1 u2
 simp only [Int.toNat_natCast] at HR
 have HH : Hid (Calls Tryz.prog 130 #[.pointer (some ⟨g, 0, none⟩), .int .i64 kw, .int .i64 k, .int .i64 n] w1 fun e w' => e = .returned (.bool (DN ds kw k n)) ∧ w1 = w') := MG g c1 bv vv dv ev vals ds ents kw k n w1 HL.out ld
 go_wp2_with fail
 refine HV.out.mono ?_
 rintro e w' ⟨rfl, rfl⟩
 clear HV
 by_cases hh : DN ds kw k n = true
 case neg =>
  have hh' : DN ds kw k n = false := by simpa using hh
  rw [if_neg hh] at HR
  rw [hh'] at HH
  clear hcb hh hh'
  go_wp2_with fail
  refine HH.out.mono ?_
  rintro e w' ⟨rfl, rfl⟩
  clear HH
  go_wp2
  go_ret
  rw [<- HR.out]; exact ⟨rfl, dv, ev, HL.out⟩
 rw [if_pos hh] at HR
 rw [hh] at HH
 obtain ⟨i, hi, hat, hw, hv, n0, n1⟩ := JP hh
 clear hh
 go_wp2_with fail
 refine HH.out.mono ?_
 rintro e w' ⟨rfl, rfl⟩
 clear HH
 have hbk := hcb kw hkw
 have hgd : c1.bal.getD kw 0 = c1.bal[kw] := by simp [List.getD, hkw]
 rw [<- hgd] at hbk
 have HLv : Hid (Calls Tryz.prog 131 #[.pointer (some ⟨g, 0, none⟩), .int .i64 kw, .int .i64 k, .int .i64 n, .int .i64 q] w1 fun e w' => e = .returned (.int .i64 (lvF c1 vals ds kw k n q).1) ∧ ∃ dv', LF F0 W0 w' g (lvF c1 vals ds kw k n q).2.1 bv vv dv' ev (lvF c1 vals ds kw k n q).2.2.1 (lvF c1 vals ds kw k n q).2.2.2 ents) := by
  obtain ⟨t0, t1, s0, s1, o0, o1⟩ := hb.v k hk
  obtain ⟨m0, m1⟩ := ok.m k hk
  exact Ju g c1 bv vv dv ev vals ds ents kw k n q w1 HL.out ld lv lb hk hkw i hi hat hw hv n0 n1 (ok.s _ (List.getElem_mem hi) k hk hv) t0 t1 s1 q0 q1 (by omega) (by omega) o0 o1 p0 p1 m0 m1
 clear hcb hbk hgd hat hw hv n0 n1 ok hb
 obtain ⟨ea, ec, rfl⟩ := Ac HL.out.e
 have c9 : w1.cell? ⟨g, 9, none⟩ = some (.slice ea ents.length ec) := HL.out.C.L.cell 9
 have HE := Hd HL.out.e
 generalize hlf : lvF c1 vals ds kw k n q = lf at *
 obtain ⟨t, c2, V2, D2⟩ := lf
 simp only at HR HLv
 clear hlf
 go_wp2
 go_loop [14, 15] (fun m i => ∃ j : Nat, j <= ents.length ∧ i = .int .i64 j ∧ m = .int .i64 (Ep kw k (ents.take j))) (fun _ i => ents.length - (intOf i).toNat)
 case atStart => exact ⟨0, Nat.zero_le _, rfl, rfl⟩
 case round =>
  obtain ⟨j, hj, rfl, rfl⟩ := hrel
  by_cases hlt : j < ents.length
  ·obtain ⟨ge, rfl, _⟩ := Ag HE.out (by omega)
   have y0 : w1.cell? ⟨ge, j * 4, none⟩ = some (.int .i64 ents[j].who) := by
    have := (HE.out.cellAt (j * 4 + 0) (by omega)).trans (AC ents j hlt 0 (by omega))
    simpa [ES.cells] using this
   have y1 : w1.cell? ⟨ge, j * 4 + 1, none⟩ = some (.int .i64 ents[j].val) := by
    have := (HE.out.cellAt (j * 4 + 1) (by omega)).trans (AC ents j hlt 1 (by omega))
    simpa [ES.cells] using this
   have HC : Hid (Ep kw k (ents.take (j + 1)) = Ep kw k (ents.take j) + (if ents[j].who = kw ∧ ents[j].val = k then 1 else 0)) := Og kw k ents j hlt
   have hcl := Qs kw k (ents.take j)
   simp only [List.length_take] at hcl
   generalize ents[j].who = ew at *
   generalize ents[j].val = el at *
   generalize Ep kw k (ents.take j) = cj at *
   by_cases e1 : ew = kw
   ·have q1 : (ew == (kw : Int)) = true := by simp [e1]
    by_cases e2 : el = k
    ·have q2 : (el == (k : Int)) = true := by simp [e2]
     have HC1 : Hid (Ep kw k (ents.take (j + 1)) = cj + 1) := by show _ = _; rw [HC.out, if_pos ⟨e1, e2⟩]
     clear HC e1 e2
     go_wp2
     refine And.intro ⟨j + 1, by omega, by go_num, ?_⟩ (by simp [intOf]; omega)
     rw [HC1.out]
     first | rfl | go_num
    ·have q2 : (el == (k : Int)) = false := by simp [e2]
     have HC1 : Hid (Ep kw k (ents.take (j + 1)) = cj) := by show _ = _; rw [HC.out, if_neg (fun h => e2 h.2)]; rfl
     clear HC e1 e2
     go_wp2
     exact And.intro ⟨j + 1, by omega, by go_num, by rw [HC1.out]⟩ (by simp [intOf]; omega)
   ·have q1 : (ew == (kw : Int)) = false := by simp [e1]
    have HC1 : Hid (Ep kw k (ents.take (j + 1)) = cj) := by show _ = _; rw [HC.out, if_neg (fun h => e1 h.1)]; rfl
    clear HC e1
    go_wp2
    exact And.intro ⟨j + 1, by omega, by go_num, by rw [HC1.out]⟩ (by simp [intOf]; omega)
  ·have ej : Ep kw k (ents.take j) = Ep kw k ents := by rw [List.take_of_length_le (by omega)]
   rw [ej]
   clear ej
   generalize Ep kw k ents = cn at *
   by_cases h4 : cn = 4
   ·subst h4
    rw [if_pos rfl] at HR
    clear HLv HE
    go_wp2
    go_ret
    rw [<- HR.out]; exact ⟨rfl, dv, _, HL.out⟩
   rw [if_neg h4] at HR
   have e4 : ((cn : Int) == 4) = false := by rw [beq_eq_false_iff_ne]; omega
   clear h4 HL
   go_wp2_with fail
   refine HLv.out.mono ?_
   rintro e w2 ⟨rfl, dv2, h2⟩
   clear HLv HE
   have HL2 := Hd h2
   clear h2
   by_cases ht : 0 < t
   ·rw [if_pos ht] at HR
    obtain ⟨i5, hi5, hz50, hz51, hz52⟩ := info_parts GC
    have c3 : w2.cell? ⟨g, 3, none⟩ = some (.int .i64 c2.height) := HL2.out.C.L.cell 3
    have c9' : w2.cell? ⟨g, 9, none⟩ = some (.slice ea ents.length ec) := HL2.out.C.L.cell 9
    have g1 := HL2.out.C.L.lt
    have g2 : g < w2.heap.size + 1 := by omega
    go_wp2_with fail
    go_region_law (refine AU rfl (.tmp 82) (.tmp 91) 79 rfl 131 i5 _ 4 32 Tryz.underlying79 hi5 hz50 hz51 hz52 rfl (by decide) 0 (.slice ea ents.length ec) ents.length (Bi ents) (by first | rfl | simp [Act.eval]) (HL2.out.alloc _).e (Nat.zero_le _) ⟨_, 0, none⟩ 1 1 [.int .i64 kw, .int .i64 k, .int .i64 c2.height, .int .i64 t] (by first | rfl | simp [Act.eval]) (by rfl) (Ap _ [.int .i64 kw, .int .i64 k, .int .i64 c2.height, .int .i64 t] _ _ (by simp)) (by simp [Value.oneCell']) (by decide) (by simp [maxLen]; omega) (by omega) ?_; intro g5 cap5 v5 hown5 hgrow5 hor5 hold5; obtain ⟨hL5, hP5⟩ := ((HL2.out.alloc _).drew).push (o := ⟨kw, k, c2.height, t⟩) hgrow5 hown5 (fun q hq => by simp only [Value.ownBlock, Option.some.injEq] at hq; rw [<- hq]; exact hor5); have c9'' : v5.cell? ⟨g, 9, none⟩ = some (.slice ea ents.length ec) := hL5.cell 9; have fr5 : v5.frozen? ⟨g, 9, none⟩ = false := hL5.frozen 9; have HP5 : Hid _ := hP5; clear hP5 hL5 hown5 hgrow5 hor5 hold5)
    all_goals
     go_wp2
     go_ret
     rw [<- HR.out]
     exact ⟨rfl, dv2, _, HP5.out⟩
   ·rw [if_neg ht] at HR
    go_wp2
    go_ret
    rw [<- HR.out]; exact ⟨rfl, dv2, _, HL2.out⟩
def Hg (c : LC) (vals : List VS) (ds : List (DA × Value)) (who v tw n q z : Int) : Int × LC × List VS × List (DA × Value) :=
 if (Ah c who).1 = 0 then
  if inN v 0 ((vals.length : Int) - 1) = true ∧ inN tw 0 ((vals.length : Int) - 1) = true ∧ v ≠ tw then
   if DN ds who v n = true then
    if AG (vals.getD v.toNat ⟨0, 0, 0, 0, 0, 0, false, false⟩) n = 0 then (8, (Ah c who).2, vals, ds)
    else if (Dc (vals.getD tw.toNat ⟨0, 0, 0, 0, 0, 0, false, false⟩) (AG (vals.getD v.toNat ⟨0, 0, 0, 0, 0, 0, false, false⟩) n)).2 = 0 then
     (0, Cd (lvF (Ah c who).2 vals ds who.toNat v.toNat n q).2.1 (lvF (Ah c who).2 vals ds who.toNat v.toNat n q).2.2.1 (lvF (Ah c who).2 vals ds who.toNat v.toNat n q).2.2.2 who.toNat tw.toNat (AG (vals.getD v.toNat ⟨0, 0, 0, 0, 0, 0, false, false⟩) n) (Dc (vals.getD tw.toNat ⟨0, 0, 0, 0, 0, 0, false, false⟩) (AG (vals.getD v.toNat ⟨0, 0, 0, 0, 0, 0, false, false⟩) n)).1 z)
    else ((Dc (vals.getD tw.toNat ⟨0, 0, 0, 0, 0, 0, false, false⟩) (AG (vals.getD v.toNat ⟨0, 0, 0, 0, 0, 0, false, false⟩) n)).2, (Ah c who).2, vals, ds)
   else (6, (Ah c who).2, vals, ds)
  else (3, (Ah c who).2, vals, ds)
 else ((Ah c who).1, (Ah c who).2, vals, ds)
theorem KE {x : VS} (n0 : 0 <= n) (t0 : 0 <= x.tokens) (s0 : 1 <= x.shares) (h : n <= x.shares) : 0 <= AG x n ∧ AG x n <= x.tokens := by
 unfold AG
 refine ⟨Int.ediv_nonneg (Int.mul_nonneg n0 t0) (by omega), ?_⟩
 have h1 : n * x.tokens <= x.shares * x.tokens := Int.mul_le_mul_of_nonneg_right h t0
 have h2 : x.shares * x.tokens / x.shares = x.tokens := Int.mul_ediv_cancel_left _ (by omega)
 have h3 := Int.ediv_le_ediv (show 0 < x.shares by omega) h1
 omega
theorem PP (g : Nat) (c : LC) (bv vv dv ev : Value) (vals : List VS) (ds : List (DA × Value)) (ents : List ES) (who v tw n q z : Int) (w : World) (h : LF F0 W0 w g c bv vv dv ev vals ds ents) (ok : RM c vals ds) (q0 : 0 <= q) (q1 : q <= 1000000000000) (z0 : 0 <= z) (z1 : z <= 1000000000000)
  (hL : ∀ kw k : Nat, who = kw -> v = k -> kw < c.bal.length -> k < vals.length -> (Ah c who).1 = 0 -> DN ds who v n = true -> Gx (lvF (Ah c who).2 vals ds kw k n q).2.1 (lvF (Ah c who).2 vals ds kw k n q).2.2.1 (lvF (Ah c who).2 vals ds kw k n q).2.2.2 ∧ (lvF (Ah c who).2 vals ds kw k n q).2.1.bal.length = c.bal.length ∧ (lvF (Ah c who).2 vals ds kw k n q).2.2.1.length = vals.length) :
  Calls Tryz.prog 68 #[.pointer (some ⟨g, 0, none⟩), .int .i64 who, .int .i64 v, .int .i64 tw, .int .i64 n, .int .i64 q, .int .i64 z] w fun e w' => e = .returned (.int .i64 (Hg c vals ds who v tw n q z).1) ∧ ∃ dv', LF F0 W0 w' g (Hg c vals ds who v tw n q z).2.1 bv vv dv' ev (Hg c vals ds who v tw n q z).2.2.1 (Hg c vals ds who v tw n q z).2.2.2 ents := by
 have hb := ok.b
 obtain ⟨hcl, hcb, hcw⟩ := B7 hb who
 obtain ⟨hcp, hch⟩ := hb.charge who
 have HCh : Hid _ := Hp g c bv vv dv ev vals ds ents who w h hb.hc
 have lb : (Ah c who).2.bal.length <= 1000 := by rw [hcl]; exact hb.hc.len
 rw [<- hcl] at hcw
 generalize hR : Hg c vals ds who v tw n q z = R
 have HR := Hd hR
 clear hR
 unfold Hg at HR
 have p0 := hb.hc.pool0
 have p1 := hb.hc.pool1
 rw [<- hcp] at p0 p1
 cases hr : Ah c who with
 | mk r1 c1 =>
 rw [hr] at hcl hcb hcw lb HCh HR p0 p1 hL
 simp only at hcl hcb hcw lb HCh HR p0 p1 hL
 clear hr h hcp hch
 have lv := hb.lv
 have ld := hb.ld
 go_enter Tryz.func68, Tryz.ntmps68
 go_wp2_with fail
 refine Calls.mono HCh.out ?_
 rintro e w1 ⟨rfl, h1⟩
 clear HCh
 have HL := Hd h1
 clear h1
 by_cases h0 : r1 = 0
 case neg =>
  rw [if_neg h0] at HR
  have e0 : (r1 == 0) = false := by simp [h0]
  clear hcb hcw h0 hL
  go_wp2
  go_ret
  rw [<- HR.out]; exact ⟨rfl, dv, HL.out⟩
 subst h0
 obtain ⟨kw, rfl, hkw⟩ := hcw rfl
 rw [if_pos rfl] at HR
 simp only [Int.toNat_natCast] at HR
 clear hcw
 have HV : Hid (Calls Tryz.prog 100 #[.pointer (some ⟨g, 0, none⟩), .int .i64 v] w1 fun e w' => e = .returned (.bool (inN v 0 ((vals.length : Int) - 1))) ∧ w1 = w') := DG g vv vals v w1 (HL.out.lvals lv)
 have HT : Hid (Calls Tryz.prog 100 #[.pointer (some ⟨g, 0, none⟩), .int .i64 tw] w1 fun e w' => e = .returned (.bool (inN tw 0 ((vals.length : Int) - 1))) ∧ w1 = w') := DG g vv vals tw w1 (HL.out.lvals lv)
 by_cases hin : inN v 0 ((vals.length : Int) - 1) = true ∧ inN tw 0 ((vals.length : Int) - 1) = true ∧ v ≠ tw
 case neg =>
  rw [if_neg hin] at HR
  have hin' : inN v 0 ((vals.length : Int) - 1) = true -> inN tw 0 ((vals.length : Int) - 1) = true -> v = tw := fun a b => Classical.byContradiction (fun hc => hin ⟨a, b, hc⟩)
  clear hcb hin hL
  generalize inN v 0 ((vals.length : Int) - 1) = b1 at *
  generalize inN tw 0 ((vals.length : Int) - 1) = b2 at *
  go_wp2_with fail
  refine HV.out.mono ?_
  rintro e w' ⟨rfl, rfl⟩
  clear HV
  go_wp2_with fail
  refine HT.out.mono ?_
  rintro e w' ⟨rfl, rfl⟩
  clear HT
  cases b1 with
  | false =>
   clear hin'
   go_wp2
   go_ret
   rw [<- HR.out]; exact ⟨rfl, dv, HL.out⟩
  | true =>
   cases b2 with
   | false =>
    clear hin'
    go_wp2
    go_ret
    rw [<- HR.out]; exact ⟨rfl, dv, HL.out⟩
   | true =>
    have hvt := hin' rfl rfl
    subst hvt
    clear hin'
    go_wp2
    go_ret
    rw [<- HR.out]; exact ⟨rfl, dv, HL.out⟩
 obtain ⟨hi1, hi2, hne⟩ := hin
 rw [if_pos ⟨hi1, hi2, hne⟩] at HR
 rw [hi1] at HV
 rw [hi2] at HT
 obtain ⟨u1, u2⟩ := AQ.1 hi1
 obtain ⟨k, rfl⟩ := Int.eq_ofNat_of_zero_le u1
 obtain ⟨u3, u4⟩ := AQ.1 hi2
 obtain ⟨k2, rfl⟩ := Int.eq_ofNat_of_zero_le u3
 have hk : k < vals.length := by omega
 have hk2 : k2 < vals.length := by omega
 have e9 : ((k : Int) == (k2 : Int)) = false := by simpa using hne
 clear hi1 hi2 u1 u2 u3 u4
 have hgv : vals.getD k ⟨0, 0, 0, 0, 0, 0, false, false⟩ = vals[k] := by simp [List.getD, hk]
 have hgv2 : vals.getD k2 ⟨0, 0, 0, 0, 0, 0, false, false⟩ = vals[k2] := by simp [List.getD, hk2]
 simp only [Int.toNat_natCast, hgv, hgv2] at HR
 clear hgv hgv2
 have HH : Hid (Calls Tryz.prog 130 #[.pointer (some ⟨g, 0, none⟩), .int .i64 kw, .int .i64 k, .int .i64 n] w1 fun e w' => e = .returned (.bool (DN ds kw k n)) ∧ w1 = w') := MG g c1 bv vv dv ev vals ds ents kw k n w1 HL.out ld
 go_wp2_with fail
 refine HV.out.mono ?_
 rintro e w' ⟨rfl, rfl⟩
 clear HV
 go_wp2_with fail
 refine HT.out.mono ?_
 rintro e w' ⟨rfl, rfl⟩
 clear HT
 by_cases hh : DN ds kw k n = true
 case neg =>
  have hh' : DN ds kw k n = false := by simpa using hh
  rw [if_neg hh] at HR
  rw [hh'] at HH
  clear hcb hh hh' hL
  go_wp2_with fail
  refine HH.out.mono ?_
  rintro e w' ⟨rfl, rfl⟩
  clear HH
  go_wp2
  go_ret
  rw [<- HR.out]; exact ⟨rfl, dv, HL.out⟩
 rw [if_pos hh] at HR
 rw [hh] at HH
 obtain ⟨i, hi, hat, hw, hv, n0, n1⟩ := JP hh
 obtain ⟨hB2, hl2, hv2⟩ := hL kw k rfl rfl (by omega) hk (by first | rfl | trivial) hh
 clear hh hL
 have hsv := ok.s _ (List.getElem_mem hi) k hk hv
 obtain ⟨t0, t1, s0, s1, o0, o1⟩ := hb.v k hk
 obtain ⟨t20, t21, s20, s21, o20, o21⟩ := hb.v k2 hk2
 obtain ⟨m0, m1⟩ := ok.m k hk
 obtain ⟨wt0, wt1⟩ := KE (x := vals[k]) (n := n) (by omega) t0 (by omega) (by omega)
 have hbk := hcb kw hkw
 have hgd : c1.bal.getD kw 0 = c1.bal[kw] := by simp [List.getD, hkw]
 rw [<- hgd] at hbk
 have HW : Hid (Calls Tryz.prog 132 #[.pointer (some ⟨g, 0, none⟩), .int .i64 k, .int .i64 n] w1 fun e w' => e = .returned (.int .i64 (AG vals[k] n)) ∧ ∃ m, w' = w1.drewN m) := Fm g vv vals k n w1 (HL.out.lvals lv) hk (by omega) (by omega) t0 t1 (by omega)
 have HL1 : Hid (∀ m, LF F0 W0 (w1.drewN m) g c1 bv vv dv ev vals ds ents) := fun m => HL.out.eta rfl rfl rfl rfl
 have HLv : Hid (∀ m, Calls Tryz.prog 131 #[.pointer (some ⟨g, 0, none⟩), .int .i64 kw, .int .i64 k, .int .i64 n, .int .i64 q] (w1.drewN m) fun e w' => e = .returned (.int .i64 (lvF c1 vals ds kw k n q).1) ∧ ∃ dv', LF F0 W0 w' g (lvF c1 vals ds kw k n q).2.1 bv vv dv' ev (lvF c1 vals ds kw k n q).2.2.1 (lvF c1 vals ds kw k n q).2.2.2 ents) :=
  fun m => Ju g c1 bv vv dv ev vals ds ents kw k n q _ (HL1.out m) ld lv lb hk hkw i hi hat hw hv n0 n1 hsv t0 t1 s1 q0 q1 (by omega) (by omega) o0 o1 p0 p1 m0 m1
 have hbs := G7 (x := vals[k2]) (a := AG vals[k] n) wt0 t20 s20
 have HBu : Hid (∀ m, Calls Tryz.prog 128 #[.pointer (some ⟨g, 0, none⟩), .int .i64 k2, .int .i64 (AG vals[k] n)] (w1.drewN m) fun e w' => e = .returned (.tuple #[.int .i64 (Dc vals[k2] (AG vals[k] n)).1, .int .i64 (Dc vals[k2] (AG vals[k] n)).2]) ∧ w1.drewN m = w') := fun m => ME g vv vals k2 (AG vals[k] n) _ ((HL1.out m).lvals lv) hk2 wt0 (by omega) t20 t21 s20 s21
 have wtb : AG vals[k] n <= 1000000 := by omega
 clear hcb hbk hgd hat hw hv n0 n1 hsv
 generalize AG vals[k] n = t at *
 cases hbf : Dc vals[k2] t with
 | mk bn bf =>
 rw [hbf] at HBu HR hbs
 simp only at HBu HR hbs
 generalize hlf : lvF c1 vals ds kw k n q = lf at *
 obtain ⟨lt, c2, V2, D2⟩ := lf
 simp only at HR HLv hB2 hl2 hv2
 clear hlf hbf
 go_wp2_with fail
 refine HH.out.mono ?_
 rintro e w' ⟨rfl, rfl⟩
 clear HH
 go_wp2_with fail
 refine HW.out.mono ?_
 rintro e w' ⟨rfl, m, rfl⟩
 clear HW HL
 by_cases ht : t = 0
 ·rw [if_pos ht] at HR
  subst ht
  clear HLv HBu hB2
  go_wp2
  go_ret
  rw [<- HR.out]; exact ⟨rfl, dv, HL1.out m⟩
 rw [if_neg ht] at HR
 have et : (t == 0) = false := by simp [ht]
 clear ht
 go_wp2_with fail
 refine (HBu.out m).mono ?_
 rintro e w' ⟨rfl, rfl⟩
 clear HBu
 by_cases hz : bf = 0
 case neg =>
  rw [if_neg hz] at HR
  have e0 : (bf == 0) = false := by simp [hz]
  clear hz HLv hB2 hbs
  go_wp2
  go_ret
  rw [<- HR.out]; exact ⟨rfl, dv, HL1.out m⟩
 subst hz
 rw [if_pos rfl] at HR
 obtain ⟨bn0, bn1⟩ := hbs rfl
 clear hbs HL1
 go_wp2_with fail
 refine (HLv.out m).mono ?_
 rintro e w2 ⟨rfl, dv2, h2⟩
 clear HLv
 have hkw2 : kw < c2.bal.length := by omega
 have hbk2 : 0 <= c2.bal.getD kw 0 ∧ c2.bal.getD kw 0 <= 1000000 := by
  have e : c2.bal.getD kw 0 = c2.bal[kw] := by simp [List.getD, hkw2]
  rw [e]; exact ⟨(hB2.hc.bal kw hkw2).1, hB2.bal kw hkw2⟩
 have hk2' : k2 < V2.length := by omega
 have hv2' := hB2.v k2 hk2'
 have HE : Hid (Calls Tryz.prog 129 #[.pointer (some ⟨g, 0, none⟩), .int .i64 kw, .int .i64 k2, .int .i64 t, .int .i64 bn, .int .i64 z] w2 fun e w' => e = .returned (.tuple #[]) ∧ ∃ dv', LF F0 W0 w' g (Cd c2 V2 D2 kw k2 t bn z).1 bv vv dv' ev (Cd c2 V2 D2 kw k2 t bn z).2.1 (Cd c2 V2 D2 kw k2 t bn z).2.2 ents) :=
  Jx g c2 bv vv dv2 ev V2 D2 ents kw k2 t bn z w2 h2 hB2.ld hB2.lv hB2.hc.len hk2' hkw2 bn0 (by omega) hB2.d wt0 (by omega) hv2'.1 (by omega) hv2'.2.2.1 (by omega) z0 z1 hbk2.1 (by omega) hv2'.2.2.2.2.1 hv2'.2.2.2.2.2
 generalize Cd c2 V2 D2 kw k2 t bn z = R2 at *
 clear h2 hB2 hv2' hbk2
 go_wp2_with fail
 refine HE.out.mono ?_
 rintro e w3 ⟨rfl, dv3, h3⟩
 have H3 : Hid _ := h3
 clear h3 HE
 go_wp2
 go_ret
 rw [<- HR.out]; exact ⟨rfl, dv3, H3.out⟩
end Go.Proofs.YtohjjgefklhmaaaGreatDoor
