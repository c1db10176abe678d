import Derived.Test.YtohjjgefklhmaaaGreatDoorLAtM
namespace Go.Proofs.YtohjjgefklhmaaaGreatDoor
open Go.ChangeShapes Go.WideShapes Go.ChangeAt Go.RowKit
set_option linter.unusedVariables false
set_option linter.unusedSimpArgs false
set_option maxHeartbeats 40000000
set_option maxRecDepth 100000
variable {F0 : Nat -> Prop} {W0 w wr : World} {g gv m cap : Nat} {c : LC} {bv dv ev out : Value} {vals : List VS} {ds l : List (DA × Value)} {ents : List ES} {α : Type}
theorem LF.newDels {u : World} {vv dv' : Value} {L : List (DA × Value)} (h : LF F0 W0 w g c bv vv dv ev vals ds ents) (hb : Below w.heap.size w u) (hr : u.ownsRow w.heap.size 84 4 dv' L.length (BC L)) (hm : ∀ x ∈ L, x ∈ ds) : LF F0 W0 (u.setCell ⟨g, 8, none⟩ dv') g c bv vv dv' ev vals L ents := by
 have hU := h.below hb
 refine ⟨hU.fr.setCell (p := ⟨g, 8, none⟩) hU.fg _, hU.fg, hU.fb, hU.fv, fun k hk => ?_, hU.fe, fun j hj' k hk => ?_, ⟨hU.C.L.set 8 _, Aa hU.C.b _ _ (fun e => Has.apart hU.C.L hU.C.b (by decide) e.symm)⟩, Aa hU.v _ _ (fun e => Has.apart hU.C.L hU.v (by decide) e.symm), ?_, fun j hj' => ?_, Aa hU.e _ _ (fun e => Has.apart hU.C.L hU.e (by decide) e.symm)⟩
 ·exact .inr (Nat.le_trans h.fr.size (hr.lt k hk).1)
 ·obtain ⟨i, hi, he⟩ := List.getElem_of_mem (hm _ (List.getElem_mem hj'))
  rw [<- he] at hk; exact hU.fp i hi k hk
 ·exact Aj (Aa hr _ _ (fun e => Has.apart hU.C.L hr (by decide) e.symm)) (Nat.zero_le _)
 ·obtain ⟨i, hi, he⟩ := List.getElem_of_mem (hm _ (List.getElem_mem hj'))
  rw [<- he]; exact Aa (hU.p i hi) _ _ (fun e => Has.apart hU.C.L (hU.p i hi) (by decide) e.symm)
theorem G5 (ds : List α) (i k : Nat) (hk : k < ds.length) (h : k ≠ i) : (ds.take (k + 1)).eraseIdx i = (ds.take k).eraseIdx i ++ [ds[k]] := by
 rw [List.take_succ_eq_append_getElem hk]
 by_cases hl : i < k
 ·rw [List.eraseIdx_append_of_lt_length (by simp; omega)]
 ·rw [List.eraseIdx_of_length_le (by simp; omega), List.eraseIdx_of_length_le (by simp; omega)]
theorem Ix (ds : List α) (i : Nat) (hk : i < ds.length) : (ds.take (i + 1)).eraseIdx i = (ds.take i).eraseIdx i := by
 rw [List.take_succ_eq_append_getElem hk, List.eraseIdx_append_of_length_le (by simp; omega), List.eraseIdx_of_length_le (l := ds.take i) (by simp; omega)]
 simp [Nat.min_eq_left (Nat.le_of_lt hk)]
theorem JG (ds : List α) (i k : Nat) : ((ds.take k).eraseIdx i).length <= k := by
 have := List.length_eraseIdx_le (ds.take k) i
 have h2 : (ds.take k).length <= k := by simp; omega
 omega
def CY (ds : List (DA × Value)) (i : Nat) (n : Int) : List (DA × Value) := ds.modify i (fun d => ({ d.1 with shares := d.1.shares - n }, d.2))
theorem IA (ds : List (DA × Value)) (i : Nat) (h : i < ds.length) (n : Int) : CY ds i n = ds.set i ({ ds[i].1 with shares := ds[i].1.shares - n }, ds[i].2) := FL ds i h _
theorem LF.lessAll {gd md capd : Nat} (h : LF F0 W0 w g c bv (.slice (some ⟨gv, 0, none⟩) m cap) (.slice (some ⟨gd, 0, none⟩) md capd) ev vals ds ents) (hm : m = vals.length) (hmd : md = ds.length) (k : Nat) (hk : k < vals.length) (i : Nat) (hi : i < ds.length) (t n : Int) :
  LF F0 W0 (((w.setCell ⟨gv, k * 8 + 2, none⟩ (.int .i64 (vals[k].tokens - t))).setCell ⟨gv, k * 8 + 3, none⟩ (.int .i64 (vals[k].shares - n))).setCell ⟨gd, i * 4 + 2, none⟩ (.int .i64 (ds[i].1.shares - n))) g c bv (.slice (some ⟨gv, 0, none⟩) m cap) (.slice (some ⟨gd, 0, none⟩) md capd) ev (Ck vals k (-t) (-n)) (CY ds i n) ents := by
 have h1 := h.addBoth hm k hk (-t) (-n)
 rw [<- Int.sub_eq_add_neg, <- Int.sub_eq_add_neg] at h1
 rw [IA ds i hi]
 exact h1.setDel hmd (i * 4 + 2) (.int .i64 (ds[i].1.shares - n)) (G0 ds i hi _) (by simp) (fun j hj => by
   by_cases e : i = j
   ·subst e; simp only [List.getElem_set_self]; exact h1.p i hi
   ·simp only [List.getElem_set_ne e]; exact h1.p j (by simpa using hj)) (fun j hj k hk => by
   by_cases e : i = j
   ·subst e; simp only [List.getElem_set_self] at hk; exact h1.fp i hi k hk
   ·simp only [List.getElem_set_ne e] at hk; exact h1.fp j (by simpa using hj) k hk)
def KK (vals : List VS) (k : Nat) : List VS := vals.modify k (fun v => { v with outs := v.comm })
theorem Qp (vals : List VS) (k : Nat) (h : k < vals.length) : KK vals k = vals.set k { vals[k] with outs := vals[k].comm } := by
 unfold KK
 induction vals generalizing k with
 | nil => simp at h
 | cons d ds ih =>
  cases k with
  | zero => simp
  | succ i => simp only [List.modify_succ_cons, List.set_cons_succ, List.getElem_cons_succ]; rw [ih i (by simpa using h)]
theorem LF.last (h : LF F0 W0 w g c bv (.slice (some ⟨gv, 0, none⟩) m cap) dv ev vals ds ents) (hm : m = vals.length) (k : Nat) (hk : k < vals.length) (p : Int) :
  LF F0 W0 ((w.setCell ⟨g, 6, none⟩ (.int .i64 p)).setCell ⟨gv, k * 8 + 5, none⟩ (.int .i64 vals[k].comm)) g { c with pool := p } bv (.slice (some ⟨gv, 0, none⟩) m cap) dv ev (KK vals k) ds ents := by
 have h1 := h.setHead (c' := { c with pool := p }) 6 (.int .i64 p) ⟨h.C.L.set 6 _, Aa h.C.b _ _ (fun e => Has.apart h.C.L h.C.b (by decide) e.symm)⟩
 rw [Qp vals k hk]
 exact h1.setVal hm (k * 8 + 5) (.int .i64 vals[k].comm) (Lm vals k hk 5 _ _ rfl (by omega)) (by simp)
structure XI (w wr : World) (out : Value) (l : List (DA × Value)) : Prop where
 fr : Below w.heap.size w wr
 r : wr.ownsRow w.heap.size 84 4 out l.length (BC l)
theorem XI.alloc (h : XI w wr out l) (o : Obj) : XI w (wr.alloc o) out l := ⟨h.fr.alloc h.fr.size o, h.r.alloc o⟩
theorem XI.push {v5 : World} {out' : Value} {o : DA × Value} (h : XI w wr out l) (hg : wr.grownBy v5 out.ownBlock) (hown : v5.ownsRow w.heap.size 84 4 out' (l.length + 1) (BC l ++ DA.cells o)) : XI w v5 out' (l ++ [o]) :=
 ⟨h.fr.grown hg h.fr.size (fun j hj => (h.r.lt j hj).1), by rw [JN, List.length_append]; exact hown⟩
theorem Mb (g : Nat) (c : LC) (bv vv dv ev : Value) (vals : List VS) (ds : List (DA × Value)) (ents : List ES) (kw k : Nat) (n q : Int) (w : World) (h : LF F0 W0 w g c bv vv dv ev vals ds ents) (ld : ds.length <= 900) (lv : vals.length <= 1000) (lb : c.bal.length <= 1000) (hk : k < vals.length) (hkw : kw < c.bal.length) (i : Nat) (hi : i < ds.length) (hat : atF ds kw k = i) (hw : ds[i].1.who = kw) (hv : ds[i].1.val = k) (n0 : 1 <= n) (n1 : n <= ds[i].1.shares) (n2 : ds[i].1.shares <= vals[k].shares) (t0 : 0 <= vals[k].tokens) (t1 : vals[k].tokens <= 1000000) (s1 : vals[k].shares <= 1000000) (q0 : 0 <= q) (q1 : q <= 1000000000000) (b0 : 0 <= c.bal.getD kw 0) (b1 : c.bal.getD kw 0 <= 1000000000000) (o0 : 0 <= vals[k].outs) (o1 : vals[k].outs <= 1000000000000) (hz : ¬ ds[i].1.shares - n = 0) :
  Calls Tryz.prog 131 #[.pointer (some ⟨g, 0, none⟩), .int .i64 kw, .int .i64 k, .int .i64 n, .int .i64 q] w fun e w' => e = .returned (.int .i64 (AG vals[k] n)) ∧ LF F0 W0 w' g (Bf c kw (c.bal.getD kw 0 + q)) bv vv dv ev (Ck (AS vals k q) k (-(AG vals[k] n)) (-n)) (CY (AW ds i) i n) ents := by
 have c8 : w.cell? ⟨g, 8, none⟩ = some dv := h.C.L.cell 8
 have HAt : Hid (Calls Tryz.prog 51 #[.pointer (some ⟨g, 0, none⟩), .int .i64 kw, .int .i64 k] w fun e w' => e = .returned (.int .i64 i) ∧ w = w') := by
  have := Db g _ ds kw k w c8 (Rd.of_owns h.d) (by omega)
  rwa [hat] at this
 have HP : Hid (Calls Tryz.prog 133 #[.pointer (some ⟨g, 0, none⟩), .int .i64 i, .int .i64 q] w fun e w' => e = .returned (.tuple #[]) ∧ LF F0 W0 w' g (Bf c kw (c.bal.getD kw 0 + q)) bv vv dv ev (AS vals k q) (AW ds i) ents) := by
  have := Fb g c bv vv dv ev vals ds ents i kw k q w h hi hw hv hkw hk lb lv (by omega) _ rfl b0 b1 q0 q1 o0 o1
  rwa [<- A9 vals k hk, <- BA ds i hi] at this
 have hk1 : k < (AS vals k q).length := by rw [A9 vals k hk]; simpa using hk
 have lv1 : (AS vals k q).length <= 1000 := by rw [A9 vals k hk]; simpa using lv
 have hi1 : i < (AW ds i).length := by rw [BA ds i hi]; simpa using hi
 have ld1 : (AW ds i).length <= 900 := by rw [BA ds i hi]; simpa using ld
 have et : (AS vals k q)[k].tokens = vals[k].tokens := by simp only [A9 vals k hk, List.getElem_set_self]
 have es : (AS vals k q)[k].shares = vals[k].shares := by simp only [A9 vals k hk, List.getElem_set_self]
 have ed : (AW ds i)[i].1.shares = ds[i].1.shares := by simp only [BA ds i hi, List.getElem_set_self]
 have ew : AG (AS vals k q)[k] n = AG vals[k] n := by unfold AG; rw [et, es]
 rw [<- ew]
 rw [<- et] at t0 t1
 rw [<- es] at s1 n2
 rw [<- ed] at n1 n2 hz
 have w0 : 0 <= AG (AS vals k q)[k] n := Int.ediv_nonneg (Int.mul_nonneg (by omega) t0) (by omega)
 have w9 : AG (AS vals k q)[k] n <= 1000000000000 := by
  unfold AG
  refine Int.le_trans (Int.ediv_le_self _ (Int.mul_nonneg (by omega) t0)) ?_
  exact Int.le_trans (Int.mul_le_mul (show n <= 1000000 by omega) t1 t0 (by decide)) (by decide)
 clear h hat c8 et es ed ew
 generalize AS vals k q = vals1 at *
 generalize AW ds i = ds1 at *
 generalize Bf c kw (c.bal.getD kw 0 + q) = c1 at *
 obtain ⟨t, ht⟩ : ∃ t, AG vals1[k] n = t := ⟨_, rfl⟩
 have HT := Hd ht
 rw [ht] at w0 w9 ⊢
 clear ht
 go_enter Tryz.func131, Tryz.ntmps131
 go_wp2_with fail
 refine HAt.out.mono ?_
 rintro e w' ⟨rfl, rfl⟩
 clear HAt
 go_wp2_with fail
 refine HP.out.mono ?_
 rintro e w1 ⟨rfl, h1⟩
 clear HP
 have HW : Hid (Calls Tryz.prog 132 #[.pointer (some ⟨g, 0, none⟩), .int .i64 k, .int .i64 n] w1 fun e w' => e = .returned (.int .i64 t) ∧ ∃ m, w' = w1.drewN m) := HT.out ▸ Fm g vv vals1 k n w1 (h1.lvals lv1) hk1 (by omega) (by omega) t0 t1 (by omega)
 clear HT
 go_wp2_with fail
 refine HW.out.mono ?_
 rintro e w' ⟨rfl, m, rfl⟩
 clear HW
 have h2 : LF F0 W0 (w1.drewN m) g c1 bv vv dv ev vals1 ds1 ents := h1.eta rfl rfl rfl rfl
 clear h1
 generalize w1.drewN m = w2 at *
 obtain ⟨va, vc, rfl⟩ := Ac h2.v
 obtain ⟨gv, rfl, _⟩ := Ag h2.v (by omega)
 obtain ⟨da, dc, rfl⟩ := Ac h2.d
 obtain ⟨gd, rfl, _⟩ := Ag h2.d (by omega)
 have c7 : w2.cell? ⟨g, 7, none⟩ = some (.slice (some ⟨gv, 0, none⟩) vals1.length vc) := h2.C.L.cell 7
 have c8 : w2.cell? ⟨g, 8, none⟩ = some (.slice (some ⟨gd, 0, none⟩) ds1.length dc) := h2.C.L.cell 8
 have zt : w2.cell? ⟨gv, k * 8 + 2, none⟩ = some (.int .i64 vals1[k].tokens) := by
  have := (h2.v.cellAt (k * 8 + 2) (by omega)).trans (An vals1 k hk1 2 (by omega))
  simpa [VS.cells] using this
 have zs : w2.cell? ⟨gv, k * 8 + 3, none⟩ = some (.int .i64 vals1[k].shares) := by
  have := (h2.v.cellAt (k * 8 + 3) (by omega)).trans (An vals1 k hk1 3 (by omega))
  simpa [VS.cells] using this
 have zd : w2.cell? ⟨gd, i * 4 + 2, none⟩ = some (.int .i64 ds1[i].1.shares) := by
  have := (h2.d.cellAt (i * 4 + 2) (by omega)).trans (BF ds1 i hi1 2 (by omega))
  simpa [DA.cells] using this
 have ft := h2.v.frozenAt (k * 8 + 2)
 have fs := h2.v.frozenAt (k * 8 + 3)
 have fd := h2.d.frozenAt (i * 4 + 2)
 have n2 : g ≠ gv := fun e => Has.apart h2.C.L h2.v (by decide) (by rw [e]; rfl)
 have n2' := n2.symm
 have n3 : g ≠ gd := fun e => Has.apart h2.C.L h2.d (by decide) (by rw [e]; rfl)
 have n3' := n3.symm
 have n6 : gv ≠ gd := fun e => Bd h2.v h2.d (by decide) (by rw [e]; rfl)
 have n6' := n6.symm
 have HF : Hid _ := h2.lessAll rfl rfl k hk1 i hi1 t n
 clear h2
 generalize vals1[k].tokens = zt0 at *
 generalize vals1[k].shares = zs0 at *
 generalize ds1[i].1.shares = zd0 at *
 have e1 : (zd0 - n == 0) = false := by simp [hz]
 have e2 : (zs0 - n == 0) = false := by simp; omega
 clear hz
 go_wp2_with fail
 go_region
 go_wp2_with fail
 go_region
 go_wp2_with fail
 go_region
 go_wp2
 go_ret
 exact ⟨rfl, HF.out.eta rfl rfl rfl rfl⟩
theorem MY (g : Nat) (c : LC) (bv vv dv ev : Value) (vals : List VS) (ds : List (DA × Value)) (ents : List ES) (kw k : Nat) (n q : Int) (w : World) (h : LF F0 W0 w g c bv vv dv ev vals ds ents) (ld : ds.length <= 900) (lv : vals.length <= 1000) (lb : c.bal.length <= 1000) (hk : k < vals.length) (hkw : kw < c.bal.length) (i : Nat) (hi : i < ds.length) (hat : atF ds kw k = i) (hw : ds[i].1.who = kw) (hv : ds[i].1.val = k) (n0 : 1 <= n) (n1 : n <= ds[i].1.shares) (n2 : ds[i].1.shares <= vals[k].shares) (t0 : 0 <= vals[k].tokens) (t1 : vals[k].tokens <= 1000000) (s1 : vals[k].shares <= 1000000) (q0 : 0 <= q) (q1 : q <= 1000000000000) (b0 : 0 <= c.bal.getD kw 0) (b1 : c.bal.getD kw 0 <= 1000000000000) (o0 : 0 <= vals[k].outs) (o1 : vals[k].outs <= 1000000000000) (hz : ds[i].1.shares - n = 0) (hl : ¬ vals[k].shares - n = 0) :
  Calls Tryz.prog 131 #[.pointer (some ⟨g, 0, none⟩), .int .i64 kw, .int .i64 k, .int .i64 n, .int .i64 q] w fun e w' => e = .returned (.int .i64 (AG vals[k] n)) ∧ ∃ dv', LF F0 W0 w' g (Bf c kw (c.bal.getD kw 0 + q)) bv vv dv' ev (Ck (AS vals k q) k (-(AG vals[k] n)) (-n)) ((CY (AW ds i) i n).eraseIdx i) ents := by
 obtain ⟨i5, hi5, hz50, hz51, hz52⟩ := info_parts Fp
 have c8 : w.cell? ⟨g, 8, none⟩ = some dv := h.C.L.cell 8
 have HAt : Hid (Calls Tryz.prog 51 #[.pointer (some ⟨g, 0, none⟩), .int .i64 kw, .int .i64 k] w fun e w' => e = .returned (.int .i64 i) ∧ w = w') := by
  have := Db g _ ds kw k w c8 (Rd.of_owns h.d) (by omega)
  rwa [hat] at this
 have HP : Hid (Calls Tryz.prog 133 #[.pointer (some ⟨g, 0, none⟩), .int .i64 i, .int .i64 q] w fun e w' => e = .returned (.tuple #[]) ∧ LF F0 W0 w' g (Bf c kw (c.bal.getD kw 0 + q)) bv vv dv ev (AS vals k q) (AW ds i) ents) := by
  have := Fb g c bv vv dv ev vals ds ents i kw k q w h hi hw hv hkw hk lb lv (by omega) _ rfl b0 b1 q0 q1 o0 o1
  rwa [<- A9 vals k hk, <- BA ds i hi] at this
 have hk1 : k < (AS vals k q).length := by rw [A9 vals k hk]; simpa using hk
 have lv1 : (AS vals k q).length <= 1000 := by rw [A9 vals k hk]; simpa using lv
 have hi1 : i < (AW ds i).length := by rw [BA ds i hi]; simpa using hi
 have ld1 : (AW ds i).length <= 900 := by rw [BA ds i hi]; simpa using ld
 have et : (AS vals k q)[k].tokens = vals[k].tokens := by simp only [A9 vals k hk, List.getElem_set_self]
 have es : (AS vals k q)[k].shares = vals[k].shares := by simp only [A9 vals k hk, List.getElem_set_self]
 have ed : (AW ds i)[i].1.shares = ds[i].1.shares := by simp only [BA ds i hi, List.getElem_set_self]
 have ew : AG (AS vals k q)[k] n = AG vals[k] n := by unfold AG; rw [et, es]
 rw [<- ew]
 rw [<- et] at t0 t1
 rw [<- es] at s1 n2 hl
 rw [<- ed] at n1 n2 hz
 have w0 : 0 <= AG (AS vals k q)[k] n := Int.ediv_nonneg (Int.mul_nonneg (by omega) t0) (by omega)
 have w9 : AG (AS vals k q)[k] n <= 1000000000000 := by
  unfold AG
  refine Int.le_trans (Int.ediv_le_self _ (Int.mul_nonneg (by omega) t0)) ?_
  exact Int.le_trans (Int.mul_le_mul (show n <= 1000000 by omega) t1 t0 (by decide)) (by decide)
 clear h hat c8 et es ed ew
 generalize AS vals k q = vals1 at *
 generalize AW ds i = ds1 at *
 generalize Bf c kw (c.bal.getD kw 0 + q) = c1 at *
 obtain ⟨t, ht⟩ : ∃ t, AG vals1[k] n = t := ⟨_, rfl⟩
 have HT := Hd ht
 rw [ht] at w0 w9 ⊢
 clear ht
 go_enter Tryz.func131, Tryz.ntmps131
 go_wp2_with fail
 refine HAt.out.mono ?_
 rintro e w' ⟨rfl, rfl⟩
 clear HAt
 go_wp2_with fail
 refine HP.out.mono ?_
 rintro e w1 ⟨rfl, h1⟩
 clear HP
 have HW : Hid (Calls Tryz.prog 132 #[.pointer (some ⟨g, 0, none⟩), .int .i64 k, .int .i64 n] w1 fun e w' => e = .returned (.int .i64 t) ∧ ∃ m, w' = w1.drewN m) := HT.out ▸ Fm g vv vals1 k n w1 (h1.lvals lv1) hk1 (by omega) (by omega) t0 t1 (by omega)
 clear HT
 go_wp2_with fail
 refine HW.out.mono ?_
 rintro e w' ⟨rfl, m, rfl⟩
 clear HW
 have h2 : LF F0 W0 (w1.drewN m) g c1 bv vv dv ev vals1 ds1 ents := h1.eta rfl rfl rfl rfl
 clear h1
 generalize w1.drewN m = w2 at *
 obtain ⟨va, vc, rfl⟩ := Ac h2.v
 obtain ⟨gv, rfl, _⟩ := Ag h2.v (by omega)
 obtain ⟨da, dc, rfl⟩ := Ac h2.d
 obtain ⟨gd, rfl, _⟩ := Ag h2.d (by omega)
 have c7 : w2.cell? ⟨g, 7, none⟩ = some (.slice (some ⟨gv, 0, none⟩) vals1.length vc) := h2.C.L.cell 7
 have c8 : w2.cell? ⟨g, 8, none⟩ = some (.slice (some ⟨gd, 0, none⟩) ds1.length dc) := h2.C.L.cell 8
 have zt : w2.cell? ⟨gv, k * 8 + 2, none⟩ = some (.int .i64 vals1[k].tokens) := by
  have := (h2.v.cellAt (k * 8 + 2) (by omega)).trans (An vals1 k hk1 2 (by omega))
  simpa [VS.cells] using this
 have zs : w2.cell? ⟨gv, k * 8 + 3, none⟩ = some (.int .i64 vals1[k].shares) := by
  have := (h2.v.cellAt (k * 8 + 3) (by omega)).trans (An vals1 k hk1 3 (by omega))
  simpa [VS.cells] using this
 have zd : w2.cell? ⟨gd, i * 4 + 2, none⟩ = some (.int .i64 ds1[i].1.shares) := by
  have := (h2.d.cellAt (i * 4 + 2) (by omega)).trans (BF ds1 i hi1 2 (by omega))
  simpa [DA.cells] using this
 have ft := h2.v.frozenAt (k * 8 + 2)
 have fs := h2.v.frozenAt (k * 8 + 3)
 have fd := h2.d.frozenAt (i * 4 + 2)
 have n2 : g ≠ gv := fun e => Has.apart h2.C.L h2.v (by decide) (by rw [e]; rfl)
 have n2' := n2.symm
 have n3 : g ≠ gd := fun e => Has.apart h2.C.L h2.d (by decide) (by rw [e]; rfl)
 have n3' := n3.symm
 have n6 : gv ≠ gd := fun e => Bd h2.v h2.d (by decide) (by rw [e]; rfl)
 have n6' := n6.symm
 have HF : Hid _ := h2.lessAll rfl rfl k hk1 i hi1 t n
 have hk3 : k < (Ck vals1 k (-t) (-n)).length := by rw [Ed vals1 k hk1]; simpa using hk1
 have hks : ∃ h : k < (Ck vals1 k (-t) (-n)).length, (Ck vals1 k (-t) (-n))[k].shares = vals1[k].shares - n := by
  refine ⟨hk3, ?_⟩
  simp only [Ed vals1 k hk1, List.getElem_set_self]; omega
 have hv3 : (Ck vals1 k (-t) (-n)).length = vals1.length := by rw [Ed vals1 k hk1]; simp
 have hl3 : (CY ds1 i n).length = ds1.length := by rw [IA ds1 i hi1]; simp
 clear h2
 generalize vals1[k].tokens = zt0 at *
 generalize vals1[k].shares = zs0 at *
 generalize ds1[i].1.shares = zd0 at *
 have e1 : (zd0 - n == 0) = true := by simp [hz]
 have e2 : (zs0 - n == 0) = false := by simp [hl]
 clear hz hl
 go_wp2_with fail
 go_region
 go_wp2_with fail
 go_region
 go_wp2_with fail
 go_region
 go_wp2
 refine (show ∀ w3, LF F0 W0 w3 g c1 bv (.slice (some ⟨gv, 0, none⟩) vals1.length vc) (.slice (some ⟨gd, 0, none⟩) ds1.length dc) ev (Ck vals1 k (-t) (-n)) (CY ds1 i n) ents -> Code.wp _ _ _ _ w3 from ?_) _ (HF.out.eta rfl rfl rfl rfl)
 intro w3 h3
 have HL3 : Hid _ := h3
 clear HF h3 zt zs zd ft fs fd c7 c8
 obtain ⟨vals3, ev3⟩ : ∃ x, Ck vals1 k (-t) (-n) = x := ⟨_, rfl⟩
 obtain ⟨ds3, ed3⟩ : ∃ x, CY ds1 i n = x := ⟨_, rfl⟩
 have HE3 := Hd ev3
 have HD3 := Hd ed3
 rw [ev3] at hks hv3 HL3
 clear hk3
 obtain ⟨hk3, hs3⟩ := hks
 rw [ed3] at hl3 HL3
 clear ev3 ed3
 go_loopw [13, 14] (fun out j wr => ∃ (jn : Nat), j = .int .i64 jn ∧ jn <= ds3.length ∧ XI w3 wr out ((ds3.take jn).eraseIdx i)) (fun _ j _ => ds3.length - (intOf j).toNat)
 case atStart => exact ⟨0, rfl, Nat.zero_le _, ⟨Below.refl _ _, by simpa [BC] using World.ownsRow_nil _ _ _ _⟩⟩
 case round =>
  obtain ⟨jn, rfl, hj, hX⟩ := hrel
  have hle := JG ds3 i jn
  obtain ⟨l, hl⟩ : ∃ l, (ds3.take jn).eraseIdx i = l := ⟨_, rfl⟩
  rw [hl] at hX hle
  have HE := Hd hl
  clear hl
  obtain ⟨oa, oc, rfl⟩ := Ac hX.r
  have HX := Hd hX
  have HLW := (show Hid _ from HL3.out.below hX.fr)
  have hsz : w3.heap.size <= wr.heap.size := hX.fr.size
  clear hX
  have c8' : wr.cell? ⟨g, 8, none⟩ = some (.slice (some ⟨gd, 0, none⟩) ds1.length dc) := HLW.out.C.L.cell 8
  have f8 := HLW.out.C.L.frozen 8
  have hgl := HLW.out.C.L.lt
  by_cases hlt : jn < ds3.length
  ·obtain ⟨pa, pc, hpv⟩ := Ac (HLW.out.p jn hlt)
   have HDD : Hid (wr.ownsRow 0 84 4 (.slice (some ⟨gd, 0, none⟩) ds3.length dc) ds3.length (BC ds3)) := by have := HLW.out.d; rwa [<- hl3] at this
   have hcell : ∀ x, x < 4 -> wr.cell? ⟨gd, jn * 4 + x, none⟩ = (DA.cells ds3[jn])[x]? := fun x hx => (HDD.out.cellAt (jn * 4 + x) (by omega)).trans (BF ds3 jn hlt x hx)
   have y0 := hcell 0 (by omega)
   have y1 := hcell 1 (by omega)
   have y2 := hcell 2 (by omega)
   have y3 := hcell 3 (by omega)
   have hgdl : gd < wr.heap.size := (HLW.out.d.lt gd rfl).2
   by_cases hji : jn = i
   ·have e3 : ((jn : Int) == (i : Int)) = true := by simp [hji]
    have HN : Hid ((ds3.take (jn + 1)).eraseIdx i = l) := by
     show _ = l
     subst hji
     rw [Ix ds3 jn hlt]; exact HE.out
    clear hji hcell y0 y1 y2 y3 hpv HE
    go_wp2
    refine And.intro ?_ ?_
    ·refine ⟨jn + 1, by go_num, by omega, ?_⟩
     rw [HN.out]; exact HX.out
    ·simp [intOf]; omega
   ·have e3 : ((jn : Int) == (i : Int)) = false := by simp; omega
    have HN : Hid ((ds3.take (jn + 1)).eraseIdx i = l ++ [ds3[jn]]) := by
     show _ = _
     rw [G5 ds3 i jn hlt hji, HE.out]
    clear hji HE
    obtain ⟨o, ho⟩ : ∃ o, ds3[jn] = o := ⟨_, rfl⟩
    rw [ho] at y0 y1 y2 y3 HN hpv
    obtain ⟨⟨ow, ov, os, op⟩, opv⟩ := o
    simp only at hpv
    subst hpv
    simp only [DA.cells, List.getElem?_cons_succ, List.getElem?_cons_zero, Nat.add_zero] at y0 y1 y2 y3
    clear hcell ho
    go_wp2_with (at_builtin; go_loud (refine Ak rfl (.tmp 99) (.tmp 107) 78 rfl 84 i5 _ 4 48 Tryz.underlying78 hi5 hz50 hz51 hz52 rfl (by decide) w3.heap.size _ l.length (BC (l)) rfl (HX.out.alloc _).r (HX.out.alloc _).fr.size ⟨_, 0, none⟩ 1 1 [.int .i64 ow, .int .i64 ov, .int .i64 os, .slice pa op.length pc] rfl (by rfl) (Ap _ [.int .i64 ow, .int .i64 ov, .int .i64 os, .slice pa op.length pc] _ _ (by simp)) (by simp [Value.oneCell']) (by decide) (by simp [maxLen]; omega) (by omega) ?_))
    intro g5 cap5 v5 hown5 hgrow5 hor5 hold5
    have HX5 : Hid (XI w3 v5 (.slice (some ⟨g5, 0, none⟩) (l.length + 1) cap5) (l ++ [(⟨ow, ov, os, op⟩, .slice pa op.length pc)])) := (HX.out.alloc _).push (o := (⟨ow, ov, os, op⟩, .slice pa op.length pc)) hgrow5 hown5
    clear hown5 hgrow5 hor5 hold5 HX
    go_wp2
    refine And.intro ?_ ?_
    ·refine ⟨jn + 1, by go_num, by omega, ?_⟩
     rw [HN.out]; exact HX5.out
    ·simp [intOf]; omega
  ·have hje : jn = ds3.length := by omega
   subst hje
   rw [List.take_length] at HE
   have HF4 : Hid _ := HL3.out.newDels HX.out.fr HX.out.r (by rw [<- HE.out]; exact fun x hx => List.mem_of_mem_eraseIdx hx)
   have c7 : wr.cell? ⟨g, 7, none⟩ = some (.slice (some ⟨gv, 0, none⟩) vals1.length vc) := HLW.out.C.L.cell 7
   have zs : wr.cell? ⟨gv, k * 8 + 3, none⟩ = some (.int .i64 (zs0 - n)) := by
    have hvv : wr.ownsRow 0 114 8 (.slice (some ⟨gv, 0, none⟩) vals3.length vc) vals3.length (A5 vals3) := by have := HLW.out.v; rwa [<- hv3] at this
    have := (hvv.cellAt (k * 8 + 3) (by omega)).trans (An vals3 k hk3 3 (by omega))
    rw [<- hs3]; simpa [VS.cells] using this
   clear HLW HX
   go_wp2
   go_ret
   refine ⟨rfl, (.slice oa l.length oc), ?_⟩
   rw [HE3.out, HD3.out, HE.out]; exact HF4.out
end Go.Proofs.YtohjjgefklhmaaaGreatDoor
