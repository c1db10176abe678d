import Derived.Test.YtohjjgefklhmaaaGreatDoorLCoreM
namespace Go.Proofs.YtohjjgefklhmaaaGreatDoor
open Go.ChangeShapes Go.WideShapes Go.ChangeAt Go.RowKit
set_option linter.unusedVariables false
set_option maxHeartbeats 40000000
set_option maxRecDepth 100000
variable {α : Type} {w wr : World} {st vv dv : Value} {g k i : Nat} {vals : List VS} {cs : List Value} {d c x : Int} {l a b L : List Int}
structure PS where
 of : Int
 shares : Int
def PS.cells (p : PS) : List Value := [.int .i64 p.of, .int .i64 p.shares]
def Dh : List PS -> List Value
 | [] => []
 | v :: l => v.cells ++ Dh l
theorem Hu (l : List PS) (k : Nat) (h : k < l.length) (i : Nat) (hi : i < 2) : (Dh l)[k * 2 + i]? = l[k].cells[i]? := by
 induction l generalizing k with
 | nil => simp at h
 | cons v l ih =>
  cases k with
  | zero => simp [Dh, List.getElem?_append_left (show i < v.cells.length by simpa [PS.cells] using hi)]
  | succ k =>
   rw [Dh, List.getElem?_append_right (by simp [PS.cells]; omega)]
   have e : (k + 1) * 2 + i - v.cells.length = k * 2 + i := by simp [PS.cells]; omega
   rw [e, ih k (by simpa using h)]
   simp
theorem N7 (l : List PS) (o : PS) : Dh (l ++ [o]) = Dh l ++ o.cells := by
 induction l with
 | nil => simp [Dh]
 | cons v l ih => simp [Dh, ih]
def Ch (p q : PS) : PS := if q.shares = p.shares then ⟨q.of + p.of, q.shares⟩ else q
def Dp (p : PS) (l : List PS) : Bool := l.any (fun q => decide (q.shares = p.shares))
def Cb (l : List PS) (p : PS) : List PS := l.map (Ch p) ++ (if Dp p l = true then [] else [p])
theorem IF : (Tryz.prog.info? 134).map (fun i => (i.zero, i.size, i.bytes)) = some (some (.agg #[.int .i64 0, .int .i64 0]), 2, 16) := by kernel_rfl
def POk (l : List PS) (p : PS) : Prop := l.length <= 100000 ∧ (0 <= p.of ∧ p.of <= 1000000000) ∧ ∀ k (h : k < l.length), 0 <= l[k].of ∧ l[k].of <= 1000000000000
theorem IY {β : Type} (f : α -> β) (l : List α) (k : Nat) (h : k < l.length) : (l.take (k + 1)).map f = (l.take k).map f ++ [f l[k]] := by
 rw [List.take_succ_eq_append_getElem h, List.map_append]; rfl
theorem LE (p : PS) (l : List PS) (k : Nat) (h : k < l.length) : Dp p (l.take (k + 1)) = (Dp p (l.take k) || decide (l[k].shares = p.shares)) := by
 unfold Dp; rw [List.take_succ_eq_append_getElem h, List.any_append]; simp
structure Ha (w wr : World) (p : PS) (st : Value) (out : List PS) : Prop where
 rs : wr.ownsRow (w.heap.size + 1) 134 2 st out.length (Dh out)
 pb : Has wr w.heap.size 134 p.cells
 B : Below w.heap.size w wr
theorem Ha.alloc {p : PS} {out : List PS} (h : Ha w wr p st out) (o : Obj) : Ha w (wr.alloc o) p st out :=
 ⟨h.rs.alloc o, h.pb.alloc o, h.B.alloc h.B.size o⟩
theorem Ha.push {v5 : World} {p o : PS} {out : List PS} {g5 cap5 : Nat} (h : Ha w wr p st out) (hg : wr.grownBy v5 st.ownBlock) (ho : v5.ownsRow (w.heap.size + 1) 134 2 (.slice (some ⟨g5, 0, none⟩) (out.length + 1) cap5) (out.length + 1) (Dh out ++ o.cells)) :
  Ha w v5 p (.slice (some ⟨g5, 0, none⟩) (out.length + 1) cap5) (out ++ [o]) := by
 refine ⟨?_, Ao hg h.pb (fun e => ?_), Below.grown h.B hg h.B.size (fun j hj => ?_)⟩
 ·rw [N7]; simpa using ho
 ·have := (h.rs.lt _ e.symm).1; omega
 ·have := (h.rs.lt _ hj).1; omega
theorem PK (v : Value) (l : List PS) (p : PS) (w : World) (hv : Rd w v l.length 2 (Dh l)) (hp : POk l p) :
  Calls Tryz.prog 152 #[v, .agg #[.int .i64 p.of, .int .i64 p.shares]] w fun e w' => ∃ st, e = .returned st ∧ w'.ownsRow w.heap.size 134 2 st (Cb l p).length (Dh (Cb l p)) ∧ Below w.heap.size w w' := by
 obtain ⟨i5, hi5, hz50, hz51, hz52⟩ := info_parts IF
 obtain ⟨hpl, ⟨hp0, hp1⟩, hpo⟩ := hp
 obtain ⟨pof, psh⟩ := p
 obtain ⟨hL, a, cap, rfl, hx0⟩ := id hv
 simp only at hp0 hp1
 have HV := Hd hv
 have HO := Hd hpo
 have HI : Hid (Ha w (w.alloc (.cells #[.int .i64 pof, .int .i64 psh] 134)) ⟨pof, psh⟩ (.slice none 0 0) []) :=
  ⟨World.ownsRow_nil _ _ _ _, Has.newA w _ _, (Below.refl _ _).alloc (Nat.le_refl _) _⟩
 clear hv hx0 hpo hL
 go_enter Tryz.func152, Tryz.ntmps152
 go_wp2
 go_loopw [5, 6, 7] (fun st th i wr => ∃ k : Nat, k <= l.length ∧ i = .int .i64 k ∧ th = .bool (Dp ⟨pof, psh⟩ (l.take k)) ∧ Ha w wr ⟨pof, psh⟩ st ((l.take k).map (Ch ⟨pof, psh⟩))) (fun _ _ i _ => l.length - (intOf i).toNat)
 case atStart => exact ⟨0, Nat.zero_le _, rfl, rfl, HI.out⟩
 case round =>
  clear HI
  obtain ⟨k, hk, rfl, rfl, hI⟩ := hrel
  have hol : ((l.take k).map (Ch ⟨pof, psh⟩)).length <= 100000 := by simp; omega
  have b0 : wr.cell? ⟨w.heap.size, 0, none⟩ = some (.int .i64 pof) := hI.pb.cell 0
  have b1 : wr.cell? ⟨w.heap.size, 1, none⟩ = some (.int .i64 psh) := hI.pb.cell 1
  have gl := World.block_lt_of_cell? wr _ b0
  obtain ⟨sa, sc, hsa⟩ := Ac hI.rs
  subst hsa
  by_cases hlt : k < l.length
  ·have hrd := HV.out.below hI.B (Nat.le_refl _)
   obtain ⟨_, a', cap', hae, hx⟩ := hrd
   simp only [Value.slice.injEq, true_and] at hae
   obtain ⟨rfl, rfl⟩ := hae
   obtain ⟨ge, rfl, hc⟩ := hx (by omega)
   have z0 := hc (k * 2 + 0) (.int .i64 l[k].of) (by rw [Hu l k hlt 0 (by omega)]; rfl)
   have z1 := hc (k * 2 + 1) (.int .i64 l[k].shares) (by rw [Hu l k hlt 1 (by omega)]; rfl)
   obtain ⟨o0, o1⟩ := HO.out k hlt
   have HT := LE ⟨pof, psh⟩ l k hlt
   have HM := IY (Ch ⟨pof, psh⟩) l k hlt
   generalize Dp ⟨pof, psh⟩ (l.take k) = th at *
   generalize (l.take k).map (Ch ⟨pof, psh⟩) = out at *
   generalize l[k] = q at *
   obtain ⟨qof, qsh⟩ := q
   simp only at o0 o1 z0 z1 HT
   simp only [Nat.add_zero] at z0
   have HII := Hd hI
   have HTH := Hd HT
   have HMM := Hd HM
   have gl2 : w.heap.size + 1 <= wr.heap.size := gl
   clear hI HT HM hx hc HO
   by_cases hs : qsh = psh
   ·subst hs
    have HJ : Hid (Ch ⟨pof, qsh⟩ ⟨qof, qsh⟩ = ⟨qof + pof, qsh⟩) := by show Ch _ _ = _; rw [Ch, if_pos rfl]
    go_wp2_with (at_builtin; go_loud (refine Ak rfl (.tmp 30) (.tmp 32) 82 rfl 134 i5 _ 2 16 Tryz.underlying82 hi5 hz50 hz51 hz52 rfl (by decide) (w.heap.size + 1) _ out.length (Dh out) rfl ((HII.out.alloc _).alloc _).rs (Nat.le_trans gl2 (by simp; omega)) ⟨_, 0, none⟩ 1 1 [.int .i64 (qof + pof), .int .i64 qsh] rfl (by rfl) (Ap _ [.int .i64 (qof + pof), .int .i64 qsh] _ _ (by simp)) (by simp [Value.oneCell']) (by decide) (by simp [maxLen]; omega) (by omega) ?_))
    intro g5 cap5 v5 hown5 hgrow5 hor5 hold5
    have HP5 : Hid _ := ((HII.out.alloc _).alloc _).push (o := ⟨qof + pof, qsh⟩) hgrow5 hown5
    clear HII hown5 hgrow5 hor5 hold5
    go_wp2
    refine And.intro ⟨k + 1, by omega, by go_num, by rw [HTH.out]; simp, ?_⟩ (by simp [intOf]; omega)
    rw [HMM.out, HJ.out]
    exact HP5.out
   ·have HJ : Hid (Ch ⟨pof, psh⟩ ⟨qof, qsh⟩ = ⟨qof, qsh⟩) := by show Ch _ _ = _; rw [Ch, if_neg hs]
    go_wp2_with (at_builtin; go_loud (refine Ak rfl (.tmp 30) (.tmp 32) 82 rfl 134 i5 _ 2 16 Tryz.underlying82 hi5 hz50 hz51 hz52 rfl (by decide) (w.heap.size + 1) _ out.length (Dh out) rfl ((HII.out.alloc _).alloc _).rs (Nat.le_trans gl2 (by simp; omega)) ⟨_, 0, none⟩ 1 1 [.int .i64 qof, .int .i64 qsh] rfl (by rfl) (Ap _ [.int .i64 qof, .int .i64 qsh] _ _ (by simp)) (by simp [Value.oneCell']) (by decide) (by simp [maxLen]; omega) (by omega) ?_))
    intro g5 cap5 v5 hown5 hgrow5 hor5 hold5
    have HP5 : Hid _ := ((HII.out.alloc _).alloc _).push (o := ⟨qof, qsh⟩) hgrow5 hown5
    clear HII hown5 hgrow5 hor5 hold5
    go_wp2
    refine And.intro ⟨k + 1, by omega, by go_num, by rw [HTH.out]; simp [hs], ?_⟩ (by simp [intOf]; omega)
    rw [HMM.out, HJ.out]
    exact HP5.out
  ·have hke : k = l.length := by omega
   subst hke
   rw [List.take_length] at hI hol ⊢
   have HW : Hid (Cb l ⟨pof, psh⟩ = l.map (Ch ⟨pof, psh⟩) ++ (if Dp ⟨pof, psh⟩ l = true then [] else [⟨pof, psh⟩])) := rfl
   generalize Dp ⟨pof, psh⟩ l = th at *
   generalize l.map (Ch ⟨pof, psh⟩) = out at *
   have HII := Hd hI
   have gl2 : w.heap.size + 1 <= wr.heap.size := gl
   clear hI HO
   cases th with
   | true =>
    go_wp2
    go_ret
    rw [HW.out]
    simp only [if_true, List.append_nil]
    exact ⟨_, rfl, Aj HII.out.rs (by omega), HII.out.B⟩
   | false =>
    go_wp2_with (at_builtin; go_loud (refine Ak rfl (.tmp 36) (.tmp 38) 82 rfl 134 i5 _ 2 16 Tryz.underlying82 hi5 hz50 hz51 hz52 rfl (by decide) (w.heap.size + 1) _ out.length (Dh out) rfl (HII.out.alloc _).rs (Nat.le_trans gl2 (by simp)) ⟨_, 0, none⟩ 1 1 [.int .i64 pof, .int .i64 psh] rfl (by rfl) (Ap _ [.int .i64 pof, .int .i64 psh] _ _ (by simp)) (by simp [Value.oneCell']) (by decide) (by simp [maxLen]; omega) (by omega) ?_))
    intro g5 cap5 v5 hown5 hgrow5 hor5 hold5
    have HP5 : Hid _ := (HII.out.alloc _).push (o := ⟨pof, psh⟩) hgrow5 hown5
    clear HII hown5 hgrow5 hor5 hold5
    go_wp2
    go_ret
    rw [HW.out]
    simp only [Bool.false_eq_true, if_false]
    have h5 := HP5.out.rs
    refine ⟨_, rfl, Aj (by simpa using h5) (Nat.le_succ _), HP5.out.B⟩
structure DA where
 who : Int
 val : Int
 shares : Int
 parts : List PS
def DA.cells (d : DA × Value) : List Value := [.int .i64 d.1.who, .int .i64 d.1.val, .int .i64 d.1.shares, d.2]
def BC : List (DA × Value) -> List Value
 | [] => []
 | v :: l => DA.cells v ++ BC l
theorem KD (l : List (DA × Value)) : (BC l).length = l.length * 4 := by
 induction l with
 | nil => rfl
 | cons v l ih => simp [BC, ih, DA.cells]; omega
theorem BF (l : List (DA × Value)) (k : Nat) (h : k < l.length) (i : Nat) (hi : i < 4) : (BC l)[k * 4 + i]? = (DA.cells l[k])[i]? := by
 induction l generalizing k with
 | nil => simp at h
 | cons v l ih =>
  cases k with
  | zero => simp [BC, List.getElem?_append_left (show i < (DA.cells v).length by simpa [DA.cells] using hi)]
  | succ k =>
   rw [BC, List.getElem?_append_right (by simp [DA.cells]; omega)]
   have e : (k + 1) * 4 + i - (DA.cells v).length = k * 4 + i := by simp [DA.cells]; omega
   rw [e, ih k (by simpa using h)]
   simp
theorem FP (l : List (DA × Value)) (k : Nat) (hk : k < l.length) (ps : List PS) (pv : Value) :
  (BC l).set (k * 4 + 3) pv = BC (l.set k ({ l[k].1 with parts := ps }, pv)) := by
 induction l generalizing k with
 | nil => simp at hk
 | cons v l ih =>
  cases k with
  | zero => simp [BC, DA.cells]
  | succ k =>
   have e : (k + 1) * 4 + 3 = (DA.cells v).length + (k * 4 + 3) := by simp [DA.cells]; omega
   rw [BC, e, List.set_append_right _ _ (by omega), Nat.add_sub_cancel_left, List.set_cons_succ, BC]
   congr 1
   have := ih k (by simpa using hk)
   simpa using this
def Cq (f : α -> α) (l : List α) (k : Nat) : List α := (l.take k).map f ++ l.drop k
theorem KM (f : α -> α) (l : List α) : Cq f l 0 = l := by simp [Cq]
theorem Md (f : α -> α) (l : List α) : Cq f l l.length = l.map f := by simp [Cq]
theorem Jb (f : α -> α) (l : List α) (k : Nat) : (Cq f l k).length = l.length := by simp [Cq]; omega
theorem Nh (f : α -> α) (l : List α) (k : Nat) (h : k < l.length) : (Cq f l k)[k]? = some l[k] := by
 unfold Cq
 rw [List.getElem?_append_right (by simp; omega)]
 simp [Nat.min_eq_left (Nat.le_of_lt h), h]
theorem KJ (f : α -> α) (l : List α) (k : Nat) (h : k < l.length) : Cq f l (k + 1) = (Cq f l k).set k (f l[k]) := by
 unfold Cq
 rw [List.set_append_right _ _ (by simp; omega), IY f l k h]
 simp [Nat.min_eq_left (Nat.le_of_lt h)]
 rw [List.drop_eq_getElem_cons h]; rfl
def Bp (v : Int) (p : PS) (d : DA) : DA := if d.val = v then { d with parts := Cb d.parts p } else d
structure LDl (w : World) (g : Nat) (vv dv : Value) (vals : List VS) (ds : List (DA × Value)) (cs : List Value) : Prop where
 L : Has w g 81 cs
 c7 : cs[7]? = some vv
 c8 : cs[8]? = some dv
 v : w.ownsRow 0 114 8 vv vals.length (A5 vals)
 d : w.ownsRow 0 84 4 dv ds.length (BC ds)
 p : ∀ k (h : k < ds.length), w.ownsRow 0 134 2 ds[k].2 ds[k].1.parts.length (Dh ds[k].1.parts)
theorem LDl.below {w' : World} {ds : List (DA × Value)} (h : LDl w g vv dv vals ds cs) (hb : Below w.heap.size w w') : LDl w' g vv dv vals ds cs :=
 ⟨h.L.below hb h.L.lt, h.c7, h.c8, Ar h.v hb (Nat.le_refl _), Ar h.d hb (Nat.le_refl _), fun k hk => Ar (h.p k hk) hb (Nat.le_refl _)⟩
theorem LDl.setParts {gd n dc : Nat} {ds : List (DA × Value)} (h : LDl w g vv (.slice (some ⟨gd, 0, none⟩) n dc) vals ds cs) (hn : n = ds.length) (k : Nat) (hk : k < ds.length) (ps : List PS) (pv : Value) (hp : w.ownsRow 0 134 2 pv ps.length (Dh ps)) :
  LDl (w.setCell ⟨gd, k * 4 + 3, none⟩ pv) g vv (.slice (some ⟨gd, 0, none⟩) n dc) vals (ds.set k ({ ds[k].1 with parts := ps }, pv)) cs := by
 have hd := h.d
 have ap : ∀ {base : Nat} {e : TypeId} {size : Nat} {v : Value} {m : Nat} {xs : List Value}, w.ownsRow base e size v m xs -> e ≠ 84 -> v.ownBlock ≠ some gd := fun hr he e1 => by
  rcases Ae hr hd he with h1 | h1
  ·rw [h1] at e1; simp at e1
  ·exact h1 (by rw [e1]; rfl)
 have hne : g ≠ gd := fun e => Has.apart h.L hd (by decide) (by rw [e]; rfl)
 refine ⟨h.L.other _ _ hne, h.c7, h.c8, Aa h.v _ _ (ap h.v (by decide)), ?_, ?_⟩
 ·subst hn
  have := (hd.stored (k * 4 + 3) pv).1
  rw [FP ds k hk ps pv] at this
  simpa using this
 ·intro j hj
  have hj' : j < ds.length := by simpa using hj
  by_cases e : k = j
  ·subst e
   simp only [List.getElem_set_self]
   exact Aa hp _ _ (ap hp (by decide))
  ·simp only [List.getElem_set_ne e]
   exact Aa (h.p j hj') _ _ (ap (h.p j hj') (by decide))
theorem LDl.drew {ds : List (DA × Value)} (h : LDl w g vv dv vals ds cs) : LDl w.drew g vv dv vals ds cs := ⟨h.L, h.c7, h.c8, h.v, h.d, h.p⟩
def P (j : Nat) : Int := 10000 ^ j
theorem P_zero : P 0 = 1 := rfl
theorem EM (j : Nat) : P (j + 1) = P j * 10000 := by unfold P; rw [Int.pow_succ]
theorem GZ (j : Nat) : 1 <= P j := by
 induction j with
 | zero => simp [P_zero]
 | succ j ih => rw [EM]; omega
theorem GL {j : Nat} (h : j <= k) : P j <= P k := by
 obtain ⟨d, rfl⟩ := Nat.exists_eq_add_of_le h
 induction d with
 | zero => simp
 | succ d ih =>
  have h1 := ih (by omega)
  rw [<- Nat.add_assoc, EM]
  have := GZ (j + d)
  omega
theorem Rk (j k : Nat) : P (j + k) = P j * P k := by unfold P; rw [Int.pow_add]
def Av : List Int -> Int
 | [] => 0
 | d :: l => d + 10000 * Av l
def Dg (l : List Int) : Prop := ∀ d ∈ l, 0 <= d ∧ d < 10000
theorem Dg.nil : Dg [] := fun d h => by cases h
theorem Dg.tail (h : Dg (d :: l)) : Dg l := fun x hx => h x (List.mem_cons_of_mem _ hx)
theorem Dg.head (h : Dg (d :: l)) : 0 <= d ∧ d < 10000 := h d List.mem_cons_self
theorem Dg.snoc (h : Dg l) (h0 : 0 <= d) (h1 : d < 10000) : Dg (l ++ [d]) := fun x hx => by
 rcases List.mem_append.1 hx with hx | hx
 ·exact h x hx
 ·simp at hx; subst hx; exact ⟨h0, h1⟩
theorem Dg.set (h : Dg l) (j : Nat) {d : Int} (h0 : 0 <= d) (h1 : d < 10000) : Dg (l.set j d) := fun x hx => by
 rcases List.mem_or_eq_of_mem_set hx with hx | hx
 ·exact h x hx
 ·subst hx; exact ⟨h0, h1⟩
theorem Dg.take (h : Dg l) (k : Nat) : Dg (l.take k) := fun x hx => h x (List.mem_of_mem_take hx)
theorem Dg.get (h : Dg l) {k : Nat} (hk : k < l.length) : 0 <= l[k] ∧ l[k] < 10000 := h _ (List.getElem_mem hk)
theorem Cw (h : Dg l) : 0 <= Av l := by
 induction l with
 | nil => simp [Av]
 | cons d l ih =>
  have := ih h.tail
  have := h.head
  simp only [Av]; omega
theorem Fs (h : Dg l) : Av l < P l.length := by
 induction l with
 | nil => simp [Av, P_zero]
 | cons d l ih =>
  have h1 := ih h.tail
  have h2 := h.head
  simp only [Av, List.length_cons, EM]; omega
theorem GU (a b : List Int) : Av (a ++ b) = Av a + P a.length * Av b := by
 induction a with
 | nil => simp [Av, P_zero]
 | cons d a ih =>
  simp only [List.cons_append, Av, ih, List.length_cons, EM]
  rw [Int.mul_add, Int.mul_comm (P a.length) 10000, Int.mul_assoc]
  omega
theorem Gz (l : List Int) (d : Int) : Av (l ++ [d]) = Av l + P l.length * d := by
 rw [GU]; simp [Av]
theorem Dk (l : List Int) (k : Nat) (h : k < l.length) : Av (l.take (k + 1)) = Av (l.take k) + P k * l[k] := by
 rw [List.take_succ_eq_append_getElem h, Gz, List.length_take, Nat.min_eq_left (by omega)]
theorem OG (l : List Int) (j : Nat) (h : j < l.length) (x : Int) : Av (l.set j x) = Av l + P j * (x - l[j]) := by
 induction l generalizing j with
 | nil => simp at h
 | cons d l ih =>
  cases j with
  | zero => simp [Av, P_zero]; omega
  | succ j =>
   have hj : j < l.length := by simpa using h
   simp only [List.set_cons_succ, Av, ih j hj, List.getElem_cons_succ, EM]
   rw [Int.mul_add, Int.mul_comm (P j) 10000, Int.mul_assoc]
   omega
theorem PN (n : Nat) : Av (List.replicate n 0) = 0 := by
 induction n with
 | zero => rfl
 | succ n ih => simp [List.replicate_succ, Av, ih]
def Nm (l : List Int) : Prop := ∀ h : 0 < l.length, l[l.length - 1] ≠ 0
theorem Nm.nil : Nm [] := fun h => by simp at h
theorem Nm.ge (h : Nm l) (hd : Dg l) (h0 : 0 < l.length) : P (l.length - 1) <= Av l := by
 obtain ⟨n, hn⟩ : ∃ n, l.length = n + 1 := ⟨l.length - 1, by omega⟩
 have h1 := Dk l n (by omega)
 rw [List.take_of_length_le (by omega)] at h1
 have h2 := Cw (hd.take n)
 have h3 := (hd.get (show l.length - 1 < l.length by omega))
 have h4 := h h0
 have e : l[l.length - 1] = l[n] := by congr 1; omega
 rw [e] at h3 h4
 rw [show l.length - 1 = n by omega, h1]
 have h5 : 1 <= l[n] := by omega
 have h6 := GZ n
 have h7 : P n * 1 <= P n * l[n] := Int.mul_le_mul_of_nonneg_left h5 (by omega)
 omega
theorem KU (ha : Dg a) (hb : Dg b) (na : Nm a) (nb : Nm b) (h : b.length < a.length) : Av b < Av a := by
 have h1 := na.ge ha (by omega)
 have h2 := Fs hb
 have h3 := GL (show b.length <= a.length - 1 by omega)
 omega
theorem Iy (l : List Int) (k : Nat) (h : k <= l.length) : Av l = Av (l.take k) + P k * Av (l.drop k) := by
 have := GU (l.take k) (l.drop k)
 rw [List.take_append_drop, List.length_take, Nat.min_eq_left h] at this
 exact this
theorem Qc (ha : Dg a) (hb : Dg b) (k : Nat) (hka : k < a.length) (hkb : k < b.length) (hd : a.drop (k + 1) = b.drop (k + 1)) (hlt : a[k] < b[k]) : Av a < Av b := by
 have h1 := Iy a (k + 1) (by omega)
 have h2 := Iy b (k + 1) (by omega)
 rw [hd, Dk a k hka] at h1
 rw [Dk b k hkb] at h2
 have h3 := Fs (ha.take k)
 rw [List.length_take, Nat.min_eq_left (by omega)] at h3
 have h4 := Cw (hb.take k)
 have h5 : P k * (a[k] + 1) <= P k * b[k] := Int.mul_le_mul_of_nonneg_left (by omega) (by have := GZ k; omega)
 rw [Int.mul_add, Int.mul_one] at h5
 omega
theorem Fh (w : World) (a b : Nat) : (w.drewN a).drewN b = w.drewN (a + b) := by simp [World.drewN, Nat.add_assoc]
theorem KP (l : List Int) (k : Nat) (h : k < l.length) : l.drop k = l[k] :: l.drop (k + 1) := List.drop_eq_getElem_cons h
theorem Jo (va vb : Value) (a b : List Int) (w : World) (ha : AM w va a) (hb : AM w vb b) (da : Dg a) (db : Dg b) (na : Nm a) (nb : Nm b) (la : a.length <= 100000000) (lb : b.length <= 100000000) :
  Calls Tryz.prog 104 #[va, vb] w fun e w' => e = .returned (.bool (decide (Av b < Av a))) ∧ ∃ n, w' = w.drewN n := by
 obtain ⟨aa, ac, rfl, hxa⟩ := ha
 obtain ⟨ba, bc, rfl, hxb⟩ := hb
 by_cases hl : a.length = b.length
 case neg =>
  have e1 : (((a.length : Nat) : Int) != ((b.length : Nat) : Int)) = true := by simp; omega
  have HE : decide (Av b < Av a) = decide (b.length < a.length) := by
   by_cases h : b.length < a.length
   ·have := KU da db na nb h
    simp [this, h]
   ·have := KU db da nb na (by omega)
    have h' : ¬ Av b < Av a := by omega
    simp [h, h']
  clear hl hxa hxb
  rw [HE]
  clear HE
  go_enter Tryz.func104, Tryz.ntmps104
  go_wp2
  go_ret
  exact ⟨rfl, 0, rfl⟩
 have HX : Hid ((0 < a.length -> ∃ g, aa = some ⟨g, 0, none⟩ ∧ ∀ (j : Nat) x, a[j]? = some x -> w.cell? ⟨g, j, none⟩ = some (.int .i64 x)) ∧ (0 < b.length -> ∃ g, ba = some ⟨g, 0, none⟩ ∧ ∀ (j : Nat) x, b[j]? = some x -> w.cell? ⟨g, j, none⟩ = some (.int .i64 x))) := ⟨hxa, hxb⟩
 have HL := Hd hl
 have e1 : (((a.length : Nat) : Int) != ((b.length : Nat) : Int)) = false := by simp [hl]
 clear hxa hxb hl
 go_enter Tryz.func104, Tryz.ntmps104
 go_wp2
 go_loopw [5] (fun i wr => ∃ k : Nat, k <= a.length ∧ i = .int .i64 ((k : Int) - 1) ∧ a.drop k = b.drop k ∧ ∃ n, wr = w.drewN n) (fun i _ => ((intOf i) + 1).toNat)
 case atStart => exact ⟨a.length, Nat.le_refl _, rfl, by rw [List.drop_of_length_le (Nat.le_refl _), List.drop_of_length_le (by rw [HL.out]; exact Nat.le_refl _)], 0, rfl⟩
 case round =>
  obtain ⟨k, hk, rfl, hdrop, n, rfl⟩ := hrel
  have HD := Hd hdrop
  clear hdrop
  cases k with
  | zero =>
   have HE : Hid (decide (Av b < Av a) = false) := by
    have h0 : a = b := by simpa using HD.out
    have h1 : ¬ Av b < Av a := by rw [h0]; omega
    show decide (Av b < Av a) = false
    simp [h1]
   go_wp2
   go_ret
   exact ⟨II HE.out.symm, n, rfl⟩
  | succ k =>
   have hkb : k < b.length := by rw [<- HL.out]; omega
   have hka : k < a.length := by omega
   obtain ⟨ga, rfl, hca⟩ := HX.out.1 (by omega)
   obtain ⟨gb, rfl, hcb⟩ := HX.out.2 (by omega)
   have y1 := hca k a[k] (by simp [hka])
   have y2 := hcb k b[k] (by simp [hkb])
   have ei : (((k + 1 : Nat) : Int) - 1) = (k : Int) := by omega
   rw [ei]
   have hdk : ∀ (h : a[k] = b[k]), a.drop k = b.drop k := fun h => by rw [KP a k hka, KP b k hkb, h, HD.out]
   have Hdk := Hd hdk
   have HC1 : Hid (a[k] < b[k] -> ¬ Av b < Av a) := fun h => by have := Qc da db k hka hkb HD.out h; omega
   have HC2 : Hid (b[k] < a[k] -> Av b < Av a) := fun h => Qc db da k hkb hka HD.out.symm h
   clear hca hcb hdk ei
   generalize a[k] = x at *
   generalize b[k] = y at *
   by_cases hxy : x = y
   ·have e2 : (x != y) = false := by simp [hxy]
    have HXY := Hd hxy
    clear hxy
    go_wp2
    go_quiet (fail)
    go_wp2
    refine And.intro ?_ ?_
    ·first | exact ⟨k, by omega, by go_num, Hdk.out HXY.out, _, rfl⟩ | exact ⟨k, by omega, by go_num, Hdk.out HXY.out, _, Fh _ _ _⟩ | ((repeat apply Exists.intro); exact ⟨⟨k, by omega, by go_num, Hdk.out HXY.out, _, Fh _ _ _⟩, rfl⟩)
    ·simp [intOf]
   ·have e2 : (x != y) = true := by simp [hxy]
    have HE : Hid (decide (Av b < Av a) = decide (y < x)) := by
     show decide (Av b < Av a) = decide (y < x)
     by_cases h : y < x
     ·simp [h, HC2.out h]
     ·have := HC1.out (by omega)
      simp [h, this]
    clear hxy HC1 HC2 Hdk
    go_wp2
    go_quiet (fail)
    go_wp2
    go_quiet (fail)
    go_wp2
    go_ret
    exact ⟨II HE.out.symm, _, (Fh _ _ _).trans (by rw [Fh])⟩
structure Big (B : Nat) (w : World) (v : Value) (l : List Int) : Prop where
 row : w.ownsRow B 3 1 v l.length (Ai l)
 dg : Dg l
 nm : Nm l
theorem Nm.snoc (h : d ≠ 0) : Nm (l ++ [d]) := fun _ => by simpa using h
theorem P5 : P 5 = 100000000000000000000 := by decide
theorem Fi (n : Int) (w : World) (h0 : 0 <= n) (h1 : n <= 1000000000000000000) :
  Calls Tryz.prog 101 #[.int .i64 n] w fun e w' => ∃ v l, e = .returned v ∧ Big w.heap.size w' v l ∧ Av l = n ∧ l.length <= 5 ∧ Below w.heap.size w w' := by
 obtain ⟨i0, hi, hz0, hz1, hz2⟩ := info_parts Cn
 go_enter Tryz.func101, Tryz.ntmps101
 go_wp2
 go_loopw [0, 3] (fun nn out wr => ∃ (q : Int) (l : List Int), nn = .int .i64 q ∧ 0 <= q ∧ q <= n ∧ Av l + P l.length * q = n ∧ Dg l ∧ (q = 0 -> Nm l) ∧ wr.ownsRow w.heap.size 3 1 out l.length (Ai l) ∧ l.length <= 5 ∧ Below w.heap.size w wr) (fun nn _ _ => (intOf nn).toNat)
 case atStart => exact ⟨n, [], rfl, h0, Int.le_refl _, by simp [Av, P_zero], Dg.nil, fun _ => Nm.nil, World.ownsRow_nil _ _ _ _, Nat.zero_le _, Below.refl _ _⟩
 case round =>
  obtain ⟨q, l, rfl, q0, q1, hv, hd, hm, hrow, hl, hb⟩ := hrel
  obtain ⟨oa, oc, rfl⟩ := Ac hrow
  by_cases hq : 0 < q
  ·have hl4 : l.length <= 4 := by
    by_cases h : l.length <= 4
    ·exact h
    ·have h1' := GL (show 5 <= l.length by omega)
     rw [P5] at h1'
     have h2 : P l.length * 1 <= P l.length * q := Int.mul_le_mul_of_nonneg_left (by omega) (by have := GZ l.length; omega)
     have h3 := Cw hd
     omega
   have HB := Hd hb
   have HR := Hd hrow
   have hsz := hb.size
   have hv' : Av (l ++ [q % 10000]) + P (l ++ [q % 10000]).length * (q / 10000) = n := by
    rw [Gz, List.length_append, List.length_singleton, EM]
    have e : P l.length * q = P l.length * (q % 10000) + P l.length * 10000 * (q / 10000) := by
     rw [Int.mul_assoc, <- Int.mul_add]
     congr 1
     omega
    omega
   have HV := Hd hv'
   clear hv'
   have HD : Hid (Dg (l ++ [q % 10000])) := hd.snoc (by omega) (by omega)
   have HN : Hid (q / 10000 = 0 -> Nm (l ++ [q % 10000])) := fun h => Nm.snoc (by omega)
   clear hb hrow hv hd hm
   go_wp2_with (at_builtin; go_loud (refine Ak rfl (.tmp 6) (.tmp 9) 24 rfl 3 i0 _ 1 8 Tryz.underlying24 hi hz0 hz1 hz2 rfl (by decide) w.heap.size _ l.length (Ai l) rfl (HR.out.alloc _) (by simp; omega) ⟨_, 0, none⟩ 1 1 [.int .i64 (q % 10000)] rfl (by rfl) (Ap _ [.int .i64 (q % 10000)] _ _ rfl) (by simp [Value.oneCell']) (by decide) (by simp [maxLen]; omega) (by omega) ?_))
   intro g5 cap5 v5 hown5 hgrow5 hor5 hold5
   have HB5 : Hid (Below w.heap.size w v5) := (HB.out.alloc HB.out.size _).grown hgrow5 (by simp; omega) (fun j hj => (HR.out.lt j hj).1)
   have HR5 : Hid (v5.ownsRow w.heap.size 3 1 (.slice (some ⟨g5, 0, none⟩) (l.length + 1) cap5) (l ++ [q % 10000]).length (Ai (l ++ [q % 10000]))) := by
    have e1 : Ai (l ++ [q % 10000]) = Ai l ++ [.int .i64 (q % 10000)] := by simp [Ai]
    have e2 : (l ++ [q % 10000]).length = l.length + 1 := by simp
    rw [e1, e2]; exact hown5
   clear hown5 hgrow5 hor5 hold5 HB HR
   go_wp2
   refine And.intro ?_ ?_
   ·first | exact ⟨q / 10000, l ++ [q % 10000], rfl, by omega, by omega, HV.out, HD.out, HN.out, HR5.out, by simp; omega, HB5.out⟩ | ((repeat apply Exists.intro); exact ⟨⟨q / 10000, l ++ [q % 10000], rfl, by omega, by omega, HV.out, HD.out, HN.out, HR5.out, by simp; omega, HB5.out⟩, rfl⟩)
   ·simp [intOf]; omega
  ·have e0 : q = 0 := by omega
   subst e0
   have HF : Hid (Big w.heap.size wr (.slice oa l.length oc) l ∧ Av l = n ∧ l.length <= 5 ∧ Below w.heap.size w wr) := ⟨⟨hrow, hd, hm rfl⟩, by simpa using hv, hl, hb⟩
   clear hb hrow hv hd hm
   go_wp2
   go_ret
   first | exact ⟨_, l, rfl, HF.out⟩ | exact ⟨_, rfl, l, HF.out⟩
theorem F2 (l : List Int) (k : Nat) : Av (l.take (k + 1)) = Av (l.take k) + P k * l.getD k 0 := by
 by_cases h : k < l.length
 ·rw [Dk l k h]; simp [List.getD, h]
 ·rw [List.take_of_length_le (by omega), List.take_of_length_le (by omega)]
  simp [List.getD, show l.length <= k by omega]
theorem Dg.getD (h : Dg l) (k : Nat) : 0 <= l.getD k 0 ∧ l.getD k 0 < 10000 := by
 by_cases hk : k < l.length
 ·have := h.get hk; simpa [List.getD, hk] using this
 ·simp [List.getD, show l.length <= k by omega]
theorem Gd (h : k < l.length) : l.getD k 0 = l[k] := by simp [List.getD, h]
theorem Hr (h : ¬ k < l.length) : l.getD k 0 = 0 := by simp [List.getD, show l.length <= k by omega]
theorem Nm.top (h : Nm l) (hd : Dg l) {k : Nat} (hk : k < l.length) (hk2 : l.length <= k + 1) : 1 <= l.getD k 0 := by
 have h1 := h (by omega)
 have h2 := hd.get hk
 have e : l[l.length - 1] = l[k] := by congr 1; omega
 rw [e] at h1
 rw [Gd hk]; omega
structure E1 (a b : List Int) (k : Nat) (c : Int) (l : List Int) : Prop where
 len : l.length = k
 dg : Dg l
 c0 : 0 <= c
 c1 : c <= 1
 v : Av l + P k * c = Av (a.take k) + Av (b.take k)
 nm : a.length <= k -> b.length <= k -> c = 0 -> Nm l
theorem E1.step (h : E1 a b k c l) (da : Dg a) (db : Dg b) (na : Nm a) (nb : Nm b) (hgo : k < a.length ∨ k < b.length ∨ 0 < c) (s : Int) (hs : s = c + a.getD k 0 + b.getD k 0) :
  E1 a b (k + 1) (s / 10000) (l ++ [s % 10000]) := by
 have h1 := da.getD k
 have h2 := db.getD k
 have h3 := h.c0
 have h4 := h.c1
 refine ⟨by simp [h.len], h.dg.snoc (by omega) (by omega), by omega, by omega, ?_, fun l1 l2 h0 => Nm.snoc ?_⟩
 ·have hv := h.v
  rw [Gz, h.len, F2 a, F2 b, EM]
  have e : P k * s = P k * (s % 10000) + P k * 10000 * (s / 10000) := by
   rw [Int.mul_assoc, <- Int.mul_add]
   congr 1
   omega
  rw [hs, Int.mul_add, Int.mul_add, <- hs] at e
  omega
 ·rcases hgo with hg | hg | hg
  ·have := na.top da hg l1; omega
  ·have := nb.top db hg l2; omega
  ·omega
theorem E1.lim (h : E1 a b k c l) (da : Dg a) (db : Dg b) (hgo : k < a.length ∨ k < b.length ∨ 0 < c) : k <= a.length + b.length := by
 by_cases hk : k <= a.length + b.length
 ·exact hk
 ·have hc : 1 <= c := by omega
  have hv := h.v
  rw [List.take_of_length_le (by omega), List.take_of_length_le (by omega)] at hv
  have h1 := Fs da
  have h2 := Fs db
  have h3 := GL (show a.length <= a.length + b.length by omega)
  have h4 := GL (show b.length <= a.length + b.length by omega)
  have h5 := GL (show a.length + b.length + 1 <= k by omega)
  rw [EM] at h5
  have h6 : P k * 1 <= P k * c := Int.mul_le_mul_of_nonneg_left hc (by have := GZ k; omega)
  have h7 := Cw h.dg
  have h8 := GZ (a.length + b.length)
  omega
theorem OE (va vb : Value) (a b : List Int) (w : World) (ha : AM w va a) (hb : AM w vb b) (da : Dg a) (db : Dg b) (na : Nm a) (nb : Nm b) (la : a.length <= 100000000) (lb : b.length <= 100000000) :
  Calls Tryz.prog 103 #[va, vb] w fun e w' => ∃ v l, e = .returned v ∧ Big w.heap.size w' v l ∧ Av l = Av a + Av b ∧ l.length <= a.length + b.length + 1 ∧ Below w.heap.size w w' := by
 obtain ⟨i0, hi, hz0, hz1, hz2⟩ := info_parts Cn
 obtain ⟨aa, ac, rfl, hxa⟩ := id ha
 obtain ⟨ba, bc, rfl, hxb⟩ := id hb
 have HA := Hd ha
 have HBs := Hd hb
 clear hxa hxb ha hb
 go_enter Tryz.func103, Tryz.ntmps103
 go_wp2
 go_loopw [5, 6, 7] (fun out c i wr => ∃ (k : Nat) (q : Int) (l : List Int), i = .int .i64 k ∧ c = .int .i64 q ∧ E1 a b k q l ∧ wr.ownsRow w.heap.size 3 1 out l.length (Ai l) ∧ k <= a.length + b.length + 1 ∧ Below w.heap.size w wr) (fun _ _ i _ => a.length + b.length + 1 - (intOf i).toNat)
 case atStart => exact ⟨0, 0, [], rfl, rfl, ⟨rfl, Dg.nil, Int.le_refl _, by omega, by simp [Av], fun _ _ _ => Nm.nil⟩, World.ownsRow_nil _ _ _ _, Nat.zero_le _, Below.refl _ _⟩
 case round =>
  obtain ⟨k, q, l, rfl, rfl, hI, hrow, hkl, hb⟩ := hrel
  have hll := hI.len
  subst hll
  obtain ⟨oa, oc, rfl⟩ := Ac hrow
  have HB := Hd hb
  have HR := Hd hrow
  have HI := Hd hI
  have hA := HA.out.below hb (Nat.le_refl _)
  have hBb := HBs.out.below hb (Nat.le_refl _)
  have q0 := hI.c0
  have q1 := hI.c1
  have hsz := hb.size
  by_cases hgo : l.length < a.length ∨ l.length < b.length ∨ 0 < q
  ·have hkm := hI.lim da db hgo
   have HG := Hd hgo
   have HS : Hid (∀ s, s = q + a.getD l.length 0 + b.getD l.length 0 -> E1 a b (l.length + 1) (s / 10000) (l ++ [s % 10000])) := fun s hs => HI.out.step da db na nb HG.out s hs
   clear hb hrow hI hgo
   by_cases hka : l.length < a.length
   ·obtain ⟨aa', ac', hae, hxa⟩ := hA
    simp only [Value.slice.injEq, true_and] at hae
    obtain ⟨rfl, rfl⟩ := hae
    obtain ⟨ga, rfl, hca⟩ := hxa (by omega)
    have y1 := hca l.length a[l.length] (by simp [hka])
    have x1 := da.get hka
    have Ea : Hid (a.getD l.length 0 = a[l.length]) := Gd hka
    generalize a[l.length] = xa at *
    clear hca hxa
    by_cases hkb : l.length < b.length
    ·obtain ⟨ba', bc', hbe, hxb⟩ := hBb
     simp only [Value.slice.injEq, true_and] at hbe
     obtain ⟨rfl, rfl⟩ := hbe
     obtain ⟨gb, rfl, hcb⟩ := hxb (by omega)
     have y2 := hcb l.length b[l.length] (by simp [hkb])
     have x2 := db.get hkb
     have Eb : Hid (b.getD l.length 0 = b[l.length]) := Gd hkb
     generalize b[l.length] = xb at *
     clear hcb hxb
     have HF : Hid (E1 a b (l.length + 1) ((q + xa + xb) / 10000) (l ++ [(q + xa + xb) % 10000])) := HS.out _ (by rw [Ea.out, Eb.out])
     clear HS Ea Eb
     go_wp2_with (at_builtin; go_loud (refine Ak rfl (.tmp 44) (.tmp 47) 24 rfl 3 i0 _ 1 8 Tryz.underlying24 hi hz0 hz1 hz2 rfl (by decide) w.heap.size _ l.length (Ai l) rfl (HR.out.alloc _) (by simp; omega) ⟨_, 0, none⟩ 1 1 [.int .i64 ((q + xa + xb) % 10000)] rfl (by rfl) (Ap _ [.int .i64 ((q + xa + xb) % 10000)] _ _ rfl) (by simp [Value.oneCell']) (by decide) (by simp [maxLen]; omega) (by omega) ?_))
     intro g5 cap5 v5 hown5 hgrow5 hor5 hold5
     have HB5 : Hid (Below w.heap.size w v5) := (HB.out.alloc HB.out.size _).grown hgrow5 (by simp; omega) (fun j hj => (HR.out.lt j hj).1)
     have HR5 : Hid (v5.ownsRow w.heap.size 3 1 (.slice (some ⟨g5, 0, none⟩) (l.length + 1) cap5) (l ++ [(q + xa + xb) % 10000]).length (Ai (l ++ [(q + xa + xb) % 10000]))) := by
      have e1 : Ai (l ++ [(q + xa + xb) % 10000]) = Ai l ++ [.int .i64 ((q + xa + xb) % 10000)] := by simp [Ai]
      have e2 : (l ++ [(q + xa + xb) % 10000]).length = l.length + 1 := by simp
      rw [e1, e2]; exact hown5
     clear hown5 hgrow5 hor5 hold5 HB HR HI
     go_wp2
     refine And.intro ?_ ?_
     ·first | exact ⟨l.length + 1, (q + xa + xb) / 10000, l ++ [(q + xa + xb) % 10000], by go_num, rfl, HF.out, HR5.out, by omega, HB5.out⟩ | ((repeat apply Exists.intro); exact ⟨⟨l.length + 1, (q + xa + xb) / 10000, l ++ [(q + xa + xb) % 10000], by go_num, rfl, HF.out, HR5.out, by omega, HB5.out⟩, rfl⟩)
     ·simp [intOf]; omega
    ·have Eb : Hid (b.getD l.length 0 = 0) := Hr hkb
     have HF : Hid (E1 a b (l.length + 1) ((q + xa) / 10000) (l ++ [(q + xa) % 10000])) := HS.out _ (by rw [Ea.out, Eb.out, Int.add_zero])
     clear HS Ea Eb hBb
     go_wp2_with (at_builtin; go_loud (refine Ak rfl (.tmp 44) (.tmp 47) 24 rfl 3 i0 _ 1 8 Tryz.underlying24 hi hz0 hz1 hz2 rfl (by decide) w.heap.size _ l.length (Ai l) rfl (HR.out.alloc _) (by simp; omega) ⟨_, 0, none⟩ 1 1 [.int .i64 ((q + xa) % 10000)] rfl (by rfl) (Ap _ [.int .i64 ((q + xa) % 10000)] _ _ rfl) (by simp [Value.oneCell']) (by decide) (by simp [maxLen]; omega) (by omega) ?_))
     intro g5 cap5 v5 hown5 hgrow5 hor5 hold5
     have HB5 : Hid (Below w.heap.size w v5) := (HB.out.alloc HB.out.size _).grown hgrow5 (by simp; omega) (fun j hj => (HR.out.lt j hj).1)
     have HR5 : Hid (v5.ownsRow w.heap.size 3 1 (.slice (some ⟨g5, 0, none⟩) (l.length + 1) cap5) (l ++ [(q + xa) % 10000]).length (Ai (l ++ [(q + xa) % 10000]))) := by
      have e1 : Ai (l ++ [(q + xa) % 10000]) = Ai l ++ [.int .i64 ((q + xa) % 10000)] := by simp [Ai]
      have e2 : (l ++ [(q + xa) % 10000]).length = l.length + 1 := by simp
      rw [e1, e2]; exact hown5
     clear hown5 hgrow5 hor5 hold5 HB HR HI
     go_wp2
     refine And.intro ?_ ?_
     ·first | exact ⟨l.length + 1, (q + xa) / 10000, l ++ [(q + xa) % 10000], by go_num, rfl, HF.out, HR5.out, by omega, HB5.out⟩ | ((repeat apply Exists.intro); exact ⟨⟨l.length + 1, (q + xa) / 10000, l ++ [(q + xa) % 10000], by go_num, rfl, HF.out, HR5.out, by omega, HB5.out⟩, rfl⟩)
     ·simp [intOf]; omega
   ·have Ea : Hid (a.getD l.length 0 = 0) := Hr hka
    clear hA
    by_cases hkb : l.length < b.length
    ·obtain ⟨ba', bc', hbe, hxb⟩ := hBb
     simp only [Value.slice.injEq, true_and] at hbe
     obtain ⟨rfl, rfl⟩ := hbe
     obtain ⟨gb, rfl, hcb⟩ := hxb (by omega)
     have y2 := hcb l.length b[l.length] (by simp [hkb])
     have x2 := db.get hkb
     have Eb : Hid (b.getD l.length 0 = b[l.length]) := Gd hkb
     generalize b[l.length] = xb at *
     clear hcb hxb
     have HF : Hid (E1 a b (l.length + 1) ((q + xb) / 10000) (l ++ [(q + xb) % 10000])) := HS.out _ (by rw [Ea.out, Eb.out, Int.add_zero])
     clear HS Ea Eb
     go_wp2_with (at_builtin; go_loud (refine Ak rfl (.tmp 44) (.tmp 47) 24 rfl 3 i0 _ 1 8 Tryz.underlying24 hi hz0 hz1 hz2 rfl (by decide) w.heap.size _ l.length (Ai l) rfl (HR.out.alloc _) (by simp; omega) ⟨_, 0, none⟩ 1 1 [.int .i64 ((q + xb) % 10000)] rfl (by rfl) (Ap _ [.int .i64 ((q + xb) % 10000)] _ _ rfl) (by simp [Value.oneCell']) (by decide) (by simp [maxLen]; omega) (by omega) ?_))
     intro g5 cap5 v5 hown5 hgrow5 hor5 hold5
     have HB5 : Hid (Below w.heap.size w v5) := (HB.out.alloc HB.out.size _).grown hgrow5 (by simp; omega) (fun j hj => (HR.out.lt j hj).1)
     have HR5 : Hid (v5.ownsRow w.heap.size 3 1 (.slice (some ⟨g5, 0, none⟩) (l.length + 1) cap5) (l ++ [(q + xb) % 10000]).length (Ai (l ++ [(q + xb) % 10000]))) := by
      have e1 : Ai (l ++ [(q + xb) % 10000]) = Ai l ++ [.int .i64 ((q + xb) % 10000)] := by simp [Ai]
      have e2 : (l ++ [(q + xb) % 10000]).length = l.length + 1 := by simp
      rw [e1, e2]; exact hown5
     clear hown5 hgrow5 hor5 hold5 HB HR HI
     go_wp2
     refine And.intro ?_ ?_
     ·first | exact ⟨l.length + 1, (q + xb) / 10000, l ++ [(q + xb) % 10000], by go_num, rfl, HF.out, HR5.out, by omega, HB5.out⟩ | ((repeat apply Exists.intro); exact ⟨⟨l.length + 1, (q + xb) / 10000, l ++ [(q + xb) % 10000], by go_num, rfl, HF.out, HR5.out, by omega, HB5.out⟩, rfl⟩)
     ·simp [intOf]; omega
    ·have Eb : Hid (b.getD l.length 0 = 0) := Hr hkb
     have hq : 0 < q := by rcases HG.out with h | h | h <;> omega
     have HF : Hid (E1 a b (l.length + 1) (q / 10000) (l ++ [q % 10000])) := HS.out _ (by rw [Ea.out, Eb.out, Int.add_zero, Int.add_zero])
     clear HS Ea Eb hBb
     go_wp2_with (at_builtin; go_loud (refine Ak rfl (.tmp 44) (.tmp 47) 24 rfl 3 i0 _ 1 8 Tryz.underlying24 hi hz0 hz1 hz2 rfl (by decide) w.heap.size _ l.length (Ai l) rfl (HR.out.alloc _) (by simp; omega) ⟨_, 0, none⟩ 1 1 [.int .i64 ((q) % 10000)] rfl (by rfl) (Ap _ [.int .i64 ((q) % 10000)] _ _ rfl) (by simp [Value.oneCell']) (by decide) (by simp [maxLen]; omega) (by omega) ?_))
     intro g5 cap5 v5 hown5 hgrow5 hor5 hold5
     have HB5 : Hid (Below w.heap.size w v5) := (HB.out.alloc HB.out.size _).grown hgrow5 (by simp; omega) (fun j hj => (HR.out.lt j hj).1)
     have HR5 : Hid (v5.ownsRow w.heap.size 3 1 (.slice (some ⟨g5, 0, none⟩) (l.length + 1) cap5) (l ++ [(q) % 10000]).length (Ai (l ++ [(q) % 10000]))) := by
      have e1 : Ai (l ++ [(q) % 10000]) = Ai l ++ [.int .i64 ((q) % 10000)] := by simp [Ai]
      have e2 : (l ++ [(q) % 10000]).length = l.length + 1 := by simp
      rw [e1, e2]; exact hown5
     clear hown5 hgrow5 hor5 hold5 HB HR HI
     go_wp2
     refine And.intro ?_ ?_
     ·first | exact ⟨l.length + 1, (q) / 10000, l ++ [(q) % 10000], by go_num, rfl, HF.out, HR5.out, by omega, HB5.out⟩ | ((repeat apply Exists.intro); exact ⟨⟨l.length + 1, (q) / 10000, l ++ [(q) % 10000], by go_num, rfl, HF.out, HR5.out, by omega, HB5.out⟩, rfl⟩)
     ·simp [intOf]; omega
  ·have ha' : ¬ l.length < a.length := fun h => hgo (.inl h)
   have hb' : ¬ l.length < b.length := fun h => hgo (.inr (.inl h))
   have hq' : q = 0 := by omega
   subst hq'
   have HF : Hid (Big w.heap.size wr (.slice oa l.length oc) l ∧ Av l = Av a + Av b ∧ l.length <= a.length + b.length + 1 ∧ Below w.heap.size w wr) := by
    refine ⟨⟨hrow, hI.dg, hI.nm (by omega) (by omega) rfl⟩, ?_, hkl, hb⟩
    have := hI.v
    rw [List.take_of_length_le (by omega), List.take_of_length_le (by omega)] at this
    simpa using this
   clear hb hrow hI hgo hA hBb
   go_wp2
   go_ret
   first | exact ⟨_, l, rfl, HF.out⟩ | exact ⟨_, rfl, l, HF.out⟩
structure DI (a b : List Int) (i k : Nat) (x c : Int) (L : List Int) : Prop where
 len : L.length = a.length + b.length + 1
 dg : Dg L
 c0 : 0 <= c
 c1 : c <= 9999
 v : Av L + P (i + k) * c = Av (a.take i) * Av b + P i * (x * Av (b.take k))
theorem IV {y X Y : Int} (h0 : 0 <= x) (h1 : x <= X) (h2 : 0 <= y) (h3 : y <= Y) : 0 <= x * y ∧ x * y <= X * Y := by
 refine ⟨Int.mul_nonneg h0 h2, ?_⟩
 have h4 := Int.mul_le_mul_of_nonneg_left h3 h0
 have h5 := Int.mul_le_mul_of_nonneg_right h1 (show 0 <= Y by omega)
 omega
theorem DI.step (h : DI a b i k x c L) (db : Dg b) (hx0 : 0 <= x) (hx1 : x < 10000) (hj : i + k < L.length) (s : Int) (hs : s = c + x * b.getD k 0 + L[i + k]) :
  DI a b i (k + 1) x (s / 10000) (L.set (i + k) (s % 10000)) := by
 have h1 := db.getD k
 obtain ⟨m0, m1⟩ := IV hx0 (show x <= 9999 by omega) h1.1 (show b.getD k 0 <= 9999 by omega)
 have h2 := h.dg.get hj
 have h3 := h.c0
 have h4 := h.c1
 have hs0 : 0 <= s := by omega
 have hs1 : s <= 99999999 := by omega
 refine ⟨by rw [List.length_set]; exact h.len, h.dg.set _ (by omega) (by omega), by omega, by omega, ?_⟩
 have hv := h.v
 rw [OG L (i + k) hj, F2 b k, <- Nat.add_assoc, EM, Int.mul_sub]
 have e1 : P (i + k) * s = P (i + k) * (s % 10000) + P (i + k) * 10000 * (s / 10000) := by
  rw [Int.mul_assoc, <- Int.mul_add]
  congr 1
  omega
 rw [hs, Int.mul_add, Int.mul_add, <- hs] at e1
 have e3 : P (i + k) * (x * b.getD k 0) = P i * (x * (P k * b.getD k 0)) := by rw [Rk]; ac_rfl
 rw [Int.mul_add x, Int.mul_add (P i)]
 omega
theorem DI.lim (h : DI a b i k x c L) (da : Dg a) (db : Dg b) (hi : i < a.length) (hx : x = a[i]) (hgo : k < b.length ∨ 0 < c) : i + k < a.length + b.length + 1 := by
 by_cases hk : k < b.length
 ·omega
 ·have hc : 1 <= c := by omega
  have hv := h.v
  rw [List.take_of_length_le (show b.length <= k by omega)] at hv
  have e1 := Dk a i hi
  rw [<- hx] at e1
  have e2 : Av (a.take i) * Av b + P i * (x * Av b) = Av (a.take (i + 1)) * Av b := by
   rw [e1, Int.add_mul, Int.mul_assoc]
  rw [e2] at hv
  have h1 := Fs (da.take (i + 1))
  rw [List.length_take, Nat.min_eq_left (by omega)] at h1
  have h2 := Fs db
  have h3 := Cw (da.take (i + 1))
  have h4 := Cw db
  have h5 := GZ b.length
  have h6 : Av (a.take (i + 1)) * Av b <= Av (a.take (i + 1)) * P b.length := Int.mul_le_mul_of_nonneg_left (by omega) h3
  have h7 : Av (a.take (i + 1)) * P b.length < P (i + 1) * P b.length := Int.mul_lt_mul_of_pos_right h1 (by omega)
  rw [<- Rk] at h7
  have h8 := Cw h.dg
  have h9 : P (i + k) * 1 <= P (i + k) * c := Int.mul_le_mul_of_nonneg_left hc (by have := GZ (i + k); omega)
  by_cases hlt : i + k < i + 1 + b.length
  ·omega
  ·have := GL (show i + 1 + b.length <= i + k by omega)
   omega
theorem DI.next (h : DI a b i k x 0 L) (hi : i < a.length) (hx : x = a[i]) (hk : b.length <= k) : Av L = Av (a.take (i + 1)) * Av b := by
 have hv := h.v
 rw [List.take_of_length_le hk, Int.mul_zero, Int.add_zero] at hv
 rw [hv, Dk a i hi, Int.add_mul, Int.mul_assoc, hx]
theorem P4 (l : List Int) (n : Nat) (h : n <= l.length) (hz : ∀ j (hj : j < l.length), n <= j -> l[j] = 0) : Av (l.take n) = Av l := by
 obtain ⟨d, hd⟩ : ∃ d, n + d = l.length := ⟨l.length - n, by omega⟩
 induction d generalizing n with
 | zero => rw [List.take_of_length_le (by omega)]
 | succ d ih =>
  have h1 := ih (n + 1) (by omega) (fun j hj hn => hz j hj (by omega)) (by omega)
  rw [Dk l n (by omega), hz n (by omega) (Nat.le_refl _), Int.mul_zero, Int.add_zero] at h1
  exact h1
theorem Qk (B : Nat) (g cap : Nat) (l : List Int) (w : World) (hr : w.ownsRow B 3 1 (.slice (some ⟨g, 0, none⟩) l.length cap) l.length (Ai l)) (hd : Dg l) (hl : l.length <= 1000000000) :
  Calls Tryz.prog 145 #[.slice (some ⟨g, 0, none⟩) l.length cap] w fun e w' => ∃ v l', e = .returned v ∧ Big B w' v l' ∧ Av l' = Av l ∧ l'.length <= l.length ∧ w' = w := by
 have HR := Hd hr
 go_enter Tryz.func145, Tryz.ntmps145
 go_wp2
 go_loop [3] (fun i => ∃ n : Nat, n <= l.length ∧ i = .int .i64 n ∧ ∀ j (hj : j < l.length), n <= j -> l[j] = 0) (fun i => (intOf i).toNat)
 case atStart => exact ⟨l.length, Nat.le_refl _, rfl, fun j hj h => by omega⟩
 case round =>
  obtain ⟨n, hn, rfl, hz⟩ := hrel
  have HZ := Hd hz
  have hcap : l.length <= cap := by
   rcases hr.2 with ⟨h0, _⟩ | ⟨g', cap', cur, h1, h2, h3, h4, h5, h6, h7⟩
   ·simp at h0
   ·simp only [Value.slice.injEq, Option.some.injEq, Addr.mk.injEq, and_true, true_and] at h1
    omega
  have hcm : cap <= maxLen := by
   rcases hr.2 with ⟨h0, _⟩ | ⟨g', cap', cur, h1, h2, h3, h4, h5, h6, h7⟩
   ·simp at h0
   ·simp only [Value.slice.injEq, Option.some.injEq, Addr.mk.injEq, and_true, true_and] at h1
    omega
  have hcap2 : n <= cap := by omega
  have HS : Hid (w.ownsRow B 3 1 (.slice (some ⟨g, 0, none⟩) n cap) n (Ai (l.take n))) := by
   have e1 : l.length = n + (l.length - n) := by omega
   have e2 : Ai l = Ai (l.take n) ++ Ai (l.drop n) := by
    unfold Ai; rw [<- List.map_append, List.take_append_drop]
   have h := hr
   rw [e2, e1] at h
   exact FE h (by simp [Ai]; omega) hcap2
  have HV : Hid (Av (l.take n) = Av l) := P4 l n hn hz
  have HT : Hid ((l.take n).length = n) := by
   show (l.take n).length = n
   rw [List.length_take, Nat.min_eq_left hn]
  clear hz
  cases n with
  | zero =>
   clear hr
   go_wp2
   go_ret
   have hb : Big B w (.slice (some ⟨g, 0, none⟩) 0 cap) [] := ⟨HS.out, Dg.nil, Nm.nil⟩
   have hv : Av ([] : List Int) = Av l := HV.out
   first | exact ⟨_, [], rfl, hb, hv, Nat.zero_le _, rfl⟩ | exact ⟨_, rfl, [], hb, hv, Nat.zero_le _, rfl⟩
  | succ n =>
   have hnl : n < l.length := by omega
   have y : w.cell? ⟨g, n, none⟩ = some (.int .i64 l[n]) := by
    rw [hr.cellAt n (by omega)]; simp [Ai, hnl]
   have Hn : Hid (∀ h : n < l.length, l[n] ≠ 0 -> Nm (l.take (n + 1))) := fun h h1 h2 => by
    have e : (l.take (n + 1))[(l.take (n + 1)).length - 1] = l[n] := by
     simp only [List.getElem_take]
     congr 1
     rw [List.length_take, Nat.min_eq_left (by omega)]; omega
    rw [e]; exact h1
   have Hz2 : Hid (l[n] = 0 -> ∀ j (hj : j < l.length), n <= j -> l[j] = 0) := fun h j hj hj2 => by
    by_cases e : j = n
    ·subst e; exact h
    ·exact HZ.out j hj (by omega)
   have Hnn := (show Hid _ from Hn.out hnl)
   clear hr Hn HZ
   generalize l[n] = x at *
   by_cases hx : x = 0
   ·subst hx
    go_wp2
    refine And.intro ?_ ?_
    ·first | exact ⟨n, by omega, by go_num, Hz2.out rfl⟩ | ((repeat apply Exists.intro); exact ⟨⟨n, by omega, by go_num, Hz2.out rfl⟩, rfl⟩)
    ·simp [intOf]
   ·have ex : (x == 0) = false := by simpa using hx
    have HB : Hid (Big B w (.slice (some ⟨g, 0, none⟩) (n + 1) cap) (l.take (n + 1))) := by
     refine ⟨?_, hd.take _, Hnn.out hx⟩
     rw [HT.out]; exact HS.out
    have HL : Hid ((l.take (n + 1)).length <= l.length) := by
     show (l.take (n + 1)).length <= l.length
     rw [List.length_take]; omega
    clear hx HS HT Hnn Hz2
    go_wp2
    go_ret
    first | exact ⟨_, l.take (n + 1), rfl, HB.out, HV.out, HL.out, rfl⟩ | exact ⟨_, rfl, l.take (n + 1), HB.out, HV.out, HL.out, rfl⟩
theorem MR (n : Nat) : madeCells #[.int .i64 0] n = (Ai (List.replicate n 0)).toArray := by
 have h := toList_madeCells_one (.int .i64 0) n
 have e : madeCells #[.int .i64 0] n = ((madeCells #[.int .i64 0] n).toList).toArray := by rw [Array.toArray_toList]
 rw [e, h]
 simp [Ai]
theorem En (va vb : Value) (a b : List Int) (w : World) (ha : AM w va a) (hb : AM w vb b) (da : Dg a) (db : Dg b) (la : a.length <= 100000000) (lb : b.length <= 100000000) :
  Calls Tryz.prog 102 #[va, vb] w fun e w' => ∃ v l, e = .returned v ∧ Big w.heap.size w' v l ∧ Av l = Av a * Av b ∧ l.length <= a.length + b.length + 1 ∧ Below w.heap.size w w' := by
 obtain ⟨i0, hi, hz0, hz1, hz2⟩ := info_parts Cn
 obtain ⟨aa, ac, rfl, hxa⟩ := id ha
 obtain ⟨ba, bc, rfl, hxb⟩ := id hb
 have HA := Hd ha
 have HBs := Hd hb
 clear hxa hxb ha hb
 have hmk : (Instr.makeSlice 24 (.int .i64 ((a.length : Int) + (b.length : Int) + 1)) (.int .i64 ((a.length : Int) + (b.length : Int) + 1))).run Tryz.prog w =
   .ok (.slice (some ⟨w.heap.size, 0, none⟩) (a.length + b.length + 1) (a.length + b.length + 1)) (w.alloc (.cells (Ai (List.replicate (a.length + b.length + 1) 0)).toArray 3)) := by
  have h := run_make (P := Tryz.prog) w 24 3 i0 (.int .i64 0) Tryz.underlying24 hi hz0 .i64 .i64 ((a.length : Int) + (b.length : Int) + 1) ((a.length : Int) + (b.length : Int) + 1) (by omega) (Int.le_refl _) (by rw [hz2]; omega) (by omega)
  have e : ((a.length : Int) + (b.length : Int) + 1).toNat = a.length + b.length + 1 := by omega
  rw [e] at h
  rw [<- MR]
  simpa [hz1, Value.cells] using h
 have HR0 : Hid ((w.alloc (.cells (Ai (List.replicate (a.length + b.length + 1) 0)).toArray 3)).ownsRow w.heap.size 3 1 (.slice (some ⟨w.heap.size, 0, none⟩) (a.length + b.length + 1) (a.length + b.length + 1)) (a.length + b.length + 1) (Ai (List.replicate (a.length + b.length + 1) 0))) :=
  Dz w 3 1 _ _ (by simp [Ai]) (by simp [maxLen]; omega)
 have HB0 : Hid (Below w.heap.size w (w.alloc (.cells (Ai (List.replicate (a.length + b.length + 1) 0)).toArray 3))) := (Below.refl _ _).alloc (Nat.le_refl _) _
 go_enter Tryz.func102, Tryz.ntmps102
 go_wp2
 clear hmk
 generalize w.alloc (.cells (Ai (List.replicate (a.length + b.length + 1) 0)).toArray 3) = wA at HR0 HB0 ⊢
 go_loopw [6] (fun i wr => ∃ (n : Nat) (L : List Int), i = .int .i64 n ∧ n <= a.length ∧ L.length = a.length + b.length + 1 ∧ Dg L ∧ Av L = Av (a.take n) * Av b ∧ wr.ownsRow w.heap.size 3 1 (.slice (some ⟨w.heap.size, 0, none⟩) (a.length + b.length + 1) (a.length + b.length + 1)) (a.length + b.length + 1) (Ai L) ∧ Below w.heap.size w wr) (fun i _ => a.length - (intOf i).toNat)
 case atStart => exact ⟨0, _, rfl, Nat.zero_le _, by simp, fun d hd => by rw [List.eq_of_mem_replicate hd]; omega, by rw [PN]; simp [Av], HR0.out, HB0.out⟩
 case round =>
  clear HR0 HB0
  obtain ⟨n, L, rfl, hn, hL, dL, vL, hrow, hbw⟩ := hrel
  by_cases hlt : n < a.length
  ·have HI : Hid (DI a b n 0 a[n] 0 L) := ⟨hL, dL, Int.le_refl _, by omega, by rw [vL]; simp [Av]⟩
   have HR := Hd hrow
   have HB := Hd hbw
   have x1 := da.get hlt
   obtain ⟨x, hx⟩ : ∃ x, x = a[n] := ⟨_, rfl⟩
   rw [<- hx] at HI x1
   have HX := Hd hx
   clear hL dL vL hrow hbw hx
   go_wp2
   obtain ⟨wo, rfl⟩ : ∃ wo : World, wo = wr := ⟨_, rfl⟩
   go_loopw [7, 8] (fun c k wr => ∃ (k2 : Nat) (q : Int) (L : List Int), c = .int .i64 q ∧ k = .int .i64 k2 ∧ DI a b n k2 x q L ∧ wr.ownsRow w.heap.size 3 1 (.slice (some ⟨w.heap.size, 0, none⟩) (a.length + b.length + 1) (a.length + b.length + 1)) (a.length + b.length + 1) (Ai L) ∧ n + k2 <= a.length + b.length + 1 ∧ Below w.heap.size w wr) (fun _ k _ => a.length + b.length + 1 - (intOf k).toNat)
   case atStart => exact ⟨0, 0, L, rfl, rfl, HI.out, HR.out, by omega, HB.out⟩
   case round =>
    clear HI HR HB
    obtain ⟨k2, q, L2, rfl, rfl, hI, hrow, hkl, hbw⟩ := hrel
    have q0 := hI.c0
    have q1 := hI.c1
    by_cases hgo : k2 < b.length ∨ 0 < q
    ·have hlim := hI.lim da db hlt HX.out hgo
     have hj : n + k2 < L2.length := by rw [hI.len]; exact hlim
     have HI := Hd hI
     have HS : Hid (∀ s, s = q + x * b.getD k2 0 + L2[n + k2] -> DI a b n (k2 + 1) x (s / 10000) (L2.set (n + k2) (s % 10000))) := fun s hs => HI.out.step db x1.1 x1.2 hj s hs
     have z1 : wr.cell? ⟨w.heap.size, n + k2, none⟩ = some (.int .i64 L2[n + k2]) := by
      rw [hrow.cellAt (n + k2) (by omega)]; simp [Ai, hj]
     have fz := hrow.frozenAt (n + k2)
     have zd := hI.dg.get hj
     have HRS : Hid (∀ y, (wr.setCell ⟨w.heap.size, n + k2, none⟩ (.int .i64 y)).ownsRow w.heap.size 3 1 (.slice (some ⟨w.heap.size, 0, none⟩) (a.length + b.length + 1) (a.length + b.length + 1)) (a.length + b.length + 1) (Ai (L2.set (n + k2) y))) := fun y => by
      have := (hrow.stored (n + k2) (.int .i64 y)).1
      rwa [show (Ai L2).set (n + k2) (.int .i64 y) = Ai (L2.set (n + k2) y) by simp [Ai]] at this
     have HBS : Hid (∀ y, Below w.heap.size w (wr.setCell ⟨w.heap.size, n + k2, none⟩ (.int .i64 y))) := fun y => hbw.setCell (Nat.le_refl _) _
     have hA := HA.out.below hbw (Nat.le_refl _)
     have hBb := HBs.out.below hbw (Nat.le_refl _)
     obtain ⟨aa', ac', hae, hxa⟩ := hA
     simp only [Value.slice.injEq, true_and] at hae
     obtain ⟨rfl, rfl⟩ := hae
     obtain ⟨ga, hga, hca⟩ := hxa (by omega)
     subst hga
     have y1 := hca n x (by rw [HX.out]; simp [hlt])
     generalize L2[n + k2] = z at *
     clear hca hxa hrow hbw hI
     by_cases hkb : k2 < b.length
     ·obtain ⟨ba', bc', hbe, hxb⟩ := hBb
      simp only [Value.slice.injEq, true_and] at hbe
      obtain ⟨rfl, rfl⟩ := hbe
      obtain ⟨gb, hgb, hcb⟩ := hxb (by omega)
      subst hgb
      have y2 := hcb k2 b[k2] (by simp [hkb])
      have x2 := db.get hkb
      have Eb : Hid (b.getD k2 0 = b[k2]) := Gd hkb
      generalize b[k2] = xb at *
      obtain ⟨m0, m1⟩ := IV x1.1 (show x <= 9999 by omega) x2.1 (show xb <= 9999 by omega)
      have HF : Hid (DI a b n (k2 + 1) x ((q + x * xb + z) / 10000) (L2.set (n + k2) ((q + x * xb + z) % 10000))) := HS.out _ (by rw [Eb.out])
      clear HS Eb hcb hxb hgo
      go_wp2
      go_quiet (fail)
      go_wp2
      refine And.intro ?_ ?_
      ·refine ⟨k2 + 1, (q + x * xb + z) / 10000, L2.set (n + k2) ((q + x * xb + z) % 10000), rfl, by go_num, HF.out, ?_, by omega, ?_⟩
       ·exact HRS.out _
       ·have hq := HBS.out ((q + x * xb + z) % 10000)
        exact ⟨hq.os, hq.tape, hq.output, hq.size, hq.block⟩
      ·simp [intOf]; omega
     ·have Eb : Hid (b.getD k2 0 = 0) := Hr hkb
      have hq : 0 < q := by omega
      have HF : Hid (DI a b n (k2 + 1) x ((q + z) / 10000) (L2.set (n + k2) ((q + z) % 10000))) := HS.out _ (by rw [Eb.out, Int.mul_zero, Int.add_zero])
      clear HS Eb hBb hgo
      go_wp2
      refine And.intro ?_ ?_
      ·first | exact ⟨k2 + 1, (q + z) / 10000, L2.set (n + k2) ((q + z) % 10000), rfl, by go_num, HF.out, HRS.out _, by omega, HBS.out _⟩ | ((repeat apply Exists.intro); exact ⟨⟨k2 + 1, (q + z) / 10000, L2.set (n + k2) ((q + z) % 10000), rfl, by go_num, HF.out, HRS.out _, by omega, HBS.out _⟩, rfl⟩)
      ·simp [intOf]; omega
    ·have hkb : ¬ k2 < b.length := fun h => hgo (.inl h)
     have hq : q = 0 := by omega
     subst hq
     have HF : Hid (Av L2 = Av (a.take (n + 1)) * Av b) := hI.next hlt HX.out (by omega)
     have HG : Hid (L2.length = a.length + b.length + 1 ∧ Dg L2 ∧ wr.ownsRow w.heap.size 3 1 (.slice (some ⟨w.heap.size, 0, none⟩) (a.length + b.length + 1) (a.length + b.length + 1)) (a.length + b.length + 1) (Ai L2) ∧ Below w.heap.size w wr) := ⟨hI.len, hI.dg, hrow, hbw⟩
     clear hI hrow hbw hgo
     go_wp2
     refine And.intro ?_ ?_
     ·first | exact ⟨n + 1, L2, by go_num, by omega, HG.out.1, HG.out.2.1, HF.out, HG.out.2.2.1, HG.out.2.2.2⟩ | ((repeat apply Exists.intro); exact ⟨⟨n + 1, L2, by go_num, by omega, HG.out.1, HG.out.2.1, HF.out, HG.out.2.2.1, HG.out.2.2.2⟩, rfl⟩)
     ·simp [intOf]; omega
  ·have HV : Hid (Av L = Av a * Av b) := by
    show Av L = Av a * Av b
    rw [vL, List.take_of_length_le (by omega)]
   have HL := Hd hL
   have HT : Hid (Calls Tryz.prog 145 #[.slice (some ⟨w.heap.size, 0, none⟩) (a.length + b.length + 1) (a.length + b.length + 1)] wr fun e w' => ∃ v l', e = .returned v ∧ Big w.heap.size w' v l' ∧ Av l' = Av L ∧ l'.length <= a.length + b.length + 1 ∧ w' = wr) := by
    have h := Qk w.heap.size w.heap.size (a.length + b.length + 1) L wr (by rw [hL]; exact hrow) dL (by omega)
    rwa [hL] at h
   have HB := Hd hbw
   clear hL dL vL hrow hbw
   go_wp2_with fail
   refine HT.out.mono ?_
   rintro e w2 ⟨v, l', rfl, hbig, hv, hl, rfl⟩
   have HF : Hid (Big w.heap.size w2 v l' ∧ Av l' = Av a * Av b ∧ l'.length <= a.length + b.length + 1 ∧ Below w.heap.size w w2) := ⟨hbig, hv.trans HV.out, hl, HB.out⟩
   clear hbig hv hl HT HV HB HL
   go_wp2
   go_ret
   first | exact ⟨_, l', rfl, HF.out⟩ | exact ⟨_, rfl, l', HF.out⟩
end Go.Proofs.YtohjjgefklhmaaaGreatDoor
