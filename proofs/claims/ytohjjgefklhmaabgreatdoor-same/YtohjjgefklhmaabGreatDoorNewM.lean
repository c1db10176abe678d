import Derived.Test.YtohjjgefklhmaabGreatDoorAppM
namespace Go.Proofs.YtohjjgefklhmaabGreatDoor
open Go.ChangeShapes Go.WideShapes Go.ChangeAt Go.RowKit
set_option linter.unusedVariables false

theorem size_setCell' (w : World) (a : Addr) (v : Value) : (w.setCell a v).heap.size = w.heap.size := by simp [World.setCell]
/-- the cells of a new engine -/
def nL (top mature fee : Int) (bv vv : Value) : List Value := [.int .i64 top, .int .i64 mature, .int .i64 fee, .int .i64 0, bv, .int .i64 0, .int .i64 0, vv] ++ (ints (List.replicate 65 0) ++ [.slice none 0 0])
def zEngL : List Value := [.int .i64 0, .int .i64 0, .int .i64 0, .int .i64 0, .slice none 0 0, .int .i64 0, .int .i64 0, .slice none 0 0] ++ (ints (List.replicate 65 0) ++ [.slice none 0 0])
def zEng : Array Value := zEngL.toArray
theorem info_eng : (Tryz.prog.info? 59).map (·.zero) = some (some (.agg zEng)) := by kernel_rfl
theorem zero_eng (u : World) : (zeroValue 59).run Tryz.prog u = .ok (.agg zEng) u := by
  obtain ⟨i, hi, hz⟩ : ∃ i, Tryz.prog.info? 59 = some i ∧ i.zero = some (.agg zEng) := by
    have := info_eng
    cases h : Tryz.prog.info? 59 with
    | none => rw [h] at this; simp at this
    | some i => rw [h] at this; exact ⟨i, rfl, by simpa using this⟩
  simp [zeroValue, typeInfo, hi, hz]
theorem zEng_size : zEng.size = 74 := by rfl
theorem zEng_ne : ¬ zEng = #[] := fun h => by have := congrArg Array.size h; rw [zEng_size] at this; simp at this
theorem zEng_set (top mature fee : Int) : (((zEng.setIfInBounds 0 (.int .i64 top)).setIfInBounds 1 (.int .i64 mature)).setIfInBounds 2 (.int .i64 fee)).toList = nL top mature fee (.slice none 0 0) (.slice none 0 0) := by rfl
/-- what New has made -/
def Begun (w w' : World) (e : Ending) (bs os rs : List Int) (top mature fee : Int) : Prop :=
  ∃ g bv vv, e = .returned (.tuple #[.pointer (some ⟨g, 0, none⟩), .int .i64 0]) ∧ w.heap.size ≤ g ∧
    Has w' g 59 (nL top mature fee bv vv) ∧
    w'.ownsRow w.heap.size 3 1 bv bs.length (ints bs) ∧ w'.ownsRow w.heap.size 76 8 vv os.length (vrow (vs0 os rs)) ∧ Below w.heap.size w w'

set_option maxHeartbeats 2000000 in
set_option maxRecDepth 100000 in
theorem new_bad (vb vo vr : Value) (bs os rs : List Int) (top mature fee : Int) (w : World) (hb : IntSl w vb bs) (ho : IntSl w vo os) (hr : IntSl w vr rs)
    (l1 : bs.length ≤ 1048576) (l2 : os.length ≤ 1048576) (l3 : rs.length ≤ 1048576) (hbad : ¬ GoodGen bs os rs top mature fee) :
    Calls Tryz.prog 7 #[.agg #[vb, vo, vr, .int .i64 top, .int .i64 mature, .int .i64 fee]] w fun e w' => e = .returned (.tuple #[.pointer none, .int .i64 1]) ∧ Below w.heap.size w w' := by
  have hB : ∀ o, Below w.heap.size w (w.alloc o) := fun o => (Below.refl _ _).alloc (Nat.le_refl _) _
  have HB : Hid (¬ GoodGen bs os rs top mature fee) := hbad
  clear hbad
  go_enter Tryz.func7, Tryz.ntmps7
  go_wp2_with fail
  refine (goodGenesis_any vb vo vr bs os rs top mature fee _ (hb.below (hB _) (Nat.le_refl _)) (ho.below (hB _) (Nat.le_refl _)) (hr.below (hB _) (Nat.le_refl _)) l1 l2 l3).mono ?_
  rintro e w1 ⟨⟨b1, rfl, hb1⟩, hbb⟩
  obtain rfl : b1 = false := by
    cases b1 with
    | false => rfl
    | true => exact absurd (hb1.1 rfl) HB.out
  clear hb1
  go_wp2
  go_ret2
  exact ⟨rfl, (hB _).trans (hbb.mono (by simp))⟩

set_option maxHeartbeats 2000000 in
set_option maxRecDepth 100000 in
theorem new_good (vb vo vr : Value) (bs os rs : List Int) (top mature fee : Int) (w : World) (hb : IntSl w vb bs) (ho : IntSl w vo os) (hr : IntSl w vr rs)
    (l1 : bs.length ≤ 1048576) (l2 : os.length ≤ 1048576) (l3 : rs.length ≤ 1048576) (hgood : GoodGen bs os rs top mature fee) :
    Calls Tryz.prog 7 #[.agg #[vb, vo, vr, .int .i64 top, .int .i64 mature, .int .i64 fee]] w fun e w' => Begun w w' e bs os rs top mature fee := by
  have hB : ∀ o, Below w.heap.size w (w.alloc o) := fun o => (Below.refl _ _).alloc (Nat.le_refl _) _
  have HB : Hid (GoodGen bs os rs top mature fee) := hgood
  clear hgood
  obtain ⟨ab, cb, rfl, _⟩ := id hb
  obtain ⟨ao, co, rfl, _⟩ := id ho
  obtain ⟨ar, cr, rfl, _⟩ := id hr
  have hz : ∀ u : World, (zeroValue 59).run Tryz.prog u = .ok (.agg zEng) u := zero_eng
  have hzs : zEng.size = 74 := zEng_size
  have hzn : ¬ zEng = #[] := zEng_ne
  go_enter Tryz.func7, Tryz.ntmps7
  go_wp2_with fail
  refine (goodGenesis_any _ _ _ bs os rs top mature fee _ (hb.below (hB _) (Nat.le_refl _)) (ho.below (hB _) (Nat.le_refl _)) (hr.below (hB _) (Nat.le_refl _)) l1 l2 l3).mono ?_
  rintro e w1 ⟨⟨b1, rfl, hb1⟩, hbb⟩
  obtain rfl : b1 = true := hb1.2 HB.out
  clear hb1
  have hb1 := (hb.below (hB _) (Nat.le_refl _)).below hbb (Nat.le_refl _)
  have ho1 := (ho.below (hB _) (Nat.le_refl _)).below hbb (Nat.le_refl _)
  have hr1 := (hr.below (hB _) (Nat.le_refl _)).below hbb (Nat.le_refl _)
  have hw1 : Below w.heap.size w w1 := (hB _).trans (hbb.mono (by simp))
  obtain ⟨hc, hf⟩ := bcell hbb
  have hz1 : w.heap.size < w1.heap.size := by have := hbb.size; simp at this; omega
  simp only [World.size_alloc] at hc hf
  go_wp2_with fail
  have hA : Has (w1.alloc (.cells (((zEng.setIfInBounds 0 (.int .i64 top)).setIfInBounds 1 (.int .i64 mature)).setIfInBounds 2 (.int .i64 fee)) 59)) w1.heap.size 59 (nL top mature fee (.slice none 0 0) (.slice none 0 0)) := by
    rw [← zEng_set]; exact Has.newA w1 _ _
  have hE : Below w1.heap.size w1 (w1.alloc (.cells (((zEng.setIfInBounds 0 (.int .i64 top)).setIfInBounds 1 (.int .i64 mature)).setIfInBounds 2 (.int .i64 fee)) 59)) := (Below.refl _ _).alloc (Nat.le_refl _) _
  have hsA : (w1.alloc (.cells (((zEng.setIfInBounds 0 (.int .i64 top)).setIfInBounds 1 (.int .i64 mature)).setIfInBounds 2 (.int .i64 fee)) 59)).heap.size = w1.heap.size + 1 := World.size_alloc _ _
  generalize w1.alloc (.cells (((zEng.setIfInBounds 0 (.int .i64 top)).setIfInBounds 1 (.int .i64 mature)).setIfInBounds 2 (.int .i64 fee)) 59) = wA at hA hE hsA ⊢
  clear hz hzs hzn hc hf
  refine (copyNumbers_any _ bs _ (hb1.below hE (Nat.le_refl _)) l1).mono ?_
  rintro e w2 ⟨rfl, rfl⟩
  have hA2 := hA.alloc (.cells (ints bs).toArray 3)
  have hbv := ownsRow_new wA 3 1 bs.length (ints bs) (by simp [ints]) (by simp [maxLen]; omega)
  rw [hsA] at hbv
  have hE2 : Below w1.heap.size w1 (wA.alloc (.cells (ints bs).toArray 3)) := hE.alloc (by omega) _
  have hs2 : (wA.alloc (.cells (ints bs).toArray 3)).heap.size = w1.heap.size + 2 := by rw [World.size_alloc]; omega
  generalize wA.alloc (.cells (ints bs).toArray 3) = wB at hA2 hbv hE2 hs2 ⊢
  have c4 : wB.cell? ⟨w1.heap.size, 4, none⟩ = some (.slice none 0 0) := hA2.cell 4
  have f4 := hA2.frozen 4
  have hP0 : Has (w.alloc (.cells #[.slice ab bs.length cb, .slice ao os.length co, .slice ar rs.length cr, .int .i64 top, .int .i64 mature, .int .i64 fee] 25)) w.heap.size 25 [.slice ab bs.length cb, .slice ao os.length co, .slice ar rs.length cr, .int .i64 top, .int .i64 mature, .int .i64 fee] := Has.newA w _ _
  have hP1 := (hP0.below hbb (by simp)).below hE2 hz1
  have p1 : wB.cell? ⟨w.heap.size, 1, none⟩ = some (.slice ao os.length co) := hP1.cell 1
  have p2 : wB.cell? ⟨w.heap.size, 2, none⟩ = some (.slice ar rs.length cr) := hP1.cell 2
  have n1 : w.heap.size ≠ w1.heap.size := by omega
  have n2 : w1.heap.size ≠ w.heap.size := by omega
  clear hP0 hP1 hbb
  go_wp2_with fail
  have hA3 := hA2.set 4 (.slice (some ⟨w1.heap.size + 1, 0, none⟩) bs.length bs.length)
  have hbv3 := ownsRow_setCell hbv ⟨w1.heap.size, 4, none⟩ (.slice (some ⟨w1.heap.size + 1, 0, none⟩) bs.length bs.length) (by simp [Value.ownBlock])
  have hE3 : Below w1.heap.size w1 (wB.setCell ⟨w1.heap.size, 4, none⟩ (.slice (some ⟨w1.heap.size + 1, 0, none⟩) bs.length bs.length)) := hE2.setCell (Nat.le_refl _) _
  have hs3 : (wB.setCell ⟨w1.heap.size, 4, none⟩ (.slice (some ⟨w1.heap.size + 1, 0, none⟩) bs.length bs.length)).heap.size = w1.heap.size + 2 := by rw [size_setCell']; exact hs2
  have e3 : (nL top mature fee (.slice none 0 0) (.slice none 0 0)).set 4 (.slice (some ⟨w1.heap.size + 1, 0, none⟩) bs.length bs.length) = nL top mature fee (.slice (some ⟨w1.heap.size + 1, 0, none⟩) bs.length bs.length) (.slice none 0 0) := rfl
  rw [e3] at hA3
  clear e3
  generalize wB.setCell ⟨w1.heap.size, 4, none⟩ (.slice (some ⟨w1.heap.size + 1, 0, none⟩) bs.length bs.length) = wC at hA3 hbv3 hE3 hs3 ⊢
  clear hA hA2 hbv hE hE2 c4 f4
  refine (newValidators_any _ _ os rs _ (ho1.below hE3 (Nat.le_refl _)) (hr1.below hE3 (Nat.le_refl _)) HB.out.2.1.2.2.1 HB.out.2.1.2.1).mono ?_
  rintro e w3 ⟨x, rfl, hx3, hb3⟩
  obtain ⟨ax, cx, rfl⟩ := ownsRow_slice hx3
  have hcE3 := hA3.below hb3 (by omega)
  have hc7 : w3.cell? ⟨w1.heap.size, 7, none⟩ = some (.slice none 0 0) := hcE3.cell 7
  have hf7 := hcE3.frozen 7
  have hbv4 := ownsRow_below hbv3 hb3 (Nat.le_refl _)
  have HF : Hid (Begun w (w3.setCell ⟨w1.heap.size, 7, none⟩ (.slice ax os.length cx)) (.returned (.tuple #[.pointer (some ⟨w1.heap.size, 0, none⟩), .int .i64 0])) bs os rs top mature fee) := by
    refine ⟨w1.heap.size, .slice (some ⟨w1.heap.size + 1, 0, none⟩) bs.length bs.length, .slice ax os.length cx, rfl, by omega, ?_, ?_, ?_, ?_⟩
    · exact hcE3.set 7 _
    · exact ownsRow_base (ownsRow_setCell hbv4 _ _ (by simp [Value.ownBlock])) (by omega)
    · rw [← valsOf_vs0]
      refine ownsRow_base (ownsRow_setCell hx3 _ _ ?_) (by omega)
      intro h
      have := (hx3.lt _ h).1
      simp at this
      omega
    · exact ((hw1.trans (hE3.mono (by omega))).trans (hb3.mono (by omega))).setCell (by simp; omega) _
  clear hx3 hbv3 hbv4 hcE3 hA3 hE3
  go_wp2
  go_ret2
  exact HF.out
end Go.Proofs.YtohjjgefklhmaabGreatDoor

namespace Go.Proofs.YtohjjgefklhmaabGreatDoor
open Go.ChangeShapes Go.WideShapes Go.ChangeAt Go.RowKit
set_option linter.unusedVariables false

/-- a delegation, an entry, as See tells them -/
structure DS where
  who : Int
  val : Int
  shares : Int
structure ES where
  who : Int
  val : Int
  made : Int
  amount : Int
def DS.cells (d : DS) : List Value := [.int .i64 d.who, .int .i64 d.val, .int .i64 d.shares]
def ES.cells (d : ES) : List Value := [.int .i64 d.who, .int .i64 d.val, .int .i64 d.made, .int .i64 d.amount]
def drow : List DS → List Value
  | [] => []
  | v :: l => v.cells ++ drow l
def erow : List ES → List Value
  | [] => []
  | v :: l => v.cells ++ erow l
/-- all that See tells -/
structure ViewS where
  height : Int
  bal : List Int
  fees : Int
  pool : Int
  bonded : Int
  loose : Int
  vals : List VS
  dels : List DS
  ents : List ES

/-- what See hands out -/
def SeePost (w w' : World) (e : Ending) (S : ViewS) : Prop :=
  ∃ bv vv dv ev, e = .returned (.agg #[.int .i64 S.height, bv, .int .i64 S.fees, .int .i64 S.pool, .int .i64 S.bonded, .int .i64 S.loose, vv, dv, ev]) ∧
    w'.ownsRow w.heap.size 3 1 bv S.bal.length (ints S.bal) ∧ w'.ownsRow w.heap.size 76 8 vv S.vals.length (vrow S.vals) ∧
    w'.ownsRow w.heap.size 78 3 dv S.dels.length (drow S.dels) ∧ w'.ownsRow w.heap.size 80 4 ev S.ents.length (erow S.ents) ∧ Below w.heap.size w w'

end Go.Proofs.YtohjjgefklhmaabGreatDoor

namespace Go.Proofs.YtohjjgefklhmaabGreatDoor
open Go.ChangeShapes Go.WideShapes Go.ChangeAt Go.RowKit
set_option linter.unusedVariables false

/-- the ledger's delegations: with the value of their parts -/
def dprow : List DS → List Value → List Value
  | d :: l, p :: ps => d.cells ++ p :: dprow l ps
  | _, _ => []
def bondedN (l : List VS) : Int := l.foldl (fun n v => if v.inset = true then n + v.tokens else n) 0
def looseV (l : List VS) : Int := l.foldl (fun n v => if v.inset = true then n else n + v.tokens) 0
def sumE (l : List ES) : Int := l.foldl (fun n v => n + v.amount) 0
theorem foldl_snoc {α β : Type} (f : β → α → β) (a : β) (l : List α) (k : Nat) (h : k < l.length) : (l.take (k + 1)).foldl f a = f ((l.take k).foldl f a) l[k] := by
  rw [List.take_succ_eq_append_getElem h, List.foldl_append]; rfl
theorem bondedN_snoc (l : List VS) (k : Nat) (h : k < l.length) : bondedN (l.take (k + 1)) = if l[k].inset = true then bondedN (l.take k) + l[k].tokens else bondedN (l.take k) := by
  unfold bondedN; rw [foldl_snoc _ _ l k h]
theorem looseV_snoc (l : List VS) (k : Nat) (h : k < l.length) : looseV (l.take (k + 1)) = if l[k].inset = true then looseV (l.take k) else looseV (l.take k) + l[k].tokens := by
  unfold looseV; rw [foldl_snoc _ _ l k h]
theorem sumE_snoc (l : List ES) (k : Nat) (h : k < l.length) : sumE (l.take (k + 1)) = sumE (l.take k) + l[k].amount := by
  unfold sumE; rw [foldl_snoc _ _ l k h]
/-- bounds that keep sums small -/
def VB (l : List VS) : Prop := ∀ k (h : k < l.length), 0 ≤ l[k].tokens ∧ l[k].tokens ≤ 1000000
def EB (l : List ES) : Prop := ∀ k (h : k < l.length), 0 ≤ l[k].amount ∧ l[k].amount ≤ 1000000
theorem bondedN_bd {l : List VS} (h : VB l) (k : Nat) (hk : k ≤ l.length) : 0 ≤ bondedN (l.take k) ∧ bondedN (l.take k) ≤ 1000000 * k := by
  induction k with
  | zero => simp [bondedN]
  | succ k ih =>
    have h1 := ih (by omega)
    have h2 := h k (by omega)
    rw [bondedN_snoc l k (by omega)]
    split <;> omega
theorem looseV_bd {l : List VS} (h : VB l) (k : Nat) (hk : k ≤ l.length) : 0 ≤ looseV (l.take k) ∧ looseV (l.take k) ≤ 1000000 * k := by
  induction k with
  | zero => simp [looseV]
  | succ k ih =>
    have h1 := ih (by omega)
    have h2 := h k (by omega)
    rw [looseV_snoc l k (by omega)]
    split <;> omega
theorem sumE_bd {l : List ES} (h : EB l) (k : Nat) (hk : k ≤ l.length) : 0 ≤ sumE (l.take k) ∧ sumE (l.take k) ≤ 1000000 * k := by
  induction k with
  | zero => simp [sumE]
  | succ k ih =>
    have h1 := ih (by omega)
    have h2 := h k (by omega)
    rw [sumE_snoc l k (by omega)]
    omega
theorem erow_length (l : List ES) : (erow l).length = l.length * 4 := by
  induction l with
  | nil => rfl
  | cons v l ih => simp [erow, ih, ES.cells]; omega
theorem erow_at (l : List ES) (k : Nat) (h : k < l.length) (i : Nat) (hi : i < 4) : (erow l)[k * 4 + i]? = l[k].cells[i]? := by
  induction l generalizing k with
  | nil => simp at h
  | cons v l ih =>
    cases k with
    | zero => simp [erow, List.getElem?_append_left (show i < v.cells.length by simpa [ES.cells] using hi)]
    | succ k =>
      rw [erow, List.getElem?_append_right (by simp [ES.cells]; omega)]
      have e : (k + 1) * 4 + i - v.cells.length = k * 4 + i := by simp [ES.cells]; omega
      rw [e, ih k (by simpa using h)]
      simp
theorem drow_length (l : List DS) : (drow l).length = l.length * 3 := by
  induction l with
  | nil => rfl
  | cons v l ih => simp [drow, ih, DS.cells]; omega
theorem drow_at (l : List DS) (k : Nat) (h : k < l.length) (i : Nat) (hi : i < 3) : (drow l)[k * 3 + i]? = l[k].cells[i]? := by
  induction l generalizing k with
  | nil => simp at h
  | cons v l ih =>
    cases k with
    | zero => simp [drow, List.getElem?_append_left (show i < v.cells.length by simpa [DS.cells] using hi)]
    | succ k =>
      rw [drow, List.getElem?_append_right (by simp [DS.cells]; omega)]
      have e : (k + 1) * 3 + i - v.cells.length = k * 3 + i := by simp [DS.cells]; omega
      rw [e, ih k (by simpa using h)]
      simp
/-- reading a slice: its cells -/
theorem Rd.get {w : World} {a : Option Addr} {n cap sz : Nat} {L : List Value} (h : Rd w (.slice a n cap) n sz L) (h0 : 0 < n) : ∃ g, a = some ⟨g, 0, none⟩ ∧ ∀ (j : Nat) u, L[j]? = some u → w.cell? ⟨g, j, none⟩ = some u := by
  obtain ⟨_, a', c', he, hx⟩ := h
  simp only [Value.slice.injEq, true_and] at he
  obtain ⟨rfl, rfl⟩ := he
  exact hx h0
theorem Rd.form {w : World} {v : Value} {n sz : Nat} {L : List Value} (h : Rd w v n sz L) : ∃ a cap, v = .slice a n cap := by
  obtain ⟨_, a', c', he, hx⟩ := h
  exact ⟨a', c', he⟩

end Go.Proofs.YtohjjgefklhmaabGreatDoor
