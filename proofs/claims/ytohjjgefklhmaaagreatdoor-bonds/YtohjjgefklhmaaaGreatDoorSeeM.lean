import Derived.Test.YtohjjgefklhmaaaGreatDoorBeginM
namespace Go.Proofs.YtohjjgefklhmaaaGreatDoor
open Go.ChangeShapes Go.WideShapes Go.ChangeAt Go.RowKit
set_option linter.unusedVariables false

/-- a delegation, an entry, as See tells them -/
structure DS where
  who : Int
  val : Int
  shares : Int
structure ES where
  who : Int
  val : Int
  made : Int
  amount : Int
def DS.cells (d : DS) : List Value := [.int .i64 d.who, .int .i64 d.val, .int .i64 d.shares]
def ES.cells (d : ES) : List Value := [.int .i64 d.who, .int .i64 d.val, .int .i64 d.made, .int .i64 d.amount]
def drow : List DS → List Value
  | [] => []
  | v :: l => v.cells ++ drow l
def erow : List ES → List Value
  | [] => []
  | v :: l => v.cells ++ erow l
/-- all that See tells -/
structure ViewS where
  height : Int
  bal : List Int
  fees : Int
  pool : Int
  bonded : Int
  loose : Int
  vals : List VS
  dels : List DS
  ents : List ES

/-- what See hands out -/
def SeePost (w w' : World) (e : Ending) (S : ViewS) : Prop :=
  ∃ bv vv dv ev, e = .returned (.agg #[.int .i64 S.height, bv, .int .i64 S.fees, .int .i64 S.pool, .int .i64 S.bonded, .int .i64 S.loose, vv, dv, ev]) ∧
    w'.ownsRow w.heap.size 3 1 bv S.bal.length (ints S.bal) ∧ w'.ownsRow w.heap.size 122 8 vv S.vals.length (vrow S.vals) ∧
    w'.ownsRow w.heap.size 130 3 dv S.dels.length (drow S.dels) ∧ w'.ownsRow w.heap.size 125 4 ev S.ents.length (erow S.ents) ∧ Below w.heap.size w w'

end Go.Proofs.YtohjjgefklhmaaaGreatDoor

namespace Go.Proofs.YtohjjgefklhmaaaGreatDoor
open Go.ChangeShapes Go.WideShapes Go.ChangeAt Go.RowKit
set_option linter.unusedVariables false

/-- the ledger's delegations: with the value of their parts -/
def dprow : List DS → List Value → List Value
  | d :: l, p :: ps => d.cells ++ p :: dprow l ps
  | _, _ => []
/-- the ledger can be read -/
def LedRd (w : World) (g : Nat) (S : ViewS) : Prop :=
  ∃ top mature fee bv vv dv ev ps, Has w g 81 [top, mature, fee, .int .i64 S.height, bv, .int .i64 S.fees, .int .i64 S.pool, vv, dv, ev] ∧
    Rd w bv S.bal.length 1 (ints S.bal) ∧ Rd w vv S.vals.length 8 (vrow S.vals) ∧ Rd w dv S.dels.length 4 (dprow S.dels ps) ∧ Rd w ev S.ents.length 4 (erow S.ents) ∧
    ∀ (k : Nat) p, (dprow S.dels ps)[k * 4 + 3]? = some p → ∃ a n c, p = .slice a n c

def bondedN (l : List VS) : Int := l.foldl (fun n v => if v.inset = true then n + v.tokens else n) 0
def looseV (l : List VS) : Int := l.foldl (fun n v => if v.inset = true then n else n + v.tokens) 0
def sumE (l : List ES) : Int := l.foldl (fun n v => n + v.amount) 0
theorem foldl_snoc {α β : Type} (f : β → α → β) (a : β) (l : List α) (k : Nat) (h : k < l.length) : (l.take (k + 1)).foldl f a = f ((l.take k).foldl f a) l[k] := by
  rw [List.take_succ_eq_append_getElem h, List.foldl_append]; rfl
theorem bondedN_snoc (l : List VS) (k : Nat) (h : k < l.length) : bondedN (l.take (k + 1)) = if l[k].inset = true then bondedN (l.take k) + l[k].tokens else bondedN (l.take k) := by
  unfold bondedN; rw [foldl_snoc _ _ l k h]
theorem looseV_snoc (l : List VS) (k : Nat) (h : k < l.length) : looseV (l.take (k + 1)) = if l[k].inset = true then looseV (l.take k) else looseV (l.take k) + l[k].tokens := by
  unfold looseV; rw [foldl_snoc _ _ l k h]
theorem sumE_snoc (l : List ES) (k : Nat) (h : k < l.length) : sumE (l.take (k + 1)) = sumE (l.take k) + l[k].amount := by
  unfold sumE; rw [foldl_snoc _ _ l k h]
/-- bounds that keep sums small -/
def VB (l : List VS) : Prop := ∀ k (h : k < l.length), 0 ≤ l[k].tokens ∧ l[k].tokens ≤ 1000000
def EB (l : List ES) : Prop := ∀ k (h : k < l.length), 0 ≤ l[k].amount ∧ l[k].amount ≤ 1000000
theorem bondedN_bd {l : List VS} (h : VB l) (k : Nat) (hk : k ≤ l.length) : 0 ≤ bondedN (l.take k) ∧ bondedN (l.take k) ≤ 1000000 * k := by
  induction k with
  | zero => simp [bondedN]
  | succ k ih =>
    have h1 := ih (by omega)
    have h2 := h k (by omega)
    rw [bondedN_snoc l k (by omega)]
    split <;> omega
theorem looseV_bd {l : List VS} (h : VB l) (k : Nat) (hk : k ≤ l.length) : 0 ≤ looseV (l.take k) ∧ looseV (l.take k) ≤ 1000000 * k := by
  induction k with
  | zero => simp [looseV]
  | succ k ih =>
    have h1 := ih (by omega)
    have h2 := h k (by omega)
    rw [looseV_snoc l k (by omega)]
    split <;> omega
theorem sumE_bd {l : List ES} (h : EB l) (k : Nat) (hk : k ≤ l.length) : 0 ≤ sumE (l.take k) ∧ sumE (l.take k) ≤ 1000000 * k := by
  induction k with
  | zero => simp [sumE]
  | succ k ih =>
    have h1 := ih (by omega)
    have h2 := h k (by omega)
    rw [sumE_snoc l k (by omega)]
    omega
theorem erow_length (l : List ES) : (erow l).length = l.length * 4 := by
  induction l with
  | nil => rfl
  | cons v l ih => simp [erow, ih, ES.cells]; omega
theorem erow_at (l : List ES) (k : Nat) (h : k < l.length) (i : Nat) (hi : i < 4) : (erow l)[k * 4 + i]? = l[k].cells[i]? := by
  induction l generalizing k with
  | nil => simp at h
  | cons v l ih =>
    cases k with
    | zero => simp [erow, List.getElem?_append_left (show i < v.cells.length by simpa [ES.cells] using hi)]
    | succ k =>
      rw [erow, List.getElem?_append_right (by simp [ES.cells]; omega)]
      have e : (k + 1) * 4 + i - v.cells.length = k * 4 + i := by simp [ES.cells]; omega
      rw [e, ih k (by simpa using h)]
      simp
theorem drow_length (l : List DS) : (drow l).length = l.length * 3 := by
  induction l with
  | nil => rfl
  | cons v l ih => simp [drow, ih, DS.cells]; omega
theorem drow_at (l : List DS) (k : Nat) (h : k < l.length) (i : Nat) (hi : i < 3) : (drow l)[k * 3 + i]? = l[k].cells[i]? := by
  induction l generalizing k with
  | nil => simp at h
  | cons v l ih =>
    cases k with
    | zero => simp [drow, List.getElem?_append_left (show i < v.cells.length by simpa [DS.cells] using hi)]
    | succ k =>
      rw [drow, List.getElem?_append_right (by simp [DS.cells]; omega)]
      have e : (k + 1) * 3 + i - v.cells.length = k * 3 + i := by simp [DS.cells]; omega
      rw [e, ih k (by simpa using h)]
      simp
/-- reading a slice: its cells -/
theorem Rd.get {w : World} {a : Option Addr} {n cap sz : Nat} {L : List Value} (h : Rd w (.slice a n cap) n sz L) (h0 : 0 < n) : ∃ g, a = some ⟨g, 0, none⟩ ∧ ∀ (j : Nat) u, L[j]? = some u → w.cell? ⟨g, j, none⟩ = some u := by
  obtain ⟨_, a', c', he, hx⟩ := h
  simp only [Value.slice.injEq, true_and] at he
  obtain ⟨rfl, rfl⟩ := he
  exact hx h0
theorem Rd.form {w : World} {v : Value} {n sz : Nat} {L : List Value} (h : Rd w v n sz L) : ∃ a cap, v = .slice a n cap := by
  obtain ⟨_, a', c', he, hx⟩ := h
  exact ⟨a', c', he⟩

set_option maxHeartbeats 2000000 in
set_option maxRecDepth 100000 in
theorem bonded_any (g : Nat) (S : ViewS) (w : World) (hR : LedRd w g S) (hB : VB S.vals) (l2 : S.vals.length ≤ 1048576) :
    Calls Tryz.prog 45 #[.pointer (some ⟨g, 0, none⟩)] w fun e w' => e = .returned (.int .i64 (bondedN S.vals)) ∧ w = w' := by
  obtain ⟨height, bal, fees, pool, bonded, loose, vals, dels, ents⟩ := S
  obtain ⟨top, mature, fee, bv, vv, dv, ev, ps, hH, hb, hv, hd, he, hp⟩ := hR
  simp only at hH hb hv hd he hB l2
  clear hp
  obtain ⟨va, vc, rfl⟩ := hv.form
  have c7 := hH.cell 7
  simp only [List.getElem?_cons_succ, List.getElem?_cons_zero] at c7
  clear hH hb hd he
  go_enter Tryz.func45, Tryz.ntmps45
  go_wp2
  go_loop [3, 4] (fun n i => ∃ k : Nat, k ≤ vals.length ∧ i = .int .i64 k ∧ n = .int .i64 (bondedN (vals.take k))) (fun _ i => vals.length - (intOf i).toNat)
  case atStart => exact ⟨0, Nat.zero_le _, rfl, rfl⟩
  case round =>
    obtain ⟨k, hk, rfl, rfl⟩ := hrel
    obtain ⟨q1, q2⟩ := bondedN_bd hB k hk
    by_cases hlt : k < vals.length
    · obtain ⟨gv, rfl, hc⟩ := hv.get (by omega)
      have hi := hc _ _ (vrow_at vals k hlt 7 (by omega))
      have ht := hc _ _ (vrow_at vals k hlt 2 (by omega))
      have hbd := hB k hlt
      have HS : Hid (bondedN (vals.take (k + 1)) = if vals[k].inset = true then bondedN (vals.take k) + vals[k].tokens else bondedN (vals.take k)) := bondedN_snoc vals k hlt
      generalize vals[k] = x at *
      clear hc hv hB
      go_wp2
      · exact ⟨⟨k + 1, by omega, by go_num, by rw [HS.out, if_pos (by assumption)]⟩, by simp [intOf]; omega⟩
      · exact ⟨⟨k + 1, by omega, by go_num, by rw [HS.out, if_neg (by simp_all)]⟩, by simp [intOf]; omega⟩
    · go_wp2
      go_ret
      refine ⟨ret_int ?_, rfl⟩
      rw [List.take_of_length_le (by omega)]

set_option maxHeartbeats 2000000 in
set_option maxRecDepth 100000 in
theorem loose_any (g : Nat) (S : ViewS) (w : World) (hR : LedRd w g S) (hB : VB S.vals) (hBe : EB S.ents) (l2 : S.vals.length ≤ 1048576) (l3 : S.ents.length ≤ 1048576) :
    Calls Tryz.prog 46 #[.pointer (some ⟨g, 0, none⟩)] w fun e w' => e = .returned (.int .i64 (looseV S.vals + sumE S.ents)) ∧ w = w' := by
  obtain ⟨height, bal, fees, pool, bonded, loose, vals, dels, ents⟩ := S
  obtain ⟨top, mature, fee, bv, vv, dv, ev, ps, hH, hb, hv, hd, he, hp⟩ := hR
  simp only at hH hb hv hd he hB hBe l2 l3
  clear hp
  obtain ⟨va, vc, rfl⟩ := hv.form
  obtain ⟨ea, ec, rfl⟩ := he.form
  have c7 := hH.cell 7
  have c9 := hH.cell 9
  simp only [List.getElem?_cons_succ, List.getElem?_cons_zero] at c7 c9
  clear hH hb hd
  go_enter Tryz.func46, Tryz.ntmps46
  go_wp2
  go_loop [3, 4] (fun n i => ∃ k : Nat, k ≤ vals.length ∧ i = .int .i64 k ∧ n = .int .i64 (looseV (vals.take k))) (fun _ i => vals.length - (intOf i).toNat)
  case atStart => exact ⟨0, Nat.zero_le _, rfl, rfl⟩
  case round =>
    obtain ⟨k, hk, rfl, rfl⟩ := hrel
    obtain ⟨q1, q2⟩ := looseV_bd hB k hk
    by_cases hlt : k < vals.length
    · obtain ⟨gv, rfl, hc⟩ := hv.get (by omega)
      have hi := hc _ _ (vrow_at vals k hlt 7 (by omega))
      have ht := hc _ _ (vrow_at vals k hlt 2 (by omega))
      have hbd := hB k hlt
      have HS : Hid (looseV (vals.take (k + 1)) = if vals[k].inset = true then looseV (vals.take k) else looseV (vals.take k) + vals[k].tokens) := looseV_snoc vals k hlt
      generalize vals[k] = x at *
      clear hc hv hB he
      go_wp2
      · exact ⟨⟨k + 1, by omega, by go_num, by rw [HS.out, if_neg (by simp_all)]⟩, by simp [intOf]; omega⟩
      · exact ⟨⟨k + 1, by omega, by go_num, by rw [HS.out, if_pos (by simp_all)]⟩, by simp [intOf]; omega⟩
    · have HV : Hid (looseV (vals.take k) = looseV vals) := by rw [List.take_of_length_le (by omega)]; exact rfl
      generalize looseV (vals.take k) = sv at *
      clear hv hB
      go_wp2
      go_loop [3, 5] (fun n i => ∃ k2 : Nat, k2 ≤ ents.length ∧ i = .int .i64 k2 ∧ n = .int .i64 (sv + sumE (ents.take k2))) (fun _ i => ents.length - (intOf i).toNat)
      case atStart => exact ⟨0, Nat.zero_le _, rfl, by simp [sumE]⟩
      case round =>
        obtain ⟨k2, hk2, rfl, rfl⟩ := hrel
        obtain ⟨r1, r2⟩ := sumE_bd hBe k2 hk2
        by_cases hlt2 : k2 < ents.length
        · obtain ⟨gv, rfl, hc⟩ := he.get (by omega)
          have ht := hc _ _ (erow_at ents k2 hlt2 3 (by omega))
          have hbd := hBe k2 hlt2
          have HS : Hid (sumE (ents.take (k2 + 1)) = sumE (ents.take k2) + ents[k2].amount) := sumE_snoc ents k2 hlt2
          generalize ents[k2] = x at *
          clear hc he hBe
          go_wp2
          exact ⟨⟨k2 + 1, by omega, by go_num, by rw [HS.out]; go_num⟩, by simp [intOf]; omega⟩
        · have HE : Hid (sumE (ents.take k2) = sumE ents) := by rw [List.take_of_length_le (by omega)]; exact rfl
          go_wp2
          go_ret
          refine ⟨ret_int ?_, rfl⟩
          rw [HE.out, HV.out]
end Go.Proofs.YtohjjgefklhmaaaGreatDoor
