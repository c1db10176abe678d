import Derived.Test.YtohjjgefklhmaabGreatDoorGAllM
import Derived.ChangeOld
import Derived.Below
import Derived.Deep.Slices
namespace Go.Proofs.YtohjjgefklhmaabGreatDoor
open Go.ChangeShapes Go.WideShapes Go.ChangeAt Go.RowKit
set_option linter.unusedVariables false

/-- a step, as it is read -/
structure StepD where
  k : Int
  a : Int
  b : Int
  c : Int
  d : Int
def StepD.cells (s : StepD) : List Value := [.int .i64 s.k, .int .i64 s.a, .int .i64 s.b, .int .i64 s.c, .int .i64 s.d]
def StepSl (w : World) (v : Value) (ops : List StepD) : Prop :=
  ∃ a cap, v = .slice a ops.length cap ∧ (0 < ops.length → ∃ g off, a = some ⟨g, off, none⟩ ∧ ∀ k (h : k < ops.length), ∀ i, i < 5 → w.cell? ⟨g, off + k * 5 + i, none⟩ = ops[k].cells[i]?)
theorem StepSl.get {w : World} {a : Option Addr} {cap : Nat} {ops : List StepD} (h : StepSl w (.slice a ops.length cap) ops) (h0 : 0 < ops.length) : ∃ g off, a = some ⟨g, off, none⟩ ∧ ∀ k (h : k < ops.length), ∀ i, i < 5 → w.cell? ⟨g, off + k * 5 + i, none⟩ = ops[k].cells[i]? := by
  obtain ⟨a', c', he, hx⟩ := h
  simp only [Value.slice.injEq, true_and] at he
  obtain ⟨rfl, rfl⟩ := he
  exact hx h0
theorem StepSl.below {w w' : World} {B : Nat} {v : Value} {ops : List StepD} (h : StepSl w v ops) (hb : Below B w w') (hB : w.heap.size ≤ B) : StepSl w' v ops := by
  obtain ⟨a, cap, rfl, hx⟩ := h
  refine ⟨a, cap, rfl, fun h0 => ?_⟩
  obtain ⟨g, off, rfl, hc⟩ := hx h0
  refine ⟨g, off, rfl, fun k hk i hi => ?_⟩
  have h1 := hc k hk i hi
  have h2 : ∃ u, ops[k].cells[i]? = some u := ⟨_, List.getElem?_eq_getElem (show i < ops[k].cells.length from hi)⟩
  obtain ⟨u, hu⟩ := h2
  rw [hb.cell (p := ⟨g, off + k * 5 + i, none⟩) (Nat.lt_of_lt_of_le (World.block_lt_of_cell? w _ (h1.trans hu)) hB)]
  exact h1

theorem own0 : ownKnob Tryz.prog.godebug = none := by kernel_rfl
theorem laidOut0 : laidOutB Tryz.prog = true := by kernel_rfl
theorem cells_step : Tryz.prog.cellsOf 34 = 5 := by kernel_rfl
theorem cells_int : Tryz.prog.cellsOf 3 = 1 := by kernel_rfl
theorem wf_i64 {a : Int} (h : (Lit.int .i64 a).wf = true) : -9223372036854775808 ≤ a ∧ a ≤ 9223372036854775807 := by
  simpa [Lit.wf, IntKind.min, IntKind.max, IntKind.signed, IntKind.bits] using h
theorem len5 {α : Type} (l : List α) (h : l.length = 5) : ∃ a b c d e, l = [a, b, c, d, e] := by
  match l, h with
  | [a, b, c, d, e], _ => exact ⟨a, b, c, d, e, rfl⟩
theorem int_read {H : Type} {enc : TypeId × Value → H} {W : World} {base : Nat} {spare : Nat → Bool} {held : Bool} {n : Nat} {c : Value} {x : DataW H × List MemPlace} (h : DataW.trod enc Tryz.prog W base spare held n 3 [c] = some x) : ∃ k, c = .int .i64 k := by
  obtain ⟨k, hc, _, hw⟩ := DataW.trod_int Tryz.underlying3 h
  exact ⟨k, by simpa using hc⟩
theorem step_read {H : Type} {enc : TypeId × Value → H} {W : World} {base : Nat} {spare : Nat → Bool} {held : Bool} {n : Nat} {cs : List Value} {x : DataW H × List MemPlace} (h : DataW.trod enc Tryz.prog W base spare held n 34 cs = some x) :
    ∃ o : StepD, cs = o.cells := by
  obtain ⟨xs, m, rfl, rfl, hl, hlen, hf⟩ := DataW.trod_struct Tryz.underlying34 h
  rw [cells_step] at hl
  obtain ⟨c0, c1, c2, c3, c4, rfl⟩ := len5 cs hl
  obtain ⟨x0, x1, x2, x3, x4, rfl⟩ := len5 xs hlen
  have f0 := hf 0 _ rfl
  have f1 := hf 1 _ rfl
  have f2 := hf 2 _ rfl
  have f3 := hf 3 _ rfl
  have f4 := hf 4 _ rfl
  simp [cells_int] at f0 f1 f2 f3 f4
  obtain ⟨k0, rfl⟩ := int_read f0
  obtain ⟨k1, rfl⟩ := int_read f1
  obtain ⟨k2, rfl⟩ := int_read f2
  obtain ⟨k3, rfl⟩ := int_read f3
  obtain ⟨k4, rfl⟩ := int_read f4
  exact ⟨⟨k0, k1, k2, k3, k4⟩, rfl⟩
theorem steps_read {H : Type} {enc : TypeId × Value → H} {W : World} {v : Value} {d : DataW H} {ps : List MemPlace} (h : DataW.Trod enc Tryz.prog W 0 (fun _ => true) true 22 v d ps) (hsl : ∃ a n c, v = .slice a n c) :
    ∃ ops, StepSl W v ops := by
  obtain ⟨a0, n0, c0, rfl⟩ := hsl
  obtain ⟨fuel, hf⟩ := h
  rcases Deep.open_slice Tryz.underlying22 hf with ⟨hcs, _⟩ | ⟨a, len, cap, m, n, D, Pl, hcs, _, hl, hm, hmm, hx, hel⟩
  · simp [Value.cells] at hcs
    obtain ⟨rfl, rfl, rfl⟩ := hcs
    exact ⟨[], ⟨none, 0, rfl, fun h => by simp at h⟩⟩
  · simp [Value.cells] at hcs
    obtain ⟨rfl, rfl, rfl⟩ := hcs
    simp only [if_true] at hmm
    subst hmm
    have hel2 : ∀ i, i < n0 → ∃ o : StepD, (∀ j, j < 5 → W.cell? (a.add (i * 5 + j)) = o.cells[j]?) := by
      intro i hi
      obtain ⟨cs', hc1, hc2⟩ := hel i (by omega)
      rw [cells_step] at hc1
      obtain ⟨_, _, hcell⟩ := World.cells?_some hc1
      obtain ⟨o, rfl⟩ := step_read hc2
      refine ⟨o, fun j hj => ?_⟩
      rw [← hcell j hj, Deep.add_add]
    obtain ⟨f, hfo⟩ := @Deep.choose_lt StepD ⟨⟨0, 0, 0, 0, 0⟩⟩ n0 _ hel2
    refine ⟨(List.range n0).map f, ⟨some a, m, by simp, fun h0 => ?_⟩⟩
    have h00 : 0 < n0 := by simpa using h0
    obtain ⟨b, off, spot⟩ := a
    have hsp : spot = none := by
      have h1 := (hfo 0 h00) 0 (by omega)
      have h2 : W.cell? ((⟨b, off, spot⟩ : Addr).add (0 * 5 + 0)) = some (.int .i64 (f 0).k) := h1
      simpa [Addr.add] using World.cell?_spot h2
    subst hsp
    refine ⟨b, off, rfl, fun k hk i hi => ?_⟩
    have hk' : k < n0 := by simpa using hk
    have h1 := (hfo k hk') i hi
    rw [Addr.add_lit] at h1
    rw [Nat.add_assoc, h1]
    simp
end Go.Proofs.YtohjjgefklhmaabGreatDoor

namespace Go.Proofs.YtohjjgefklhmaabGreatDoor
open Go.ChangeShapes Go.WideShapes Go.ChangeAt Go.RowKit
set_option linter.unusedVariables false

def inI (v : VS) : Int := if v.inset = true then 1 else 0
def mayI (v : VS) : Int := if v.jailed = false ∧ 0 < v.tokens then 1 else 0
theorem bestL_max (l : List VS) (n : Nat) : ∀ k, k < n → (l.getD k v0).inset = false → (l.getD k v0).jailed = false → (l.getD k v0).tokens ≤ (bestL l n).2 := by
  induction n with
  | zero => intro k hk; omega
  | succ n ih =>
    intro k hk h1 h2
    unfold bestL
    by_cases e : k = n
    · subst e
      split
      · exact Int.le_refl _
      · rename_i h
        have : ¬ (bestL l k).2 < (l.getD k v0).tokens := fun h3 => h ⟨h1, h2, h3⟩
        omega
    · have h3 := ih k (by omega) h1 h2
      split
      · rename_i h; simp only; omega
      · exact h3
theorem bestL_none (l : List VS) (n : Nat) (h : (bestL l n).1 < 0) : (bestL l n).2 = 0 := by
  induction n with
  | zero => rfl
  | succ n ih =>
    unfold bestL at h ⊢
    split at h
    · simp only at h; omega
    · rename_i h2
      rw [if_neg h2]; exact ih h
/-- nobody outside has more than one inside -/
structure Best (m : List VS) : Prop where
  le : ∀ i k, i < m.length → k < m.length → (m.getD i v0).inset = true → (m.getD k v0).inset = false → (m.getD k v0).jailed = false → (m.getD k v0).tokens ≤ (m.getD i v0).tokens
  ok : ∀ i, i < m.length → (m.getD i v0).inset = true → (m.getD i v0).jailed = false ∧ 0 < (m.getD i v0).tokens
theorem sumV_congr {f : VS → Int} {l l' : List VS} (hl : l'.length = l.length) (h : ∀ j, j < l.length → f (l'.getD j v0) = f (l.getD j v0)) : sumV f l' = sumV f l := by
  unfold sumV
  congr 1
  apply List.ext_getElem?
  intro i
  simp only [List.getElem?_map]
  by_cases hi : i < l.length
  · have hi' : i < l'.length := by omega
    have := h i hi
    have e1 : l'[i] = l'.getD i v0 := by simp [hi']
    have e2 : l[i] = l.getD i v0 := by simp [hi]
    rw [List.getElem?_eq_getElem hi, List.getElem?_eq_getElem hi', Option.map_some, Option.map_some, e1, e2, this]
  · rw [List.getElem?_eq_none (by omega), List.getElem?_eq_none (by omega)]
theorem sumV_congr2 {f f' : VS → Int} {l : List VS} (h : ∀ j, j < l.length → f (l.getD j v0) = f' (l.getD j v0)) : sumV f l = sumV f' l := by
  unfold sumV
  congr 1
  apply List.ext_getElem?
  intro i
  simp only [List.getElem?_map]
  by_cases hi : i < l.length
  · have := h i hi
    have e2 : l[i] = l.getD i v0 := by simp [hi]
    rw [List.getElem?_eq_getElem hi, Option.map_some, Option.map_some, e2, this]
  · rw [List.getElem?_eq_none (by omega)]; rfl
theorem chooseL_best (n : Nat) (m : List VS) (h : Best m) : Best (chooseL n m) ∧ (chooseL n m).length = m.length ∧ sumV mayI (chooseL n m) = sumV mayI m ∧ sumV inI (chooseL n m) ≤ sumV inI m + n ∧ (sumV inI (chooseL n m) = sumV inI m + n ∨ sumV inI (chooseL n m) = sumV mayI m) := by
  induction n generalizing m with
  | zero => exact ⟨h, rfl, rfl, by show sumV inI m ≤ _; omega, .inl (by show sumV inI m = _; omega)⟩
  | succ n ih =>
    unfold chooseL
    by_cases hb : (bestL m m.length).1 < 0
    · rw [if_pos hb]
      refine ⟨h, rfl, rfl, by omega, .inr ?_⟩
      refine sumV_congr2 (fun j hj => ?_)
      unfold inI mayI
      have hz := bestL_none m m.length hb
      have hmax := bestL_max m m.length j hj
      by_cases hi : (m.getD j v0).inset = true
      · rw [if_pos hi, if_pos (h.ok j hj hi)]
      · rw [if_neg hi]
        have hi' : (m.getD j v0).inset = false := by simpa using hi
        rw [if_neg]
        rintro ⟨h1, h2⟩
        have := hmax hi' h1
        omega
    · rw [if_neg hb]
      rcases bestL_at m m.length with hm | ⟨i, h1, h2, h3, h4, h5, h6⟩
      · rw [hm] at hb; omega
      · rw [h1, Int.toNat_natCast]
        have hmax := bestL_max m m.length
        have hat : ∀ j, (m.modify i (fun v => { v with inset := true })).getD j v0 = if j = i then { m.getD i v0 with inset := true } else m.getD j v0 := fun j => val_mod m i j _ h2
        have hlen : (m.modify i (fun v => { v with inset := true })).length = m.length := by simp
        have hB : Best (m.modify i (fun v => { v with inset := true })) := by
          refine ⟨fun a k ha hk hin hout hj => ?_, fun a ha hin => ?_⟩
          · rw [hlen] at ha hk
            rw [hat k] at hout hj ⊢
            rw [hat a] at hin ⊢
            by_cases ek : k = i
            · rw [if_pos ek] at hout; simp at hout
            · rw [if_neg ek] at hout hj ⊢
              by_cases ea : a = i
              · rw [if_pos ea]
                have := hmax k hk hout hj
                simp only; omega
              · rw [if_neg ea] at hin ⊢
                exact h.le a k ha hk hin hout hj
          · rw [hlen] at ha
            rw [hat a] at hin ⊢
            by_cases ea : a = i
            · rw [if_pos ea]; exact ⟨h4, by simp only; omega⟩
            · rw [if_neg ea] at hin ⊢; exact h.ok a ha hin
        obtain ⟨g1, g2, g3, g4, g5⟩ := ih _ hB
        have s1 : sumV inI (m.modify i (fun v => { v with inset := true })) = sumV inI m + 1 := by
          rw [sumV_mod _ _ _ _ h2]
          have e1 : inI (m.getD i v0) = 0 := by unfold inI; rw [if_neg (by rw [h3]; decide)]
          have e2 : inI { m.getD i v0 with inset := true } = 1 := by unfold inI; rw [if_pos rfl]
          rw [e1, e2]; omega
        have s2 : sumV mayI (m.modify i (fun v => { v with inset := true })) = sumV mayI m := by
          rw [sumV_mod _ _ _ _ h2]
          have e2 : mayI { m.getD i v0 with inset := true } = mayI (m.getD i v0) := rfl
          rw [e2]; omega
        rw [s1] at g4 g5
        rw [s2] at g3 g5
        refine ⟨g1, g2.trans hlen, g3, by omega, ?_⟩
        rcases g5 with g5 | g5
        · left; omega
        · right; exact g5
theorem offL_best (l : List VS) : Best (offL l l.length) ∧ sumV inI (offL l l.length) = 0 := by
  have hat : ∀ j, j < l.length → (offL l l.length).getD j v0 = { l.getD j v0 with inset := false } := fun j hj => by rw [offL_at l _ j hj, if_pos hj]
  have hl := offL_len l l.length
  refine ⟨⟨fun i k hi hk hin => ?_, fun i hi hin => ?_⟩, ?_⟩
  · rw [hl] at hi; rw [hat i hi] at hin; simp at hin
  · rw [hl] at hi; rw [hat i hi] at hin; simp at hin
  · have : sumV inI (offL l l.length) = sumV (fun _ => 0) (offL l l.length) := sumV_congr2 (fun j hj => by
      rw [hl] at hj
      rw [hat j hj]; rfl)
    rw [this]
    unfold sumV
    generalize offL l l.length = m
    induction m with
    | nil => rfl
    | cons a m ih => simp only [List.map_cons, sumI, ih]; rfl
/-- the set that is chosen -/
theorem chooseF_best (l : List VS) (top : Int) (ht : 0 ≤ top) : Best (chooseF l top) ∧ (chooseF l top).length = l.length ∧ sumV inI (chooseF l top) ≤ top ∧ (sumV inI (chooseF l top) = top ∨ sumV inI (chooseF l top) = sumV mayI (chooseF l top)) := by
  obtain ⟨h1, h2⟩ := offL_best l
  obtain ⟨g1, g2, g3, g4, g5⟩ := chooseL_best top.toNat _ h1
  rw [h2] at g4 g5
  unfold chooseF
  refine ⟨g1, g2.trans (offL_len l _), by omega, ?_⟩
  rw [g3]
  rcases g5 with g5 | g5
  · left; omega
  · right; exact g5
theorem ind_bd (f : VS → Int) (hf : ∀ v, 0 ≤ f v ∧ f v ≤ 1) (l : List VS) (k : Nat) (hk : k ≤ l.length) : 0 ≤ sumV f (l.take k) ∧ sumV f (l.take k) ≤ k := by
  induction k with
  | zero => simp [sumV, sumI]
  | succ k ih =>
    have := ih (by omega)
    have h2 := hf l[k]
    rw [sumV_take f l k (by omega)]
    omega
theorem inI_bd (v : VS) : 0 ≤ inI v ∧ inI v ≤ 1 := by unfold inI; split <;> omega
theorem mayI_bd (v : VS) : 0 ≤ mayI v ∧ mayI v ≤ 1 := by unfold mayI; split <;> omega
end Go.Proofs.YtohjjgefklhmaabGreatDoor
