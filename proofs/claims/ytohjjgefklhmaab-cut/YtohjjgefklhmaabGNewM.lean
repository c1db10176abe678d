import Derived.Test.YtohjjgefklhmaabGFineM
namespace Go.Proofs.Ytohjjgefklhmaab
open Go.ChangeShapes Go.WideShapes Go.ChangeAt Go.RowKit
set_option linter.unusedVariables false

/-- a new engine -/
def xN (bs os rs : List Int) (top mature fee : Int) : EC := { top := top, mature := mature, fee := fee, height := 0, fees := 0, pool := 0, bal := bs, tab := List.replicate 65 0, vals := vs0 os rs, ents := [] }
theorem sumL_sumI (l : List Int) : sumL l = sumI l := by
  have key : ∀ (l : List Int) (a : Int), l.foldl (· + ·) a = a + sumI l := by
    intro l
    induction l with
    | nil => intro a; simp [sumI]
    | cons b l ih => intro a; simp only [List.foldl_cons, ih, sumI]; omega
  unfold sumL; rw [key]; omega
theorem vs0_at (os rs : List Int) (j : Nat) (h : rs.length = os.length) (hj : j < os.length) : (vs0 os rs).getD j v0 = ⟨os.getD j 0, rs.getD j 0, 0, 0, 0, 0, false, false⟩ := by
  simp [vs0, List.getD, hj, h]
theorem vs0_sum (os rs : List Int) (f : VS → Int) (hf : ∀ o r, f ⟨o, r, 0, 0, 0, 0, false, false⟩ = 0) : sumV f (vs0 os rs) = 0 := by
  unfold sumV vs0
  induction os generalizing rs with
  | nil => simp [sumI]
  | cons o os ih =>
    cases rs with
    | nil => simp [sumI]
    | cons r rs => simp only [List.zipWith_cons_cons, List.map_cons, sumI, hf, ih rs]; rfl
theorem rep_getD (n i : Nat) : (List.replicate n (0 : Int)).getD i 0 = 0 := by
  simp only [List.getD, List.getElem?_replicate]
  split <;> rfl
theorem xN_fine {bs os rs : List Int} {top mature fee : Int} (h : GoodGen bs os rs top mature fee) : Fine (xN bs os rs top mature fee) ∧ (xN bs os rs top mature fee).tot = sumI bs ∧ (xN bs os rs top mature fee).vals.length = os.length := by
  obtain ⟨⟨g1, g2, g3, g4⟩, ⟨g5, g6, g7, g8, g9⟩, ⟨g10, g11, g12, g13, g14, g15⟩⟩ := h
  have hl : (vs0 os rs).length = os.length := vs0_length os rs g7
  have ht : (xN bs os rs top mature fee).tot = sumI bs := by
    show sumI bs + 0 + 0 + sumV (·.tokens) (vs0 os rs) + sumV (·.outs) (vs0 os rs) + sumI (List.map (·.amount) ([] : List ES)) = sumI bs
    rw [vs0_sum _ _ _ (fun _ _ => rfl), vs0_sum _ _ _ (fun _ _ => rfl)]
    simp [sumI]
  have hsh : ∀ k j, (xN bs os rs top mature fee).sh k j = 0 := fun k j => rep_getD 65 _
  have hpr : ∀ j, (xN bs os rs top mature fee).per j = 0 := fun j => rep_getD 65 _
  have hup : ∀ k j, (xN bs os rs top mature fee).upto k j = 0 := fun k j => rep_getD 65 _
  have hv : ∀ j, j < os.length → (xN bs os rs top mature fee).val j = ⟨os.getD j 0, rs.getD j 0, 0, 0, 0, 0, false, false⟩ := fun j hj => vs0_at os rs j g7 hj
  refine ⟨⟨g2, by show (vs0 os rs).length ≤ 5; omega, by simp [xN], g14, g15, g10, g11, g12, g13, Int.le_refl _, by show (0 : Int) ≤ 1000; omega, Int.le_refl _, by show (0 : Int) ≤ 1001; omega, fun k hk => ?_, Int.le_refl _, Int.le_refl _, fun j hj => ?_, fun e he => by simp [xN] at he, by rw [ht, ← sumL_sumI]; exact g4, fun k j _ _ => by rw [hsh]; exact Int.le_refl _, fun j hj => ?_, fun j _ => by rw [hpr]; exact ⟨Int.le_refl _, by show (0 : Int) ≤ 0 * _; simp⟩, fun k j _ _ => by rw [hup, hpr]; exact ⟨by decide, Int.le_refl _⟩, fun j hj => ?_⟩, ht, hl⟩
  · have hk' : k < bs.length := hk
    have := g3 k bs[k] hk' (List.getElem?_eq_getElem hk')
    have e : (xN bs os rs top mature fee).balAt k = bs[k] := by simp [xN, EC.balAt, hk']
    rw [e]; exact this.1
  · have hj' : j < os.length := by rw [← hl]; exact hj
    rw [hv j hj']
    have hr : j < rs.length := by omega
    have h9 := g9 j rs[j] hr (List.getElem?_eq_getElem hr)
    have e : rs.getD j 0 = rs[j] := by simp [hr]
    rw [e]
    exact ⟨Int.le_refl _, Int.le_refl _, by show (0 : Int) ≤ 1000000; decide, h9.1, h9.2, Int.le_refl _, Int.le_refl _, fun h => by simp at h, fun _ => rfl, fun _ => rfl⟩
  · have hj' : j < os.length := by rw [← hl]; exact hj
    rw [hv j hj']
    simp only [hsh]
    rfl
  · have hj' : j < os.length := by rw [← hl]; exact hj
    rw [hv j hj']
    simp only [hsh, Int.zero_mul]
    show (0 : Int) + 0 + 0 + 0 + 0 + 0 ≤ _
    decide
theorem begun_pe {w w' : World} {e : Ending} {bs os rs : List Int} {top mature fee : Int} (h : Begun w w' e bs os rs top mature fee) (hg : GoodGen bs os rs top mature fee) : ∃ g bv vv, e = .returned (.tuple #[.pointer (some ⟨g, 0, none⟩), .int .i64 0]) ∧ PE (fun k => w.heap.size ≤ k) w w' g (xN bs os rs top mature fee) bv vv (.slice none 0 0) := by
  obtain ⟨g, bv, vv, rfl, hge, hL, hb, hv, hb4⟩ := h
  have hl : (vs0 os rs).length = os.length := vs0_length os rs hg.2.1.2.2.1
  refine ⟨g, bv, vv, rfl, ⟨Kp.of_below hb4 _, fun k hk => hk, hge, hL, by simp [xN], ownsRow_base hb (Nat.zero_le _), ?_, World.ownsRow_nil _ _ _ _, fun k hk => (hb.lt k hk).1, fun k hk => (hv.lt k hk).1, fun k hk => by simp [Value.ownBlock] at hk⟩⟩
  show w'.ownsRow 0 31 8 vv (vs0 os rs).length (vrow (vs0 os rs))
  rw [hl]; exact ownsRow_base hv (Nat.zero_le _)

end Go.Proofs.Ytohjjgefklhmaab
