import Derived.Test.YtenjjneobkodbaaGreatStep2
namespace Go.Proofs.YtenjjneobkodbaaGreat
open Go.ChangeShapes Go.WideShapes Go.ChangeAt Go.RowKit
set_option linter.unusedVariables false

theorem SE.fr {base : Nat} {w0 w : World} {gw n : Nat} (h : SE base w0 w gw n) : Below base w0 w := by
  obtain ⟨x, es, lab, h1, _⟩ := h
  exact h1.fr

set_option maxHeartbeats 4000000 in
set_option maxRecDepth 100000 in
theorem upTo_any : UpToSaid [7, 8, 9, 10, 11, 22] := by
  intro w lv lo hown hlen hall
  obtain ⟨la, lc, rfl⟩ := ownsRow_slice hown
  have HALL : Hid (AllOk [7, 8, 9, 10, 11, 22] lo) := hall
  clear hall
  have HS0 : Hid (SE w.heap.size w (w.alloc (.cells #[.slice none 0 0, .slice none 0 0, .slice none 0 0, .slice none 0 0, .slice none 0 0] 33)) w.heap.size (2 * 0)) := by
    refine ⟨RowV.nil, [], fun _ => (0, 0), ⟨.slice none 0 0, .slice none 0 0, .slice none 0 0, .slice none 0 0, [], [], [], [], Nat.le_refl _, Nat.le_refl _, Nat.le_refl _, Nat.le_refl _, fun k h => by simp at h, ?_⟩, rfl, rfl, Nat.le_refl _, fun _ _ => rfl, fun i h => by simp at h⟩
    exact ⟨(Below.refl _ _).alloc (Nat.le_refl _) _, Nat.le_refl _, Has.newA w _ _, Df.nil _, Df.nil _, Df.nil _, World.ownsRow_nil _ _ _ _, World.ownsRow_nil _ _ _ _, World.ownsRow_nil _ _ _ _, World.ownsRow_nil _ _ _ _, World.ownsRow_nil _ _ _ _, fun g ob h => absurd rfl h.1⟩
  have HC : Hid (0 < lo.length → ∃ g, la = some ⟨g, 0, none⟩ ∧ ∃ L, Has w g 27 L ∧ ∀ j, j < lo.length * 7 → L[j]? = (oprow lo)[j]?) := by
    intro h0
    rcases hown.2 with ⟨_, h1⟩ | ⟨g, cap, cur, h1, h2, h3, h4, h5, h6, h7⟩
    · omega
    · simp only [Value.slice.injEq, true_and] at h1
      refine ⟨g, h1.1, cur.toList, by unfold Has; rw [Array.toArray_toList]; exact h3, fun j hj => ?_⟩
      rw [← h7, List.getElem?_take, if_pos hj]
  clear hown
  go_enter Tryz.func10, Tryz.ntmps10
  go_wp2
  go_loopw [4] (fun i wr => ∃ k : Nat, k ≤ lo.length ∧ i = .int .i64 k ∧ SE w.heap.size w wr w.heap.size (2 * k)) (fun i _ => lo.length - (intOf i).toNat)
  case atStart => exact ⟨0, Nat.zero_le _, rfl, HS0.out⟩
  case round =>
    clear HS0
    obtain ⟨k, hk, rfl, hS⟩ := hrel
    by_cases hlt : k < lo.length
    · obtain ⟨g, rfl, L, hL, hLc⟩ := HC.out (by omega)
      have hL2 := hL.below hS.fr hL.lt
      have z : ∀ i, i < 7 → wr.cell? ⟨g, k * 7 + i, none⟩ = lo[k].cells[i]? := fun i hi => by rw [hL2.cell, hLc _ (by omega), oprow_at lo k hlt i hi]
      have z0 := z 0 (by omega)
      have z1 := z 1 (by omega)
      have z2 := z 2 (by omega)
      have z3 := z 3 (by omega)
      have z4 := z 4 (by omega)
      have z5 := z 5 (by omega)
      have z6 := z 6 (by omega)
      have hal := HALL.out k hlt
      generalize lo[k] = o at *
      simp only [OpD.cells, List.getElem?_cons_succ, List.getElem?_cons_zero, Nat.add_zero] at z0 z1 z2 z3 z4 z5 z6
      have HO : Hid (Allow [7, 8, 9, 10, 11, 22] o.kind ∧ o.ok ∧ o.s.size ≤ 16384) := hal
      have HS : Hid (SE w.heap.size w wr w.heap.size (2 * k)) := hS
      clear z hL2 hLc hL hal hS
      go_wp2_with fail
      refine (step_any w.heap.size w w.heap.size (2 * k) o _ HS.out (by omega) HO.out.2.1 HO.out.2.2 (by
        rcases HO.out.1 with h | h
        · exact .inl h
        · simp at h; omega)).mono ?_
      rintro e w2 ⟨rfl, hS2⟩
      have HS2 : Hid (SE w.heap.size w w2 w.heap.size (2 * (k + 1))) := hS2
      clear hS2 HS HO z0 z1 z2 z3 z4 z5 z6
      go_wp2
      refine And.intro ?_ ?_
      · first | exact ⟨k + 1, by omega, by go_num, HS2.out⟩ | ((repeat apply Exists.intro); exact ⟨⟨k + 1, by omega, by go_num, HS2.out⟩, rfl⟩)
      · simp [intOf]; omega
    · have HF : Hid (Below w.heap.size w wr) := hS.fr
      clear hS
      go_wp2
      go_ret
      exact ⟨rfl, HF.out⟩

theorem upTo_fewer {ks ks' : List Int} (h : UpToSaid ks) (hs : ∀ k, k ∈ ks' → k ∈ ks) : UpToSaid ks' := fun w lv lo h1 h2 h3 => h w lv lo h1 h2 (fun k hk => ⟨(h3 k hk).1.imp_right (hs _), (h3 k hk).2⟩)
end Go.Proofs.YtenjjneobkodbaaGreat
