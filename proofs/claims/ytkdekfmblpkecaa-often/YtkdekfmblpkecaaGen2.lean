import Derived.Test.YtkdekfmblpkecaaGen
namespace Go.Proofs.Ytkdekfmblpkecaa
open Go.ChangeShapes Go.WideShapes Go.ChangeAt Go.RowKit
set_option linter.unusedVariables false

set_option maxHeartbeats 2000000 in
set_option maxRecDepth 100000 in
theorem goodValidators_any (v u : Value) (os rs : List Int) (n : Nat) (w : World) (hv : IntSl w v os) (hu : IntSl w u rs) (hlen : os.length ≤ 1048576) (hlen2 : rs.length ≤ 1048576) (hn : n ≤ 1048576) :
    Calls Try.prog 56 #[v, u, .int .i64 n] w fun e w' => BoolIff e (GoodVal os rs n) ∧ w' = w := by
  obtain ⟨a, cap, rfl, hx0⟩ := hv
  have hx : Hid (0 < os.length → ∃ g, a = some ⟨g, 0, none⟩ ∧ ∀ (j : Nat) x, os[j]? = some x → w.cell? ⟨g, j, none⟩ = some (.int .i64 x)) := hx0
  clear hx0
  obtain ⟨a', cap', rfl, hx0⟩ := hu
  have hy : Hid (0 < rs.length → ∃ g, a' = some ⟨g, 0, none⟩ ∧ ∀ (j : Nat) x, rs[j]? = some x → w.cell? ⟨g, j, none⟩ = some (.int .i64 x)) := hx0
  clear hx0
  by_cases h1 : os.length < 1
  · have HB : Hid (¬ GoodVal os rs n) := fun h => by unfold GoodVal at h; omega
    go_enter Try.func56, Try.ntmps56
    go_wp2
    go_ret
    exact ⟨BoolIff.ff HB.out, rfl⟩
  by_cases h2 : 5 < os.length
  · have HB : Hid (¬ GoodVal os rs n) := fun h => by unfold GoodVal at h; omega
    go_enter Try.func56, Try.ntmps56
    go_wp2
    go_ret
    exact ⟨BoolIff.ff HB.out, rfl⟩
  by_cases h3 : rs.length = os.length
  case neg =>
    have HB : Hid (¬ GoodVal os rs n) := fun h => by unfold GoodVal at h; omega
    have h3b : ((rs.length : Int) != (os.length : Int)) = true := by simp; omega
    go_enter Try.func56, Try.ntmps56
    go_wp2
    go_ret
    exact ⟨BoolIff.ff HB.out, rfl⟩
  have h3b : ((rs.length : Int) != (os.length : Int)) = false := by simp; omega
  have H3 : Hid (rs.length = os.length) := h3
  obtain ⟨g, rfl, hc⟩ := hx.out (by omega)
  obtain ⟨g', rfl, hc'⟩ := hy.out (by omega)
  clear hx hy h3
  go_enter Try.func56, Try.ntmps56
  go_wp2
  go_loop [28] (fun i => ∃ k : Nat, k ≤ os.length ∧ i = .int .i64 k ∧ AllIn os k 0 ((n : Int) - 1)) (fun i => os.length - (intOf i).toNat)
  case atStart => exact ⟨0, Nat.zero_le _, rfl, AllIn.zero _ _ _⟩
  case round =>
    obtain ⟨k, hk, rfl, hA⟩ := hrel
    by_cases hlt : k < os.length
    · have hck := hc k os[k] (by simp [hlt])
      generalize hb : os[k] = b at *
      by_cases hn : b < 0
      · have HB : Hid (¬ GoodVal os rs n) := fun h => by
          have := h.2.2.2.1 k b hlt (by simp [hlt, hb]); omega
        clear hA hc hc'
        go_wp2
        go_ret
        exact ⟨BoolIff.ff HB.out, rfl⟩
      · by_cases hm : (n : Int) ≤ b
        · have HB : Hid (¬ GoodVal os rs n) := fun h => by
            have := h.2.2.2.1 k b hlt (by simp [hlt, hb]); omega
          clear hA hc hc'
          go_wp2
          go_ret
          exact ⟨BoolIff.ff HB.out, rfl⟩
        · have HA : Hid (AllIn os (k + 1) 0 ((n : Int) - 1)) := AllIn.succ hA hlt (by rw [hb]; omega) (by rw [hb]; omega)
          clear hA hc hc'
          go_wp2
          go_round
          case rel => exact ⟨k + 1, by omega, by go_num, HA.out⟩
          case measure => simp [intOf]; omega
    · have HO : Hid (AllIn os os.length 0 ((n : Int) - 1)) := by
        have hke : k = os.length := by omega
        rw [hke] at hA; exact hA
      clear hA hc
      go_wp2
      go_loop [42] (fun i => ∃ k : Nat, k ≤ rs.length ∧ i = .int .i64 k ∧ AllIn rs k 0 100) (fun i => rs.length - (intOf i).toNat)
      case atStart => exact ⟨0, Nat.zero_le _, rfl, AllIn.zero _ _ _⟩
      case round =>
        obtain ⟨k2, hk2, rfl, hA⟩ := hrel
        by_cases hlt2 : k2 < rs.length
        · have hck := hc' k2 rs[k2] (by simp [hlt2])
          generalize hb : rs[k2] = b at *
          by_cases hn : b < 0
          · have HB : Hid (¬ GoodVal os rs n) := fun h => by
              have := h.2.2.2.2 k2 b hlt2 (by simp [hlt2, hb]); omega
            clear hA hc'
            go_wp2
            go_ret
            exact ⟨BoolIff.ff HB.out, rfl⟩
          · by_cases hm : 100 < b
            · have HB : Hid (¬ GoodVal os rs n) := fun h => by
                have := h.2.2.2.2 k2 b hlt2 (by simp [hlt2, hb]); omega
              clear hA hc'
              go_wp2
              go_ret
              exact ⟨BoolIff.ff HB.out, rfl⟩
            · have HA : Hid (AllIn rs (k2 + 1) 0 100) := AllIn.succ hA hlt2 (by rw [hb]; omega) (by rw [hb]; omega)
              clear hA hc'
              go_wp2
              go_round
              case rel => exact ⟨k2 + 1, by omega, by go_num, HA.out⟩
              case measure => simp [intOf]; omega
        · have HB : Hid (GoodVal os rs n) := ⟨by omega, by omega, H3.out, HO.out, by
            have hke : k2 = rs.length := by omega
            rw [hke] at hA; exact hA⟩
          clear hA hc'
          go_wp2
          go_ret
          exact ⟨BoolIff.tt HB.out, rfl⟩

/-- a beginning, as it is handed to New -/
def genV (vb vo vr : Value) (top mature fee : Int) : Value := .agg #[vb, vo, vr, .int .i64 top, .int .i64 mature, .int .i64 fee]

set_option maxHeartbeats 2000000 in
set_option maxRecDepth 100000 in
theorem goodRules_any (vb vo vr : Value) (top mature fee : Int) (w : World) :
    Calls Try.prog 57 #[.agg #[vb, vo, vr, .int .i64 top, .int .i64 mature, .int .i64 fee]] w fun e w' => BoolIff e (GoodRules top mature fee) ∧ Below w.heap.size w w' := by
  by_cases h1 : top < 1
  · have HB : Hid (¬ GoodRules top mature fee) := fun h => by unfold GoodRules at h; omega
    go_enter Try.func57, Try.ntmps57
    go_wp2
    go_ret
    exact ⟨BoolIff.ff HB.out, (Below.refl _ _).alloc (Nat.le_refl _) _⟩
  by_cases h2 : 5 < top
  · have HB : Hid (¬ GoodRules top mature fee) := fun h => by unfold GoodRules at h; omega
    go_enter Try.func57, Try.ntmps57
    go_wp2
    go_ret
    exact ⟨BoolIff.ff HB.out, (Below.refl _ _).alloc (Nat.le_refl _) _⟩
  by_cases h3 : mature < 1
  · have HB : Hid (¬ GoodRules top mature fee) := fun h => by unfold GoodRules at h; omega
    go_enter Try.func57, Try.ntmps57
    go_wp2
    go_ret
    exact ⟨BoolIff.ff HB.out, (Below.refl _ _).alloc (Nat.le_refl _) _⟩
  by_cases h4 : 20 < mature
  · have HB : Hid (¬ GoodRules top mature fee) := fun h => by unfold GoodRules at h; omega
    go_enter Try.func57, Try.ntmps57
    go_wp2
    go_ret
    exact ⟨BoolIff.ff HB.out, (Below.refl _ _).alloc (Nat.le_refl _) _⟩
  by_cases h5 : 0 ≤ fee
  case neg =>
    have HB : Hid (¬ GoodRules top mature fee) := fun h => by unfold GoodRules at h; omega
    go_enter Try.func57, Try.ntmps57
    go_wp2
    go_ret
    exact ⟨BoolIff.ff HB.out, (Below.refl _ _).alloc (Nat.le_refl _) _⟩
  by_cases h6 : fee ≤ 100
  case neg =>
    have HB : Hid (¬ GoodRules top mature fee) := fun h => by unfold GoodRules at h; omega
    go_enter Try.func57, Try.ntmps57
    go_wp2
    go_ret
    exact ⟨BoolIff.ff HB.out, (Below.refl _ _).alloc (Nat.le_refl _) _⟩
  have HB : Hid (GoodRules top mature fee) := ⟨by omega, by omega, by omega, by omega, by omega, by omega⟩
  go_enter Try.func57, Try.ntmps57
  go_wp2
  go_ret
  exact ⟨BoolIff.tt HB.out, (Below.refl _ _).alloc (Nat.le_refl _) _⟩

def GoodGen (bs os rs : List Int) (top mature fee : Int) : Prop := GoodBal bs ∧ GoodVal os rs bs.length ∧ GoodRules top mature fee

set_option maxHeartbeats 2000000 in
set_option maxRecDepth 100000 in
theorem goodGenesis_any (vb vo vr : Value) (bs os rs : List Int) (top mature fee : Int) (w : World) (hb : IntSl w vb bs) (ho : IntSl w vo os) (hr : IntSl w vr rs)
    (l1 : bs.length ≤ 1048576) (l2 : os.length ≤ 1048576) (l3 : rs.length ≤ 1048576) :
    Calls Try.prog 25 #[.agg #[vb, vo, vr, .int .i64 top, .int .i64 mature, .int .i64 fee]] w fun e w' => BoolIff e (GoodGen bs os rs top mature fee) ∧ Below w.heap.size w w' := by
  have hB : ∀ o, Below w.heap.size w (w.alloc o) := fun o => (Below.refl _ _).alloc (Nat.le_refl _) _
  obtain ⟨ab, cb, rfl, _⟩ := id hb
  obtain ⟨ao, co, rfl, _⟩ := id ho
  obtain ⟨ar, cr, rfl, _⟩ := id hr
  go_enter Try.func25, Try.ntmps25
  go_wp2_with fail
  refine (goodBalances_any _ bs _ (hb.below (hB _) (Nat.le_refl _)) l1).mono ?_
  rintro e w1 ⟨⟨b1, rfl, hb1⟩, rfl⟩
  cases b1 with
  | false =>
    have HB : Hid (¬ GoodGen bs os rs top mature fee) := fun h => by have := hb1.2 h.1; cases this
    clear hb1
    go_wp2
    go_ret
    exact ⟨BoolIff.ff HB.out, hB _⟩
  | true =>
    have HB : Hid (GoodBal bs) := hb1.1 rfl
    clear hb1
    go_wp2_with fail
    refine (goodValidators_any _ _ os rs bs.length _ (ho.below (hB _) (Nat.le_refl _)) (hr.below (hB _) (Nat.le_refl _)) l2 l3 l1).mono ?_
    rintro e w2 ⟨⟨b2, rfl, hb2⟩, rfl⟩
    cases b2 with
    | false =>
      have HG : Hid (¬ GoodGen bs os rs top mature fee) := fun h => by have := hb2.2 h.2.1; cases this
      clear hb2
      go_wp2
      go_ret
      exact ⟨BoolIff.ff HG.out, hB _⟩
    | true =>
      have HV : Hid (GoodVal os rs bs.length) := hb2.1 rfl
      clear hb2
      go_wp2_with fail
      refine (goodRules_any _ _ _ top mature fee _).mono ?_
      rintro e w3 ⟨⟨b3, rfl, hb3⟩, hb4⟩
      have HG : Hid (b3 = true ↔ GoodGen bs os rs top mature fee) := ⟨fun h => ⟨HB.out, HV.out, hb3.1 h⟩, fun h => hb3.2 h.2.2⟩
      clear hb3
      go_wp2
      go_ret
      exact ⟨BoolIff.of HG.out, (hB _).trans (hb4.mono (by simp))⟩
end Go.Proofs.Ytkdekfmblpkecaa
