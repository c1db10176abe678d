import Derived.Test.YtenjjneobkodbaaGreatPSend
import Derived.Test.YtenjjneobkodbaaGreatPSee2
namespace Go.Proofs.YtenjjneobkodbaaGreat
open Go.ChangeShapes Go.WideShapes Go.ChangeAt Go.RowKit
set_option linter.unusedVariables false

/-- nobody is bonded -/
def ZV (vals : List VS) : Prop := ∀ k (h : k < vals.length), vals[k].tokens = 0 ∧ vals[k].inset = false
/-- P8, where nobody is bonded -/
def blockF (c : LC) : Int × LC := if c.height = 1000 then (14, c) else (0, { c with pool := c.pool + c.fees, fees := 0, height := c.height + 1 })

theorem set_self {α : Type} (l : List α) (i : Nat) (a : α) (h : l[i]? = some a) : l.set i a = l := by
  apply List.ext_getElem?
  intro j
  by_cases e : i = j
  · subst e
    have hi : i < l.length := (List.getElem?_eq_some_iff.1 h).1
    rw [List.getElem?_set_self hi, h]
  · rw [List.getElem?_set_ne e]
theorem vrow_still (l : List VS) (hz : ZV l) (i : Nat) (hi : i < l.length) : (vrow l).set (i * 8 + 7) (.bool false) = vrow l := by
  refine set_self _ _ _ ?_
  rw [vrow_at l i hi 7 (by omega)]
  simp [VS.cells, (hz i hi).2]

theorem row_ne {w : World} {base base' : Nat} {e e' : TypeId} {size size' : Nat} {v : Value} {n n' gv m cap : Nat} {xs xs' : List Value} (h : w.ownsRow base e size v n xs) (h' : w.ownsRow base' e' size' (.slice (some ⟨gv, 0, none⟩) m cap) n' xs') (hne : e ≠ e') : v.ownBlock ≠ some gv := by
  intro h0
  rcases ownsRow_apart h h' hne with h1 | h1
  · rw [h1] at h0; cases h0
  · exact h1 (h0.trans rfl)
set_option maxHeartbeats 1000000 in
set_option maxRecDepth 100000 in
theorem pshare_any (g : Nat) (c : LC) (bv vv dv ev : Value) (w : World) (h : PCore w g c bv vv dv ev) (hb : LBd c) :
    Calls Tryz.prog 84 #[.pointer (some ⟨g, 0, none⟩)] w fun e w' => e = .returned (.tuple #[]) ∧ PCore w' g { c with pool := c.pool + c.fees, fees := 0 } bv vv dv ev ∧ Kp (· = g) w w' := by
  have c5 : w.cell? ⟨g, 5, none⟩ = some (.int .i64 c.fees) := h.L.cell 5
  have c6 : w.cell? ⟨g, 6, none⟩ = some (.int .i64 c.pool) := h.L.cell 6
  have f5 := h.L.frozen 5
  have f6 := h.L.frozen 6
  have hs0 := hb.fees0
  have hs1 := hb.fees1
  have hp0 := hb.pool0
  have hp1 := hb.pool1
  have HF : Hid (PCore ((w.setCell ⟨g, 6, none⟩ (.int .i64 (c.pool + c.fees))).setCell ⟨g, 5, none⟩ (.int .i64 0)) g { c with pool := c.pool + c.fees, fees := 0 } bv vv dv ev) := (h.setPool _).setFees _
  have HK : Hid (Kp (· = g) w ((w.setCell ⟨g, 6, none⟩ (.int .i64 (c.pool + c.fees))).setCell ⟨g, 5, none⟩ (.int .i64 0))) := ((Kp.refl (fun k => k = g) w).setCell (p := ⟨g, 6, none⟩) rfl _).setCell (p := ⟨g, 5, none⟩) rfl _
  clear h hb
  go_enter Tryz.func84, Tryz.ntmps84
  go_wp2
  go_region
  go_wp2
  go_end0
  exact ⟨rfl, ⟨HF.out.L, HF.out.b⟩, ⟨HK.out.os, HK.out.tape, HK.out.output, HK.out.size, HK.out.block⟩⟩

set_option maxHeartbeats 1000000 in
set_option maxRecDepth 100000 in
theorem ppay_any (g : Nat) (c : LC) (bv vv dv : Value) (w : World) (h : PCore w g c bv vv dv (.slice none 0 0)) :
    Calls Tryz.prog 85 #[.pointer (some ⟨g, 0, none⟩)] w fun e w' => e = .returned (.tuple #[]) ∧ PCore w' g c bv vv dv (.slice none 0 0) ∧ Kp (· = g) w w' := by
  have c38 : w.cell? ⟨g, 38, none⟩ = some (.slice none 0 0) := h.L.cell 38
  have f38 := h.L.frozen 38
  have HF : Hid (PCore (w.setCell ⟨g, 38, none⟩ (.slice none 0 0)) g c bv vv dv (.slice none 0 0)) := ⟨h.L.set 38 _, ownsRow_setCell h.b _ _ (fun e => Has.apart h.L h.b (by decide) e.symm)⟩
  have HK : Hid (Kp (· = g) w (w.setCell ⟨g, 38, none⟩ (.slice none 0 0))) := (Kp.refl (fun k => k = g) w).setCell (p := ⟨g, 38, none⟩) rfl _
  clear h
  go_enter Tryz.func85, Tryz.ntmps85
  go_wp2
  go_loop [2, 10] (fun st i => i = .int .i64 0 ∧ st = .slice none 0 0) (fun _ _ => 0)
  case atStart => exact ⟨rfl, rfl⟩
  case round =>
    obtain ⟨rfl, rfl⟩ := hrel
    go_wp2
    go_end0
    exact ⟨rfl, HF.out, HK.out⟩

set_option maxHeartbeats 2000000 in
set_option maxRecDepth 100000 in
theorem pbest_any (g : Nat) (vals : List VS) (vv : Value) (w : World) (c7 : w.cell? ⟨g, 7, none⟩ = some vv) (hv : Rd w vv vals.length 8 (vrow vals)) (hz : ZV vals) (l2 : vals.length ≤ 1000) :
    Calls Tryz.prog 109 #[.pointer (some ⟨g, 0, none⟩)] w fun e w' => e = .returned (.int .i64 (-1)) ∧ Below w.heap.size w w' := by
  obtain ⟨va, vc, rfl⟩ := hv.form
  go_enter Tryz.func109, Tryz.ntmps109
  go_wp2
  go_loopw [3, 4, 12] (fun b m i wr => ∃ k : Nat, k ≤ vals.length ∧ i = .int .i64 k ∧ b = .int .i64 (-1) ∧ m = .int .i64 0 ∧ Below w.heap.size w wr) (fun _ _ i _ => vals.length - (intOf i).toNat)
  case atStart => exact ⟨0, Nat.zero_le _, rfl, rfl, rfl, Below.refl _ _⟩
  case round =>
    obtain ⟨k, hk, rfl, rfl, rfl, hbw⟩ := hrel
    have hv' := hv.below hbw (Nat.le_refl _)
    by_cases hlt : k < vals.length
    · obtain ⟨gv, rfl, hc⟩ := hv'.get (by omega)
      have y0 := hc _ _ (vrow_at vals k hlt 0 (by omega))
      have y1 := hc _ _ (vrow_at vals k hlt 1 (by omega))
      have y2 := hc _ _ (vrow_at vals k hlt 2 (by omega))
      have y3 := hc _ _ (vrow_at vals k hlt 3 (by omega))
      have y4 := hc _ _ (vrow_at vals k hlt 4 (by omega))
      have y5 := hc _ _ (vrow_at vals k hlt 5 (by omega))
      have y6 := hc _ _ (vrow_at vals k hlt 6 (by omega))
      have y7 := hc _ _ (vrow_at vals k hlt 7 (by omega))
      rw [Nat.add_zero] at y0
      obtain ⟨hz1, hz2⟩ := hz k hlt
      have HB : Hid (∀ o, Below w.heap.size w (wr.alloc o)) := fun o => hbw.alloc hbw.size o
      generalize vals[k] = x at *
      obtain ⟨xo, xr, xt, xs, xc, xou, xj, xi⟩ := x
      simp only at hz1 hz2
      subst hz1 hz2
      dsimp only at y0 y1 y2 y3 y4 y5 y6 y7
      clear hc hv hv' hz hbw
      cases xj <;> go_wp2
      all_goals
        refine And.intro ?_ ?_
        · first | exact ⟨k + 1, by omega, by go_num, rfl, rfl, HB.out _⟩ | ((repeat apply Exists.intro); exact ⟨⟨k + 1, by omega, by go_num, rfl, rfl, HB.out _⟩, rfl⟩)
        · simp [intOf]; omega
    · go_wp2
      go_ret
      exact ⟨rfl, hbw⟩

set_option maxHeartbeats 2000000 in
set_option maxRecDepth 100000 in
theorem pchoose_any (g : Nat) (c : LC) (bv vv dv ev : Value) (vals : List VS) (w : World) (h : PCore w g c bv vv dv ev) (hv : w.ownsRow 0 112 8 vv vals.length (vrow vals)) (hz : ZV vals) (l2 : vals.length ≤ 1000) (ht : 1 ≤ c.top) :
    Calls Tryz.prog 86 #[.pointer (some ⟨g, 0, none⟩)] w fun e w' => e = .returned (.tuple #[]) ∧ PCore w' g c bv vv dv ev ∧ w'.ownsRow 0 112 8 vv vals.length (vrow vals) ∧ Kp (fun k => vv.ownBlock = some k) w w' := by
  obtain ⟨va, vc, rfl⟩ := ownsRow_slice hv
  have c7 : w.cell? ⟨g, 7, none⟩ = some (.slice va vals.length vc) := h.L.cell 7
  have HC : Hid (PCore w g c bv (.slice va vals.length vc) dv ev) := h
  have HV : Hid (w.ownsRow 0 112 8 (.slice va vals.length vc) vals.length (vrow vals)) := hv
  clear h hv
  go_enter Tryz.func86, Tryz.ntmps86
  go_wp2
  go_loopw [10] (fun i wr => ∃ k : Nat, k ≤ vals.length ∧ i = .int .i64 k ∧ PCore wr g c bv (.slice va vals.length vc) dv ev ∧ wr.ownsRow 0 112 8 (.slice va vals.length vc) vals.length (vrow vals) ∧ Kp (fun k => (Value.slice va vals.length vc).ownBlock = some k) w wr) (fun i _ => vals.length - (intOf i).toNat)
  case atStart => exact ⟨0, Nat.zero_le _, rfl, HC.out, HV.out, Kp.refl _ _⟩
  case round =>
    clear HC HV
    obtain ⟨k, hk, rfl, hC, hV, hK⟩ := hrel
    have c7' : wr.cell? ⟨g, 7, none⟩ = some (.slice va vals.length vc) := hC.L.cell 7
    by_cases hlt : k < vals.length
    · obtain ⟨gv, rfl, _⟩ := ownsRow_some hV (by omega)
      have y7 : wr.cell? ⟨gv, k * 8 + 7, none⟩ = some (.bool false) := by
        rw [hV.cellAt (k * 8 + 7) (by omega), vrow_at vals k hlt 7 (by omega)]
        simp [VS.cells, (hz k hlt).2]
      have f7 := hV.frozenAt (k * 8 + 7)
      have hne : g ≠ gv := fun e => Has.apart hC.L hV (by decide) (by rw [e]; rfl)
      have HC1 : Hid (PCore (wr.setCell ⟨gv, k * 8 + 7, none⟩ (.bool false)) g c bv (.slice (some ⟨gv, 0, none⟩) vals.length vc) dv ev) := ⟨hC.L.other _ _ hne, ownsRow_setCell hC.b _ _ (row_ne hC.b hV (by decide))⟩
      have HV1 : Hid ((wr.setCell ⟨gv, k * 8 + 7, none⟩ (.bool false)).ownsRow 0 112 8 (.slice (some ⟨gv, 0, none⟩) vals.length vc) vals.length (vrow vals)) := by
        have := (hV.stored (k * 8 + 7) (.bool false)).1
        rwa [vrow_still vals hz k hlt] at this
      have HK1 : Hid (Kp (fun k => (Value.slice (some ⟨gv, 0, none⟩) vals.length vc).ownBlock = some k) w (wr.setCell ⟨gv, k * 8 + 7, none⟩ (.bool false))) := hK.setCell (p := ⟨gv, k * 8 + 7, none⟩) rfl _
      clear hC hV hK
      go_wp2
      refine And.intro ?_ ?_
      · first | exact ⟨k + 1, by omega, by go_num, HC1.out, HV1.out, HK1.out⟩ | ((repeat apply Exists.intro); exact ⟨⟨k + 1, by omega, by go_num, HC1.out, HV1.out, HK1.out⟩, rfl⟩)
      · simp [intOf]; omega
    · have c0 : wr.cell? ⟨g, 0, none⟩ = some (.int .i64 c.top) := hC.L.cell 0
      have HC1 : Hid (PCore wr g c bv (.slice va vals.length vc) dv ev) := hC
      have HV1 : Hid (wr.ownsRow 0 112 8 (.slice va vals.length vc) vals.length (vrow vals)) := hV
      have HK1 : Hid (Kp (fun k => (Value.slice va vals.length vc).ownBlock = some k) w wr) := hK
      have HP : Hid (Calls Tryz.prog 109 #[.pointer (some ⟨g, 0, none⟩)] wr fun e w' => e = .returned (.int .i64 (-1)) ∧ Below wr.heap.size wr w') := pbest_any g vals _ wr c7' (Rd.of_owns hV) hz l2
      clear hC hV hK
      go_wp2
      go_loop [3] (fun n => n = .int .i64 0) (fun _ => 0)
      case atStart => rfl
      case round =>
        subst hrel
        go_wp2_with fail
        refine HP.out.mono ?_
        rintro e w2 ⟨rfl, hb2⟩
        have HF : Hid (PCore w2 g c bv (.slice va vals.length vc) dv ev ∧ w2.ownsRow 0 112 8 (.slice va vals.length vc) vals.length (vrow vals) ∧ Kp (fun k => (Value.slice va vals.length vc).ownBlock = some k) w w2) :=
          ⟨⟨HC1.out.L.below hb2 HC1.out.L.lt, ownsRow_below HC1.out.b hb2 (Nat.le_refl _)⟩, ownsRow_below HV1.out hb2 (Nat.le_refl _), HK1.out.trans (Kp.of_below hb2 _)⟩
        clear hb2 HP
        go_wp2
        (try simp only [Exit.inBlock, Exit.then])
        refine bodyPost_ret (results_none rfl _ _ _) rfl ?_
        exact ⟨rfl, HF.out⟩

/-- what Block may write -/
def BS (g : Nat) (bv vv : Value) (k : Nat) : Prop := k = g ∨ bv.ownBlock = some k ∨ vv.ownBlock = some k

set_option maxHeartbeats 2000000 in
set_option maxRecDepth 100000 in
theorem pblock_any (g : Nat) (c : LC) (bv vv dv : Value) (vals : List VS) (w : World) (h : PCore w g c bv vv dv (.slice none 0 0)) (hb : LBd c) (hv : w.ownsRow 0 112 8 vv vals.length (vrow vals)) (hz : ZV vals) (l2 : vals.length ≤ 1000) (ht : 1 ≤ c.top) (h0 : 0 ≤ c.height) (h1 : c.height ≤ 1000) :
    Calls Tryz.prog 47 #[.pointer (some ⟨g, 0, none⟩)] w fun e w' => e = .returned (.int .i64 (blockF c).1) ∧ PCore w' g (blockF c).2 bv vv dv (.slice none 0 0) ∧ w'.ownsRow 0 112 8 vv vals.length (vrow vals) ∧ Kp (BS g bv vv) w w' := by
  have c3 : w.cell? ⟨g, 3, none⟩ = some (.int .i64 c.height) := h.L.cell 3
  by_cases he : c.height = 1000
  · have e0 : blockF c = (14, c) := by unfold blockF; rw [if_pos he]
    rw [e0]
    have HF : Hid (PCore w g c bv vv dv (.slice none 0 0) ∧ w.ownsRow 0 112 8 vv vals.length (vrow vals)) := ⟨h, hv⟩
    clear h hv hb e0
    go_enter Tryz.func47, Tryz.ntmps47
    go_wp2
    go_ret
    exact ⟨rfl, HF.out.1, HF.out.2, Kp.refl _ _⟩
  have e0 : blockF c = (0, { c with pool := c.pool + c.fees, fees := 0, height := c.height + 1 }) := by unfold blockF; rw [if_neg he]
  rw [e0]
  have hh : c.height < 1000 := by omega
  have hg := h.L.lt
  have Hv : Hid (w.ownsRow 0 112 8 vv vals.length (vrow vals)) := hv
  have HC : Hid (PCore w g c bv vv dv (.slice none 0 0)) := h
  clear h hv e0
  go_enter Tryz.func47, Tryz.ntmps47
  go_wp2_with fail
  refine (pshare_any g c bv vv dv _ _ HC.out hb).mono ?_
  rintro e w1 ⟨rfl, hC1, hk1⟩
  have Hv1 : Hid (w1.ownsRow 0 112 8 vv vals.length (vrow vals)) := ownsRow_kp Hv.out hk1 (fun b hb' e => Has.apart HC.out.L Hv.out (by decide) (by rw [← e, hb']))
  have d3 : w1.cell? ⟨g, 3, none⟩ = some (.int .i64 c.height) := hC1.L.cell 3
  have k3 := hC1.L.frozen 3
  have HC2 : Hid (PCore (w1.setCell ⟨g, 3, none⟩ (.int .i64 (c.height + 1))) g { c with pool := c.pool + c.fees, fees := 0, height := c.height + 1 } bv vv dv (.slice none 0 0)) := ⟨hC1.L.set 3 _, ownsRow_setCell hC1.b _ _ (fun e => Has.apart hC1.L hC1.b (by decide) e.symm)⟩
  have HK2 : Hid (Kp (fun k => k = g) w (w1.setCell ⟨g, 3, none⟩ (.int .i64 (c.height + 1)))) := hk1.setCell (p := ⟨g, 3, none⟩) rfl _
  have Hv2 : Hid ((w1.setCell ⟨g, 3, none⟩ (.int .i64 (c.height + 1))).ownsRow 0 112 8 vv vals.length (vrow vals)) := ownsRow_setCell Hv1.out _ _ (fun e => Has.apart hC1.L Hv1.out (by decide) e.symm)
  clear hC1 hk1 Hv1 Hv
  go_wp2_with fail
  refine (ppay_any g _ bv vv dv _ HC2.out).mono ?_
  rintro e w3 ⟨rfl, hC3, hk3⟩
  have hv3 : w3.ownsRow 0 112 8 vv vals.length (vrow vals) := ownsRow_kp Hv2.out hk3 (fun b hb' e => Has.apart HC2.out.L Hv2.out (by decide) (by rw [← e, hb']))
  have HK3 : Hid (Kp (fun k => k = g) w w3) := HK2.out.trans hk3
  clear HK2 Hv2 HC2 hk3
  go_wp2_with fail
  refine (pchoose_any g _ bv vv dv _ vals _ hC3 hv3 hz l2 ht).mono ?_
  rintro e w4 ⟨rfl, hC4, hv4, hk4⟩
  have HF : Hid (PCore w4 g { c with pool := c.pool + c.fees, fees := 0, height := c.height + 1 } bv vv dv (.slice none 0 0) ∧ w4.ownsRow 0 112 8 vv vals.length (vrow vals) ∧ Kp (BS g bv vv) w w4) :=
    ⟨hC4, hv4, (HK3.out.mono (fun k _ h => .inl h)).trans (hk4.mono (fun k _ h => .inr (.inr h)))⟩
  clear hC3 hv3 hC4 hv4 hk4
  go_wp2
  go_ret
  exact ⟨rfl, HF.out⟩
end Go.Proofs.YtenjjneobkodbaaGreat
