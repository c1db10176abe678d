import Derived.Test.YtenjjneobkodbaaGreatLPay
import Derived.Test.YtenjjneobkodbaaGreatMI
import Derived.Test.YtenjjneobkodbaaGreatPBlock
namespace Go.Proofs.YtenjjneobkodbaaGreat
open Go.ChangeShapes Go.WideShapes Go.ChangeAt Go.RowKit
set_option linter.unusedVariables false

theorem bondedN_Z (l : List VS) (h : ZV l) (k : Nat) (hk : k ≤ l.length) : bondedN (l.take k) = 0 ∧ looseV (l.take k) = 0 := by
  induction k with
  | zero => simp [bondedN, looseV]
  | succ k ih =>
    have h1 := h k (by omega)
    have h2 := ih (by omega)
    rw [bondedN_snoc l k (by omega), looseV_snoc l k (by omega), h1.1, h1.2, h2.1, h2.2]
    simp
theorem ZV.sums {l : List VS} (h : ZV l) : bondedN l = 0 ∧ looseV l = 0 := by
  have h := bondedN_Z l h l.length (Nat.le_refl _)
  rwa [List.take_of_length_le (Nat.le_refl _)] at h
theorem ZV.vb {l : List VS} (h : ZV l) : VB l := fun k hk => by rw [(h k hk).1]; omega
theorem chooseTo_Z (l : List VS) (h : ZV l) (top : Int) (i : Nat) (hi : i ≤ l.length) : chooseTo l top i = l := by
  induction i with
  | zero => rfl
  | succ i ih =>
    rw [chooseTo, ih (by omega)]
    have hl : i < l.length := by omega
    apply List.ext_getElem?
    intro j
    rw [List.getElem?_modify]
    by_cases e : i = j
    · subst e
      rw [List.getElem?_eq_getElem hl]
      obtain ⟨h1, h2⟩ := h i hl
      generalize l[i] = x at *
      obtain ⟨xo, xr, xt, xs, xc, xou, xj, xi⟩ := x
      simp only at h1 h2
      subst h1 h2
      simp [selN]
    · simp [e]

/-- the ledger, where nobody is bonded -/
structure LedZ (w : World) (g : Nat) (c : LC) (bv vv ev : Value) (vals : List VS) : Prop where
  C : LCore w g c bv vv (.slice none 0 0) ev
  v : w.ownsRow 0 108 8 vv vals.length (vrow vals)
  e : w.ownsRow 0 117 4 ev 0 []
theorem LedZ.rd {w : World} {g : Nat} {c : LC} {bv vv ev : Value} {vals : List VS} (h : LedZ w g c bv vv ev vals) : LedRd w g (VwOf c vals) :=
  ⟨_, _, _, bv, vv, _, ev, [], h.C.L, Rd.of_owns h.C.b, Rd.of_owns h.v, ⟨rfl, none, 0, rfl, fun h => by simp [VwOf] at h⟩, Rd.of_owns h.e, fun k p h => by simp [VwOf, dprow] at h⟩

set_option maxHeartbeats 2000000 in
set_option maxRecDepth 100000 in
theorem lblock_any (g : Nat) (c : LC) (bv vv ev : Value) (vals : List VS) (w : World) (h : LedZ w g c bv vv ev vals) (hb : LBd c) (hb9 : ∀ k (h : k < c.bal.length), 0 ≤ c.bal[k] ∧ c.bal[k] ≤ 1000000000) (hz : ZV vals) (l2 : vals.length ≤ 1000) (hv0 : 0 < vals.length) (hm : 0 ≤ c.mature ∧ c.mature ≤ 1000) (h0 : 0 ≤ c.height) (h1 : c.height ≤ 1000) :
    Calls Tryz.prog 57 #[.pointer (some ⟨g, 0, none⟩)] w fun e w' => e = .returned (.int .i64 (blockF c).1) ∧ ∃ ev', LedZ w' g (blockF c).2 bv vv ev' vals ∧ Kp (BS g bv vv) w w' ∧ (∀ k, ev'.ownBlock = some k → ev.ownBlock = some k ∨ w.heap.size ≤ k) := by
  have c3 : w.cell? ⟨g, 3, none⟩ = some (.int .i64 c.height) := h.C.L.cell 3
  by_cases he : c.height = 1000
  · have e0 : blockF c = (14, c) := by unfold blockF; rw [if_pos he]
    rw [e0]
    have HF : Hid (LedZ w g c bv vv ev vals) := h
    clear h hb e0
    have hq : (c.height == 1000) = true := by simp [he]
    go_enter Tryz.func57, Tryz.ntmps57
    go_wp2
    go_ret
    exact ⟨rfl, ev, HF.out, Kp.refl _ _, fun k h => .inl h⟩
  have e0 : blockF c = (0, { c with pool := c.pool + c.fees, fees := 0, height := c.height + 1 }) := by unfold blockF; rw [if_neg he]
  rw [e0]
  have hh : (c.height == 1000) = false := by simpa using he
  have hg := h.C.L.lt
  have HL : Hid (LedZ w g c bv vv ev vals) := h
  obtain ⟨va, vc, rfl⟩ := ownsRow_slice h.v
  have c5 : w.cell? ⟨g, 5, none⟩ = some (.int .i64 c.fees) := h.C.L.cell 5
  have c6 : w.cell? ⟨g, 6, none⟩ = some (.int .i64 c.pool) := h.C.L.cell 6
  have c7 : w.cell? ⟨g, 7, none⟩ = some (.slice va vals.length vc) := h.C.L.cell 7
  have f3 := h.C.L.frozen 3
  have f5 := h.C.L.frozen 5
  have f6 := h.C.L.frozen 6
  have hs0 := hb.fees0
  have hs1 := hb.fees1
  have hp0 := hb.pool0
  have hp1 := hb.pool1
  have HB : Hid (Calls Tryz.prog 37 #[.pointer (some ⟨g, 0, none⟩)] w fun e w' => e = .returned (.int .i64 0) ∧ w = w') := by
    have := bonded_any g (VwOf c vals) w h.rd hz.vb (by show vals.length ≤ _; omega)
    rwa [show (VwOf c vals).vals = vals from rfl, hz.sums.1] at this
  clear h e0
  go_enter Tryz.func57, Tryz.ntmps57
  go_wp2_with fail
  refine HB.out.mono ?_
  rintro e w' ⟨rfl, rfl⟩
  have HC2 : Hid (LCore (((w.setCell ⟨g, 6, none⟩ (.int .i64 (c.pool + c.fees))).setCell ⟨g, 5, none⟩ (.int .i64 0)).setCell ⟨g, 3, none⟩ (.int .i64 (c.height + 1))) g { c with pool := c.pool + c.fees, fees := 0, height := c.height + 1 } bv (.slice va vals.length vc) (.slice none 0 0) ev) := by
    have h2 := (HL.out.C.setPool (c.pool + c.fees)).setFees 0
    exact ⟨h2.L.set 3 _, ownsRow_setCell h2.b _ _ (fun e => Has.apart h2.L h2.b (by decide) e.symm)⟩
  have HK2 : Hid (Kp (fun k => k = g) w (((w.setCell ⟨g, 6, none⟩ (.int .i64 (c.pool + c.fees))).setCell ⟨g, 5, none⟩ (.int .i64 0)).setCell ⟨g, 3, none⟩ (.int .i64 (c.height + 1)))) := (((Kp.refl (fun k => k = g) w).setCell (p := ⟨g, 6, none⟩) rfl _).setCell (p := ⟨g, 5, none⟩) rfl _).setCell (p := ⟨g, 3, none⟩) rfl _
  go_wp2_with fail
  go_loop [4, 5] (fun l i => i = .int .i64 0 ∧ l = .int .i64 c.fees) (fun _ _ => 0)
  case atStart => exact ⟨rfl, rfl⟩
  case round =>
    obtain ⟨rfl, rfl⟩ := hrel
    go_wp2_with fail
    refine (pay_any g _ bv _ _ ev [] _ HC2.out ⟨by simp, fun k h => by simp at h⟩ hb9 (ownsRow_kp HL.out.e HK2.out (fun b hb' e => Has.apart HL.out.C.L HL.out.e (by decide) (by rw [← e, hb']))) hm (by simp only; omega) hb.len).mono ?_
    rintro e w3 ⟨rfl, ev', hC3, he3, hk3, hev⟩
    have hps : (payTo { c with pool := c.pool + c.fees, fees := 0, height := c.height + 1 } [] ([] : List ES).length) = ({ c with pool := c.pool + c.fees, fees := 0, height := c.height + 1 }, []) := rfl
    rw [hps] at hC3 he3
    have hK3 : Kp (LS g bv) w w3 := (HK2.out.mono (fun k _ h => .inl h)).trans hk3
    have hv3 : w3.ownsRow 0 108 8 (.slice va vals.length vc) vals.length (vrow vals) := ownsRow_kp HL.out.v hK3 (fun b hb' e => by
      rcases e with e | e
      · exact Has.apart HL.out.C.L HL.out.v (by decide) (by rw [← e, hb'])
      · exact row_off HL.out.C.b HL.out.v (by decide) hb' e)
    have HE : Hid (w3.ownsRow 0 117 4 ev' 0 []) := he3
    have HEV : Hid (∀ k, ev'.ownBlock = some k → ev.ownBlock = some k ∨ w.heap.size ≤ k) := fun k hk => .inr (Nat.le_trans HK2.out.size (hev k hk))
    have HK3 : Hid (Kp (LS g bv) w w3) := hK3
    have HC3 : Hid (LCore w3 g { c with pool := c.pool + c.fees, fees := 0, height := c.height + 1 } bv (.slice va vals.length vc) (.slice none 0 0) ev') := hC3
    have HV3 : Hid (w3.ownsRow 0 108 8 (.slice va vals.length vc) vals.length (vrow vals)) := hv3
    clear hps hC3 he3 hk3 hev hv3 hK3 HC2 HK2
    go_wp2_with fail
    refine (choose_any g c.top _ vals _ _ ⟨HC3.out.L, rfl, rfl, HV3.out, l2⟩).mono ?_
    rintro e w4 ⟨rfl, hL4, hk4⟩
    rw [chooseTo_Z vals hz c.top vals.length (Nat.le_refl _)] at hL4
    have HF : Hid (LedZ w4 g { c with pool := c.pool + c.fees, fees := 0, height := c.height + 1 } bv (.slice va vals.length vc) ev' vals ∧ Kp (BS g bv (.slice va vals.length vc)) w w4) :=
      ⟨⟨⟨hL4.L, ownsRow_kp HC3.out.b hk4 (fun b hb' e => row_off HC3.out.b HV3.out (by decide) e hb')⟩, hL4.v, ownsRow_kp HE.out hk4 (fun b hb' e => row_off HE.out HV3.out (by decide) e hb')⟩,
        (HK3.out.mono (fun k _ h => h.elim .inl (fun h => .inr (.inl h)))).trans (hk4.mono (fun k _ h => .inr (.inr h)))⟩
    clear hL4 hk4
    go_wp2
    go_ret
    exact ⟨rfl, ev', HF.out.1, HF.out.2, HEV.out⟩
end Go.Proofs.YtenjjneobkodbaaGreat
