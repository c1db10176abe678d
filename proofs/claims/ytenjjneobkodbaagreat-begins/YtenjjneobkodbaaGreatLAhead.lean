import Derived.Test.YtenjjneobkodbaaGreatLSend
import Derived.Test.YtenjjneobkodbaaGreatLed
namespace Go.Proofs.YtenjjneobkodbaaGreat
open Go.ChangeShapes Go.WideShapes Go.ChangeAt Go.RowKit
set_option linter.unusedVariables false

/-- the validators of a ledger can be read -/
structure LVals (w : World) (g : Nat) (vv : Value) (vals : List VS) : Prop where
  c7 : w.cell? ⟨g, 7, none⟩ = some vv
  rd : Rd w vv vals.length 8 (vrow vals)
  len : vals.length ≤ 1000

/-- does validator a go ahead of validator b? -/
def aheadN (vals : List VS) (a b : Nat) : Bool :=
  match vals[a]?, vals[b]? with
  | some x, some y => decide (y.tokens < x.tokens) || (decide (x.tokens = y.tokens) && decide (a < b))
  | _, _ => false
theorem aheadN_eq (vals : List VS) (a b : Nat) (ha : a < vals.length) (hb : b < vals.length) : aheadN vals a b = (decide (vals[b].tokens < vals[a].tokens) || (decide (vals[a].tokens = vals[b].tokens) && decide (a < b))) := by
  unfold aheadN; rw [List.getElem?_eq_getElem ha, List.getElem?_eq_getElem hb]

theorem LVals.facts {w : World} {g : Nat} {va : Option Addr} {n vc : Nat} {vals : List VS} (h : LVals w g (.slice va n vc) vals) {k : Nat} (hk : k < vals.length) :
    ∃ gv, va = some ⟨gv, 0, none⟩ ∧ w.cell? ⟨gv, k * 8 + 2, none⟩ = some (.int .i64 vals[k].tokens) ∧ w.cell? ⟨gv, k * 8 + 3, none⟩ = some (.int .i64 vals[k].shares) ∧ w.cell? ⟨gv, k * 8 + 6, none⟩ = some (.bool vals[k].jailed) ∧ w.cell? ⟨gv, k * 8 + 7, none⟩ = some (.bool vals[k].inset) := by
  obtain ⟨a, c, he⟩ := h.rd.form
  simp only [Value.slice.injEq] at he
  obtain ⟨rfl, rfl, rfl⟩ := he
  obtain ⟨gv, hgv, hc⟩ := h.rd.get (by omega)
  exact ⟨gv, hgv, hc _ _ (vrow_at vals k hk 2 (by omega)), hc _ _ (vrow_at vals k hk 3 (by omega)), hc _ _ (vrow_at vals k hk 6 (by omega)), hc _ _ (vrow_at vals k hk 7 (by omega))⟩

set_option maxHeartbeats 4000000 in
set_option maxRecDepth 100000 in
theorem ahead_any (g : Nat) (vv : Value) (vals : List VS) (a b : Nat) (w : World) (h : LVals w g vv vals) (ha : a < vals.length) (hb : b < vals.length) :
    Calls Tryz.prog 116 #[.pointer (some ⟨g, 0, none⟩), .int .i64 a, .int .i64 b] w fun e w' => e = .returned (.bool (aheadN vals a b)) ∧ ∃ n, w' = w.drewN n := by
  rw [aheadN_eq vals a b ha hb]
  obtain ⟨va, vc, rfl⟩ := h.rd.form
  have c7 := h.c7
  have hlen := h.len
  obtain ⟨gv, rfl, x2, _, _, _⟩ := h.facts ha
  obtain ⟨gv', he, y2, _, _, _⟩ := h.facts hb
  simp only [Option.some.injEq, Addr.mk.injEq, and_true] at he
  subst he
  generalize vals[a].tokens = ta at *
  generalize vals[b].tokens = tb at *
  clear h
  by_cases h1 : tb < ta
  · have e : (decide (tb < ta) || (decide (ta = tb) && decide (a < b))) = true := by simp [h1]
    rw [e]
    clear e
    go_enter Tryz.func116, Tryz.ntmps116
    go_wp2_with fail
    go_quiet (fail)
    go_wp2
    go_ret
    exact ⟨rfl, _, rfl⟩
  · have h1b : decide (tb < ta) = false := by simpa using h1
    by_cases h2 : ta = tb
    · by_cases h3 : a < b
      · have e : (decide (tb < ta) || (decide (ta = tb) && decide (a < b))) = true := by simp [h2, h3]
        rw [e]
        have h2b : (ta == tb) = true := by simp [h2]
        clear e h1 h2
        go_enter Tryz.func116, Tryz.ntmps116
        go_wp2_with fail
        go_quiet (fail)
        go_wp2
        go_ret
        exact ⟨rfl, _, rfl⟩
      · have e : (decide (tb < ta) || (decide (ta = tb) && decide (a < b))) = false := by simp [h1b, h3]
        rw [e]
        have h2b : (ta == tb) = true := by simp [h2]
        clear e h1 h2
        go_enter Tryz.func116, Tryz.ntmps116
        go_wp2_with fail
        go_quiet (fail)
        go_wp2
        go_ret
        exact ⟨rfl, _, rfl⟩
    · have e : (decide (tb < ta) || (decide (ta = tb) && decide (a < b))) = false := by simp [h1b, h2]
      rw [e]
      have h2b : (ta == tb) = false := by simp [h2]
      clear e h1 h2
      go_enter Tryz.func116, Tryz.ntmps116
      go_wp2_with fail
      go_quiet (fail)
      go_wp2
      go_ret
      exact ⟨rfl, _, rfl⟩
end Go.Proofs.YtenjjneobkodbaaGreat
