import Derived.Test.YtenjjneobkodbaaKEng
namespace Go.Proofs.Ytenjjneobkodbaa
open Go.ChangeShapes Go.WideShapes Go.ChangeAt Go.RowKit
set_option linter.unusedVariables false

set_option maxHeartbeats 1000000 in
set_option maxRecDepth 100000 in
theorem kacc_any (g n k : Nat) (ba : Option Addr) (bc : Nat) (w : World) (c4 : w.cell? ⟨g, 4, none⟩ = some (.slice ba n bc)) (hk : k < n) (hl : n ≤ 1000) :
    Calls Try.prog 33 #[.pointer (some ⟨g, 0, none⟩), .int .i64 k] w fun e w' => e = .returned (.bool true) ∧ w = w' := by
  have h1 : (k : Int) < (n : Int) := by omega
  go_enter Try.func33, Try.ntmps33
  go_wp2
  go_ret
  exact ⟨rfl, rfl⟩
set_option maxHeartbeats 1000000 in
set_option maxRecDepth 100000 in
theorem kval_any (g n k : Nat) (ba : Option Addr) (bc : Nat) (w : World) (c7 : w.cell? ⟨g, 7, none⟩ = some (.slice ba n bc)) (hk : k < n) (hl : n ≤ 1000) :
    Calls Try.prog 34 #[.pointer (some ⟨g, 0, none⟩), .int .i64 k] w fun e w' => e = .returned (.bool true) ∧ w = w' := by
  have h1 : (k : Int) < (n : Int) := by omega
  go_enter Try.func34, Try.ntmps34
  go_wp2
  go_ret
  exact ⟨rfl, rfl⟩

/-- the struct of a validator, as a value -/
def VS.agg (v : VS) : Value := .agg #[.int .i64 v.owner, .int .i64 v.rate, .int .i64 v.tokens, .int .i64 v.shares, .int .i64 v.comm, .int .i64 v.outs, .bool v.jailed, .bool v.inset]

set_option maxHeartbeats 1000000 in
set_option maxRecDepth 100000 in
theorem sharesFor_0 (v : VS) (amount : Int) (w : World) (h0 : v.shares = 0) :
    Calls Try.prog 36 #[.agg #[.int .i64 v.owner, .int .i64 v.rate, .int .i64 v.tokens, .int .i64 v.shares, .int .i64 v.comm, .int .i64 v.outs, .bool v.jailed, .bool v.inset], .int .i64 amount] w fun e w' => e = .returned (.int .i64 amount) ∧ Below w.heap.size w w' := by
  have h1 : (v.shares == 0) = true := by simp [h0]
  have HB : Hid (∀ o, Below w.heap.size w (w.alloc o)) := fun o => (Below.refl _ _).alloc (Nat.le_refl _) o
  go_enter Try.func36, Try.ntmps36
  go_wp2
  go_ret
  exact ⟨rfl, HB.out _⟩
set_option maxHeartbeats 1000000 in
set_option maxRecDepth 100000 in
theorem joinError_0 (v : VS) (amount : Int) (w : World) (h0 : v.shares = 0) (h1 : 1 ≤ amount) (h2 : amount ≤ 1000000) :
    Calls Try.prog 35 #[.agg #[.int .i64 v.owner, .int .i64 v.rate, .int .i64 v.tokens, .int .i64 v.shares, .int .i64 v.comm, .int .i64 v.outs, .bool v.jailed, .bool v.inset], .int .i64 amount] w fun e w' => e = .returned (.int .i64 0) ∧ Below w.heap.size w w' := by
  have HB : Hid (∀ o, Below w.heap.size w (w.alloc o)) := fun o => (Below.refl _ _).alloc (Nat.le_refl _) o
  obtain ⟨vo, vr, vt, vs, vc, vou, vj, vi⟩ := v
  simp only at h0
  subst h0
  have HX : Hid (Has (w.alloc (.cells #[.int .i64 vo, .int .i64 vr, .int .i64 vt, .int .i64 0, .int .i64 vc, .int .i64 vou, .bool vj, .bool vi] 37)) w.heap.size 37 [.int .i64 vo, .int .i64 vr, .int .i64 vt, .int .i64 0, .int .i64 vc, .int .i64 vou, .bool vj, .bool vi]) := Has.newA w _ _
  go_enter Try.func35, Try.ntmps35
  go_wp2_with fail
  refine (sharesFor_0 ⟨vo, vr, vt, 0, vc, vou, vj, vi⟩ amount _ rfl).mono ?_
  rintro e w2 ⟨rfl, hb2⟩
  have hX2 := HX.out.below hb2 HX.out.lt
  have y3 : w2.cell? ⟨w.heap.size, 3, none⟩ = some (.int .i64 0) := hX2.cell 3
  have HF : Hid (Below w.heap.size w w2) := (HB.out _).trans (hb2.mono (by simp))
  clear hb2 hX2 HX
  go_wp2
  go_ret
  exact ⟨rfl, HF.out⟩

/-- the eight cells of a validator -/
theorem PE.val8 {B0 : Nat} {W0 : World} {w : World} {g n cap : Nat} {a : Option Addr} {c : LC} {sh : List Int} {bv ev : Value} {vals : List VS} {ents : List ES} (h : PE B0 W0 w g c sh bv (.slice a n cap) ev vals ents) (hn : n = vals.length) {k : Nat} (hk : k < vals.length) :
    ∃ gv, a = some ⟨gv, 0, none⟩ ∧ (∀ i, i < 8 → w.cell? ⟨gv, k * 8 + i, none⟩ = vals[k].cells[i]?) ∧ (∀ j, w.frozen? ⟨gv, j, none⟩ = false) := by
  subst hn
  obtain ⟨gv, rfl, _⟩ := ownsRow_some h.v (by omega)
  exact ⟨gv, rfl, fun i hi => by rw [h.v.cellAt (k * 8 + i) (by omega), vrow_at vals k hk i hi], fun j => h.v.frozenAt j⟩

set_option maxHeartbeats 2000000 in
set_option maxRecDepth 100000 in
theorem kcharge {B0 : Nat} {W0 : World} (g : Nat) (c : LC) (sh : List Int) (bv vv ev : Value) (vals : List VS) (ents : List ES) (k : Nat) (w : World) (h : PE B0 W0 w g c sh bv vv ev vals ents) (hl : c.bal.length ≤ 1000) (hk : k < c.bal.length) (x : Int) (hx : c.bal.getD k 0 = x) (hx0 : c.fee ≤ x) (hx1 : x ≤ 1000000000) (hf0 : 0 ≤ c.fee) (hs0 : 0 ≤ c.fees) (hs1 : c.fees ≤ 1000000000) :
    Calls Try.prog 15 #[.pointer (some ⟨g, 0, none⟩), .int .i64 k] w fun e w' => e = .returned (.int .i64 0) ∧ PE B0 W0 w' g { setB c k (x - c.fee) with fees := c.fees + c.fee } sh bv vv ev vals ents := by
  obtain ⟨ba, bc, rfl⟩ := ownsRow_slice h.b
  obtain ⟨gb, rfl, _⟩ := ownsRow_some h.b (by omega)
  have c4 : w.cell? ⟨g, 4, none⟩ = some (.slice (some ⟨gb, 0, none⟩) c.bal.length bc) := h.L.cell 4
  have c2 : w.cell? ⟨g, 2, none⟩ = some (.int .i64 c.fee) := h.L.cell 2
  have c5 : w.cell? ⟨g, 5, none⟩ = some (.int .i64 c.fees) := h.L.cell 5
  have f5 := h.L.frozen 5
  have hgne : g ≠ gb := fun e => Has.apart h.L h.b (by decide) (by rw [e]; rfl)
  have hgne' : gb ≠ g := fun e => hgne e.symm
  have cb : w.cell? ⟨gb, k, none⟩ = some (.int .i64 x) := by
    rw [h.b.cellAt k (by omega), ← hx]; simp [ints, hk]
  have fb := h.b.frozenAt k
  have HF : Hid (PE B0 W0 ((w.setCell ⟨gb, k, none⟩ (.int .i64 (x - c.fee))).setCell ⟨g, 5, none⟩ (.int .i64 (c.fees + c.fee))) g { setB c k (x - c.fee) with fees := c.fees + c.fee } sh (.slice (some ⟨gb, 0, none⟩) c.bal.length bc) vv ev vals ents) :=
    (h.setBal rfl k (x - c.fee)).setHead (c' := { setB c k (x - c.fee) with fees := c.fees + c.fee }) 5 (.int .i64 (c.fees + c.fee)) rfl rfl
  clear h
  go_enter Try.func15, Try.ntmps15
  go_wp2_with (go_at_call 33; refine (kacc_any g c.bal.length k _ _ _ c4 hk hl).mono ?_; rintro e w' ⟨rfl, rfl⟩)
  go_quiet (fail)
  go_wp2
  go_region
  go_wp2
  go_region
  go_wp2
  go_ret
  exact ⟨rfl, HF.out.eta rfl rfl rfl rfl⟩
end Go.Proofs.Ytenjjneobkodbaa
