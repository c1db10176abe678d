import Derived.Test.YtohjjgefklhmaaaGreatDoorGOk6M
namespace Go.Proofs.YtohjjgefklhmaaaGreatDoor
open Go.ChangeShapes Go.WideShapes Go.ChangeAt Go.RowKit
set_option linter.unusedVariables false

/-! ### Slash -/
def slErrF (x : EC) (val hgt p : Int) : Int := if inB val x.vals.length = false then 3 else if hgt < 0 ∨ x.height < hgt then 12 else if p < 1 ∨ 100 < p then 13 else 0
/-- what is lost of an amount -/
def lostF (a p : Int) : Int := a * p / 100
theorem lostF_bd {a p : Int} (a0 : 0 ≤ a) (p0 : 0 ≤ p) (p1 : p ≤ 100) : 0 ≤ lostF a p ∧ lostF a p ≤ a := by
  unfold lostF
  have h1 : 0 ≤ a * p := Int.mul_nonneg a0 p0
  have h2 : a * p ≤ a * 100 := Int.mul_le_mul_of_nonneg_left p1 a0
  omega
def slTokF (x : EC) (j : Nat) (p : Int) : EC := { x with pool := x.pool + lostF (x.val j).tokens p, vals := x.vals.modify j (fun v => { v with tokens := v.tokens - lostF (x.val j).tokens p }) }
def cutE (p : Int) (e : ES) : ES := { e with amount := e.amount - lostF e.amount p }
/-- the first k entries are looked at: the pool, the entries -/
def slLoop (x : EC) (j : Nat) (hgt p : Int) : Nat → Int × List ES
  | 0 => (x.pool, x.ents)
  | k + 1 => if (x.ents.getD k e0).val = j ∧ hgt ≤ (x.ents.getD k e0).made then ((slLoop x j hgt p k).1 + lostF (x.ents.getD k e0).amount p, (slLoop x j hgt p k).2.set k (cutE p (x.ents.getD k e0))) else slLoop x j hgt p k
def slEntF (x : EC) (j : Nat) (hgt p : Int) : EC := { x with pool := (slLoop x j hgt p x.ents.length).1, ents := (slLoop x j hgt p x.ents.length).2 }
def jailF (x : EC) (j : Nat) : EC := { x with vals := (x.vals.modify j (fun v => { v with jailed := true })).modify j (fun v => { v with inset := false }) }
def slashF (x : EC) (j : Nat) (hgt p : Int) : EC := jailF (slEntF (slTokF x j p) j hgt p) j
def slashR (x : EC) (val hgt p : Int) : Int × EC := if slErrF x val hgt p ≠ 0 then (slErrF x val hgt p, x) else (0, slashF x val.toNat hgt p)
theorem slErrF_ok {x : EC} {val hgt p : Int} (h : slErrF x val hgt p = 0) : ∃ j : Nat, val = j ∧ j < x.vals.length ∧ 0 ≤ hgt ∧ hgt ≤ x.height ∧ 1 ≤ p ∧ p ≤ 100 := by
  unfold slErrF at h
  split at h
  · cases h
  · rename_i h1
    obtain ⟨j, rfl, hj⟩ := inB_tt (show inB val x.vals.length = true by simpa using h1)
    split at h
    · cases h
    · split at h
      · cases h
      · exact ⟨j, rfl, hj, by omega, by omega, by omega, by omega⟩
theorem slLoop_len (x : EC) (j : Nat) (hgt p : Int) (k : Nat) : (slLoop x j hgt p k).2.length = x.ents.length := by
  induction k with
  | zero => rfl
  | succ k ih => unfold slLoop; split <;> simp [ih]
theorem slLoop_at (x : EC) (j : Nat) (hgt p : Int) (k i : Nat) (hi : k ≤ i) : (slLoop x j hgt p k).2.getD i e0 = x.ents.getD i e0 := by
  induction k with
  | zero => rfl
  | succ k ih =>
    unfold slLoop
    split
    · simp only [List.getD]
      rw [List.getElem?_set_ne (by omega)]
      exact ih (by omega)
    · exact ih (by omega)
theorem slLoop_pool (x : EC) (j : Nat) (hgt p : Int) (p0 : 0 ≤ p) (p1 : p ≤ 100) (ha : ∀ e, e ∈ x.ents → 0 ≤ e.amount) (k : Nat) (hk : k ≤ x.ents.length) : x.pool ≤ (slLoop x j hgt p k).1 ∧ (slLoop x j hgt p k).1 + sumI ((slLoop x j hgt p k).2.map (·.amount)) = x.pool + sumI (x.ents.map (·.amount)) := by
  induction k with
  | zero => exact ⟨Int.le_refl _, rfl⟩
  | succ k ih =>
    obtain ⟨i1, i2⟩ := ih (by omega)
    have hlt : k < x.ents.length := by omega
    have egd : x.ents.getD k e0 = x.ents[k] := by simp [hlt]
    have hat := slLoop_at x j hgt p k k (Nat.le_refl _)
    have hln := slLoop_len x j hgt p k
    unfold slLoop
    split
    · rw [egd] at hat ⊢
      obtain ⟨l0, l1⟩ := lostF_bd (ha _ (List.getElem_mem hlt)) p0 p1
      have e1 : ((slLoop x j hgt p k).2.set k (cutE p x.ents[k])).map (·.amount) = ((slLoop x j hgt p k).2.map (·.amount)).set k (x.ents[k].amount - lostF x.ents[k].amount p) := by
        rw [List.map_set]; rfl
      have e2 : ((slLoop x j hgt p k).2.map (·.amount)).getD k 0 = x.ents[k].amount := by
        have hk' : k < (slLoop x j hgt p k).2.length := by omega
        rw [← hat]
        simp [hk']
      have e3 := sumI_set ((slLoop x j hgt p k).2.map (·.amount)) k (x.ents[k].amount - lostF x.ents[k].amount p) (by simpa using (show k < (slLoop x j hgt p k).2.length by omega))
      rw [e2] at e3
      dsimp only
      rw [e1, e3]
      omega
    · exact ⟨i1, i2⟩
theorem slLoop_nn (x : EC) (j : Nat) (hgt p : Int) (p0 : 0 ≤ p) (p1 : p ≤ 100) (n : Nat) (h : Int) (ha : ∀ e, e ∈ x.ents → EOkE n h e) (k : Nat) (hk : k ≤ x.ents.length) : ∀ e, e ∈ (slLoop x j hgt p k).2 → EOkE n h e := by
  induction k with
  | zero => exact ha
  | succ k ih =>
    have hlt : k < x.ents.length := by omega
    have egd : x.ents.getD k e0 = x.ents[k] := by simp [hlt]
    unfold slLoop
    split
    · intro e he
      rw [egd] at he
      have hm := List.mem_or_eq_of_mem_set he
      rcases hm with hm | rfl
      · exact ih (by omega) e hm
      · have h0 := ha _ (List.getElem_mem hlt)
        obtain ⟨l0, l1⟩ := lostF_bd h0.a0 p0 p1
        exact ⟨h0.w, h0.m0, h0.m1, by show 0 ≤ x.ents[k].amount - lostF x.ents[k].amount p; omega⟩
    · exact ih (by omega)

theorem erow_set (l : List ES) (k : Nat) (hk : k < l.length) (i : Nat) (u : Value) (x : ES) (hx : l[k].cells.set i u = x.cells) (hi : i < 4) : (erow l).set (k * 4 + i) u = erow (l.set k x) := by
  induction l generalizing k with
  | nil => simp at hk
  | cons v l ih =>
    cases k with
    | zero =>
      simp only [List.getElem_cons_zero] at hx
      simp only [Nat.zero_mul, Nat.zero_add, erow, List.set_cons_zero]
      rw [List.set_append_left _ _ (by simpa [ES.cells] using hi), hx]
    | succ k =>
      simp only [List.getElem_cons_succ] at hx
      simp only [erow, List.set_cons_succ]
      rw [List.set_append_right _ _ (by simp [ES.cells]; omega)]
      have e : (k + 1) * 4 + i - v.cells.length = k * 4 + i := by simp [ES.cells]; omega
      rw [e, ih k (by simpa using hk) hx]
theorem PE.setEnt {S : Nat → Prop} {W0 w : World} {g : Nat} {x : EC} {bv vv : Value} {ge n cap : Nat} {ents' : List ES} (h : PE S W0 w g x bv vv (.slice (some ⟨ge, 0, none⟩) n cap)) (hn : n = x.ents.length) (i : Nat) (u : Value) (he : (erow x.ents).set i u = erow ents') (hl : ents'.length = x.ents.length) : PE S W0 (w.setCell ⟨ge, i, none⟩ u) g { x with ents := ents' } bv vv (.slice (some ⟨ge, 0, none⟩) n cap) := by
  subst hn
  have hne : g ≠ ge := fun e => Has.apart h.L h.e (by decide) (by rw [e]; rfl)
  refine ⟨h.fr.setCell (h.se ge rfl) _, h.hS, h.hg, h.L.other _ _ hne, h.ht, ownsRow_setCell h.b _ _ (row_ne h.b h.e (by decide)), ownsRow_setCell h.v _ _ (row_ne h.v h.e (by decide)), ?_, h.sb, h.sv, h.se⟩
  have := (h.e.stored i u).1
  rw [he] at this
  simp only [hl]; exact this

section
variable {S : Nat → Prop} {W0 : World} (g : Nat) (x : EC) (bv vv ev : Value) (w : World) (h : PE S W0 w g x bv vv ev)
include h
set_option maxHeartbeats 2000000 in
set_option maxRecDepth 100000 in
theorem gslashError (val hgt p : Int) (hv : x.vals.length ≤ 5) :
    Calls Tryz.prog 119 #[.pointer (some ⟨g, 0, none⟩), .int .i64 val, .int .i64 hgt, .int .i64 p] w fun e w' => e = .returned (.int .i64 (slErrF x val hgt p)) ∧ w = w' := by
  obtain ⟨R, hR⟩ : ∃ R, slErrF x val hgt p = R := ⟨_, rfl⟩
  rw [hR]
  unfold slErrF at hR
  obtain ⟨va, vc, rfl⟩ := ownsRow_slice h.v
  have c7 : w.cell? ⟨g, 7, none⟩ = some (.slice va x.vals.length vc) := h.L.cell 7
  have c3 : w.cell? ⟨g, 3, none⟩ = some (.int .i64 x.height) := h.L.cell 3
  clear h
  by_cases h1 : inB val x.vals.length = true
  case neg =>
    have h1' : inB val x.vals.length = false := by simpa using h1
    rw [if_pos h1'] at hR
    have HR : Hid ((3 : Int) = R) := hR
    clear hR h1
    go_enter Tryz.func119, Tryz.ntmps119
    go_wp2_with (go_at_call 144; refine (gval g x.vals.length val _ _ _ c7 (by omega)).mono ?_; rintro e w' ⟨rfl, rfl⟩; rw [h1'])
    go_ret
    exact ⟨ret_int HR.out, rfl⟩
  rw [if_neg (by simp [h1])] at hR
  obtain ⟨j, rfl, hj⟩ := inB_tt h1
  clear h1
  generalize x.height = xh at *
  by_cases h2 : hgt < 0
  · rw [if_pos (Or.inl h2)] at hR
    have HR : Hid ((12 : Int) = R) := hR
    clear hR
    go_enter Tryz.func119, Tryz.ntmps119
    go_wp2_with (go_at_call 144; refine (kval_any g x.vals.length j _ _ _ c7 hj (by omega)).mono ?_; rintro e w' ⟨rfl, rfl⟩)
    go_ret
    exact ⟨ret_int HR.out, rfl⟩
  by_cases h3 : xh < hgt
  · rw [if_pos (Or.inr h3)] at hR
    have HR : Hid ((12 : Int) = R) := hR
    clear hR
    go_enter Tryz.func119, Tryz.ntmps119
    go_wp2_with (go_at_call 144; refine (kval_any g x.vals.length j _ _ _ c7 hj (by omega)).mono ?_; rintro e w' ⟨rfl, rfl⟩)
    go_ret
    exact ⟨ret_int HR.out, rfl⟩
  rw [if_neg (by omega)] at hR
  by_cases h4 : p < 1
  · rw [if_pos (Or.inl h4)] at hR
    have HR : Hid ((13 : Int) = R) := hR
    clear hR
    go_enter Tryz.func119, Tryz.ntmps119
    go_wp2_with (go_at_call 144; refine (kval_any g x.vals.length j _ _ _ c7 hj (by omega)).mono ?_; rintro e w' ⟨rfl, rfl⟩)
    go_ret
    exact ⟨ret_int HR.out, rfl⟩
  by_cases h5 : 100 < p
  · rw [if_pos (Or.inr h5)] at hR
    have HR : Hid ((13 : Int) = R) := hR
    clear hR
    go_enter Tryz.func119, Tryz.ntmps119
    go_wp2_with (go_at_call 144; refine (kval_any g x.vals.length j _ _ _ c7 hj (by omega)).mono ?_; rintro e w' ⟨rfl, rfl⟩)
    go_ret
    exact ⟨ret_int HR.out, rfl⟩
  rw [if_neg (by omega)] at hR
  have HR : Hid ((0 : Int) = R) := hR
  clear hR
  go_enter Tryz.func119, Tryz.ntmps119
  go_wp2_with (go_at_call 144; refine (kval_any g x.vals.length j _ _ _ c7 hj (by omega)).mono ?_; rintro e w' ⟨rfl, rfl⟩)
  go_ret
  exact ⟨ret_int HR.out, rfl⟩

set_option maxHeartbeats 2000000 in
set_option maxRecDepth 100000 in
theorem gslashTokens (j : Nat) (p : Int) (hv : x.vals.length ≤ 5) (hj : j < x.vals.length) (t0 : 0 ≤ (x.val j).tokens) (t1 : (x.val j).tokens ≤ 1000000) (p0 : 0 ≤ p) (p1 : p ≤ 100) (q0 : 0 ≤ x.pool) (q1 : x.pool ≤ 1000000000) :
    Calls Tryz.prog 120 #[.pointer (some ⟨g, 0, none⟩), .int .i64 j, .int .i64 p] w fun e w' => e = .returned (.tuple #[]) ∧ PE S W0 w' g (slTokF x j p) bv vv ev := by
  obtain ⟨va, vc, rfl⟩ := ownsRow_slice h.v
  obtain ⟨gv, rfl, hcell, hfr⟩ := h.val8 rfl hj
  have c6 : w.cell? ⟨g, 6, none⟩ = some (.int .i64 x.pool) := h.L.cell 6
  have f6 := h.L.frozen 6
  have c7 : w.cell? ⟨g, 7, none⟩ = some (.slice (some ⟨gv, 0, none⟩) x.vals.length vc) := h.L.cell 7
  have y2 := hcell 2 (by omega)
  have f2 := hfr (j * 8 + 2)
  rw [x.val_eq hj] at y2
  simp only [VS.cells, List.getElem?_cons_succ, List.getElem?_cons_zero] at y2
  have n3 : g ≠ gv := fun e => Has.apart h.L h.v (by decide) (by rw [e]; rfl)
  have n4 : gv ≠ g := fun e => n3 e.symm
  obtain ⟨l0, l1⟩ := lostF_bd t0 p0 p1
  have m0 : 0 ≤ (x.val j).tokens * p := Int.mul_nonneg t0 p0
  have m1 : (x.val j).tokens * p ≤ (x.val j).tokens * 100 := Int.mul_le_mul_of_nonneg_left p1 t0
  have m2 : (x.val j).tokens * p ≤ 100000000 := by omega
  have hP1 := h.setVal rfl (j * 8 + 2) (.int .i64 ((x.val j).tokens - lostF (x.val j).tokens p)) (vals' := x.vals.modify j (fun v => { v with tokens := v.tokens - lostF (x.val j).tokens p })) (vrow_mod x.vals j hj 2 _ _ (by rw [x.val_eq hj]; rfl) (by omega)) (by simp)
  have hP2 := hP1.setHead (x' := slTokF x j p) 6 (.int .i64 (x.pool + lostF (x.val j).tokens p)) rfl rfl rfl rfl rfl
  have HF : Hid (PE S W0 ((w.setCell ⟨gv, j * 8 + 2, none⟩ (.int .i64 ((x.val j).tokens - lostF (x.val j).tokens p))).setCell ⟨g, 6, none⟩ (.int .i64 (x.pool + lostF (x.val j).tokens p))) g (slTokF x j p) bv (.slice (some ⟨gv, 0, none⟩) x.vals.length vc) ev) := hP2
  clear h hP1 hP2 hcell hfr
  generalize slTokF x j p = xF at *
  unfold lostF at *
  generalize (x.val j).tokens = tk at *
  generalize x.pool = po at *
  go_enter Tryz.func120, Tryz.ntmps120
  go_wp2
  all_goals
    try go_region
    try go_wp2
    try go_region
    try go_wp2
    go_end0
    exact ⟨rfl, HF.out.eta rfl rfl rfl rfl⟩

set_option maxHeartbeats 2000000 in
set_option maxRecDepth 100000 in
theorem gjail (j : Nat) (hv : x.vals.length ≤ 5) (hj : j < x.vals.length) :
    Calls Tryz.prog 122 #[.pointer (some ⟨g, 0, none⟩), .int .i64 j] w fun e w' => e = .returned (.tuple #[]) ∧ PE S W0 w' g (jailF x j) bv vv ev := by
  obtain ⟨va, vc, rfl⟩ := ownsRow_slice h.v
  obtain ⟨gv, rfl, hcell, hfr⟩ := h.val8 rfl hj
  have c7 : w.cell? ⟨g, 7, none⟩ = some (.slice (some ⟨gv, 0, none⟩) x.vals.length vc) := h.L.cell 7
  have y6 := hcell 6 (by omega)
  have y7 := hcell 7 (by omega)
  have f6 := hfr (j * 8 + 6)
  have f7 := hfr (j * 8 + 7)
  rw [x.val_eq hj] at y6 y7
  simp only [VS.cells, List.getElem?_cons_succ, List.getElem?_cons_zero] at y6 y7
  have n3 : g ≠ gv := fun e => Has.apart h.L h.v (by decide) (by rw [e]; rfl)
  have n4 : gv ≠ g := fun e => n3 e.symm
  have hP1 := h.setVal rfl (j * 8 + 6) (.bool true) (vals' := x.vals.modify j (fun v => { v with jailed := true })) (vrow_mod x.vals j hj 6 _ _ (by simp [VS.cells]) (by omega)) (by simp)
  have hj2 : j < (x.vals.modify j (fun v => { v with jailed := true })).length := by simpa using hj
  have hP2 := hP1.setVal (by simp) (j * 8 + 7) (.bool false) (vals' := (x.vals.modify j (fun v => { v with jailed := true })).modify j (fun v => { v with inset := false })) (vrow_mod _ j hj2 7 _ _ (by simp [VS.cells]) (by omega)) (by simp)
  have HF : Hid (PE S W0 ((w.setCell ⟨gv, j * 8 + 6, none⟩ (.bool true)).setCell ⟨gv, j * 8 + 7, none⟩ (.bool false)) g (jailF x j) bv (.slice (some ⟨gv, 0, none⟩) x.vals.length vc) ev) := hP2
  clear h hP1 hP2 hcell hfr hj2
  generalize (x.val j).jailed = jl at *
  generalize (x.val j).inset = iset at *
  go_enter Tryz.func122, Tryz.ntmps122
  go_wp2
  all_goals
    try go_region
    try go_wp2
    try go_region
    try go_wp2
    go_end0
    exact ⟨rfl, HF.out.eta rfl rfl rfl rfl⟩
end
end Go.Proofs.YtohjjgefklhmaaaGreatDoor

namespace Go.Proofs.YtohjjgefklhmaaaGreatDoor
open Go.ChangeShapes Go.WideShapes Go.ChangeAt Go.RowKit
set_option linter.unusedVariables false

/-- what keeps a slash of the entries from wrapping -/
structure SlOk (x : EC) (j : Nat) (hgt p : Int) : Prop where
  l : x.ents.length ≤ 100000
  p0 : 0 ≤ p
  p1 : p ≤ 100
  e : ∀ k (hk : k < x.ents.length), 0 ≤ x.ents[k].amount ∧ x.ents[k].amount ≤ 1000000
  q : ∀ k, k ≤ x.ents.length → 0 ≤ (slLoop x j hgt p k).1 ∧ (slLoop x j hgt p k).1 ≤ 1000000000

set_option maxHeartbeats 4000000 in
set_option maxRecDepth 100000 in
theorem gslashEntries {S : Nat → Prop} {W0 : World} (g : Nat) (x : EC) (bv vv ev : Value) (w : World) (h : PE S W0 w g x bv vv ev) (j : Nat) (hgt p : Int) (ok : SlOk x j hgt p) :
    Calls Tryz.prog 121 #[.pointer (some ⟨g, 0, none⟩), .int .i64 j, .int .i64 hgt, .int .i64 p] w fun e w' => e = .returned (.tuple #[]) ∧ PE S W0 w' g (slEntF x j hgt p) bv vv ev := by
  obtain ⟨ea, ec, rfl⟩ := ownsRow_slice h.e
  have c73 : w.cell? ⟨g, 73, none⟩ = some (.slice ea x.ents.length ec) := h.evAt
  have hel := ok.l
  have HP : Hid (PE S W0 w g x bv vv (.slice ea x.ents.length ec)) := h
  have HK : Hid (SlOk x j hgt p) := ok
  have HQ : Hid (slEntF x j hgt p = { x with pool := (slLoop x j hgt p x.ents.length).1, ents := (slLoop x j hgt p x.ents.length).2 }) := rfl
  clear h ok
  go_enter Tryz.func121, Tryz.ntmps121
  go_wp2
  go_loopw [15] (fun i wr => ∃ k : Nat, k ≤ x.ents.length ∧ i = .int .i64 k ∧ PE S W0 wr g { x with pool := (slLoop x j hgt p k).1, ents := (slLoop x j hgt p k).2 } bv vv (.slice ea x.ents.length ec)) (fun i _ => x.ents.length - (intOf i).toNat)
  case atStart => exact ⟨0, Nat.zero_le _, rfl, HP.out⟩
  case round =>
    clear HP c73
    obtain ⟨k, hk, rfl, hP⟩ := hrel
    by_cases hlt : k < x.ents.length
    · obtain ⟨am0, am1⟩ := HK.out.e k hlt
      obtain ⟨q0, q1⟩ := HK.out.q k hk
      have p0 := HK.out.p0
      have p1 := HK.out.p1
      have hln := slLoop_len x j hgt p k
      have egd : x.ents.getD k e0 = x.ents[k] := by simp [hlt]
      have hkl : k < (slLoop x j hgt p k).2.length := by omega
      have hat : (slLoop x j hgt p k).2[k] = x.ents[k] := by
        have := slLoop_at x j hgt p k k (Nat.le_refl _)
        rw [egd] at this
        rw [← this]
        simp [hkl]
      have hE : wr.ownsRow 0 125 4 (.slice ea x.ents.length ec) (slLoop x j hgt p k).2.length (erow (slLoop x j hgt p k).2) := hP.e
      rw [hln] at hE
      obtain ⟨ge, rfl, _⟩ := ownsRow_some hE (by omega)
      have c6 : wr.cell? ⟨g, 6, none⟩ = some (.int .i64 (slLoop x j hgt p k).1) := hP.L.cell 6
      have f6 := hP.L.frozen 6
      have c73 : wr.cell? ⟨g, 73, none⟩ = some (.slice (some ⟨ge, 0, none⟩) x.ents.length ec) := hP.evAt
      have z1 : wr.cell? ⟨ge, k * 4 + 1, none⟩ = some (.int .i64 x.ents[k].val) := by rw [← hat]; exact (hE.cellAt (k * 4 + 1) (by omega)).trans (erow_at _ k hkl 1 (by omega))
      have z2 : wr.cell? ⟨ge, k * 4 + 2, none⟩ = some (.int .i64 x.ents[k].made) := by rw [← hat]; exact (hE.cellAt (k * 4 + 2) (by omega)).trans (erow_at _ k hkl 2 (by omega))
      have z3 : wr.cell? ⟨ge, k * 4 + 3, none⟩ = some (.int .i64 x.ents[k].amount) := by rw [← hat]; exact (hE.cellAt (k * 4 + 3) (by omega)).trans (erow_at _ k hkl 3 (by omega))
      have f3 := hE.frozenAt (k * 4 + 3)
      have n1 : g ≠ ge := fun e => Has.apart hP.L hP.e (by decide) (by rw [e]; rfl)
      have n2 : ge ≠ g := fun e => n1 e.symm
      by_cases hm : x.ents[k].val = j ∧ hgt ≤ x.ents[k].made
      · have HL : Hid (slLoop x j hgt p (k + 1) = ((slLoop x j hgt p k).1 + lostF x.ents[k].amount p, (slLoop x j hgt p k).2.set k (cutE p x.ents[k]))) := by
          show (if (x.ents.getD k e0).val = j ∧ hgt ≤ (x.ents.getD k e0).made then _ else _) = _
          rw [egd, if_pos hm]
        obtain ⟨hm1, hm2⟩ := hm
        obtain ⟨l0, l1⟩ := lostF_bd am0 p0 p1
        have m0 : 0 ≤ x.ents[k].amount * p := Int.mul_nonneg am0 p0
        have m1 : x.ents[k].amount * p ≤ x.ents[k].amount * 100 := Int.mul_le_mul_of_nonneg_left p1 am0
        have m2 : x.ents[k].amount * p ≤ 100000000 := by omega
        have hPs := (hP.setEnt hln.symm (k * 4 + 3) (.int .i64 (x.ents[k].amount - lostF x.ents[k].amount p)) (ents' := (slLoop x j hgt p k).2.set k (cutE p x.ents[k])) (erow_set _ k hkl 3 _ _ (by rw [hat]; rfl) (by omega)) (by simp)).setHead (x' := { x with pool := (slLoop x j hgt p k).1 + lostF x.ents[k].amount p, ents := (slLoop x j hgt p k).2.set k (cutE p x.ents[k]) }) 6 (.int .i64 ((slLoop x j hgt p k).1 + lostF x.ents[k].amount p)) rfl rfl rfl rfl rfl
        have HPs : Hid (PE S W0 ((wr.setCell ⟨ge, k * 4 + 3, none⟩ (.int .i64 (x.ents[k].amount - lostF x.ents[k].amount p))).setCell ⟨g, 6, none⟩ (.int .i64 ((slLoop x j hgt p k).1 + lostF x.ents[k].amount p))) g { x with pool := (slLoop x j hgt p (k + 1)).1, ents := (slLoop x j hgt p (k + 1)).2 } bv vv (.slice (some ⟨ge, 0, none⟩) x.ents.length ec)) := by
          rw [HL.out]; exact hPs
        rw [hm1] at z1
        clear hP hPs HQ HK hE egd hat HL hln hkl hm1
        generalize (slLoop x j hgt p k).1 = po at *
        unfold lostF at *
        generalize x.ents[k].made = emd at *
        generalize x.ents[k].amount = eam at *
        go_wp2
        all_goals
          try go_region
          try go_wp2
          try go_region
          try go_wp2
        refine And.intro ?_ ?_
        · first
            | exact ⟨k + 1, by omega, by go_num, HPs.out.eta rfl rfl rfl rfl⟩
            | ((repeat apply Exists.intro); exact ⟨⟨k + 1, by omega, by go_num, HPs.out.eta rfl rfl rfl rfl⟩, rfl⟩)
        · simp [intOf]; omega
      · have HL : Hid (slLoop x j hgt p (k + 1) = slLoop x j hgt p k) := by
          show (if (x.ents.getD k e0).val = j ∧ hgt ≤ (x.ents.getD k e0).made then _ else _) = _
          rw [egd, if_neg hm]
        have HPs : Hid (PE S W0 wr g { x with pool := (slLoop x j hgt p (k + 1)).1, ents := (slLoop x j hgt p (k + 1)).2 } bv vv (.slice (some ⟨ge, 0, none⟩) x.ents.length ec)) := by
          rw [HL.out]; exact hP
        clear hP HQ HK hE egd hat HL hln hkl
        generalize x.ents[k].made = emd at *
        generalize x.ents[k].val = evl at *
        by_cases hv : evl = j
        · have hm2 : emd < hgt := by
            have : ¬ hgt ≤ emd := fun hh => hm ⟨hv, hh⟩
            omega
          rw [hv] at z1
          clear hm hv
          go_wp2
          refine And.intro ?_ ?_
          · first
              | exact ⟨k + 1, by omega, by go_num, HPs.out.eta rfl rfl rfl rfl⟩
              | ((repeat apply Exists.intro); exact ⟨⟨k + 1, by omega, by go_num, HPs.out.eta rfl rfl rfl rfl⟩, rfl⟩)
          · simp [intOf]; omega
        · have hv' : (evl == (j : Int)) = false := by simp [hv]
          clear hm hv
          go_wp2
          refine And.intro ?_ ?_
          · first
              | exact ⟨k + 1, by omega, by go_num, HPs.out.eta rfl rfl rfl rfl⟩
              | ((repeat apply Exists.intro); exact ⟨⟨k + 1, by omega, by go_num, HPs.out.eta rfl rfl rfl rfl⟩, rfl⟩)
          · simp [intOf]; omega
    · have ek : k = x.ents.length := by omega
      subst ek
      have HF : Hid (PE S W0 wr g (slEntF x j hgt p) bv vv (.slice ea x.ents.length ec)) := by
        rw [HQ.out]; exact hP
      clear hP HQ HK
      go_wp2
      go_end0
      exact ⟨rfl, HF.out⟩

section
variable {S : Nat → Prop} {W0 : World} (g : Nat) (x : EC) (bv vv ev : Value) (w : World) (h : PE S W0 w g x bv vv ev)
include h
set_option maxHeartbeats 2000000 in
set_option maxRecDepth 100000 in
theorem gSlash (val hgt p : Int) (hv : x.vals.length ≤ 5) (hV : ∀ j, j < x.vals.length → 0 ≤ (x.val j).tokens ∧ (x.val j).tokens ≤ 1000000) (q0 : 0 ≤ x.pool) (q1 : x.pool ≤ 1000000) (hS : ∀ j : Nat, slErrF x j hgt p = 0 → SlOk (slTokF x j p) j hgt p) :
    Calls Tryz.prog 61 #[.pointer (some ⟨g, 0, none⟩), .int .i64 val, .int .i64 hgt, .int .i64 p] w fun e w' => e = .returned (.int .i64 (slashR x val hgt p).1) ∧ PE S W0 w' g (slashR x val hgt p).2 bv vv ev := by
  unfold slashR
  have HE : Hid (Calls Tryz.prog 119 #[.pointer (some ⟨g, 0, none⟩), .int .i64 val, .int .i64 hgt, .int .i64 p] w fun e w' => e = .returned (.int .i64 (slErrF x val hgt p)) ∧ w = w') := gslashError g x bv vv ev w h val hgt p hv
  by_cases he : slErrF x val hgt p = 0
  case neg =>
    rw [if_pos he]
    have he' : (slErrF x val hgt p == 0) = false := by simp [he]
    have HP : Hid (PE S W0 w g x bv vv ev) := h
    clear h he hS hV
    generalize slErrF x val hgt p = er at *
    go_enter Tryz.func61, Tryz.ntmps61
    go_wp2_with fail
    refine HE.out.mono ?_
    rintro e w1 ⟨rfl, rfl⟩
    clear HE
    go_wp2
    go_ret
    exact ⟨rfl, HP.out⟩
  rw [if_neg (by simp [he])]
  obtain ⟨j, rfl, hj, g0, g1, p0, p1⟩ := slErrF_ok he
  rw [Int.toNat_natCast]
  rw [he] at HE
  have HT : Hid (Calls Tryz.prog 120 #[.pointer (some ⟨g, 0, none⟩), .int .i64 j, .int .i64 p] w fun e w' => e = .returned (.tuple #[]) ∧ PE S W0 w' g (slTokF x j p) bv vv ev) := gslashTokens g x bv vv ev w h j p hv hj (hV j hj).1 (hV j hj).2 (by omega) p1 q0 (by omega)
  have HN : Hid (∀ w1, PE S W0 w1 g (slTokF x j p) bv vv ev → Calls Tryz.prog 121 #[.pointer (some ⟨g, 0, none⟩), .int .i64 j, .int .i64 hgt, .int .i64 p] w1 fun e w' => e = .returned (.tuple #[]) ∧ PE S W0 w' g (slEntF (slTokF x j p) j hgt p) bv vv ev) := fun w1 h1 => gslashEntries g _ _ _ _ w1 h1 j hgt p (hS j he)
  have HJ : Hid (∀ w1, PE S W0 w1 g (slEntF (slTokF x j p) j hgt p) bv vv ev → Calls Tryz.prog 122 #[.pointer (some ⟨g, 0, none⟩), .int .i64 j] w1 fun e w' => e = .returned (.tuple #[]) ∧ PE S W0 w' g (slashF x j hgt p) bv vv ev) := fun w1 h1 => gjail g _ _ _ _ w1 h1 j (by simpa [slEntF, slTokF] using hv) (by simpa [slEntF, slTokF] using hj)
  clear h he hS hV
  generalize slashF x j hgt p = x4 at *
  generalize slEntF (slTokF x j p) j hgt p = x3 at *
  generalize slTokF x j p = x2 at *
  go_enter Tryz.func61, Tryz.ntmps61
  go_wp2_with fail
  refine HE.out.mono ?_
  rintro e w1 ⟨rfl, rfl⟩
  clear HE
  go_wp2_with fail
  refine HT.out.mono ?_
  rintro e w1 ⟨rfl, hP⟩
  have HP1 : Hid (PE S W0 w1 g x2 bv vv ev) := hP
  clear HT hP
  go_wp2_with fail
  refine (HN.out _ HP1.out).mono ?_
  rintro e w2 ⟨rfl, hP⟩
  have HP2 : Hid (PE S W0 w2 g x3 bv vv ev) := hP
  clear HN hP HP1
  go_wp2_with fail
  refine (HJ.out _ HP2.out).mono ?_
  rintro e w3 ⟨rfl, hP⟩
  have HP3 : Hid (PE S W0 w3 g x4 bv vv ev) := hP
  clear HJ hP HP2
  go_wp2
  go_ret
  exact ⟨rfl, HP3.out⟩
end

/-! ### Free -/
def freeErrF (x : EC) (who val : Int) : Int := if ownErrF x who val ≠ 0 then ownErrF x who val else if (x.val val.toNat).jailed = true then 0 else 11
def outF (x : EC) (j : Nat) : EC := { x with vals := x.vals.modify j (fun v => { v with jailed := false }) }
def freeR (x : EC) (who val : Int) : Int × EC := msgR x who (fun y k => freeErrF y k val) (fun y _ => outF y val.toNat)
theorem freeErrF_ok {x : EC} {who val : Int} (h : freeErrF x who val = 0) : ∃ j : Nat, val = j ∧ j < x.vals.length ∧ (x.val j).owner = who ∧ (x.val j).jailed = true := by
  unfold freeErrF at h
  split at h
  · rename_i h1; exact (h1 h).elim
  · rename_i h1
    obtain ⟨j, rfl, hj, ho⟩ := ownErrF_ok (by simpa using h1)
    rw [Int.toNat_natCast] at h
    split at h
    · rename_i h2; exact ⟨j, rfl, hj, ho, h2⟩
    · cases h
section
variable {S : Nat → Prop} {W0 : World} (g : Nat) (x : EC) (bv vv ev : Value) (w : World) (h : PE S W0 w g x bv vv ev)
include h
set_option maxHeartbeats 2000000 in
set_option maxRecDepth 100000 in
theorem gfreeError (who val : Int) (hv : x.vals.length ≤ 5) :
    Calls Tryz.prog 123 #[.pointer (some ⟨g, 0, none⟩), .int .i64 who, .int .i64 val] w fun e w' => e = .returned (.int .i64 (freeErrF x who val)) ∧ w = w' := by
  have HO : Hid (Calls Tryz.prog 117 #[.pointer (some ⟨g, 0, none⟩), .int .i64 who, .int .i64 val] w fun e w' => e = .returned (.int .i64 (ownErrF x who val)) ∧ w = w') := gownerError g x bv vv ev w h who val hv
  unfold freeErrF
  by_cases ho : ownErrF x who val = 0
  case neg =>
    rw [if_pos ho]
    have ho' : (ownErrF x who val == 0) = false := by simp [ho]
    clear h ho
    generalize ownErrF x who val = oe at *
    go_enter Tryz.func123, Tryz.ntmps123
    go_wp2_with fail
    refine HO.out.mono ?_
    rintro e w1 ⟨rfl, rfl⟩
    clear HO
    go_wp2
    go_ret
    exact ⟨rfl, rfl⟩
  rw [if_neg (by simp [ho])]
  obtain ⟨j, rfl, hj, _⟩ := ownErrF_ok ho
  rw [ho] at HO
  rw [Int.toNat_natCast]
  obtain ⟨va, vc, rfl⟩ := ownsRow_slice h.v
  obtain ⟨gv, rfl, hcell, hfr⟩ := h.val8 rfl hj
  have c7 : w.cell? ⟨g, 7, none⟩ = some (.slice (some ⟨gv, 0, none⟩) x.vals.length vc) := h.L.cell 7
  have y6 := hcell 6 (by omega)
  rw [x.val_eq hj] at y6
  simp only [VS.cells, List.getElem?_cons_succ, List.getElem?_cons_zero] at y6
  clear h ho hcell hfr
  generalize (x.val j).jailed = jl at *
  cases jl
  · rw [if_neg (by simp)]
    go_enter Tryz.func123, Tryz.ntmps123
    go_wp2_with fail
    refine HO.out.mono ?_
    rintro e w1 ⟨rfl, rfl⟩
    clear HO
    go_wp2
    go_ret
    exact ⟨rfl, rfl⟩
  · rw [if_pos rfl]
    go_enter Tryz.func123, Tryz.ntmps123
    go_wp2_with fail
    refine HO.out.mono ?_
    rintro e w1 ⟨rfl, rfl⟩
    clear HO
    go_wp2
    go_ret
    exact ⟨rfl, rfl⟩
set_option maxHeartbeats 2000000 in
set_option maxRecDepth 100000 in
theorem eFree (k j : Nat) (ha : AccOk x) (hc : chErr x k = 0) (he : freeErrF (chargeFE x k) k j = 0) (hv : x.vals.length ≤ 5) (hj : j < x.vals.length) :
    Calls Tryz.prog 62 #[.pointer (some ⟨g, 0, none⟩), .int .i64 k, .int .i64 j] w fun e w' => e = .returned (.int .i64 0) ∧ PE S W0 w' g (outF (chargeFE x k) j) bv vv ev := by
  have HC : Hid (Calls Tryz.prog 105 #[.pointer (some ⟨g, 0, none⟩), .int .i64 k] w fun e w' => e = .returned (.int .i64 0) ∧ PE S W0 w' g (chargeFE x k) bv vv ev) := gcharge_yes g x bv vv ev w h k ha hc
  have HE : Hid (∀ w1, PE S W0 w1 g (chargeFE x k) bv vv ev → Calls Tryz.prog 123 #[.pointer (some ⟨g, 0, none⟩), .int .i64 k, .int .i64 j] w1 fun e w' => e = .returned (.int .i64 0) ∧ w1 = w') := fun w1 h1 => by
    have := gfreeError g _ _ _ _ w1 h1 k j hv
    rw [he] at this
    exact this
  have hj' : j < (chargeFE x k).vals.length := hj
  clear h he hc
  generalize chargeFE x k = x2 at *
  go_enter Tryz.func62, Tryz.ntmps62
  go_wp2_with fail
  refine HC.out.mono ?_
  rintro e w1 ⟨rfl, hP⟩
  have HP : Hid (PE S W0 w1 g x2 bv vv ev) := hP
  clear hP HC
  go_wp2_with fail
  refine (HE.out _ HP.out).mono ?_
  rintro e w2 ⟨rfl, rfl⟩
  clear HE
  have h := HP.out
  obtain ⟨va, vc, rfl⟩ := ownsRow_slice h.v
  obtain ⟨gv, rfl, hcell, hfr⟩ := h.val8 rfl hj'
  have c7 : w1.cell? ⟨g, 7, none⟩ = some (.slice (some ⟨gv, 0, none⟩) x2.vals.length vc) := h.L.cell 7
  have y6 := hcell 6 (by omega)
  have f6 := hfr (j * 8 + 6)
  rw [x2.val_eq hj'] at y6
  simp only [VS.cells, List.getElem?_cons_succ, List.getElem?_cons_zero] at y6
  have hP1 := h.setVal rfl (j * 8 + 6) (.bool false) (vals' := x2.vals.modify j (fun v => { v with jailed := false })) (vrow_mod x2.vals j hj' 6 _ _ (by simp [VS.cells]) (by omega)) (by simp)
  have HF : Hid (PE S W0 (w1.setCell ⟨gv, j * 8 + 6, none⟩ (.bool false)) g (outF x2 j) bv (.slice (some ⟨gv, 0, none⟩) x2.vals.length vc) ev) := hP1
  clear h hP1 hcell hfr HP
  generalize (x2.val j).jailed = jl at *
  go_wp2
  all_goals
    try go_region
    try go_wp2
    go_ret
    exact ⟨rfl, HF.out.eta rfl rfl rfl rfl⟩
end
end Go.Proofs.YtohjjgefklhmaaaGreatDoor
