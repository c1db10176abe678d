import Derived.Test.YtohjjgefklhmaaaGSlashM
namespace Go.Proofs.Ytohjjgefklhmaaa
open Go.ChangeShapes Go.WideShapes Go.ChangeAt Go.RowKit
set_option linter.unusedVariables false

/-- what keeps a slash of the entries from wrapping -/
structure SlOk (x : EC) (j : Nat) (hgt p : Int) : Prop where
  l : x.ents.length ≤ 100000
  p0 : 0 ≤ p
  p1 : p ≤ 100
  e : ∀ k (hk : k < x.ents.length), 0 ≤ x.ents[k].amount ∧ x.ents[k].amount ≤ 1000000
  q : ∀ k, k ≤ x.ents.length → 0 ≤ (slLoop x j hgt p k).1 ∧ (slLoop x j hgt p k).1 ≤ 1000000000

set_option maxHeartbeats 4000000 in
set_option maxRecDepth 100000 in
theorem gslashEntries {S : Nat → Prop} {W0 : World} (g : Nat) (x : EC) (bv vv ev : Value) (w : World) (h : PE S W0 w g x bv vv ev) (j : Nat) (hgt p : Int) (ok : SlOk x j hgt p) :
    Calls Try.prog 63 #[.pointer (some ⟨g, 0, none⟩), .int .i64 j, .int .i64 hgt, .int .i64 p] w fun e w' => e = .returned (.tuple #[]) ∧ PE S W0 w' g (slEntF x j hgt p) bv vv ev := by
  obtain ⟨ea, ec, rfl⟩ := ownsRow_slice h.e
  have c73 : w.cell? ⟨g, 73, none⟩ = some (.slice ea x.ents.length ec) := h.evAt
  have hel := ok.l
  have HP : Hid (PE S W0 w g x bv vv (.slice ea x.ents.length ec)) := h
  have HK : Hid (SlOk x j hgt p) := ok
  have HQ : Hid (slEntF x j hgt p = { x with pool := (slLoop x j hgt p x.ents.length).1, ents := (slLoop x j hgt p x.ents.length).2 }) := rfl
  clear h ok
  go_enter Try.func63, Try.ntmps63
  go_wp2
  go_loopw [15] (fun i wr => ∃ k : Nat, k ≤ x.ents.length ∧ i = .int .i64 k ∧ PE S W0 wr g { x with pool := (slLoop x j hgt p k).1, ents := (slLoop x j hgt p k).2 } bv vv (.slice ea x.ents.length ec)) (fun i _ => x.ents.length - (intOf i).toNat)
  case atStart => exact ⟨0, Nat.zero_le _, rfl, HP.out⟩
  case round =>
    clear HP c73
    obtain ⟨k, hk, rfl, hP⟩ := hrel
    by_cases hlt : k < x.ents.length
    · obtain ⟨am0, am1⟩ := HK.out.e k hlt
      obtain ⟨q0, q1⟩ := HK.out.q k hk
      have p0 := HK.out.p0
      have p1 := HK.out.p1
      have hln := slLoop_len x j hgt p k
      have egd : x.ents.getD k e0 = x.ents[k] := by simp [hlt]
      have hkl : k < (slLoop x j hgt p k).2.length := by omega
      have hat : (slLoop x j hgt p k).2[k] = x.ents[k] := by
        have := slLoop_at x j hgt p k k (Nat.le_refl _)
        rw [egd] at this
        rw [← this]
        simp [hkl]
      have hE : wr.ownsRow 0 52 4 (.slice ea x.ents.length ec) (slLoop x j hgt p k).2.length (erow (slLoop x j hgt p k).2) := hP.e
      rw [hln] at hE
      obtain ⟨ge, rfl, _⟩ := ownsRow_some hE (by omega)
      have c6 : wr.cell? ⟨g, 6, none⟩ = some (.int .i64 (slLoop x j hgt p k).1) := hP.L.cell 6
      have f6 := hP.L.frozen 6
      have c73 : wr.cell? ⟨g, 73, none⟩ = some (.slice (some ⟨ge, 0, none⟩) x.ents.length ec) := hP.evAt
      have z1 : wr.cell? ⟨ge, k * 4 + 1, none⟩ = some (.int .i64 x.ents[k].val) := by rw [← hat]; exact (hE.cellAt (k * 4 + 1) (by omega)).trans (erow_at _ k hkl 1 (by omega))
      have z2 : wr.cell? ⟨ge, k * 4 + 2, none⟩ = some (.int .i64 x.ents[k].made) := by rw [← hat]; exact (hE.cellAt (k * 4 + 2) (by omega)).trans (erow_at _ k hkl 2 (by omega))
      have z3 : wr.cell? ⟨ge, k * 4 + 3, none⟩ = some (.int .i64 x.ents[k].amount) := by rw [← hat]; exact (hE.cellAt (k * 4 + 3) (by omega)).trans (erow_at _ k hkl 3 (by omega))
      have f3 := hE.frozenAt (k * 4 + 3)
      have n1 : g ≠ ge := fun e => Has.apart hP.L hP.e (by decide) (by rw [e]; rfl)
      have n2 : ge ≠ g := fun e => n1 e.symm
      by_cases hm : x.ents[k].val = j ∧ hgt ≤ x.ents[k].made
      · have HL : Hid (slLoop x j hgt p (k + 1) = ((slLoop x j hgt p k).1 + lostF x.ents[k].amount p, (slLoop x j hgt p k).2.set k (cutE p x.ents[k]))) := by
          show (if (x.ents.getD k e0).val = j ∧ hgt ≤ (x.ents.getD k e0).made then _ else _) = _
          rw [egd, if_pos hm]
        obtain ⟨hm1, hm2⟩ := hm
        obtain ⟨l0, l1⟩ := lostF_bd am0 p0 p1
        have m0 : 0 ≤ x.ents[k].amount * p := Int.mul_nonneg am0 p0
        have m1 : x.ents[k].amount * p ≤ x.ents[k].amount * 100 := Int.mul_le_mul_of_nonneg_left p1 am0
        have m2 : x.ents[k].amount * p ≤ 100000000 := by omega
        have hPs := (hP.setEnt hln.symm (k * 4 + 3) (.int .i64 (x.ents[k].amount - lostF x.ents[k].amount p)) (ents' := (slLoop x j hgt p k).2.set k (cutE p x.ents[k])) (erow_set _ k hkl 3 _ _ (by rw [hat]; rfl) (by omega)) (by simp)).setHead (x' := { x with pool := (slLoop x j hgt p k).1 + lostF x.ents[k].amount p, ents := (slLoop x j hgt p k).2.set k (cutE p x.ents[k]) }) 6 (.int .i64 ((slLoop x j hgt p k).1 + lostF x.ents[k].amount p)) rfl rfl rfl rfl rfl
        have HPs : Hid (PE S W0 ((wr.setCell ⟨ge, k * 4 + 3, none⟩ (.int .i64 (x.ents[k].amount - lostF x.ents[k].amount p))).setCell ⟨g, 6, none⟩ (.int .i64 ((slLoop x j hgt p k).1 + lostF x.ents[k].amount p))) g { x with pool := (slLoop x j hgt p (k + 1)).1, ents := (slLoop x j hgt p (k + 1)).2 } bv vv (.slice (some ⟨ge, 0, none⟩) x.ents.length ec)) := by
          rw [HL.out]; exact hPs
        rw [hm1] at z1
        clear hP hPs HQ HK hE egd hat HL hln hkl hm1
        generalize (slLoop x j hgt p k).1 = po at *
        unfold lostF at *
        generalize x.ents[k].made = emd at *
        generalize x.ents[k].amount = eam at *
        go_wp2
        all_goals
          try go_region
          try go_wp2
          try go_region
          try go_wp2
        refine And.intro ?_ ?_
        · first
            | exact ⟨k + 1, by omega, by go_num, HPs.out.eta rfl rfl rfl rfl⟩
            | ((repeat apply Exists.intro); exact ⟨⟨k + 1, by omega, by go_num, HPs.out.eta rfl rfl rfl rfl⟩, rfl⟩)
        · simp [intOf]; omega
      · have HL : Hid (slLoop x j hgt p (k + 1) = slLoop x j hgt p k) := by
          show (if (x.ents.getD k e0).val = j ∧ hgt ≤ (x.ents.getD k e0).made then _ else _) = _
          rw [egd, if_neg hm]
        have HPs : Hid (PE S W0 wr g { x with pool := (slLoop x j hgt p (k + 1)).1, ents := (slLoop x j hgt p (k + 1)).2 } bv vv (.slice (some ⟨ge, 0, none⟩) x.ents.length ec)) := by
          rw [HL.out]; exact hP
        clear hP HQ HK hE egd hat HL hln hkl
        generalize x.ents[k].made = emd at *
        generalize x.ents[k].val = evl at *
        by_cases hv : evl = j
        · have hm2 : emd < hgt := by
            have : ¬ hgt ≤ emd := fun hh => hm ⟨hv, hh⟩
            omega
          rw [hv] at z1
          clear hm hv
          go_wp2
          refine And.intro ?_ ?_
          · first
              | exact ⟨k + 1, by omega, by go_num, HPs.out.eta rfl rfl rfl rfl⟩
              | ((repeat apply Exists.intro); exact ⟨⟨k + 1, by omega, by go_num, HPs.out.eta rfl rfl rfl rfl⟩, rfl⟩)
          · simp [intOf]; omega
        · have hv' : (evl == (j : Int)) = false := by simp [hv]
          clear hm hv
          go_wp2
          refine And.intro ?_ ?_
          · first
              | exact ⟨k + 1, by omega, by go_num, HPs.out.eta rfl rfl rfl rfl⟩
              | ((repeat apply Exists.intro); exact ⟨⟨k + 1, by omega, by go_num, HPs.out.eta rfl rfl rfl rfl⟩, rfl⟩)
          · simp [intOf]; omega
    · have ek : k = x.ents.length := by omega
      subst ek
      have HF : Hid (PE S W0 wr g (slEntF x j hgt p) bv vv (.slice ea x.ents.length ec)) := by
        rw [HQ.out]; exact hP
      clear hP HQ HK
      go_wp2
      go_end0
      exact ⟨rfl, HF.out⟩

section
variable {S : Nat → Prop} {W0 : World} (g : Nat) (x : EC) (bv vv ev : Value) (w : World) (h : PE S W0 w g x bv vv ev)
include h
set_option maxHeartbeats 2000000 in
set_option maxRecDepth 100000 in
theorem gSlash (val hgt p : Int) (hv : x.vals.length ≤ 5) (hV : ∀ j, j < x.vals.length → 0 ≤ (x.val j).tokens ∧ (x.val j).tokens ≤ 1000000) (q0 : 0 ≤ x.pool) (q1 : x.pool ≤ 1000000) (hS : ∀ j : Nat, slErrF x j hgt p = 0 → SlOk (slTokF x j p) j hgt p) :
    Calls Try.prog 31 #[.pointer (some ⟨g, 0, none⟩), .int .i64 val, .int .i64 hgt, .int .i64 p] w fun e w' => e = .returned (.int .i64 (slashR x val hgt p).1) ∧ PE S W0 w' g (slashR x val hgt p).2 bv vv ev := by
  unfold slashR
  have HE : Hid (Calls Try.prog 61 #[.pointer (some ⟨g, 0, none⟩), .int .i64 val, .int .i64 hgt, .int .i64 p] w fun e w' => e = .returned (.int .i64 (slErrF x val hgt p)) ∧ w = w') := gslashError g x bv vv ev w h val hgt p hv
  by_cases he : slErrF x val hgt p = 0
  case neg =>
    rw [if_pos he]
    have he' : (slErrF x val hgt p == 0) = false := by simp [he]
    have HP : Hid (PE S W0 w g x bv vv ev) := h
    clear h he hS hV
    generalize slErrF x val hgt p = er at *
    go_enter Try.func31, Try.ntmps31
    go_wp2_with fail
    refine HE.out.mono ?_
    rintro e w1 ⟨rfl, rfl⟩
    clear HE
    go_wp2
    go_ret
    exact ⟨rfl, HP.out⟩
  rw [if_neg (by simp [he])]
  obtain ⟨j, rfl, hj, g0, g1, p0, p1⟩ := slErrF_ok he
  rw [Int.toNat_natCast]
  rw [he] at HE
  have HT : Hid (Calls Try.prog 62 #[.pointer (some ⟨g, 0, none⟩), .int .i64 j, .int .i64 p] w fun e w' => e = .returned (.tuple #[]) ∧ PE S W0 w' g (slTokF x j p) bv vv ev) := gslashTokens g x bv vv ev w h j p hv hj (hV j hj).1 (hV j hj).2 (by omega) p1 q0 (by omega)
  have HN : Hid (∀ w1, PE S W0 w1 g (slTokF x j p) bv vv ev → Calls Try.prog 63 #[.pointer (some ⟨g, 0, none⟩), .int .i64 j, .int .i64 hgt, .int .i64 p] w1 fun e w' => e = .returned (.tuple #[]) ∧ PE S W0 w' g (slEntF (slTokF x j p) j hgt p) bv vv ev) := fun w1 h1 => gslashEntries g _ _ _ _ w1 h1 j hgt p (hS j he)
  have HJ : Hid (∀ w1, PE S W0 w1 g (slEntF (slTokF x j p) j hgt p) bv vv ev → Calls Try.prog 64 #[.pointer (some ⟨g, 0, none⟩), .int .i64 j] w1 fun e w' => e = .returned (.tuple #[]) ∧ PE S W0 w' g (slashF x j hgt p) bv vv ev) := fun w1 h1 => gjail g _ _ _ _ w1 h1 j (by simpa [slEntF, slTokF] using hv) (by simpa [slEntF, slTokF] using hj)
  clear h he hS hV
  generalize slashF x j hgt p = x4 at *
  generalize slEntF (slTokF x j p) j hgt p = x3 at *
  generalize slTokF x j p = x2 at *
  go_enter Try.func31, Try.ntmps31
  go_wp2_with fail
  refine HE.out.mono ?_
  rintro e w1 ⟨rfl, rfl⟩
  clear HE
  go_wp2_with fail
  refine HT.out.mono ?_
  rintro e w1 ⟨rfl, hP⟩
  have HP1 : Hid (PE S W0 w1 g x2 bv vv ev) := hP
  clear HT hP
  go_wp2_with fail
  refine (HN.out _ HP1.out).mono ?_
  rintro e w2 ⟨rfl, hP⟩
  have HP2 : Hid (PE S W0 w2 g x3 bv vv ev) := hP
  clear HN hP HP1
  go_wp2_with fail
  refine (HJ.out _ HP2.out).mono ?_
  rintro e w3 ⟨rfl, hP⟩
  have HP3 : Hid (PE S W0 w3 g x4 bv vv ev) := hP
  clear HJ hP HP2
  go_wp2
  go_ret
  exact ⟨rfl, HP3.out⟩
end

/-! ### Free -/
def freeErrF (x : EC) (who val : Int) : Int := if ownErrF x who val ≠ 0 then ownErrF x who val else if (x.val val.toNat).jailed = true then 0 else 11
def outF (x : EC) (j : Nat) : EC := { x with vals := x.vals.modify j (fun v => { v with jailed := false }) }
def freeR (x : EC) (who val : Int) : Int × EC := msgR x who (fun y k => freeErrF y k val) (fun y _ => outF y val.toNat)
theorem freeErrF_ok {x : EC} {who val : Int} (h : freeErrF x who val = 0) : ∃ j : Nat, val = j ∧ j < x.vals.length ∧ (x.val j).owner = who ∧ (x.val j).jailed = true := by
  unfold freeErrF at h
  split at h
  · rename_i h1; exact (h1 h).elim
  · rename_i h1
    obtain ⟨j, rfl, hj, ho⟩ := ownErrF_ok (by simpa using h1)
    rw [Int.toNat_natCast] at h
    split at h
    · rename_i h2; exact ⟨j, rfl, hj, ho, h2⟩
    · cases h
section
variable {S : Nat → Prop} {W0 : World} (g : Nat) (x : EC) (bv vv ev : Value) (w : World) (h : PE S W0 w g x bv vv ev)
include h
set_option maxHeartbeats 2000000 in
set_option maxRecDepth 100000 in
theorem gfreeError (who val : Int) (hv : x.vals.length ≤ 5) :
    Calls Try.prog 65 #[.pointer (some ⟨g, 0, none⟩), .int .i64 who, .int .i64 val] w fun e w' => e = .returned (.int .i64 (freeErrF x who val)) ∧ w = w' := by
  have HO : Hid (Calls Try.prog 59 #[.pointer (some ⟨g, 0, none⟩), .int .i64 who, .int .i64 val] w fun e w' => e = .returned (.int .i64 (ownErrF x who val)) ∧ w = w') := gownerError g x bv vv ev w h who val hv
  unfold freeErrF
  by_cases ho : ownErrF x who val = 0
  case neg =>
    rw [if_pos ho]
    have ho' : (ownErrF x who val == 0) = false := by simp [ho]
    clear h ho
    generalize ownErrF x who val = oe at *
    go_enter Try.func65, Try.ntmps65
    go_wp2_with fail
    refine HO.out.mono ?_
    rintro e w1 ⟨rfl, rfl⟩
    clear HO
    go_wp2
    go_ret
    exact ⟨rfl, rfl⟩
  rw [if_neg (by simp [ho])]
  obtain ⟨j, rfl, hj, _⟩ := ownErrF_ok ho
  rw [ho] at HO
  rw [Int.toNat_natCast]
  obtain ⟨va, vc, rfl⟩ := ownsRow_slice h.v
  obtain ⟨gv, rfl, hcell, hfr⟩ := h.val8 rfl hj
  have c7 : w.cell? ⟨g, 7, none⟩ = some (.slice (some ⟨gv, 0, none⟩) x.vals.length vc) := h.L.cell 7
  have y6 := hcell 6 (by omega)
  rw [x.val_eq hj] at y6
  simp only [VS.cells, List.getElem?_cons_succ, List.getElem?_cons_zero] at y6
  clear h ho hcell hfr
  generalize (x.val j).jailed = jl at *
  cases jl
  · rw [if_neg (by simp)]
    go_enter Try.func65, Try.ntmps65
    go_wp2_with fail
    refine HO.out.mono ?_
    rintro e w1 ⟨rfl, rfl⟩
    clear HO
    go_wp2
    go_ret
    exact ⟨rfl, rfl⟩
  · rw [if_pos rfl]
    go_enter Try.func65, Try.ntmps65
    go_wp2_with fail
    refine HO.out.mono ?_
    rintro e w1 ⟨rfl, rfl⟩
    clear HO
    go_wp2
    go_ret
    exact ⟨rfl, rfl⟩
set_option maxHeartbeats 2000000 in
set_option maxRecDepth 100000 in
theorem eFree (k j : Nat) (ha : AccOk x) (hc : chErr x k = 0) (he : freeErrF (chargeF x k) k j = 0) (hv : x.vals.length ≤ 5) (hj : j < x.vals.length) :
    Calls Try.prog 32 #[.pointer (some ⟨g, 0, none⟩), .int .i64 k, .int .i64 j] w fun e w' => e = .returned (.int .i64 0) ∧ PE S W0 w' g (outF (chargeF x k) j) bv vv ev := by
  have HC : Hid (Calls Try.prog 44 #[.pointer (some ⟨g, 0, none⟩), .int .i64 k] w fun e w' => e = .returned (.int .i64 0) ∧ PE S W0 w' g (chargeF x k) bv vv ev) := gcharge_yes g x bv vv ev w h k ha hc
  have HE : Hid (∀ w1, PE S W0 w1 g (chargeF x k) bv vv ev → Calls Try.prog 65 #[.pointer (some ⟨g, 0, none⟩), .int .i64 k, .int .i64 j] w1 fun e w' => e = .returned (.int .i64 0) ∧ w1 = w') := fun w1 h1 => by
    have := gfreeError g _ _ _ _ w1 h1 k j hv
    rw [he] at this
    exact this
  have hj' : j < (chargeF x k).vals.length := hj
  clear h he hc
  generalize chargeF x k = x2 at *
  go_enter Try.func32, Try.ntmps32
  go_wp2_with fail
  refine HC.out.mono ?_
  rintro e w1 ⟨rfl, hP⟩
  have HP : Hid (PE S W0 w1 g x2 bv vv ev) := hP
  clear hP HC
  go_wp2_with fail
  refine (HE.out _ HP.out).mono ?_
  rintro e w2 ⟨rfl, rfl⟩
  clear HE
  have h := HP.out
  obtain ⟨va, vc, rfl⟩ := ownsRow_slice h.v
  obtain ⟨gv, rfl, hcell, hfr⟩ := h.val8 rfl hj'
  have c7 : w1.cell? ⟨g, 7, none⟩ = some (.slice (some ⟨gv, 0, none⟩) x2.vals.length vc) := h.L.cell 7
  have y6 := hcell 6 (by omega)
  have f6 := hfr (j * 8 + 6)
  rw [x2.val_eq hj'] at y6
  simp only [VS.cells, List.getElem?_cons_succ, List.getElem?_cons_zero] at y6
  have hP1 := h.setVal rfl (j * 8 + 6) (.bool false) (vals' := x2.vals.modify j (fun v => { v with jailed := false })) (vrow_mod x2.vals j hj' 6 _ _ (by simp [VS.cells]) (by omega)) (by simp)
  have HF : Hid (PE S W0 (w1.setCell ⟨gv, j * 8 + 6, none⟩ (.bool false)) g (outF x2 j) bv (.slice (some ⟨gv, 0, none⟩) x2.vals.length vc) ev) := hP1
  clear h hP1 hcell hfr HP
  generalize (x2.val j).jailed = jl at *
  go_wp2
  all_goals
    try go_region
    try go_wp2
    go_ret
    exact ⟨rfl, HF.out.eta rfl rfl rfl rfl⟩
end
end Go.Proofs.Ytohjjgefklhmaaa
