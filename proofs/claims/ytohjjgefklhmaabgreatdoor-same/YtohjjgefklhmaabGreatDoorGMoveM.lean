import Derived.Test.YtohjjgefklhmaabGreatDoorGEntM
namespace Go.Proofs.YtohjjgefklhmaabGreatDoor
open Go.ChangeShapes Go.WideShapes Go.ChangeAt Go.RowKit
set_option linter.unusedVariables false

def movF (y : EC) (k j t : Nat) (n : Int) : EC := joinF (leaveF y k j n) k t (tokensForF (y.val j) n)
def movR (x : EC) (who val dst n : Int) : Int × EC := msgR x who (fun y k => movErrF y k val dst n) (fun y k => movF y k val.toNat dst.toNat n)
theorem movErrF_ok {x : EC} {k : Nat} {val dst n : Int} (h : movErrF x k val dst n = 0) : ∃ j t : Nat, val = j ∧ dst = t ∧ j < x.vals.length ∧ t < x.vals.length ∧ t ≠ j ∧ 1 ≤ n ∧ n ≤ x.sh k j ∧ 1 ≤ tokensForF (x.val j) n ∧ joinErrF (x.val t) (tokensForF (x.val j) n) = 0 := by
  unfold movErrF at h
  split at h
  · cases h
  · rename_i h1
    obtain ⟨j, rfl, hj⟩ := inB_tt (show inB val x.vals.length = true by simpa using h1)
    split at h
    · cases h
    · rename_i h2
      obtain ⟨t, rfl, ht⟩ := inB_tt (show inB dst x.vals.length = true by
        cases hh : inB dst x.vals.length with
        | true => rfl
        | false => exact absurd (.inl hh) h2)
      rw [Int.toNat_natCast, Int.toNat_natCast] at h
      split at h
      · cases h
      · split at h
        · cases h
        · rename_i h3 h4
          exact ⟨j, t, rfl, rfl, hj, ht, fun e => h2 (.inr (by rw [e])), by omega, by omega, by omega, h⟩
/-- where a delegation is made -/
structure JnOk (x : EC) (k j : Nat) : Prop where
  hl : x.bal.length ≤ 6
  hk : k < x.bal.length
  hv : x.vals.length ≤ 5
  hj : j < x.vals.length
  hV : ValOk (x.val j)
  hd : DueOk x k j
  o0 : 0 ≤ (x.val j).outs
  o1 : (x.val j).outs ≤ 1000000000
  b0 : 0 ≤ x.balAt k
  b1 : x.balAt k ≤ 1000000000
  s0 : 0 ≤ x.sh k j
  s1 : x.sh k j ≤ 1000000

section
variable {S : Nat → Prop} {W0 : World} (g : Nat) (x : EC) (bv vv ev : Value) (w : World) (h : PE S W0 w g x bv vv ev)
include h
theorem gjoin' (k j : Nat) (a : Int) (ok : JnOk x k j) (a1 : 1 ≤ a) (a2 : a ≤ 1000000) :
    Calls Tryz.prog 49 #[.pointer (some ⟨g, 0, none⟩), .int .i64 k, .int .i64 j, .int .i64 a] w fun e w' => e = .returned (.tuple #[]) ∧ PE S W0 w' g (joinF x k j a) bv vv ev :=
  ejoin g x bv vv ev w h k j a ok.hl ok.hk ok.hv ok.hj ok.hV ok.hd ok.o0 ok.o1 ok.b0 ok.b1 ok.s0 ok.s1 a1 a2

set_option maxHeartbeats 2000000 in
set_option maxRecDepth 100000 in
theorem eMove (k j t : Nat) (n : Int) (ha : AccOk x) (hc : chErr x k = 0) (ok : LvOk (chargeF x k) k j) (hV : ∀ i, i < (chargeF x k).vals.length → ValOk ((chargeF x k).val i)) (hs : ∀ i, i < (chargeF x k).vals.length → (chargeF x k).sh k i ≤ ((chargeF x k).val i).shares) (he : movErrF (chargeF x k) k j t n = 0) (n1 : 1 ≤ n) (n2 : n ≤ x.sh k j) (t1 : 1 ≤ tokensForF ((chargeF x k).val j) n) (t2 : tokensForF ((chargeF x k).val j) n ≤ 1000000) (jo : JnOk (leaveF (chargeF x k) k j n) k t) :
    Calls Tryz.prog 27 #[.pointer (some ⟨g, 0, none⟩), .int .i64 k, .int .i64 j, .int .i64 t, .int .i64 n] w fun e w' => e = .returned (.int .i64 0) ∧ PE S W0 w' g (movF (chargeF x k) k j t n) bv vv ev := by
  have HC : Hid (Calls Tryz.prog 47 #[.pointer (some ⟨g, 0, none⟩), .int .i64 k] w fun e w' => e = .returned (.int .i64 0) ∧ PE S W0 w' g (chargeF x k) bv vv ev) := gcharge_yes g x bv vv ev w h k ha hc
  have hk6 : k < 6 := Nat.lt_of_lt_of_le ok.hk ok.hl
  have HE : Hid (∀ w, PE S W0 w g (chargeF x k) bv vv ev → Calls Tryz.prog 63 #[.pointer (some ⟨g, 0, none⟩), .int .i64 k, .int .i64 j, .int .i64 t, .int .i64 n] w fun e w' => e = .returned (.int .i64 0) ∧ Below w.heap.size w w') := fun w hw => by
    have := gmoveError g (chargeF x k) bv vv ev w hw k j t n hk6 ok.hv hV hs
    rw [he] at this
    exact this
  have HL : Hid (∀ w, PE S W0 w g (chargeF x k) bv vv ev → Calls Tryz.prog 61 #[.pointer (some ⟨g, 0, none⟩), .int .i64 k, .int .i64 j, .int .i64 n] w fun e w' => e = .returned (.int .i64 (tokensForF ((chargeF x k).val j) n)) ∧ PE S W0 w' g (leaveF (chargeF x k) k j n) bv vv ev) := fun w hw => gleave' g _ _ _ _ w hw k j n ok n1 n2
  have HA : Hid (∀ w, PE S W0 w g (leaveF (chargeF x k) k j n) bv vv ev → Calls Tryz.prog 49 #[.pointer (some ⟨g, 0, none⟩), .int .i64 k, .int .i64 t, .int .i64 (tokensForF ((chargeF x k).val j) n)] w fun e w' => e = .returned (.tuple #[]) ∧ PE S W0 w' g (movF (chargeF x k) k j t n) bv vv ev) := fun w hw => gjoin' g _ _ _ _ w hw k t _ jo t1 t2
  clear h ok he jo hV hs
  generalize tokensForF ((chargeF x k).val j) n = tk at *
  go_enter Tryz.func27, Tryz.ntmps27
  go_wp2_with fail
  refine HC.out.mono ?_
  rintro e w1 ⟨rfl, hP⟩
  have HP : Hid (PE S W0 w1 g (chargeF x k) bv vv ev) := hP
  clear hP HC
  go_wp2_with fail
  refine (HE.out _ HP.out).mono ?_
  rintro e w2 ⟨rfl, hb⟩
  have HP2 : Hid (PE S W0 w2 g (chargeF x k) bv vv ev) := HP.out.below hb
  clear hb HP HE
  go_wp2_with fail
  refine (HL.out _ HP2.out).mono ?_
  rintro e w3 ⟨rfl, hP3⟩
  have HP3 : Hid (PE S W0 w3 g (leaveF (chargeF x k) k j n) bv vv ev) := hP3
  clear hP3 HP2 HL
  go_wp2_with fail
  refine (HA.out _ HP3.out).mono ?_
  rintro e w4 ⟨rfl, hP4⟩
  have HP4 : Hid (PE S W0 w4 g (movF (chargeF x k) k j t n) bv vv ev) := hP4
  clear hP4 HP3 HA
  go_wp2
  go_ret
  exact ⟨rfl, HP4.out⟩
end

/-! ### Collect -/
def collF (x : EC) (k j : Nat) : EC := { x with bal := x.bal.set k (x.balAt k + (x.val j).comm), vals := (x.vals.modify j (fun v => { v with outs := v.outs - v.comm })).modify j (fun v => { v with comm := 0 }) }
def collR (x : EC) (who val : Int) : Int × EC := msgR x who (fun y k => ownErrF y k val) (fun y k => collF y k val.toNat)
theorem ownErrF_ok {x : EC} {who val : Int} (h : ownErrF x who val = 0) : ∃ j : Nat, val = j ∧ j < x.vals.length ∧ (x.val j).owner = who := by
  unfold ownErrF at h
  split at h
  · cases h
  · rename_i h1
    obtain ⟨j, rfl, hj⟩ := inB_tt (show inB val x.vals.length = true by simpa using h1)
    rw [Int.toNat_natCast] at h
    split at h
    · rename_i h2; exact ⟨j, rfl, hj, h2⟩
    · cases h
section
variable {S : Nat → Prop} {W0 : World} (g : Nat) (x : EC) (bv vv ev : Value) (w : World) (h : PE S W0 w g x bv vv ev)
include h
set_option maxHeartbeats 2000000 in
set_option maxRecDepth 100000 in
theorem gpayComm (k j : Nat) (hl : x.bal.length ≤ 6) (hk : k < x.bal.length) (hv : x.vals.length ≤ 5) (hj : j < x.vals.length) (k0 : 0 ≤ (x.val j).comm) (k1 : (x.val j).comm ≤ 1000000000) (o0 : 0 ≤ (x.val j).outs) (o1 : (x.val j).outs ≤ 1000000000) (b0 : 0 ≤ x.balAt k) (b1 : x.balAt k ≤ 1000000000) :
    Calls Tryz.prog 66 #[.pointer (some ⟨g, 0, none⟩), .int .i64 k, .int .i64 j] w fun e w' => e = .returned (.tuple #[]) ∧ PE S W0 w' g (collF x k j) bv vv ev := by
  obtain ⟨ba, bc, rfl⟩ := ownsRow_slice h.b
  obtain ⟨gb, rfl, _⟩ := ownsRow_some h.b (by omega)
  obtain ⟨va, vc, rfl⟩ := ownsRow_slice h.v
  obtain ⟨gv, rfl, hcell, hfr⟩ := h.val8 rfl hj
  have c4 : w.cell? ⟨g, 4, none⟩ = some (.slice (some ⟨gb, 0, none⟩) x.bal.length bc) := h.L.cell 4
  have c7 : w.cell? ⟨g, 7, none⟩ = some (.slice (some ⟨gv, 0, none⟩) x.vals.length vc) := h.L.cell 7
  have cb := h.balAt' hk
  have fb := h.b.frozenAt k
  have y4 := hcell 4 (by omega)
  have y5 := hcell 5 (by omega)
  have f4 := hfr (j * 8 + 4)
  have f5 := hfr (j * 8 + 5)
  rw [x.val_eq hj] at y4 y5
  simp only [VS.cells, List.getElem?_cons_succ, List.getElem?_cons_zero] at y4 y5
  have n1 : g ≠ gb := fun e => Has.apart h.L h.b (by decide) (by rw [e]; rfl)
  have n2 : gb ≠ g := fun e => n1 e.symm
  have n3 : g ≠ gv := fun e => Has.apart h.L h.v (by decide) (by rw [e]; rfl)
  have n4 : gv ≠ g := fun e => n3 e.symm
  have n5 : gb ≠ gv := fun e => row_ne h.b h.v (by decide) (by rw [← e]; rfl)
  have n6 : gv ≠ gb := fun e => n5 e.symm
  have hP1 := h.setBal rfl k (x.balAt k + (x.val j).comm)
  have hP2 := hP1.setVal rfl (j * 8 + 5) (.int .i64 ((x.val j).outs - (x.val j).comm)) (vals' := x.vals.modify j (fun v => { v with outs := v.outs - v.comm })) (vrow_mod x.vals j hj 5 _ _ (by rw [x.val_eq hj]; rfl) (by omega)) (by simp)
  have hj2 : j < (x.vals.modify j (fun v => { v with outs := v.outs - v.comm })).length := by simpa using hj
  have hP3 := hP2.setVal (by simp) (j * 8 + 4) (.int .i64 0) (vals' := (x.vals.modify j (fun v => { v with outs := v.outs - v.comm })).modify j (fun v => { v with comm := 0 })) (vrow_mod _ j hj2 4 _ _ (by simp [VS.cells]) (by omega)) (by simp)
  have HF : Hid (PE S W0 (((w.setCell ⟨gb, k, none⟩ (.int .i64 (x.balAt k + (x.val j).comm))).setCell ⟨gv, j * 8 + 5, none⟩ (.int .i64 ((x.val j).outs - (x.val j).comm))).setCell ⟨gv, j * 8 + 4, none⟩ (.int .i64 0)) g (collF x k j) (.slice (some ⟨gb, 0, none⟩) x.bal.length bc) (.slice (some ⟨gv, 0, none⟩) x.vals.length vc) ev) := hP3
  clear h hP1 hP2 hP3 hcell hfr hj2
  generalize (x.val j).comm = cm at *
  generalize (x.val j).outs = ou at *
  generalize x.balAt k = y at *
  go_enter Tryz.func66, Tryz.ntmps66
  go_wp2
  go_region
  go_wp2
  try go_region
  try go_wp2
  go_end0
  exact ⟨rfl, HF.out.eta rfl rfl rfl rfl⟩
end
end Go.Proofs.YtohjjgefklhmaabGreatDoor
