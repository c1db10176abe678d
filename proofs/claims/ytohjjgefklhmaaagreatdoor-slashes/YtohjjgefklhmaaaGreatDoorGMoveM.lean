import Derived.Test.YtohjjgefklhmaaaGreatDoorGLeaveM
namespace Go.Proofs.YtohjjgefklhmaaaGreatDoor
open Go.ChangeShapes Go.WideShapes Go.ChangeAt Go.RowKit
set_option linter.unusedVariables false

def movF (y : EC) (k j t : Nat) (n : Int) : EC := joinFE (leaveF y k j n) k t (tokensForF (y.val j) n)
def movR (x : EC) (who val dst n : Int) : Int × EC := msgR x who (fun y k => movErrF y k val dst n) (fun y k => movF y k val.toNat dst.toNat n)
theorem movErrF_ok {x : EC} {k : Nat} {val dst n : Int} (h : movErrF x k val dst n = 0) : ∃ j t : Nat, val = j ∧ dst = t ∧ j < x.vals.length ∧ t < x.vals.length ∧ t ≠ j ∧ 1 ≤ n ∧ n ≤ x.sh k j ∧ 1 ≤ tokensForF (x.val j) n ∧ joinErrF (x.val t) (tokensForF (x.val j) n) = 0 := by
  unfold movErrF at h
  split at h
  · cases h
  · rename_i h1
    obtain ⟨j, rfl, hj⟩ := inB_tt (show inB val x.vals.length = true by simpa using h1)
    split at h
    · cases h
    · rename_i h2
      obtain ⟨t, rfl, ht⟩ := inB_tt (show inB dst x.vals.length = true by
        cases hh : inB dst x.vals.length with
        | true => rfl
        | false => exact absurd (.inl hh) h2)
      rw [Int.toNat_natCast, Int.toNat_natCast] at h
      split at h
      · cases h
      · split at h
        · cases h
        · rename_i h3 h4
          exact ⟨j, t, rfl, rfl, hj, ht, fun e => h2 (.inr (by rw [e])), by omega, by omega, by omega, h⟩
/-- where a delegation is made -/
structure JnOk (x : EC) (k j : Nat) : Prop where
  hl : x.bal.length ≤ 6
  hk : k < x.bal.length
  hv : x.vals.length ≤ 5
  hj : j < x.vals.length
  hV : ValOk (x.val j)
  hd : DueOk x k j
  o0 : 0 ≤ (x.val j).outs
  o1 : (x.val j).outs ≤ 1000000000
  b0 : 0 ≤ x.balAt k
  b1 : x.balAt k ≤ 1000000000
  s0 : 0 ≤ x.sh k j
  s1 : x.sh k j ≤ 1000000

section
variable {S : Nat → Prop} {W0 : World} (g : Nat) (x : EC) (bv vv ev : Value) (w : World) (h : PE S W0 w g x bv vv ev)
include h
theorem gjoin' (k j : Nat) (a : Int) (ok : JnOk x k j) (a1 : 1 ≤ a) (a2 : a ≤ 1000000) :
    Calls Tryz.prog 111 #[.pointer (some ⟨g, 0, none⟩), .int .i64 k, .int .i64 j, .int .i64 a] w fun e w' => e = .returned (.tuple #[]) ∧ PE S W0 w' g (joinFE x k j a) bv vv ev :=
  ejoin g x bv vv ev w h k j a ok.hl ok.hk ok.hv ok.hj ok.hV ok.hd ok.o0 ok.o1 ok.b0 ok.b1 ok.s0 ok.s1 a1 a2

set_option maxHeartbeats 2000000 in
set_option maxRecDepth 100000 in
theorem eMove (k j t : Nat) (n : Int) (ha : AccOk x) (hc : chErr x k = 0) (ok : LvOk (chargeFE x k) k j) (hV : ∀ i, i < (chargeFE x k).vals.length → ValOk ((chargeFE x k).val i)) (hs : ∀ i, i < (chargeFE x k).vals.length → (chargeFE x k).sh k i ≤ ((chargeFE x k).val i).shares) (he : movErrF (chargeFE x k) k j t n = 0) (n1 : 1 ≤ n) (n2 : n ≤ x.sh k j) (t1 : 1 ≤ tokensForF ((chargeFE x k).val j) n) (t2 : tokensForF ((chargeFE x k).val j) n ≤ 1000000) (jo : JnOk (leaveF (chargeFE x k) k j n) k t) :
    Calls Tryz.prog 58 #[.pointer (some ⟨g, 0, none⟩), .int .i64 k, .int .i64 j, .int .i64 t, .int .i64 n] w fun e w' => e = .returned (.int .i64 0) ∧ PE S W0 w' g (movF (chargeFE x k) k j t n) bv vv ev := by
  have HC : Hid (Calls Tryz.prog 105 #[.pointer (some ⟨g, 0, none⟩), .int .i64 k] w fun e w' => e = .returned (.int .i64 0) ∧ PE S W0 w' g (chargeFE x k) bv vv ev) := gcharge_yes g x bv vv ev w h k ha hc
  have hk6 : k < 6 := Nat.lt_of_lt_of_le ok.hk ok.hl
  have HE : Hid (∀ w, PE S W0 w g (chargeFE x k) bv vv ev → Calls Tryz.prog 115 #[.pointer (some ⟨g, 0, none⟩), .int .i64 k, .int .i64 j, .int .i64 t, .int .i64 n] w fun e w' => e = .returned (.int .i64 0) ∧ Below w.heap.size w w') := fun w hw => by
    have := gmoveError g (chargeFE x k) bv vv ev w hw k j t n hk6 ok.hv hV hs
    rw [he] at this
    exact this
  have HL : Hid (∀ w, PE S W0 w g (chargeFE x k) bv vv ev → Calls Tryz.prog 113 #[.pointer (some ⟨g, 0, none⟩), .int .i64 k, .int .i64 j, .int .i64 n] w fun e w' => e = .returned (.int .i64 (tokensForF ((chargeFE x k).val j) n)) ∧ PE S W0 w' g (leaveF (chargeFE x k) k j n) bv vv ev) := fun w hw => gleave' g _ _ _ _ w hw k j n ok n1 n2
  have HA : Hid (∀ w, PE S W0 w g (leaveF (chargeFE x k) k j n) bv vv ev → Calls Tryz.prog 111 #[.pointer (some ⟨g, 0, none⟩), .int .i64 k, .int .i64 t, .int .i64 (tokensForF ((chargeFE x k).val j) n)] w fun e w' => e = .returned (.tuple #[]) ∧ PE S W0 w' g (movF (chargeFE x k) k j t n) bv vv ev) := fun w hw => gjoin' g _ _ _ _ w hw k t _ jo t1 t2
  clear h ok he jo hV hs
  generalize tokensForF ((chargeFE x k).val j) n = tk at *
  go_enter Tryz.func58, Tryz.ntmps58
  go_wp2_with fail
  refine HC.out.mono ?_
  rintro e w1 ⟨rfl, hP⟩
  have HP : Hid (PE S W0 w1 g (chargeFE x k) bv vv ev) := hP
  clear hP HC
  go_wp2_with fail
  refine (HE.out _ HP.out).mono ?_
  rintro e w2 ⟨rfl, hb⟩
  have HP2 : Hid (PE S W0 w2 g (chargeFE x k) bv vv ev) := HP.out.below hb
  clear hb HP HE
  go_wp2_with fail
  refine (HL.out _ HP2.out).mono ?_
  rintro e w3 ⟨rfl, hP3⟩
  have HP3 : Hid (PE S W0 w3 g (leaveF (chargeFE x k) k j n) bv vv ev) := hP3
  clear hP3 HP2 HL
  go_wp2_with fail
  refine (HA.out _ HP3.out).mono ?_
  rintro e w4 ⟨rfl, hP4⟩
  have HP4 : Hid (PE S W0 w4 g (movF (chargeFE x k) k j t n) bv vv ev) := hP4
  clear hP4 HP3 HA
  go_wp2
  go_ret
  exact ⟨rfl, HP4.out⟩
end

/-! ### Collect -/
def collF (x : EC) (k j : Nat) : EC := { x with bal := x.bal.set k (x.balAt k + (x.val j).comm), vals := (x.vals.modify j (fun v => { v with outs := v.outs - v.comm })).modify j (fun v => { v with comm := 0 }) }
def collR (x : EC) (who val : Int) : Int × EC := msgR x who (fun y k => ownErrF y k val) (fun y k => collF y k val.toNat)
theorem ownErrF_ok {x : EC} {who val : Int} (h : ownErrF x who val = 0) : ∃ j : Nat, val = j ∧ j < x.vals.length ∧ (x.val j).owner = who := by
  unfold ownErrF at h
  split at h
  · cases h
  · rename_i h1
    obtain ⟨j, rfl, hj⟩ := inB_tt (show inB val x.vals.length = true by simpa using h1)
    rw [Int.toNat_natCast] at h
    split at h
    · rename_i h2; exact ⟨j, rfl, hj, h2⟩
    · cases h
section
variable {S : Nat → Prop} {W0 : World} (g : Nat) (x : EC) (bv vv ev : Value) (w : World) (h : PE S W0 w g x bv vv ev)
include h
set_option maxHeartbeats 2000000 in
set_option maxRecDepth 100000 in
theorem gpayComm (k j : Nat) (hl : x.bal.length ≤ 6) (hk : k < x.bal.length) (hv : x.vals.length ≤ 5) (hj : j < x.vals.length) (k0 : 0 ≤ (x.val j).comm) (k1 : (x.val j).comm ≤ 1000000000) (o0 : 0 ≤ (x.val j).outs) (o1 : (x.val j).outs ≤ 1000000000) (b0 : 0 ≤ x.balAt k) (b1 : x.balAt k ≤ 1000000000) :
    Calls Tryz.prog 118 #[.pointer (some ⟨g, 0, none⟩), .int .i64 k, .int .i64 j] w fun e w' => e = .returned (.tuple #[]) ∧ PE S W0 w' g (collF x k j) bv vv ev := by
  obtain ⟨ba, bc, rfl⟩ := ownsRow_slice h.b
  obtain ⟨gb, rfl, _⟩ := ownsRow_some h.b (by omega)
  obtain ⟨va, vc, rfl⟩ := ownsRow_slice h.v
  obtain ⟨gv, rfl, hcell, hfr⟩ := h.val8 rfl hj
  have c4 : w.cell? ⟨g, 4, none⟩ = some (.slice (some ⟨gb, 0, none⟩) x.bal.length bc) := h.L.cell 4
  have c7 : w.cell? ⟨g, 7, none⟩ = some (.slice (some ⟨gv, 0, none⟩) x.vals.length vc) := h.L.cell 7
  have cb := h.balAt' hk
  have fb := h.b.frozenAt k
  have y4 := hcell 4 (by omega)
  have y5 := hcell 5 (by omega)
  have f4 := hfr (j * 8 + 4)
  have f5 := hfr (j * 8 + 5)
  rw [x.val_eq hj] at y4 y5
  simp only [VS.cells, List.getElem?_cons_succ, List.getElem?_cons_zero] at y4 y5
  have n1 : g ≠ gb := fun e => Has.apart h.L h.b (by decide) (by rw [e]; rfl)
  have n2 : gb ≠ g := fun e => n1 e.symm
  have n3 : g ≠ gv := fun e => Has.apart h.L h.v (by decide) (by rw [e]; rfl)
  have n4 : gv ≠ g := fun e => n3 e.symm
  have n5 : gb ≠ gv := fun e => row_ne h.b h.v (by decide) (by rw [← e]; rfl)
  have n6 : gv ≠ gb := fun e => n5 e.symm
  have hP1 := h.setBal rfl k (x.balAt k + (x.val j).comm)
  have hP2 := hP1.setVal rfl (j * 8 + 5) (.int .i64 ((x.val j).outs - (x.val j).comm)) (vals' := x.vals.modify j (fun v => { v with outs := v.outs - v.comm })) (vrow_mod x.vals j hj 5 _ _ (by rw [x.val_eq hj]; rfl) (by omega)) (by simp)
  have hj2 : j < (x.vals.modify j (fun v => { v with outs := v.outs - v.comm })).length := by simpa using hj
  have hP3 := hP2.setVal (by simp) (j * 8 + 4) (.int .i64 0) (vals' := (x.vals.modify j (fun v => { v with outs := v.outs - v.comm })).modify j (fun v => { v with comm := 0 })) (vrow_mod _ j hj2 4 _ _ (by simp [VS.cells]) (by omega)) (by simp)
  have HF : Hid (PE S W0 (((w.setCell ⟨gb, k, none⟩ (.int .i64 (x.balAt k + (x.val j).comm))).setCell ⟨gv, j * 8 + 5, none⟩ (.int .i64 ((x.val j).outs - (x.val j).comm))).setCell ⟨gv, j * 8 + 4, none⟩ (.int .i64 0)) g (collF x k j) (.slice (some ⟨gb, 0, none⟩) x.bal.length bc) (.slice (some ⟨gv, 0, none⟩) x.vals.length vc) ev) := hP3
  clear h hP1 hP2 hP3 hcell hfr hj2
  generalize (x.val j).comm = cm at *
  generalize (x.val j).outs = ou at *
  generalize x.balAt k = y at *
  go_enter Tryz.func118, Tryz.ntmps118
  go_wp2
  go_region
  go_wp2
  try go_region
  try go_wp2
  go_end0
  exact ⟨rfl, HF.out.eta rfl rfl rfl rfl⟩
end
end Go.Proofs.YtohjjgefklhmaaaGreatDoor

namespace Go.Proofs.YtohjjgefklhmaaaGreatDoor
open Go.ChangeShapes Go.WideShapes Go.ChangeAt Go.RowKit
set_option linter.unusedVariables false

def e0 : ES := ⟨0, 0, 0, 0⟩
/-- the entries that are due are paid, the first k of them looked at; those that wait -/
def peLoop (x : EC) : Nat → List Int × List ES
  | 0 => (x.bal, [])
  | k + 1 => if (x.ents.getD k e0).made + x.mature = x.height then ((peLoop x k).1.set (x.ents.getD k e0).who.toNat ((peLoop x k).1.getD (x.ents.getD k e0).who.toNat 0 + (x.ents.getD k e0).amount), (peLoop x k).2) else ((peLoop x k).1, (peLoop x k).2 ++ [x.ents.getD k e0])
def payEF (x : EC) : EC := { x with bal := (peLoop x x.ents.length).1, ents := (peLoop x x.ents.length).2 }
theorem peLoop_len (x : EC) (k : Nat) : (peLoop x k).1.length = x.bal.length := by
  induction k with
  | zero => rfl
  | succ k ih => unfold peLoop; split <;> simp [ih]
theorem peLoop_wait (x : EC) (k : Nat) : (peLoop x k).2.length ≤ k := by
  induction k with
  | zero => simp [peLoop]
  | succ k ih => unfold peLoop; split <;> simp <;> omega
/-- what keeps the payment of entries from wrapping -/
structure EntOk (x : EC) : Prop where
  l : x.ents.length ≤ 100000
  h0 : 0 ≤ x.height
  h1 : x.height ≤ 1000000
  m0 : 0 ≤ x.mature
  m1 : x.mature ≤ 1000000
  e : ∀ k (hk : k < x.ents.length), (∃ i : Nat, x.ents[k].who = i ∧ i < x.bal.length) ∧ 0 ≤ x.ents[k].made ∧ x.ents[k].made ≤ 1000000 ∧ 0 ≤ x.ents[k].amount ∧ x.ents[k].amount ≤ 1000000
  b : ∀ k, k ≤ x.ents.length → ∀ i, i < x.bal.length → 0 ≤ (peLoop x k).1.getD i 0 ∧ (peLoop x k).1.getD i 0 ≤ 1000000000

set_option maxHeartbeats 4000000 in
set_option maxRecDepth 100000 in
theorem gpayEntries {S : Nat → Prop} {W0 : World} (g : Nat) (x : EC) (bv vv ev : Value) (w : World) (h : PE S W0 w g x bv vv ev) (ok : EntOk x) :
    Calls Tryz.prog 108 #[.pointer (some ⟨g, 0, none⟩)] w fun e w' => e = .returned (.tuple #[]) ∧ ∃ ev', PE S W0 w' g (payEF x) bv vv ev' := by
  obtain ⟨i5, hi5, hz50, hz51, hz52⟩ := info_parts info_entPE
  obtain ⟨ba, bc, rfl⟩ := ownsRow_slice h.b
  obtain ⟨ea, ec, rfl⟩ := ownsRow_slice h.e
  have c73 : w.cell? ⟨g, 73, none⟩ = some (.slice ea x.ents.length ec) := h.evAt
  have hel := ok.l
  have HP : Hid (PE S W0 w g x (.slice ba x.bal.length bc) vv (.slice ea x.ents.length ec)) := h
  have HO : Hid (∀ b, Own g (.slice ba x.bal.length bc) vv (.slice ea x.ents.length ec) b → b < w.heap.size) := h.ownlt
  have HS : Hid (∀ b, w.heap.size ≤ b → S b) := fun b hb => h.hS b (Nat.le_trans h.fr.size hb)
  have HK : Hid (EntOk x) := ok
  have HQ : Hid (payEF x = { x with bal := (peLoop x x.ents.length).1, ents := (peLoop x x.ents.length).2 }) := rfl
  clear h ok
  go_enter Tryz.func108, Tryz.ntmps108
  go_wp2
  go_loopw [2, 10] (fun st i wr => ∃ k : Nat, k ≤ x.ents.length ∧ i = .int .i64 k ∧ w.heap.size ≤ wr.heap.size ∧ wr.ownsRow w.heap.size 125 4 st (peLoop x k).2.length (erow (peLoop x k).2) ∧ PE S W0 wr g { x with bal := (peLoop x k).1 } (.slice ba x.bal.length bc) vv (.slice ea x.ents.length ec)) (fun _ i _ => x.ents.length - (intOf i).toNat)
  case atStart => exact ⟨0, Nat.zero_le _, rfl, Nat.le_refl _, World.ownsRow_nil _ _ _ _, HP.out⟩
  case round =>
    clear HP c73
    obtain ⟨k, hk, rfl, hsz, hst, hP⟩ := hrel
    obtain ⟨sa, sc, rfl⟩ := ownsRow_slice hst
    by_cases hlt : k < x.ents.length
    · have hwl := peLoop_wait x k
      obtain ⟨⟨i, hwi, hi⟩, md0, md1, am0, am1⟩ := HK.out.e k hlt
      obtain ⟨bb0, bb1⟩ := HK.out.b k hk i hi
      have c1 : wr.cell? ⟨g, 1, none⟩ = some (.int .i64 x.mature) := hP.L.cell 1
      have c3 : wr.cell? ⟨g, 3, none⟩ = some (.int .i64 x.height) := hP.L.cell 3
      have c4 : wr.cell? ⟨g, 4, none⟩ = some (.slice ba x.bal.length bc) := hP.L.cell 4
      have hE : wr.ownsRow 0 125 4 (.slice ea x.ents.length ec) x.ents.length (erow x.ents) := hP.e
      obtain ⟨ge, rfl, _⟩ := ownsRow_some hE (by omega)
      have z0 : wr.cell? ⟨ge, k * 4, none⟩ = some (.int .i64 x.ents[k].who) := (hE.cellAt (k * 4) (by omega)).trans (erow_at x.ents k hlt 0 (by omega))
      have z1 : wr.cell? ⟨ge, k * 4 + 1, none⟩ = some (.int .i64 x.ents[k].val) := (hE.cellAt (k * 4 + 1) (by omega)).trans (erow_at x.ents k hlt 1 (by omega))
      have z2 : wr.cell? ⟨ge, k * 4 + 2, none⟩ = some (.int .i64 x.ents[k].made) := (hE.cellAt (k * 4 + 2) (by omega)).trans (erow_at x.ents k hlt 2 (by omega))
      have z3 : wr.cell? ⟨ge, k * 4 + 3, none⟩ = some (.int .i64 x.ents[k].amount) := (hE.cellAt (k * 4 + 3) (by omega)).trans (erow_at x.ents k hlt 3 (by omega))
      have egd : x.ents.getD k e0 = x.ents[k] := by simp [hlt]
      have hbl := peLoop_len x k
      have hbrow : wr.ownsRow 0 3 1 (.slice ba x.bal.length bc) (peLoop x k).1.length (ints (peLoop x k).1) := hP.b
      rw [hbl] at hbrow
      obtain ⟨gb, rfl, _⟩ := ownsRow_some hbrow (by omega)
      have cb : wr.cell? ⟨gb, i, none⟩ = some (.int .i64 ((peLoop x k).1.getD i 0)) := hP.balAt' (k := i) (by show i < (peLoop x k).1.length; omega)
      have fb := hbrow.frozenAt i
      have g1 := hP.L.lt
      have g2 : gb < wr.heap.size := (hP.b.lt gb rfl).2
      have g3 : ge < wr.heap.size := (hP.e.lt ge rfl).2
      have n1 : g ≠ gb := fun e => Has.apart hP.L hP.b (by decide) (by rw [e]; rfl)
      have n2 : gb ≠ g := fun e => n1 e.symm
      have hmat0 := HK.out.m0
      have hmat1 := HK.out.m1
      have hh0 := HK.out.h0
      have hh1 := HK.out.h1
      have hgb : gb < w.heap.size := HO.out gb (.inr (.inl rfl))
      have HST : Hid (wr.ownsRow w.heap.size 125 4 (.slice sa (peLoop x k).2.length sc) (peLoop x k).2.length (erow (peLoop x k).2)) := hst
      by_cases hm : x.ents[k].made + x.mature = x.height
      · have HL : Hid (peLoop x (k + 1) = ((peLoop x k).1.set i ((peLoop x k).1.getD i 0 + x.ents[k].amount), (peLoop x k).2)) := by
          show (if (x.ents.getD k e0).made + x.mature = x.height then _ else _) = _
          rw [egd, if_pos hm, hwi, Int.toNat_natCast]
        have hPs := fun o n => (((hP.alloc o).drewN n).setBal (by show x.bal.length = (peLoop x k).1.length; omega) i ((peLoop x k).1.getD i 0 + x.ents[k].amount))
        have HPs : Hid (∀ o n, PE S W0 (((wr.alloc o).drewN n).setCell ⟨gb, i, none⟩ (.int .i64 ((peLoop x k).1.getD i 0 + x.ents[k].amount))) g { x with bal := (peLoop x k).1.set i ((peLoop x k).1.getD i 0 + x.ents[k].amount) } (.slice (some ⟨gb, 0, none⟩) x.bal.length bc) vv (.slice (some ⟨ge, 0, none⟩) x.ents.length ec)) := hPs
        have hRs := fun (o : Obj) (n : Nat) => ownsRow_setCell (w := (wr.alloc o).drewN n) (p := ⟨gb, i, none⟩) (u := .int .i64 ((peLoop x k).1.getD i 0 + x.ents[k].amount)) ((hst.alloc o)) (fun e => by have := (hst.lt gb e).1; omega)
        have HRs : Hid (∀ (o : Obj) (n : Nat), (((wr.alloc o).drewN n).setCell ⟨gb, i, none⟩ (.int .i64 ((peLoop x k).1.getD i 0 + x.ents[k].amount))).ownsRow w.heap.size 125 4 (.slice sa (peLoop x k).2.length sc) (peLoop x k).2.length (erow (peLoop x k).2)) := hRs
        have hZs := fun (o : Obj) (n : Nat) => (show w.heap.size ≤ (((wr.alloc o).drewN n).setCell ⟨gb, i, none⟩ (.int .i64 ((peLoop x k).1.getD i 0 + x.ents[k].amount))).heap.size by rw [size_setCell']; show w.heap.size ≤ (wr.alloc o).heap.size; rw [World.size_alloc]; omega)
        have HZs : Hid (∀ (o : Obj) (n : Nat), w.heap.size ≤ (((wr.alloc o).drewN n).setCell ⟨gb, i, none⟩ (.int .i64 ((peLoop x k).1.getD i 0 + x.ents[k].amount))).heap.size) := hZs
        clear hZs
        have e1 : (x.ents[k].made + x.mature == x.height) = true := by simp [hm]
        rw [hwi] at z0
        clear hP hst hPs hRs HST HQ HK hE hbrow hwi egd hm HO HS
        generalize hb0 : (peLoop x k).1.getD i 0 = b at *
        clear hb0
        generalize x.ents[k].val = evl at *
        generalize x.ents[k].made = emd at *
        generalize x.ents[k].amount = eam at *
        go_wp2
        go_quiet (fail)
        go_wp2
        go_region
        go_wp2
        refine And.intro ?_ ?_
        · have hl := HL.out
          first
            | exact ⟨k + 1, by omega, by go_num, HZs.out _ 0, by rw [hl]; exact HRs.out _ 0, by rw [hl]; exact (HPs.out _ 0).eta rfl rfl rfl rfl⟩
            | ((repeat apply Exists.intro); exact ⟨⟨k + 1, by omega, by go_num, HZs.out _ 0, by rw [hl]; exact HRs.out _ 0, by rw [hl]; exact (HPs.out _ 0).eta rfl rfl rfl rfl⟩, rfl⟩)
        · simp [intOf]; omega
      · have HL : Hid (peLoop x (k + 1) = ((peLoop x k).1, (peLoop x k).2 ++ [x.ents[k]])) := by
          show (if (x.ents.getD k e0).made + x.mature = x.height then _ else _) = _
          rw [egd, if_neg hm]
        have HP : Hid (PE S W0 wr g { x with bal := (peLoop x k).1 } (.slice (some ⟨gb, 0, none⟩) x.bal.length bc) vv (.slice (some ⟨ge, 0, none⟩) x.ents.length ec)) := hP
        have HN : Hid (∀ b, (Value.slice sa (peLoop x k).2.length sc).ownBlock = some b → w.heap.size ≤ b) := fun b hb => (hst.lt b hb).1
        have e1 : (x.ents[k].made + x.mature == x.height) = false := by simp [hm]
        have HC : Hid ([Value.int .i64 x.ents[k].who, .int .i64 x.ents[k].val, .int .i64 x.ents[k].made, .int .i64 x.ents[k].amount] = x.ents[k].cells) := rfl
        clear hP hst HQ HK hE hbrow hwi egd hm cb fb bb0 bb1 c4
        generalize x.ents[k] = en at *
        generalize hwn : (peLoop x k).2 = wt at *
        have HWN : Hid ((peLoop x k).2 = wt) := hwn
        clear hwn
        have hw1 : w.heap.size ≤ wr.heap.size + 1 + 1 := by omega
        go_wp2
        go_quiet (fail)
        go_wp2_with (at_builtin; go_loud (refine wpList_append_sl2 rfl (.tmp 38) (.tmp 40) 87 rfl 125 i5 _ 4 32 Tryz.underlying87 hi5 hz50 hz51 hz52 rfl (by decide) w.heap.size _ wt.length (erow wt) rfl ((HST.out.alloc _).alloc _) (by simp [World.drewN]; omega) ⟨_, 0, none⟩ 1 1 [.int .i64 en.who, .int .i64 en.val, .int .i64 en.made, .int .i64 en.amount] rfl (by rfl) (cell_newAt _ [.int .i64 en.who, .int .i64 en.val, .int .i64 en.made, .int .i64 en.amount] _ _ (by simp [World.drewN])) (by simp [Value.oneCell']) (by decide) (by simp [maxLen]; omega) (by omega) ?_))
        intro g5 cap5 v5 hown5 hgrow5 hor5 hold5
        have hq := ((HP.out.alloc (.cells #[.int .i64 en.who, .int .i64 en.val, .int .i64 en.made, .int .i64 en.amount] 125)).drewN nq).alloc (.cells #[.int .i64 en.who, .int .i64 en.val, .int .i64 en.made, .int .i64 en.amount] 125)
        have HQ5 : Hid (PE S W0 v5 g { x with bal := (peLoop x k).1 } (.slice (some ⟨gb, 0, none⟩) x.bal.length bc) vv (.slice (some ⟨ge, 0, none⟩) x.ents.length ec)) := by
          have hkk := grown_kp hgrow5
          refine PE.kp (w := _) (hq.eta rfl rfl rfl rfl) hkk (fun b _ ho h => ?_) (fun b _ h => ?_)
          · have h1 := HN.out b h.symm
            have h2 := HO.out b ho
            omega
          · exact HS.out b (HN.out b h.symm)
        have HO5 : Hid (v5.ownsRow w.heap.size 125 4 (.slice (some ⟨g5, 0, none⟩) (wt.length + 1) cap5) (wt ++ [en]).length (erow (wt ++ [en]))) := by
          rw [erow_snoc, List.length_append]; exact hown5
        have HZ5 : Hid (w.heap.size ≤ v5.heap.size) := by
          have := hgrow5.size
          simp [World.drewN] at this
          exact (show w.heap.size ≤ v5.heap.size by omega)
        clear hown5 hgrow5 hor5 hold5 hq HP HST HN
        go_wp2
        refine And.intro ?_ ?_
        · have hl := HL.out
          first
            | exact ⟨k + 1, by omega, by go_num, HZ5.out, by rw [hl]; exact HO5.out, by rw [hl]; exact HQ5.out⟩
            | ((repeat apply Exists.intro); exact ⟨⟨k + 1, by omega, by go_num, HZ5.out, by rw [hl]; exact HO5.out, by rw [hl]; exact HQ5.out⟩, rfl⟩)
        · simp [intOf]; omega
    · have ek : k = x.ents.length := by omega
      subst ek
      have c73' : wr.cell? ⟨g, 73, none⟩ = some (.slice ea x.ents.length ec) := hP.evAt
      have f73 := hP.L.frozen 73
      have HF : Hid (PE S W0 (wr.setCell ⟨g, 73, none⟩ (.slice sa (peLoop x x.ents.length).2.length sc)) g (payEF x) (.slice ba x.bal.length bc) vv (.slice sa (peLoop x x.ents.length).2.length sc)) := by
        rw [HQ.out]
        exact hP.setEv (ents' := (peLoop x x.ents.length).2) (ownsRow_base hst (Nat.zero_le _)) (fun b hb => HS.out b (hst.lt b hb).1)
      clear hP hst HQ HK
      go_wp2
      go_end0
      exact ⟨rfl, _, HF.out⟩
end Go.Proofs.YtohjjgefklhmaaaGreatDoor

namespace Go.Proofs.YtohjjgefklhmaaaGreatDoor
open Go.ChangeShapes Go.WideShapes Go.ChangeAt Go.RowKit
set_option linter.unusedVariables false

def blkR (x : EC) : Int × EC := if 1000 ≤ x.height then (14, x) else (0, setF (payEF (upF x)))

section
variable {S : Nat → Prop} {W0 : World} (g : Nat) (x : EC) (bv vv ev : Value) (w : World) (h : PE S W0 w g x bv vv ev)
include h
set_option maxHeartbeats 2000000 in
set_option maxRecDepth 100000 in
theorem gBlock (hv : x.vals.length ≤ 5) (hF : FeeOk x) (hh0 : 0 ≤ x.height) (ht0 : 0 ≤ (payEF (upF x)).top) (ht1 : (payEF (upF x)).top ≤ 1000) (hv3 : (payEF (upF x)).vals.length ≤ 1000) (hhs : (shareF x).height = x.height) (hE : x.height < 1000 → EntOk (upF x)) :
    Calls Tryz.prog 55 #[.pointer (some ⟨g, 0, none⟩)] w fun e w' => e = .returned (.int .i64 (blkR x).1) ∧ ∃ ev', PE S W0 w' g (blkR x).2 bv vv ev' := by
  by_cases hh : 1000 ≤ x.height
  · have e1 : blkR x = (14, x) := by unfold blkR; rw [if_pos hh]
    rw [e1]
    have c3 : w.cell? ⟨g, 3, none⟩ = some (.int .i64 x.height) := h.L.cell 3
    have HP : Hid (PE S W0 w g x bv vv ev) := h
    clear h e1
    go_enter Tryz.func55, Tryz.ntmps55
    go_wp2
    go_ret
    exact ⟨rfl, ev, HP.out⟩
  · have e1 : blkR x = (0, setF (payEF (upF x))) := by unfold blkR; rw [if_neg hh]
    rw [e1]
    refine (eBlock g x (payEF (upF x)) bv vv ev w h hv hF hh0 (by omega) ht0 ht1 hv3 hhs (fun _ => True) (fun w1 h1 => (gpayEntries g (upF x) bv vv ev w1 h1 (hE (by omega))).mono ?_)).mono ?_
    · rintro e w2 ⟨rfl, ev', h2⟩
      exact ⟨rfl, ev', trivial, h2⟩
    · rintro e w2 ⟨rfl, ev', _, h2⟩
      exact ⟨rfl, ev', h2⟩

set_option maxHeartbeats 2000000 in
set_option maxRecDepth 100000 in
theorem eCollect (k j : Nat) (ha : AccOk x) (hc : chErr x k = 0) (he : ownErrF (chargeFE x k) k j = 0) (hl : x.bal.length ≤ 6) (hk : k < x.bal.length) (hv : x.vals.length ≤ 5) (hj : j < x.vals.length) (k0 : 0 ≤ (x.val j).comm) (k1 : (x.val j).comm ≤ 1000000000) (o0 : 0 ≤ (x.val j).outs) (o1 : (x.val j).outs ≤ 1000000000) (b0 : 0 ≤ (chargeFE x k).balAt k) (b1 : (chargeFE x k).balAt k ≤ 1000000000) :
    Calls Tryz.prog 60 #[.pointer (some ⟨g, 0, none⟩), .int .i64 k, .int .i64 j] w fun e w' => e = .returned (.int .i64 0) ∧ PE S W0 w' g (collF (chargeFE x k) k j) bv vv ev := by
  have HC : Hid (Calls Tryz.prog 105 #[.pointer (some ⟨g, 0, none⟩), .int .i64 k] w fun e w' => e = .returned (.int .i64 0) ∧ PE S W0 w' g (chargeFE x k) bv vv ev) := gcharge_yes g x bv vv ev w h k ha hc
  have HE : Hid (∀ w, PE S W0 w g (chargeFE x k) bv vv ev → Calls Tryz.prog 117 #[.pointer (some ⟨g, 0, none⟩), .int .i64 k, .int .i64 j] w fun e w' => e = .returned (.int .i64 0) ∧ w = w') := fun w hw => by
    have := gownerError g (chargeFE x k) bv vv ev w hw k j hv
    rw [he] at this
    exact this
  have HA : Hid (∀ w, PE S W0 w g (chargeFE x k) bv vv ev → Calls Tryz.prog 118 #[.pointer (some ⟨g, 0, none⟩), .int .i64 k, .int .i64 j] w fun e w' => e = .returned (.tuple #[]) ∧ PE S W0 w' g (collF (chargeFE x k) k j) bv vv ev) := fun w hw => gpayComm g _ _ _ _ w hw k j (by simp only [chargeFE, List.length_set]; exact hl) (by simp only [chargeFE, List.length_set]; exact hk) hv hj k0 k1 o0 o1 b0 b1
  clear h he
  go_enter Tryz.func60, Tryz.ntmps60
  go_wp2_with fail
  refine HC.out.mono ?_
  rintro e w1 ⟨rfl, hP⟩
  have HP : Hid (PE S W0 w1 g (chargeFE x k) bv vv ev) := hP
  clear hP HC
  go_wp2_with fail
  refine (HE.out _ HP.out).mono ?_
  rintro e w2 ⟨rfl, rfl⟩
  clear HE
  go_wp2_with fail
  refine (HA.out _ HP.out).mono ?_
  rintro e w3 ⟨rfl, hP3⟩
  have HP3 : Hid (PE S W0 w3 g (collF (chargeFE x k) k j) bv vv ev) := hP3
  clear hP3 HP HA
  go_wp2
  go_ret
  exact ⟨rfl, HP3.out⟩

set_option maxHeartbeats 2000000 in
set_option maxRecDepth 100000 in
theorem gSpend (dst a : Int) (ha : AccOk x) :
    Calls Tryz.prog 54 #[.pointer (some ⟨g, 0, none⟩), .int .i64 dst, .int .i64 a] w fun e w' => e = .returned (.int .i64 (spendR x dst a).1) ∧ PE S W0 w' g (spendR x dst a).2 bv vv ev := by
  have hl := ha.l1
  have p0 := ha.p0
  have p1 := ha.p1
  have c6 : w.cell? ⟨g, 6, none⟩ = some (.int .i64 x.pool) := h.L.cell 6
  have f6 := h.L.frozen 6
  obtain ⟨ba, bc, rfl⟩ := ownsRow_slice h.b
  have c4 : w.cell? ⟨g, 4, none⟩ = some (.slice ba x.bal.length bc) := h.L.cell 4
  have HT : Hid (Calls Tryz.prog 106 #[.pointer (some ⟨g, 0, none⟩), .int .i64 x.pool, .int .i64 dst, .int .i64 a] w fun e w' => e = .returned (.int .i64 (transR x.bal.length x.pool dst a)) ∧ w = w') := gtransfer g _ _ dst a _ _ w c4 (by omega)
  by_cases ht : transR x.bal.length x.pool dst a = 0
  case neg =>
    have e1 : spendR x dst a = (transR x.bal.length x.pool dst a, x) := by unfold spendR; rw [if_pos ht]
    rw [e1]
    have ht' : (transR x.bal.length x.pool dst a == 0) = false := by simp [ht]
    have HP : Hid (PE S W0 w g x (.slice ba x.bal.length bc) vv ev) := h
    clear h e1 ht
    generalize transR x.bal.length x.pool dst a = te at *
    go_enter Tryz.func54, Tryz.ntmps54
    go_wp2_with (go_at_call 106; refine HT.out.mono ?_; rintro e w' ⟨rfl, rfl⟩)
    go_ret
    exact ⟨rfl, HP.out⟩
  have e1 : spendR x dst a = (0, { x with pool := x.pool - a, bal := x.bal.set dst.toNat (x.balAt dst.toNat + a) }) := by unfold spendR; rw [if_neg (by simp [ht])]
  rw [e1]
  rw [ht] at HT
  obtain ⟨t, rfl, htl, a1, a2⟩ := transR_ok ht
  rw [Int.toNat_natCast]
  obtain ⟨gb, rfl, _⟩ := ownsRow_some h.b (by omega)
  have cb := h.balAt' htl
  have fb := h.b.frozenAt t
  have n1 : g ≠ gb := fun e => Has.apart h.L h.b (by decide) (by rw [e]; rfl)
  have n2 : gb ≠ g := fun e => n1 e.symm
  obtain ⟨b0, b1⟩ := ha.b t htl
  have hP1 := h.setHead (x' := { x with pool := x.pool - a }) 6 (.int .i64 (x.pool - a)) rfl rfl rfl rfl rfl
  have hP2 := hP1.setBal rfl t (x.balAt t + a)
  have HF : Hid (PE S W0 ((w.setCell ⟨g, 6, none⟩ (.int .i64 (x.pool - a))).setCell ⟨gb, t, none⟩ (.int .i64 (x.balAt t + a))) g { x with pool := x.pool - a, bal := x.bal.set t (x.balAt t + a) } (.slice (some ⟨gb, 0, none⟩) x.bal.length bc) vv ev) := hP2
  clear h hP1 hP2 e1 ht ha
  generalize hby : x.balAt t = y at *
  clear hby
  go_enter Tryz.func54, Tryz.ntmps54
  go_wp2_with (go_at_call 106; refine HT.out.mono ?_; rintro e w' ⟨rfl, rfl⟩)
  all_goals try go_region
  all_goals try go_wp2
  all_goals try go_region
  all_goals try go_wp2
  go_ret
  exact ⟨rfl, HF.out.eta rfl rfl rfl rfl⟩
end
end Go.Proofs.YtohjjgefklhmaaaGreatDoor
