import Derived.Test.YtohjjgefklhmaabGEntM
namespace Go.Proofs.Ytohjjgefklhmaab
open Go.ChangeShapes Go.WideShapes Go.ChangeAt Go.RowKit
set_option linter.unusedVariables false

def movF (y : EC) (k j t : Nat) (n : Int) : EC := joinF (leaveF y k j n) k t (tokensForF (y.val j) n)
def movR (x : EC) (who val dst n : Int) : Int × EC := msgR x who (fun y k => movErrF y k val dst n) (fun y k => movF y k val.toNat dst.toNat n)
theorem movErrF_ok {x : EC} {k : Nat} {val dst n : Int} (h : movErrF x k val dst n = 0) : ∃ j t : Nat, val = j ∧ dst = t ∧ j < x.vals.length ∧ t < x.vals.length ∧ t ≠ j ∧ 1 ≤ n ∧ n ≤ x.sh k j ∧ 1 ≤ tokensForF (x.val j) n ∧ joinErrF (x.val t) (tokensForF (x.val j) n) = 0 := by
  unfold movErrF at h
  split at h
  · cases h
  · rename_i h1
    obtain ⟨j, rfl, hj⟩ := inB_tt (show inB val x.vals.length = true by simpa using h1)
    split at h
    · cases h
    · rename_i h2
      obtain ⟨t, rfl, ht⟩ := inB_tt (show inB dst x.vals.length = true by
        cases hh : inB dst x.vals.length with
        | true => rfl
        | false => exact absurd (.inl hh) h2)
      rw [Int.toNat_natCast, Int.toNat_natCast] at h
      split at h
      · cases h
      · split at h
        · cases h
        · rename_i h3 h4
          exact ⟨j, t, rfl, rfl, hj, ht, fun e => h2 (.inr (by rw [e])), by omega, by omega, by omega, h⟩
/-- where a delegation is made -/
structure JnOk (x : EC) (k j : Nat) : Prop where
  hl : x.bal.length ≤ 6
  hk : k < x.bal.length
  hv : x.vals.length ≤ 5
  hj : j < x.vals.length
  hV : ValOk (x.val j)
  hd : DueOk x k j
  o0 : 0 ≤ (x.val j).outs
  o1 : (x.val j).outs ≤ 1000000000
  b0 : 0 ≤ x.balAt k
  b1 : x.balAt k ≤ 1000000000
  s0 : 0 ≤ x.sh k j
  s1 : x.sh k j ≤ 1000000

section
variable {S : Nat → Prop} {W0 : World} (g : Nat) (x : EC) (bv vv ev : Value) (w : World) (h : PE S W0 w g x bv vv ev)
include h
theorem gjoin' (k j : Nat) (a : Int) (ok : JnOk x k j) (a1 : 1 ≤ a) (a2 : a ≤ 1000000) :
    Calls Try.prog 19 #[.pointer (some ⟨g, 0, none⟩), .int .i64 k, .int .i64 j, .int .i64 a] w fun e w' => e = .returned (.tuple #[]) ∧ PE S W0 w' g (joinF x k j a) bv vv ev :=
  ejoin g x bv vv ev w h k j a ok.hl ok.hk ok.hv ok.hj ok.hV ok.hd ok.o0 ok.o1 ok.b0 ok.b1 ok.s0 ok.s1 a1 a2

end

/-! ### Collect -/
def collF (x : EC) (k j : Nat) : EC := { x with bal := x.bal.set k (x.balAt k + (x.val j).comm), vals := (x.vals.modify j (fun v => { v with outs := v.outs - v.comm })).modify j (fun v => { v with comm := 0 }) }
def collR (x : EC) (who val : Int) : Int × EC := msgR x who (fun y k => ownErrF y k val) (fun y k => collF y k val.toNat)
theorem ownErrF_ok {x : EC} {who val : Int} (h : ownErrF x who val = 0) : ∃ j : Nat, val = j ∧ j < x.vals.length ∧ (x.val j).owner = who := by
  unfold ownErrF at h
  split at h
  · cases h
  · rename_i h1
    obtain ⟨j, rfl, hj⟩ := inB_tt (show inB val x.vals.length = true by simpa using h1)
    rw [Int.toNat_natCast] at h
    split at h
    · rename_i h2; exact ⟨j, rfl, hj, h2⟩
    · cases h
section
variable {S : Nat → Prop} {W0 : World} (g : Nat) (x : EC) (bv vv ev : Value) (w : World) (h : PE S W0 w g x bv vv ev)
include h
end
end Go.Proofs.Ytohjjgefklhmaab
