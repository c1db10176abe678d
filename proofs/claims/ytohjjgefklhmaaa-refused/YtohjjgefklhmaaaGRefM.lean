import Derived.Test.YtohjjgefklhmaaaGAlikeM
namespace Go.Proofs.Ytohjjgefklhmaaa
open Go.ChangeShapes Go.WideShapes Go.ChangeAt Go.RowKit
set_option linter.unusedVariables false

def isMsg (k : Int) : Prop := 1 ≤ k ∧ k ≤ 9 ∧ k ≠ 2 ∧ k ≠ 8
theorem msgR_no {x : EC} {who : Int} {err : EC → Nat → Int} {act : EC → Nat → EC} (h : ¬ (msgR x who err act).1 = 0) : (chErr x who = 0 ∧ (msgR x who err act).2 = chargeF x who.toNat) ∨ (¬ chErr x who = 0 ∧ (msgR x who err act).2 = x) := by
  unfold msgR at h ⊢
  by_cases hc : chErr x who = 0
  · left
    rw [if_neg (by simp [hc])] at h ⊢
    by_cases he : err (chargeF x who.toNat) who.toNat = 0
    · rw [if_neg (by simp [he])] at h; exact absurd rfl h
    · rw [if_pos he]; exact ⟨hc, rfl⟩
  · right
    rw [if_pos hc]; exact ⟨hc, rfl⟩
/-- what is refused turns nothing but the fee -/
theorem doesR_no (x : EC) (k a b c d : Int) (h : ¬ (doesR x k a b c d).1 = 0) : ((isMsg k ∧ chErr x a = 0) ∧ (doesR x k a b c d).2 = chargeF x a.toNat) ∨ (¬ (isMsg k ∧ chErr x a = 0) ∧ (doesR x k a b c d).2 = x) := by
  have key : ∀ {r : Int × EC}, isMsg k → ((chErr x a = 0 ∧ r.2 = chargeF x a.toNat) ∨ (¬ chErr x a = 0 ∧ r.2 = x)) → ((isMsg k ∧ chErr x a = 0) ∧ r.2 = chargeF x a.toNat) ∨ (¬ (isMsg k ∧ chErr x a = 0) ∧ r.2 = x) := fun hm hr => by
    rcases hr with ⟨h1, h2⟩ | ⟨h1, h2⟩
    · exact .inl ⟨⟨hm, h1⟩, h2⟩
    · exact .inr ⟨fun h => h1 h.2, h2⟩
  unfold doesR at h ⊢
  by_cases e1 : k = 1
  · rw [if_pos e1] at h ⊢; exact key (by subst e1; exact ⟨by decide, by decide, by decide, by decide⟩) (msgR_no h)
  rw [if_neg e1] at h ⊢
  by_cases e2 : k = 2
  · rw [if_pos e2] at h ⊢
    refine .inr ⟨fun h => h.1.2.2.1 e2, ?_⟩
    unfold spendR at h ⊢
    split
    · rfl
    · rename_i h2; rw [if_neg h2] at h; exact absurd rfl h
  rw [if_neg e2] at h ⊢
  by_cases e3 : k = 3
  · rw [if_pos e3] at h ⊢; exact key (by subst e3; exact ⟨by decide, by decide, by decide, by decide⟩) (msgR_no h)
  rw [if_neg e3] at h ⊢
  by_cases e4 : k = 4
  · rw [if_pos e4] at h ⊢; exact key (by subst e4; exact ⟨by decide, by decide, by decide, by decide⟩) (msgR_no h)
  rw [if_neg e4] at h ⊢
  by_cases e5 : k = 5
  · rw [if_pos e5] at h ⊢; exact key (by subst e5; exact ⟨by decide, by decide, by decide, by decide⟩) (msgR_no h)
  rw [if_neg e5] at h ⊢
  by_cases e6 : k = 6
  · rw [if_pos e6] at h ⊢; exact key (by subst e6; exact ⟨by decide, by decide, by decide, by decide⟩) (msgR_no h)
  rw [if_neg e6] at h ⊢
  by_cases e7 : k = 7
  · rw [if_pos e7] at h ⊢; exact key (by subst e7; exact ⟨by decide, by decide, by decide, by decide⟩) (msgR_no h)
  rw [if_neg e7] at h ⊢
  by_cases e8 : k = 8
  · rw [if_pos e8] at h ⊢
    refine .inr ⟨fun h => h.1.2.2.2 e8, ?_⟩
    unfold slashR at h ⊢
    split
    · rfl
    · rename_i h2; rw [if_neg h2] at h; exact absurd rfl h
  rw [if_neg e8] at h ⊢
  by_cases e9 : k = 9
  · rw [if_pos e9] at h ⊢; exact key (by subst e9; exact ⟨by decide, by decide, by decide, by decide⟩) (msgR_no h)
  rw [if_neg e9] at h ⊢
  refine .inr ⟨fun h => ?_, ?_⟩
  · have := h.1; unfold isMsg at this; omega
  · unfold blkR at h ⊢
    split
    · rfl
    · rename_i h2; rw [if_neg h2] at h; exact absurd rfl h
/-- the fee that the statement reckons with -/
def feeOf (x : EC) (k a : Int) : Int := if 1 ≤ k ∧ k ≤ 9 ∧ k ≠ 2 ∧ k ≠ 8 ∧ 0 ≤ a ∧ a < x.bal.length ∧ x.fee ≤ x.balAt a.toNat then x.fee else 0
theorem feeOf_eq (x : EC) (k a : Int) : (isMsg k ∧ chErr x a = 0 → feeOf x k a = x.fee) ∧ (¬ (isMsg k ∧ chErr x a = 0) → feeOf x k a = 0) := by
  have h : (1 ≤ k ∧ k ≤ 9 ∧ k ≠ 2 ∧ k ≠ 8 ∧ 0 ≤ a ∧ a < x.bal.length ∧ x.fee ≤ x.balAt a.toNat) ↔ (isMsg k ∧ chErr x a = 0) := by
    unfold isMsg
    constructor
    · rintro ⟨h1, h2, h3, h4, h5, h6, h7⟩
      refine ⟨⟨h1, h2, h3, h4⟩, ?_⟩
      unfold chErr
      rw [if_neg (by rw [inB_ok h5 h6]; decide), if_neg (by omega)]
    · rintro ⟨⟨h1, h2, h3, h4⟩, h5⟩
      obtain ⟨n, rfl, hn, hf⟩ := chErr_ok h5
      exact ⟨h1, h2, h3, h4, by omega, by omega, by rw [Int.toNat_natCast]; exact hf⟩
  unfold feeOf
  exact ⟨fun hc => by rw [if_pos (h.2 hc)], fun hc => by rw [if_neg (fun h2 => hc (h.1 h2))]⟩
/-- the two views, side by side -/
structure AlikeOk (x y : EC) (who fee : Int) : Prop where
  hgt : y.height = x.height
  fees : x.fees = y.fees - fee
  pool : y.pool = x.pool
  vals : y.vals = x.vals
  sh : y.sh = x.sh
  ents : y.ents = x.ents
  bl : y.bal.length = x.bal.length
  bal : ∀ k, k < x.bal.length → x.bal.getD k 0 = y.bal.getD k 0 + (if (k : Int) = who then fee else 0)
theorem doesR_alike (x : EC) (k a b c d : Int) (h : ¬ (doesR x k a b c d).1 = 0) : AlikeOk x (doesR x k a b c d).2 a (feeOf x k a) := by
  rcases doesR_no x k a b c d h with ⟨h1, h2⟩ | ⟨h1, h2⟩
  · rw [h2, (feeOf_eq x k a).1 h1]
    obtain ⟨n, rfl, hn, hf⟩ := chErr_ok h1.2
    rw [Int.toNat_natCast]
    refine ⟨rfl, by simp only [chargeF]; omega, rfl, rfl, rfl, rfl, by simp [chargeF], fun i hi => ?_⟩
    simp only [chargeF]
    rw [balAt_set _ _ _ _ hn]
    by_cases e : i = n
    · subst e; rw [if_pos rfl, if_pos rfl]; unfold EC.balAt; omega
    · rw [if_neg e, if_neg (by omega)]; omega
  · rw [h2, (feeOf_eq x k a).2 h1]
    exact ⟨rfl, by omega, rfl, rfl, rfl, rfl, rfl, fun i hi => by split <;> omega⟩
set_option maxRecDepth 100000 in
theorem alike_call {y z : EC} {ka F : Int} {u : World} {B C : Nat} {sb sv sd se tb tv td te : Value} (oky : Fine y) (okz : Fine z) (A : AlikeOk y z ka F) (f0 : 0 ≤ F) (f1 : F ≤ 100) (le : y.ents.length ≤ 1000)
    (h1 : u.ownsRow B 3 1 sb y.bal.length (ints y.bal)) (h3 : u.ownsRow B 47 8 sv y.vals.length (vrow y.vals)) (h7 : u.ownsRow B 52 4 se y.ents.length (erow y.ents)) (h5 : u.ownsRow B 75 3 sd (dAll y.sh y.vals.length y.bal.length).length (drow (dAll y.sh y.vals.length y.bal.length)))
    (h2 : u.ownsRow C 3 1 tb z.bal.length (ints z.bal)) (h4 : u.ownsRow C 47 8 tv z.vals.length (vrow z.vals)) (h8 : u.ownsRow C 52 4 te z.ents.length (erow z.ents)) (h6 : u.ownsRow C 75 3 td (dAll z.sh z.vals.length z.bal.length).length (drow (dAll z.sh z.vals.length z.bal.length))) :
    Calls Try.prog 16 #[.agg #[.int .i64 y.height, sb, .int .i64 y.fees, .int .i64 y.pool, .int .i64 (bondedN y.vals), .int .i64 (looseV y.vals + sumE y.ents), sv, sd, se], .agg #[.int .i64 z.height, tb, .int .i64 z.fees, .int .i64 z.pool, .int .i64 (bondedN z.vals), .int .i64 (looseV z.vals + sumE z.ents), tv, td, te], .int .i64 ka, .int .i64 F] u fun e w' => e = .returned (.bool true) ∧ Below u.heap.size u w' := by
  have okY : Ok y.height y := oky
  have okZ : Ok z.height z := okz
  rw [A.vals] at h4
  rw [A.ents] at h8
  rw [A.sh, A.vals, A.bl] at h6
  rw [A.hgt, A.pool, A.vals, A.ents]
  exact alike_any _ _ _ _ _ _ y.bal z.bal y.vals _ y.ents _ _ _ _ _ _ _ _ u ka F (Rd.of_owns h1).ints (Rd.of_owns h2).ints (Rd.of_owns h3) (Rd.of_owns h4) (Rd.of_owns h5) (Rd.of_owns h6) (Rd.of_owns h7) (Rd.of_owns h8) A.bl okY.b6 okY.v5 (Nat.le_trans (dAll_len0 _ _ _) (Nat.mul_le_mul okY.b6 okY.v5)) le A.fees f0 f1 okZ.fees okZ.bds.2.1 A.bal (fun k hk => ⟨okZ.bal k (by rw [A.bl]; exact hk), okZ.bds.1 k (by rw [A.bl]; exact hk)⟩)
end Go.Proofs.Ytohjjgefklhmaaa
