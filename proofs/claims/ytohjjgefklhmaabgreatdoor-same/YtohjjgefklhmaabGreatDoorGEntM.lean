import Derived.Test.YtohjjgefklhmaabGreatDoorGLeaveM
namespace Go.Proofs.YtohjjgefklhmaabGreatDoor
open Go.ChangeShapes Go.WideShapes Go.ChangeAt Go.RowKit
set_option linter.unusedVariables false

theorem PE.push {S : Nat → Prop} {W0 w v5 : World} {g : Nat} {x : EC} {bv vv ev ev' : Value} {o : ES} (h : PE S W0 w g x bv vv ev) (hg : w.grownBy v5 ev.ownBlock) (hown : v5.ownsRow 0 80 4 ev' (x.ents.length + 1) (erow x.ents ++ o.cells)) (hev : ∀ k, ev'.ownBlock = some k → ev.ownBlock = some k ∨ w.heap.size ≤ k) :
    Has v5 g 59 (eL x bv vv ev) ∧ PE S W0 (v5.setCell ⟨g, 73, none⟩ ev') g { x with ents := x.ents ++ [o] } bv vv ev' := by
  have hL := grown_has hg h.L (Has.apart h.L h.e (by decide))
  have hb := h.b.kept hg (ownsRow_apart h.b h.e (by decide))
  have hv := h.v.kept hg (ownsRow_apart h.v h.e (by decide))
  have hk : Kp S W0 v5 := h.fr.trans ⟨hg.os, hg.tape, hg.output, hg.size, fun k hk hs => hg.block k hk (fun e => hs (h.se k e.symm))⟩
  refine ⟨hL, hk.setCell h.hg _, h.hS, h.hg, ?_, h.ht, ownsRow_setCell hb _ _ (fun e => Has.apart hL hb (by decide) e.symm), ownsRow_setCell hv _ _ (fun e => Has.apart hL hv (by decide) e.symm), ?_, h.sb, h.sv, fun k hk' => ?_⟩
  · have := hL.set 73 ev'
    rw [eL_set_ev x bv vv ev ev' h.ht] at this
    exact this
  · simp only [List.length_append, List.length_singleton]
    rw [erow_snoc]
    exact ownsRow_setCell hown _ _ (fun e => Has.apart hL hown (by decide) e.symm)
  · rcases hev k hk' with h1 | h1
    · exact h.se k h1
    · exact h.hS k (Nat.le_trans h.fr.size h1)
def entF (x : EC) (k j : Nat) (t : Int) : EC := if t < 1 then x else { x with ents := x.ents ++ [⟨k, j, x.height, t⟩] }

set_option maxHeartbeats 2000000 in
set_option maxRecDepth 100000 in
theorem gaddEntry {S : Nat → Prop} {W0 : World} (g : Nat) (x : EC) (bv vv ev : Value) (w : World) (h : PE S W0 w g x bv vv ev) (k j : Nat) (t : Int) (hl : x.ents.length ≤ 100000) :
    Calls Tryz.prog 62 #[.pointer (some ⟨g, 0, none⟩), .int .i64 k, .int .i64 j, .int .i64 t] w fun e w' => e = .returned (.tuple #[]) ∧ ∃ ev', PE S W0 w' g (entF x k j t) bv vv ev' := by
  by_cases ht : t < 1
  · have HP : Hid (PE S W0 w g (entF x k j t) bv vv ev) := by unfold entF; rw [if_pos ht]; exact h
    clear h
    go_enter Tryz.func62, Tryz.ntmps62
    go_wp2
    refine bodyPost_ret (results_none rfl _ _ _) rfl ?_
    exact ⟨rfl, ev, HP.out⟩
  have HQ : Hid (entF x k j t = { x with ents := x.ents ++ [⟨k, j, x.height, t⟩] }) := by unfold entF; rw [if_neg ht]; exact rfl
  obtain ⟨i5, hi5, hz50, hz51, hz52⟩ := info_parts info_entP
  obtain ⟨ea, ec, rfl⟩ := ownsRow_slice h.e
  have c3 : w.cell? ⟨g, 3, none⟩ = some (.int .i64 x.height) := h.L.cell 3
  have c73 : w.cell? ⟨g, 73, none⟩ = some (.slice ea x.ents.length ec) := h.evAt
  have g1 := h.L.lt
  have g2 : g < w.heap.size + 1 := by omega
  have HP : Hid (PE S W0 w g x bv vv (.slice ea x.ents.length ec)) := h
  clear h
  go_enter Tryz.func62, Tryz.ntmps62
  go_wp2_with fail
  go_region_law (refine step_append_sl2 rfl (.tmp 14) (.tmp 23) 39 rfl 80 i5 _ 4 32 Tryz.underlying39 hi5 hz50 hz51 hz52 rfl (by decide) 0 (.slice ea x.ents.length ec) x.ents.length (erow x.ents) (by first | rfl | simp [Act.eval]) (HP.out.alloc _).e (Nat.zero_le _) ⟨_, 0, none⟩ 1 1 [.int .i64 k, .int .i64 j, .int .i64 x.height, .int .i64 t] (by first | rfl | simp [Act.eval]) (by rfl) (cell_newAt _ [.int .i64 k, .int .i64 j, .int .i64 x.height, .int .i64 t] _ _ (by simp)) (by simp [Value.oneCell']) (by decide) (by simp [maxLen]; omega) (by omega) ?_; intro g5 cap5 v5 hown5 hgrow5 hor5 hold5; obtain ⟨hL5, hP5⟩ := ((HP.out.alloc _).drew).push (o := ⟨k, j, x.height, t⟩) hgrow5 hown5 (fun q hq => by simp only [Value.ownBlock, Option.some.injEq] at hq; rw [← hq]; exact hor5); have c73' : v5.cell? ⟨g, 73, none⟩ = some (.slice ea x.ents.length ec) := (hL5.cell 73).trans (eL_ev _ _ _ _ HP.out.ht); have f73' := hL5.frozen 73; have HP5 : Hid _ := hP5; clear hP5 hown5 hgrow5 hold5 hL5)
  all_goals
    go_wp2
    go_end0
    rw [HQ.out]
    exact ⟨rfl, _, HP5.out⟩
end Go.Proofs.YtohjjgefklhmaabGreatDoor

namespace Go.Proofs.YtohjjgefklhmaabGreatDoor
open Go.ChangeShapes Go.WideShapes Go.ChangeAt Go.RowKit
set_option linter.unusedVariables false

/-- numbers that do not wrap where a delegation is paid and changed -/
structure LvOk (x : EC) (k j : Nat) : Prop where
  hl : x.bal.length ≤ 6
  hk : k < x.bal.length
  hv : x.vals.length ≤ 5
  hj : j < x.vals.length
  hV : ValOk (x.val j)
  hd : DueOk x k j
  o0 : 0 ≤ (x.val j).outs
  o1 : (x.val j).outs ≤ 1000000
  k0 : 0 ≤ (x.val j).comm
  k1 : (x.val j).comm ≤ 1000000
  b0 : 0 ≤ x.balAt k
  b1 : x.balAt k ≤ 1000000
  p0 : 0 ≤ x.pool
  p1 : x.pool ≤ 1000000
  s0 : 0 ≤ x.sh k j
  s1 : x.sh k j ≤ (x.val j).shares
  hdo : x.due k j ≤ 1000000
def unbF (y : EC) (k j : Nat) (n : Int) : EC := entF (leaveF y k j n) k j (tokensForF (y.val j) n)
def unbR (x : EC) (who val n : Int) : Int × EC := msgR x who (fun y k => unbErrF y k val n) (fun y k => unbF y k val.toNat n)
theorem unbErrF_ok {x : EC} {k : Nat} {val n : Int} (h : unbErrF x k val n = 0) : ∃ j : Nat, val = j ∧ j < x.vals.length ∧ 1 ≤ n ∧ n ≤ x.sh k j ∧ countE x.ents k j < 4 := by
  unfold unbErrF at h
  split at h
  · cases h
  · rename_i h1
    obtain ⟨j, rfl, hj⟩ := inB_tt (show inB val x.vals.length = true by simpa using h1)
    rw [Int.toNat_natCast] at h
    split at h
    · cases h
    · split at h
      · cases h
      · rename_i h2 h3
        exact ⟨j, rfl, hj, by omega, by omega, by omega⟩

section
variable {S : Nat → Prop} {W0 : World} (g : Nat) (x : EC) (bv vv ev : Value) (w : World) (h : PE S W0 w g x bv vv ev)
include h
theorem gleave' (k j : Nat) (n : Int) (ok : LvOk x k j) (n1 : 1 ≤ n) (n2 : n ≤ x.sh k j) :
    Calls Tryz.prog 61 #[.pointer (some ⟨g, 0, none⟩), .int .i64 k, .int .i64 j, .int .i64 n] w fun e w' => e = .returned (.int .i64 (tokensForF (x.val j) n)) ∧ PE S W0 w' g (leaveF x k j n) bv vv ev :=
  gleave g x bv vv ev w h k j n ok.hl ok.hk ok.hv ok.hj ok.hV ok.hd ok.o0 ok.o1 ok.k0 ok.k1 ok.b0 ok.b1 ok.p0 ok.p1 n1 n2 ok.s1 ok.hdo

set_option maxHeartbeats 2000000 in
set_option maxRecDepth 100000 in
theorem eUnbond (k j : Nat) (n : Int) (ha : AccOk x) (hc : chErr x k = 0) (ok : LvOk (chargeF x k) k j) (hE : x.ents.length ≤ 99999) (he : unbErrF (chargeF x k) k j n = 0) (n1 : 1 ≤ n) (n2 : n ≤ x.sh k j) (hel : (leaveF (chargeF x k) k j n).ents.length ≤ 100000) :
    Calls Tryz.prog 26 #[.pointer (some ⟨g, 0, none⟩), .int .i64 k, .int .i64 j, .int .i64 n] w fun e w' => e = .returned (.int .i64 0) ∧ ∃ ev', PE S W0 w' g (unbF (chargeF x k) k j n) bv vv ev' := by
  have HC : Hid (Calls Tryz.prog 47 #[.pointer (some ⟨g, 0, none⟩), .int .i64 k] w fun e w' => e = .returned (.int .i64 0) ∧ PE S W0 w' g (chargeF x k) bv vv ev) := gcharge_yes g x bv vv ev w h k ha hc
  have hk6 : k < 6 := Nat.lt_of_lt_of_le ok.hk ok.hl
  have HE : Hid (∀ w, PE S W0 w g (chargeF x k) bv vv ev → Calls Tryz.prog 60 #[.pointer (some ⟨g, 0, none⟩), .int .i64 k, .int .i64 j, .int .i64 n] w fun e w' => e = .returned (.int .i64 0) ∧ Below w.heap.size w w') := fun w hw => by
    have := gunbondError g (chargeF x k) bv vv ev w hw k j n hk6 ok.hv (by show x.ents.length ≤ 100000; omega)
    rw [he] at this
    exact this
  have HL : Hid (∀ w, PE S W0 w g (chargeF x k) bv vv ev → Calls Tryz.prog 61 #[.pointer (some ⟨g, 0, none⟩), .int .i64 k, .int .i64 j, .int .i64 n] w fun e w' => e = .returned (.int .i64 (tokensForF ((chargeF x k).val j) n)) ∧ PE S W0 w' g (leaveF (chargeF x k) k j n) bv vv ev) := fun w hw => gleave' g _ _ _ _ w hw k j n ok n1 n2
  have HA : Hid (∀ w, PE S W0 w g (leaveF (chargeF x k) k j n) bv vv ev → Calls Tryz.prog 62 #[.pointer (some ⟨g, 0, none⟩), .int .i64 k, .int .i64 j, .int .i64 (tokensForF ((chargeF x k).val j) n)] w fun e w' => e = .returned (.tuple #[]) ∧ ∃ ev', PE S W0 w' g (unbF (chargeF x k) k j n) bv vv ev') := fun w hw => gaddEntry g _ _ _ _ w hw k j _ hel
  clear h ok he hel
  generalize tokensForF ((chargeF x k).val j) n = tk at *
  go_enter Tryz.func26, Tryz.ntmps26
  go_wp2_with fail
  refine HC.out.mono ?_
  rintro e w1 ⟨rfl, hP⟩
  have HP : Hid (PE S W0 w1 g (chargeF x k) bv vv ev) := hP
  clear hP HC
  go_wp2_with fail
  refine (HE.out _ HP.out).mono ?_
  rintro e w2 ⟨rfl, hb⟩
  have HP2 : Hid (PE S W0 w2 g (chargeF x k) bv vv ev) := HP.out.below hb
  clear hb HP HE
  go_wp2_with fail
  refine (HL.out _ HP2.out).mono ?_
  rintro e w3 ⟨rfl, hP3⟩
  have HP3 : Hid (PE S W0 w3 g (leaveF (chargeF x k) k j n) bv vv ev) := hP3
  clear hP3 HP2 HL
  go_wp2_with fail
  refine (HA.out _ HP3.out).mono ?_
  rintro e w4 ⟨rfl, hP4⟩
  have HP4 : Hid (∃ ev', PE S W0 w4 g (unbF (chargeF x k) k j n) bv vv ev') := hP4
  clear hP4 HP3 HA
  go_wp2
  go_ret
  exact ⟨rfl, HP4.out⟩
end
end Go.Proofs.YtohjjgefklhmaabGreatDoor
