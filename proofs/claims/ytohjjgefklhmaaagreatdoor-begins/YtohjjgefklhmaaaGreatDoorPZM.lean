import Derived.Test.YtohjjgefklhmaaaGreatDoorXWrite2M
namespace Go.Proofs.YtohjjgefklhmaaaGreatDoor
open Go.ChangeShapes Go.WideShapes Go.ChangeAt Go.RowKit
set_option linter.unusedVariables false
set_option linter.unusedSimpArgs false

/-- the engine's numbers where nobody is bonded -/
def ofLC (c : LC) (vals : List VS) : EC := { top := c.top, mature := c.mature, fee := c.fee, height := c.height, fees := c.fees, pool := c.pool, bal := c.bal, tab := List.replicate 65 0, vals := vals, ents := [] }
def ZR (vals : List VS) : Prop := ∀ k (h : k < vals.length), vals[k].shares = 0 ∧ vals[k].comm = 0 ∧ vals[k].outs = 0 ∧ 0 ≤ vals[k].rate ∧ vals[k].rate ≤ 100 ∧ 0 ≤ vals[k].owner ∧ vals[k].owner ≤ 1000000
/-- an engine of the program, its blocks in F -/
def EngF (F : Nat → Prop) (w : World) (g : Nat) (c : LC) (vals : List VS) : Prop :=
  ∃ bv vv, PE (fun k => Own g bv vv (.slice none 0 0) k ∨ w.heap.size ≤ k) w w g (ofLC c vals) bv vv (.slice none 0 0) ∧ (∀ k, Own g bv vv (.slice none 0 0) k → F k) ∧ ZR vals
theorem EngF.mk' {F : Nat → Prop} {w : World} {g : Nat} {c : LC} {vals : List VS} {bv vv : Value} (hL : Has w g 111 (eL (ofLC c vals) bv vv (.slice none 0 0))) (hb : w.ownsRow 0 3 1 bv c.bal.length (ints c.bal)) (hv : w.ownsRow 0 122 8 vv vals.length (vrow vals)) (f1 : F g) (f2 : ∀ k, bv.ownBlock = some k → F k) (f3 : ∀ k, vv.ownBlock = some k → F k) (hz : ZR vals) : EngF F w g c vals := by
  refine ⟨bv, vv, ⟨Kp.refl _ _, fun k hk => .inr hk, .inl (.inl rfl), hL, by simp [ofLC], hb, hv, World.ownsRow_nil _ _ _ _, fun k hk => .inl (.inr (.inl hk)), fun k hk => .inl (.inr (.inr (.inl hk))), fun k hk => by simp [Value.ownBlock] at hk⟩, ?_, hz⟩
  rintro k (rfl | hk | hk | hk)
  · exact f1
  · exact f2 k hk
  · exact f3 k hk
  · simp [Value.ownBlock] at hk
theorem EngF.move {F F' S : Nat → Prop} {w w' : World} {g : Nat} {c : LC} {vals : List VS} (h : EngF F w g c vals) (k : Kp S w w') (hF : ∀ b, b < w.heap.size → F b → ¬ S b ∧ F' b) : EngF F' w' g c vals := by
  obtain ⟨bv, vv, hP, hO, hz⟩ := h
  have hG : ∀ b, Own g bv vv (.slice none 0 0) b → ¬ S b ∧ F' b := fun b hb => hF b (hP.ownlt b hb) (hO b hb)
  exact EngF.mk' (hP.L.kp k (hG g (.inl rfl)).1) (ownsRow_kp hP.b k (fun b hb => (hG b (.inr (.inl hb))).1)) (ownsRow_kp hP.v k (fun b hb => (hG b (.inr (.inr (.inl hb)))).1)) (hG g (.inl rfl)).2 (fun b hb => (hG b (.inr (.inl hb))).2) (fun b hb => (hG b (.inr (.inr (.inl hb)))).2) hz
/-- an engine behind a call -/
theorem EngF.back {F : Nat → Prop} {w w' : World} {g : Nat} {c : LC} {vals : List VS} {bv vv : Value} (hO : ∀ k, Own g bv vv (.slice none 0 0) k → F k) (hz : ZR vals) (h : PE (fun k => Own g bv vv (.slice none 0 0) k ∨ w.heap.size ≤ k) w w' g (ofLC c vals) bv vv (.slice none 0 0)) : EngF F w' g c vals ∧ Kp F w w' :=
  ⟨⟨bv, vv, h.rest, hO, hz⟩, h.fr.mono (fun k hk hs => hs.elim (hO k) (fun h => absurd h (by omega)))⟩

theorem vs0_ZR {bs os rs : List Int} {top mature fee : Int} (h : GoodGen bs os rs top mature fee) : ZR (vs0 os rs) := fun k hk => by
  obtain ⟨hB, ⟨g5, g6, g7, g8, g9⟩, _⟩ := h
  have hl : (vs0 os rs).length = os.length := vs0_length os rs g7
  have hko : k < os.length := by omega
  have hkr : k < rs.length := by omega
  have e : (vs0 os rs)[k] = ⟨os[k], rs[k], 0, 0, 0, 0, false, false⟩ := by simp [vs0]
  rw [e]
  have := g9 k rs[k] hkr (List.getElem?_eq_getElem hkr)
  have h8 := g8 k os[k] hko (List.getElem?_eq_getElem hko)
  have hl6 := hB.2.1
  exact ⟨rfl, rfl, rfl, this.1, this.2, h8.1, by show os[k] ≤ 1000000; omega⟩

/-! ### the two ways to tell it -/
theorem inN_inB (a : Int) (n : Nat) : inN a 0 ((n : Int) - 1) = inB a n := by
  unfold inN inB
  have : decide (a ≤ (n : Int) - 1) = decide (a < (n : Int)) := by
    by_cases h : a < (n : Int)
    · rw [decide_eq_true h, decide_eq_true (by omega)]
    · rw [decide_eq_false h, decide_eq_false (by omega)]
  rw [this]
theorem chargeF_of (c : LC) (vals : List VS) (who : Int) : (chargeF c who).1 = chErr (ofLC c vals) who ∧ (chErr (ofLC c vals) who = 0 → ofLC (chargeF c who).2 vals = chargeFE (ofLC c vals) who.toNat) ∧ (¬ chErr (ofLC c vals) who = 0 → (chargeF c who).2 = c) := by
  unfold chargeF chErr
  rw [inN_inB]
  have e1 : (ofLC c vals).bal.length = c.bal.length := rfl
  have e2 : (ofLC c vals).balAt who.toNat = c.bal.getD who.toNat 0 := rfl
  have e3 : (ofLC c vals).fee = c.fee := rfl
  rw [e1, e2, e3]
  by_cases h : inB who c.bal.length = true
  · rw [if_pos h, if_neg (show ¬ inB who c.bal.length = false by simp [h])]
    by_cases h2 : c.bal.getD who.toNat 0 < c.fee
    · rw [if_pos h2, if_pos h2]; exact ⟨rfl, fun h => (by cases h), fun _ => rfl⟩
    · rw [if_neg h2, if_neg h2]; exact ⟨rfl, fun _ => rfl, fun h => absurd rfl h⟩
  · rw [if_neg h, if_pos (show inB who c.bal.length = false by simpa using h)]; exact ⟨rfl, fun h => (by cases h), fun _ => rfl⟩
theorem giveF_of (c : LC) (vals : List VS) (k : Nat) (tw a : Int) : (giveF c k tw a).1 = transR c.bal.length (c.bal.getD k 0) tw a ∧ (transR c.bal.length (c.bal.getD k 0) tw a = 0 → ofLC (giveF c k tw a).2 vals = { ofLC c vals with bal := sentB c.bal k tw.toNat a }) ∧ (¬ transR c.bal.length (c.bal.getD k 0) tw a = 0 → (giveF c k tw a).2 = c) := by
  unfold giveF transR
  rw [inN_inB, Int.toNat_natCast]
  by_cases h : inB tw c.bal.length = true
  · rw [if_pos h, if_neg (show ¬ inB tw c.bal.length = false by simp [h])]
    by_cases h1 : a < 1
    · rw [if_pos h1, if_pos h1]; exact ⟨rfl, fun h => (by cases h), fun _ => rfl⟩
    · rw [if_neg h1, if_neg h1]
      by_cases h2 : c.bal.getD k 0 < a
      · rw [if_pos h2, if_pos h2]; exact ⟨rfl, fun h => (by cases h), fun _ => rfl⟩
      · rw [if_neg h2, if_neg h2]; exact ⟨rfl, fun _ => rfl, fun h => absurd rfl h⟩
  · rw [if_neg h, if_pos (show inB tw c.bal.length = false by simpa using h)]; exact ⟨rfl, fun h => (by cases h), fun _ => rfl⟩
theorem sendR_of (c : LC) (vals : List VS) (who tw a : Int) : sendR (ofLC c vals) who tw a = ((sendF c who tw a).1, ofLC (sendF c who tw a).2 vals) := by
  obtain ⟨h1, h2, h3⟩ := chargeF_of c vals who
  unfold sendR sendF
  by_cases hc : chErr (ofLC c vals) who = 0
  · obtain ⟨k, rfl, hk, _⟩ := chErr_ok hc
    rw [if_pos (by rw [h1]; exact hc)]
    have e := h2 hc
    rw [Int.toNat_natCast] at e
    have el : (chargeFE (ofLC c vals) k).bal = (chargeF c k).2.bal := by rw [← e]; rfl
    obtain ⟨g1, g2, g3⟩ := giveF_of (chargeF c k).2 vals k tw a
    have eb : (chargeFE (ofLC c vals) k).balAt k = (chargeF c k).2.bal.getD k 0 := by unfold EC.balAt; rw [el]
    by_cases ht : transR (chargeF c k).2.bal.length ((chargeF c k).2.bal.getD k 0) tw a = 0
    · rw [msgR_ok hc (by (try simp only); rw [eb, el]; exact ht), g2 ht, g1, ht, ← e]
      rfl
    · rw [msgR_err hc (by (try simp only); rw [eb, el]; exact ht), g3 ht, g1, e]
      try simp only
      rw [eb, el]
  · rw [msgR_fail hc, if_neg (by rw [h1]; exact hc), h1, h3 hc]
theorem spendR_of (c : LC) (vals : List VS) (tw a : Int) : spendR (ofLC c vals) tw a = ((spendF c tw a).1, ofLC (spendF c tw a).2 vals) := by
  unfold spendR spendF transR
  rw [inN_inB]
  have e1 : (ofLC c vals).bal.length = c.bal.length := rfl
  have e2 : (ofLC c vals).pool = c.pool := rfl
  rw [e1, e2]
  by_cases h : inB tw c.bal.length = true
  · rw [if_pos h, if_neg (show ¬ inB tw c.bal.length = false by simp [h])]
    by_cases h1 : a < 1
    · rw [if_pos h1, if_pos h1, if_pos (by decide)]
    · rw [if_neg h1, if_neg h1]
      by_cases h2 : c.pool < a
      · rw [if_pos h2, if_pos h2, if_pos (by decide)]
      · rw [if_neg h2, if_neg h2, if_neg (by decide)]; rfl
  · rw [if_neg h, if_pos (show inB tw c.bal.length = false by simpa using h), if_pos (by decide)]
theorem offL_Z (l : List VS) (h : ZV l) (k : Nat) : offL l k = l := by
  induction k with
  | zero => rfl
  | succ k ih =>
    unfold offL
    rw [ih]
    apply List.ext_getElem?
    intro i
    rw [List.getElem?_modify]
    by_cases e : k = i
    · subst e
      by_cases hk : k < l.length
      · rw [List.getElem?_eq_getElem hk]
        have := (h k hk).2
        simp only [if_true, Option.map_some, Option.some.injEq]
        generalize l[k] = v at *
        cases v; simp_all
      · rw [List.getElem?_eq_none (by omega)]; rfl
    · simp [e]
theorem bestL_Z (l : List VS) (h : ZV l) (k : Nat) (hk : k ≤ l.length) : bestL l k = (-1, 0) := by
  induction k with
  | zero => rfl
  | succ k ih =>
    unfold bestL
    rw [ih (by omega), if_neg]
    rintro ⟨_, _, h3⟩
    have e : l.getD k v0 = l[k] := by simp [show k < l.length by omega]
    rw [e, (h k (by omega)).1] at h3
    simp at h3
theorem chooseF_Z (l : List VS) (h : ZV l) (top : Int) : chooseF l top = l := by
  unfold chooseF
  rw [offL_Z l h]
  cases top.toNat with
  | zero => rfl
  | succ n => unfold chooseL; rw [bestL_Z l h l.length (Nat.le_refl _), if_pos (by decide)]
theorem shLoop_Z (x : EC) (f : Int) (k : Nat) : shLoop x f 0 k = (x, f) := by
  induction k with
  | zero => rfl
  | succ k ih => unfold shLoop; rw [if_neg (by simp), ih]
theorem upF_of (c : LC) (vals : List VS) (hz : ZV vals) : upF (ofLC c vals) = ofLC { c with pool := c.pool + c.fees, fees := 0, height := c.height + 1 } vals := by
  unfold upF shareF
  have hb : bondedN (ofLC c vals).vals = 0 := hz.sums.1
  rw [hb, shLoop_Z]
  rfl
theorem accOk_of {c : LC} (vals : List VS) (hc : GoodC c) : AccOk (ofLC c vals) := by
  have hs : 0 ≤ sumL c.bal := (sumL_mem _ hc.bal0).1
  have ht := hc.tot
  have h1 := hc.fees0
  have h2 := hc.pool0
  refine ⟨hc.len, hc.fee0, by have := hc.fee1; show c.fee ≤ _; omega, hc.fees0, by show c.fees ≤ _; omega, hc.pool0, by show c.pool ≤ _; omega, fun k hk => ?_⟩
  have := hc.at (k := k) hk
  show 0 ≤ c.bal.getD k 0 ∧ c.bal.getD k 0 ≤ _
  omega
theorem feeOk_of {c : LC} {vals : List VS} (hc : GoodC c) (hz : ZV vals) (hr : ZR vals) : FeeOk (ofLC c vals) := by
  have hs : 0 ≤ sumL c.bal := (sumL_mem _ hc.bal0).1
  have ht := hc.tot
  have h1 := hc.fees0
  have h2 := hc.pool0
  have hv : ∀ j (hj : j < vals.length), (ofLC c vals).val j = vals[j] := fun j hj => ((ofLC c vals).val_eq hj).symm
  refine ⟨fun j hj => ?_, fun j hj => ?_, fun j hj => ?_, fun j hj => ?_, fun j hj => ?_, hc.fees0, by show c.fees ≤ _; omega, hc.pool0, by show c.pool ≤ _; omega⟩
  · have hj' : j < vals.length := hj
    rw [hv j hj']
    obtain ⟨r1, _⟩ := hr j hj'
    obtain ⟨r2, _⟩ := hz j hj'
    exact ⟨by omega, by omega, by omega, by omega⟩
  · have hj' : j < vals.length := hj
    rw [hv j hj']
    exact ⟨(hr j hj').2.2.2.1, (hr j hj').2.2.2.2.1⟩
  · have hj' : j < vals.length := hj
    rw [hv j hj']
    have := (hr j hj').2.1
    omega
  · have hj' : j < vals.length := hj
    rw [hv j hj']
    have := (hr j hj').2.2.1
    omega
  · have e : (ofLC c vals).per j = 0 := rep_getD 65 _
    rw [e]; omega
theorem dAll_Z (s : Nat → Nat → Int) (h : ∀ k j, s k j = 0) (nv n : Nat) : dAll s nv n = [] := by
  have hr : ∀ who k, dRow s who k = [] := by
    intro who k
    induction k with
    | zero => rfl
    | succ k ih => unfold dRow; rw [if_neg (by rw [h]; omega), ih]
  induction n with
  | zero => rfl
  | succ n ih => unfold dAll; rw [ih, hr]; rfl

/-! ### the calls, in these words -/
theorem esee {F : Nat → Prop} {w : World} {g : Nat} {c : LC} {vals : List VS} (h : EngF F w g c vals) (hc : GoodC c) (hz : ZV vals) (l2 : vals.length ≤ 5) :
    Calls Tryz.prog 42 #[.pointer (some ⟨g, 0, none⟩)] w fun e w' => SeePost w w' e (VwOf c vals) := by
  obtain ⟨bv, vv, hP, hO, hr⟩ := h
  refine (kseeR g (ofLC c vals) bv vv _ w hP hz.vb (fun k hk => by simp [ofLC] at hk) hc.len l2 (by simp [ofLC])).mono ?_
  rintro e w' ⟨sb, sv, sd, se, rfl, h1, h2, h3, h4, h5⟩
  have hd : dAll (ofLC c vals).sh (ofLC c vals).vals.length (ofLC c vals).bal.length = [] := dAll_Z _ (fun k j => rep_getD 65 _) _ _
  rw [hd] at h4
  refine ⟨sb, sv, sd, se, ?_, h1, h2, h4, h3, h5⟩
  have e0 : looseV (ofLC c vals).vals + sumE (ofLC c vals).ents = looseV vals := by
    show looseV vals + sumE [] = looseV vals
    simp [sumE]
  rw [e0]
  rfl
theorem esend {F : Nat → Prop} {w : World} {g : Nat} {c : LC} {vals : List VS} (h : EngF F w g c vals) (hc : GoodC c) (who tw amount : Int) :
    Calls Tryz.prog 53 #[.pointer (some ⟨g, 0, none⟩), .int .i64 who, .int .i64 tw, .int .i64 amount] w fun e w' => e = .returned (.int .i64 (sendF c who tw amount).1) ∧ EngF F w' g (sendF c who tw amount).2 vals ∧ Kp F w w' := by
  obtain ⟨bv, vv, hP, hO, hr⟩ := h
  have := gSend g (ofLC c vals) bv vv _ w hP who tw amount (accOk_of vals hc)
  rw [sendR_of] at this
  refine this.mono ?_
  rintro e w' ⟨rfl, hp⟩
  exact ⟨rfl, EngF.back hO hr hp⟩
theorem espend {F : Nat → Prop} {w : World} {g : Nat} {c : LC} {vals : List VS} (h : EngF F w g c vals) (hc : GoodC c) (tw amount : Int) :
    Calls Tryz.prog 54 #[.pointer (some ⟨g, 0, none⟩), .int .i64 tw, .int .i64 amount] w fun e w' => e = .returned (.int .i64 (spendF c tw amount).1) ∧ EngF F w' g (spendF c tw amount).2 vals ∧ Kp F w w' := by
  obtain ⟨bv, vv, hP, hO, hr⟩ := h
  have := gSpend g (ofLC c vals) bv vv _ w hP tw amount (accOk_of vals hc)
  rw [spendR_of] at this
  refine this.mono ?_
  rintro e w' ⟨rfl, hp⟩
  exact ⟨rfl, EngF.back hO hr hp⟩
set_option maxHeartbeats 1000000 in
set_option maxRecDepth 100000 in
theorem eblock_end {F : Nat → Prop} {w : World} {g : Nat} {c : LC} {vals : List VS} (h : EngF F w g c vals) (hh : c.height = 1000) :
    Calls Tryz.prog 55 #[.pointer (some ⟨g, 0, none⟩)] w fun e w' => e = .returned (.int .i64 14) ∧ w = w' := by
  obtain ⟨bv, vv, hP, hO, hr⟩ := h
  have c3 : w.cell? ⟨g, 3, none⟩ = some (.int .i64 c.height) := hP.L.cell 3
  rw [hh] at c3
  clear hP hO hr hh
  go_enter Tryz.func55, Tryz.ntmps55
  go_wp2
  go_ret
  exact ⟨rfl, rfl⟩
theorem eblock {F : Nat → Prop} {w : World} {g : Nat} {c : LC} {vals : List VS} (h : EngF F w g c vals) (hc : GoodC c) (hz : ZV vals) (l2 : vals.length ≤ 5) :
    Calls Tryz.prog 55 #[.pointer (some ⟨g, 0, none⟩)] w fun e w' => e = .returned (.int .i64 (blockF c).1) ∧ EngF F w' g (blockF c).2 vals ∧ Kp F w w' := by
  by_cases hh : c.height = 1000
  · have e0 : blockF c = (14, c) := by unfold blockF; rw [if_pos hh]
    rw [e0]
    refine (eblock_end h hh).mono ?_
    rintro e w' ⟨rfl, rfl⟩
    exact ⟨rfl, h, Kp.refl _ _⟩
  · have e0 : blockF c = (0, { c with pool := c.pool + c.fees, fees := 0, height := c.height + 1 }) := by unfold blockF; rw [if_neg hh]
    rw [e0]
    obtain ⟨bv, vv, hP, hO, hr⟩ := h
    have hu := upF_of c vals hz
    have h1 := hc.h1
    have hst : setF (upF (ofLC c vals)) = ofLC { c with pool := c.pool + c.fees, fees := 0, height := c.height + 1 } vals := by
      rw [hu]
      unfold setF
      have : chooseF (ofLC { c with pool := c.pool + c.fees, fees := 0, height := c.height + 1 } vals).vals (ofLC { c with pool := c.pool + c.fees, fees := 0, height := c.height + 1 } vals).top = vals := chooseF_Z vals hz _
      rw [this]
      rfl
    have key := eBlock0 g (ofLC c vals) (upF (ofLC c vals)) bv vv _ (.slice none 0 0) w hP l2 (feeOk_of hc hz hr) hc.h0 (show c.height < 1000 by omega) (by rw [hu]; have := hc.top1; show 0 ≤ c.top; omega) (by rw [hu]; have := hc.top2; show c.top ≤ 1000; omega) (by rw [hu]; show vals.length ≤ 1000; omega) (by
      unfold shareF
      have hb : bondedN (ofLC c vals).vals = 0 := hz.sums.1
      rw [hb, shLoop_Z]) (fun w1 h1 => eents0 g _ bv vv _ w1 h1 (by rw [hu]; rfl))
    rw [hst] at key
    refine key.mono ?_
    rintro e w' ⟨rfl, hp⟩
    exact ⟨rfl, EngF.back hO hr hp⟩
end Go.Proofs.YtohjjgefklhmaaaGreatDoor
