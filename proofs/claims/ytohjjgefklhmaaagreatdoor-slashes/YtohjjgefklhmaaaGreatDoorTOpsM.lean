import Derived.Test.YtohjjgefklhmaaaGreatDoorTTieM
namespace Go.Proofs.YtohjjgefklhmaaaGreatDoor
open Go.ChangeShapes Go.WideShapes Go.ChangeAt Go.RowKit
set_option linter.unusedVariables false
set_option linter.unusedSimpArgs false

/-! ### the calls of the ledger in the engine's words -/
def lcOf (x : EC) : LC := { top := x.top, mature := x.mature, fee := x.fee, height := x.height, fees := x.fees, pool := x.pool, bal := x.bal }
theorem mod_mod {α : Type} (l : List α) (j : Nat) (f g : α → α) : (l.modify j f).modify j g = l.modify j (fun v => g (f v)) := by
  apply List.ext_getElem?
  intro i
  simp only [List.getElem?_modify]
  by_cases e : j = i
  · subst e
    cases l[j]? <;> simp
  · simp [e]
theorem mod_id {α : Type} (l : List α) (j : Nat) (f : α → α) (h : ∀ v, f v = v) : l.modify j f = l := by
  have : f = id := funext h
  rw [this]
  apply List.ext_getElem?
  intro i
  simp only [List.getElem?_modify]
  by_cases e : j = i
  · subst e
    cases l[j]? <;> simp
  · simp [e]
theorem bset_self (l : List Int) (k : Nat) : l.set k (l.getD k 0) = l := by
  by_cases h : k < l.length
  · have : l.getD k 0 = l[k] := by simp [h]
    rw [this, List.set_getElem_self]
  · rw [List.set_eq_of_length_le (by omega)]
theorem DTie.same {x x' : EC} {ds : List (DA × Value)} (h : DTie x ds) (hb : x'.bal.length = x.bal.length) (hv : x'.vals.length = x.vals.length) (hh : x'.height = x.height) (ht : x'.tab = x.tab) : DTie x' ds := by
  have e1 : x'.sh = x.sh := by funext k j; unfold EC.sh; rw [ht]
  have e2 : x'.per = x.per := by funext j; unfold EC.per; rw [ht]
  have e3 : x'.upto = x.upto := by funext k j; unfold EC.upto; rw [ht]
  refine ⟨h.srt, fun d hd => ?_, fun k j hk hj hs => h.all k j (by omega) (by omega) (by rw [← e1]; exact hs)⟩
  obtain ⟨k, j, q1, q2, q3, q4, q5, q6, q7⟩ := h.rng d hd
  exact ⟨k, j, q1, q2, by omega, by omega, by rw [e1]; exact q5, q6, by rw [e2, e3, hh]; exact q7⟩
theorem inN_inB0 (a : Int) (n : Nat) : inN a 0 ((n : Int) - 1) = inB a n := by
  unfold inN inB
  have : decide (a ≤ (n : Int) - 1) = decide (a < (n : Int)) := by
    by_cases h : a < (n : Int)
    · rw [decide_eq_true h, decide_eq_true (by omega)]
    · rw [decide_eq_false h, decide_eq_false (by omega)]
  rw [this]
/-- the engine behind the fee -/
def chgX (x : EC) (who : Int) : EC := if chErr x who = 0 then chargeFE x who.toNat else x
theorem charge_lc (x : EC) (who : Int) : chargeF (lcOf x) who = (chErr x who, lcOf (chgX x who)) := by
  unfold chargeF chgX chErr
  rw [inN_inB0]
  have e2 : x.balAt who.toNat = x.bal.getD who.toNat 0 := rfl
  rw [e2]
  by_cases h : inB who x.bal.length = true
  · rw [if_neg (show ¬ inB who x.bal.length = false by simp [h])]
    have h' : inB who (lcOf x).bal.length = true := h
    rw [if_pos h']
    by_cases h2 : x.bal.getD who.toNat 0 < x.fee
    · rw [if_pos (show (lcOf x).bal.getD who.toNat 0 < (lcOf x).fee from h2), if_pos h2, if_neg (by decide)]
    · rw [if_neg (show ¬ (lcOf x).bal.getD who.toNat 0 < (lcOf x).fee from h2), if_neg h2, if_pos rfl]
      rfl
  · have h' : ¬ inB who (lcOf x).bal.length = true := h
    rw [if_neg h', if_pos (show inB who x.bal.length = false by simpa using h), if_neg (by decide)]

theorem chg_cases (x : EC) (who : Int) : (chErr x who ≠ 0 ∧ chgX x who = x) ∨ ∃ k : Nat, who = k ∧ k < x.bal.length ∧ chErr x who = 0 ∧ x.fee ≤ x.balAt k ∧ chgX x who = chargeFE x k := by
  by_cases hc : chErr x who = 0
  · obtain ⟨k, rfl, hk, hf⟩ := chErr_ok hc
    exact .inr ⟨k, rfl, hk, hc, hf, by unfold chgX; rw [if_pos hc, Int.toNat_natCast]⟩
  · exact .inl ⟨hc, by unfold chgX; rw [if_neg hc]⟩
theorem DTie.charge {x : EC} {ds : List (DA × Value)} (h : DTie x ds) (k : Nat) : DTie (chargeFE x k) ds := h.same (by simp [chargeFE]) rfl rfl rfl
theorem Fine.chg {x : EC} (ok : Fine x) {k : Nat} (hc : chErr x k = 0) : Fine (chargeFE x k) := (Left.charge ok (Nat.le_refl _) hc).fine
theorem DOth.of_upd {x x' : EC} {k j : Nat} (u : Upd x x' k j) : DOth x x' k j := ⟨u.bl, u.vl, u.hgt, fun a b h1 h2 h3 => ⟨u.sh a b h1 h2 h3, by rw [u.per b h2, u.upt a b h1 h2 h3]⟩⟩
/-- what the ledger is told to pay -/
def dueQ (x : EC) (who v q : Int) : Prop := ∀ k j : Nat, who = k → v = j → k < x.bal.length → j < x.vals.length → q = x.due k j

section
variable {x : EC} (ok : Fine x) {ds : List (DA × Value)} (t : DTie x ds)
include ok t
theorem paid_tie {k j i : Nat} (hk : k < x.bal.length) (hj : j < x.vals.length) (hi : i < ds.length) (hw : ds[i].1.who = k) (hv : ds[i].1.val = j) (hs : ds[i].1.shares = x.sh k j) (hs0 : 0 < x.sh k j) : DTie (payF x k j) (paidD ds i) := by
  have okx : Ok x.height x := ok
  have b6 := okx.b6
  have v5 := okx.v5
  obtain ⟨e1, e2, e3, e4, e5⟩ := payF_at okx hk hj
  have u := payF_upd okx hk hj
  refine t.upd (DOth.of_upd u) b6 v5 hi hw hv _ hw hv ⟨k, j, hw, hv, by rw [u.bl]; exact hk, by rw [u.vl]; exact hj, by rw [e3]; exact hs, by show 0 < ds[i].1.shares; omega, ?_⟩
  rw [e4, u.per j (by omega), Int.sub_self, u.hgt]
  exact PR.nil okx.hgt0
/-- Withdraw -/
theorem with_tie (who v q : Int) (hq : dueQ x who v q) : ∃ ds', withdrawF (lcOf x) x.vals ds who v q = ((withR x who v).1, lcOf (withR x who v).2, (withR x who v).2.vals, ds') ∧ DTie (withR x who v).2 ds' ∧ (withR x who v).2.ents = x.ents := by
  have okx : Ok x.height x := ok
  unfold withdrawF withR
  rw [charge_lc]
  rcases chg_cases x who with ⟨hc, e⟩ | ⟨k, rfl, hk, hc, hf, e⟩
  · rw [msgR_fail hc, e]
    simp only
    rw [if_neg hc]
    exact ⟨ds, rfl, t, by first | rfl | trivial⟩
  · rw [e]
    simp only
    rw [if_pos hc]
    have hcy := ok.chg hc
    have ty := t.charge k
    have hly : (chargeFE x k).bal.length = x.bal.length := by simp [chargeFE]
    have okx' : Ok (chargeFE x k).height (chargeFE x k) := hcy
    have ha : askF (lcOf (chargeFE x k)) x.vals ds k v = dueErrF (chargeFE x k) k v := by
      unfold askF dueErrF
      rw [inN_inB0, inN_inB0]
      rw [if_pos (show inB (k : Int) (lcOf (chargeFE x k)).bal.length = true by unfold inB; simp [lcOf, hly, hk])]
      by_cases hb : inB v x.vals.length = true
      · rw [if_pos hb, if_neg (show ¬ inB v (chargeFE x k).vals.length = false by rw [show (chargeFE x k).vals = x.vals from rfl]; simp [hb])]
        obtain ⟨j, rfl, hj⟩ := inB_tt hb
        rw [Int.toNat_natCast]
        by_cases hs : 0 < x.sh k j
        · obtain ⟨i, hi, hat, _⟩ := t.at hk hj hs
          rw [hat, if_neg (by omega), if_neg (show ¬ (chargeFE x k).sh k j < 1 from fun h => by have : x.sh k j < 1 := h; omega)]
        · rw [t.no (fun k' j' e1 e2 _ _ => by have : k' = k := by omega
                                              have : j' = j := by omega
                                              subst k' j'; exact hs), if_pos (by decide), if_pos (show (chargeFE x k).sh k j < 1 from (show x.sh k j < 1 by omega))]
      · rw [if_neg hb, if_pos (show inB v (chargeFE x k).vals.length = false by rw [show (chargeFE x k).vals = x.vals from rfl]; simpa using hb)]
    rw [ha]
    by_cases he : dueErrF (chargeFE x k) k v = 0
    · rw [msgR_ok hc he, if_pos he]
      obtain ⟨j, rfl, hj, hs⟩ := dueErrF_ok he
      have hj' : j < x.vals.length := hj
      have hs' : 0 < x.sh k j := hs
      obtain ⟨i, hi, hat, hw, hv, hsh, _⟩ := t.at hk hj' hs'
      rw [hat]
      simp only [Int.toNat_natCast]
      have hd : q = (chargeFE x k).due k j := hq k j rfl rfl hk hj'
      refine ⟨paidD ds i, ?_, paid_tie hcy ty (by omega) hj hi hw hv hsh hs', rfl⟩
      rw [hd]
      rfl
    · rw [msgR_err hc he, if_neg he]
      exact ⟨ds, rfl, ty, by first | rfl | trivial⟩
end
end Go.Proofs.YtohjjgefklhmaaaGreatDoor

namespace Go.Proofs.YtohjjgefklhmaaaGreatDoor
open Go.ChangeShapes Go.WideShapes Go.ChangeAt Go.RowKit
set_option linter.unusedVariables false
set_option linter.unusedSimpArgs false

theorem atF_find {ds : List (DA × Value)} {who v : Int} {i : Nat} (h : atF ds who v = i) : ds.findIdx? (fun d => d.1.who == who && d.1.val == v) = some i := by
  rcases atF_cases ds who v with ⟨hat, _⟩ | ⟨i', hi, hat, hf, _, _⟩
  · omega
  · have : i' = i := by omega
    subst this; exact hf
theorem atF_none {ds : List (DA × Value)} {who v : Int} (h : atF ds who v = -1) : ds.findIdx? (fun d => d.1.who == who && d.1.val == v) = none := by
  rcases atF_cases ds who v with ⟨_, hf⟩ | ⟨i', hi, hat, hf, _, _⟩
  · exact hf
  · omega
section
variable {H : Int} {z : EC} (ok : Ok H z) {ds : List (DA × Value)} (t : DTie z ds) {k j : Nat} (hk : k < z.bal.length) (hj : j < z.vals.length)
include ok t hk hj
theorem paid_tie2 {i : Nat} (hi : i < ds.length) (hw : ds[i].1.who = k) (hv : ds[i].1.val = j) (hs : ds[i].1.shares = z.sh k j) (hs0 : 0 < z.sh k j) : DTie (payF z k j) (paidD ds i) := by
  have b6 := ok.b6
  have v5 := ok.v5
  obtain ⟨e1, e2, e3, e4, e5⟩ := payF_at ok hk hj
  have u := payF_upd ok hk hj
  refine t.upd (DOth.of_upd u) b6 v5 hi hw hv _ hw hv ⟨k, j, hw, hv, by rw [u.bl]; exact hk, by rw [u.vl]; exact hj, by rw [e3]; exact hs, by show 0 < ds[i].1.shares; omega, ?_⟩
  rw [e4, u.per j (by omega), Int.sub_self, u.hgt]
  exact PR.nil ok.hgt0
/-- an amount comes to a validator -/
theorem enter_tie (a n q : Int) (hn : n = sharesForF (z.val j) a) (n1 : 1 ≤ n) (hq : q = z.due k j) :
    ∃ ds', enterF (lcOf z) z.vals ds k j a n q = (lcOf (joinFE z k j a), (joinFE z k j a).vals, ds') ∧ DTie (joinFE z k j a) ds' := by
  have b6 := ok.b6
  have v5 := ok.v5
  obtain ⟨e1, e2, e3, e4, e5⟩ := joinF_at ok hk hj a
  have u := joinF_upd ok hk hj a
  have hsh0 := ok.sh0 k j (by omega) (by omega)
  by_cases hs : 0 < z.sh k j
  · obtain ⟨i, hi, hat, hw, hv, hsh, _⟩ := t.at hk hj hs
    have hp := paid_tie2 ok t hk hj hi hw hv hsh hs
    obtain ⟨p1, p2, p3, p4, p5⟩ := payF_at ok hk hj
    have pu := payF_upd ok hk hj
    have hil : i < (paidD ds i).length := by simpa [paidD] using hi
    have hpi : (paidD ds i)[i] = ({ ds[i].1 with parts := [] }, .slice none 0 0) := by simp [paidD_eq ds i hi]
    have hat2 : atF (paidD ds i) k j = i := by
      obtain ⟨i', hi', h1, h2, h3, _⟩ := hp.at (k := k) (j := j) (by rw [pu.bl]; exact hk) (by rw [pu.vl]; exact hj) (by rw [p3]; exact hs)
      have := hp.uniq hi' hil (by rw [h2, hpi]; exact hw.symm) (by rw [h3, hpi]; exact hv.symm)
      rw [h1, this]
    refine ⟨joinF (paidD ds i) k j n, ?_, ?_⟩
    · unfold enterF
      rw [atF_find hat]
      simp only [Prod.mk.injEq, and_true]
      refine ⟨by rw [hq]; rfl, ?_⟩
      unfold addV paidV
      rw [mod_mod]
      show _ = ((z.vals.modify j _).modify j _).modify j _
      rw [mod_mod, mod_mod, hq, hn]
    · unfold joinF
      rw [atF_find hat2]
      simp only
      refine hp.upd (k := k) (j := j) ⟨by rw [u.bl, pu.bl], by rw [u.vl, pu.vl], by rw [u.hgt, pu.hgt], fun a b h1 h2 h3 => ⟨by rw [u.sh a b h1 h2 h3, pu.sh a b h1 h2 h3], by rw [u.per b h2, u.upt a b h1 h2 h3, pu.per b h2, pu.upt a b h1 h2 h3]⟩⟩ (by rw [pu.bl]; exact b6) (by rw [pu.vl]; exact v5) hil (by rw [hpi]; exact hw) (by rw [hpi]; exact hv) _ (by rw [hpi]; exact hw) (by rw [hpi]; exact hv) ⟨k, j, by rw [hpi]; exact hw, by rw [hpi]; exact hv, by rw [u.bl]; exact hk, by rw [u.vl]; exact hj, ?_, ?_, ?_⟩
      · rw [hpi, e3]; show ds[i].1.shares + n = _; rw [hsh, hn]
      · rw [hpi]; show 0 < ds[i].1.shares + n; omega
      · rw [hpi, e4, u.per j (by omega), Int.sub_self, u.hgt]; exact PR.nil ok.hgt0
  · have hz : z.sh k j = 0 := by omega
    have hd0 : z.due k j = 0 := by unfold EC.due; rw [hz]; simp
    have hat : atF ds k j = -1 := t.no (fun k' j' h1 h2 _ _ => by
      have : k' = k := by omega
      have : j' = j := by omega
      subst k' j'; exact hs)
    refine ⟨joinF ds k j n, ?_, ?_⟩
    · unfold enterF
      rw [atF_none hat]
      simp only [Prod.mk.injEq, and_true]
      refine ⟨?_, ?_⟩
      · show lcOf z = { lcOf z with bal := z.bal.set k (z.balAt k + z.due k j) }
        rw [hd0, Int.add_zero]
        have : z.bal.set k (z.balAt k) = z.bal := bset_self z.bal k
        rw [this]; rfl
      · unfold addV
        show _ = ((z.vals.modify j _).modify j _).modify j _
        rw [mod_mod, mod_mod, hd0, hn]
        congr 1
        funext v
        simp
    · unfold joinF
      rw [atF_none hat]
      simp only
      refine t.new (DOth.of_upd u) b6 v5 (by omega) hk hj _ rfl rfl ⟨k, j, rfl, rfl, by rw [u.bl]; exact hk, by rw [u.vl]; exact hj, ?_, by show 0 < n; omega, ?_⟩
      · rw [e3, hz, hn]; simp
      · rw [e4, u.per j (by omega), Int.sub_self, u.hgt]; exact PR.nil ok.hgt0
/-- shares leave a validator -/
theorem leave_tie (n q : Int) (n1 : 1 ≤ n) (n2 : n ≤ z.sh k j) (hq : q = z.due k j) :
    ∃ ds', lvF (lcOf z) z.vals ds k j n q = (tokensForF (z.val j) n, lcOf (leaveF z k j n), (leaveF z k j n).vals, ds') ∧ DTie (leaveF z k j n) ds' := by
  have b6 := ok.b6
  have v5 := ok.v5
  have hs : 0 < z.sh k j := by omega
  obtain ⟨i, hi, hat, hw, hv, hsh, _⟩ := t.at hk hj hs
  have hshs := ok.shs j hj
  have hle : z.sh k j ≤ (z.val j).shares := by
    rw [← hshs]
    exact sum6_ge (f := fun k => z.sh k j) (fun i hi => ok.sh0 i j hi (by omega)) (by omega)
  have hp := paid_tie2 ok t hk hj hi hw hv hsh hs
  obtain ⟨p1, p2, p3, p4, p5⟩ := payF_at ok hk hj
  have pu := payF_upd ok hk hj
  have hgv : z.vals.getD j ⟨0, 0, 0, 0, 0, 0, false, false⟩ = z.val j := rfl
  have hwt : worthF (z.val j) n = tokensForF (z.val j) n := by unfold worthF tokensForF; rw [if_neg (by omega)]
  have hgi : ((ds[i]?).map (fun d => d.1.shares)).getD 0 = z.sh k j := by simp [hi, hsh]
  have hil : i < (paidD ds i).length := by simpa [paidD] using hi
  have hpi : (paidD ds i)[i] = ({ ds[i].1 with parts := [] }, .slice none 0 0) := by simp [paidD_eq ds i hi]
  obtain ⟨g1, g2, g3, g4, g5, g6⟩ := goneF_at ok hk hj n (tokensForF (z.val j) n)
  have gu := goneF_upd ok hk hj n (tokensForF (z.val j) n)
  have hoth : DOth (payF z k j) (goneF (payF z k j) k j n (tokensForF (z.val j) n)) k j := ⟨by rw [gu.bl, pu.bl], by rw [gu.vl, pu.vl], by rw [gu.hgt, pu.hgt], fun a b h1 h2 h3 => ⟨by rw [gu.sh a b h1 h2 h3, pu.sh a b h1 h2 h3], by rw [gu.per b h2, gu.upt a b h1 h2 h3, pu.per b h2, pu.upt a b h1 h2 h3]⟩⟩
  have hvals : addV (paidV z.vals j q) j (-(tokensForF (z.val j) n)) (-n) = (goneF (payF z k j) k j n (tokensForF (z.val j) n)).vals := by
    unfold addV paidV
    rw [mod_mod]
    show _ = ((z.vals.modify j _).modify j _).modify j _
    rw [mod_mod, mod_mod, hq]
    congr 1
  have hlc : setB (lcOf z) k ((lcOf z).bal.getD k 0 + q) = lcOf (goneF (payF z k j) k j n (tokensForF (z.val j) n)) := by rw [hq]; rfl
  unfold lvF
  rw [hat, Int.toNat_natCast, hgv, hgi, hwt]
  -- the delegations
  have hless : lessD (paidD ds i) i n = (paidD ds i).modify i (fun d => ({ d.1 with shares := d.1.shares - n }, d.2)) := rfl
  by_cases h1 : z.sh k j - n = 0
  · have hgz : ¬ 0 < (goneF (payF z k j) k j n (tokensForF (z.val j) n)).sh k j := by rw [g3]; omega
    have hD : DTie (goneF (payF z k j) k j n (tokensForF (z.val j) n)) ((lessD (paidD ds i) i n).eraseIdx i) := by
      have e : (lessD (paidD ds i) i n).eraseIdx i = (paidD ds i).eraseIdx i := by
        rw [hless, List.eraseIdx_modify_of_eq]
      rw [e]
      exact hp.gone hoth (by rw [pu.bl]; exact b6) (by rw [pu.vl]; exact v5) hil (by rw [hpi]; exact hw) (by rw [hpi]; exact hv) hgz
    rw [if_neg (by simpa using h1)]
    by_cases h2 : (z.val j).shares - n = 0
    · rw [if_neg (by simpa using h2)]
      refine ⟨(lessD (paidD ds i) i n).eraseIdx i, ?_, ?_⟩
      · unfold leaveF
        rw [if_pos h2]
        simp only [Prod.mk.injEq, true_and, and_true]
        rw [hvals]
        refine ⟨?_, rfl⟩
        show ({ top := z.top, mature := z.mature, fee := z.fee, height := z.height, fees := z.fees, pool := z.pool + ((z.val j).outs - q) - (z.val j).comm, bal := z.bal.set k (z.balAt k + q) } : LC) = { top := z.top, mature := z.mature, fee := z.fee, height := z.height, fees := z.fees, pool := z.pool + (((goneF (payF z k j) k j n (tokensForF (z.val j) n)).val j).outs - ((goneF (payF z k j) k j n (tokensForF (z.val j) n)).val j).comm), bal := z.bal.set k (z.balAt k + z.due k j) }
        rw [g2, hq]
        simp only
        congr 1
        omega
      · unfold leaveF
        rw [if_pos h2]
        exact hD.same rfl (by simp [clearF]) rfl rfl
    · rw [if_pos h2]
      refine ⟨(lessD (paidD ds i) i n).eraseIdx i, ?_, ?_⟩
      · unfold leaveF
        rw [if_neg h2, hvals, hlc]
      · unfold leaveF
        rw [if_neg h2]
        exact hD
  · rw [if_pos h1]
    have h2 : ¬ (z.val j).shares - n = 0 := by omega
    refine ⟨lessD (paidD ds i) i n, ?_, ?_⟩
    · unfold leaveF
      rw [if_neg h2, hvals, hlc]
    · unfold leaveF
      rw [if_neg h2, hless]
      refine hp.upd hoth (by rw [pu.bl]; exact b6) (by rw [pu.vl]; exact v5) hil (by rw [hpi]; exact hw) (by rw [hpi]; exact hv) _ (by rw [hpi]; exact hw) (by rw [hpi]; exact hv) ⟨k, j, by rw [hpi]; exact hw, by rw [hpi]; exact hv, by rw [gu.bl]; exact hk, by rw [gu.vl]; exact hj, ?_, ?_, ?_⟩
      · rw [hpi, g3]; show ds[i].1.shares - n = _; rw [hsh]
      · rw [hpi]; show 0 < ds[i].1.shares - n; omega
      · rw [hpi, g4, gu.per j (by omega), Int.sub_self, gu.hgt]; exact PR.nil ok.hgt0
end
end Go.Proofs.YtohjjgefklhmaaaGreatDoor

namespace Go.Proofs.YtohjjgefklhmaaaGreatDoor
open Go.ChangeShapes Go.WideShapes Go.ChangeAt Go.RowKit
set_option linter.unusedVariables false
set_option linter.unusedSimpArgs false

/-! ### Send, Spend -/
theorem give_lc (x : EC) (k : Nat) (tw a : Int) : giveF (lcOf x) k tw a = if transR x.bal.length (x.balAt k) tw a = 0 then (0, lcOf { x with bal := sentB x.bal k tw.toNat a }) else (transR x.bal.length (x.balAt k) tw a, lcOf x) := by
  unfold giveF transR
  rw [inN_inB0, Int.toNat_natCast]
  have e2 : x.balAt k = (lcOf x).bal.getD k 0 := rfl
  rw [e2]
  by_cases h : inB tw x.bal.length = true
  · rw [if_pos (show inB tw (lcOf x).bal.length = true from h), if_neg (show ¬ inB tw x.bal.length = false by simp [h])]
    by_cases h1 : a < 1
    · rw [if_pos h1, if_pos h1, if_neg (by decide)]
    · rw [if_neg h1, if_neg h1]
      by_cases h2 : (lcOf x).bal.getD k 0 < a
      · rw [if_pos h2, if_pos h2, if_neg (by decide)]
      · rw [if_neg h2, if_neg h2, if_pos rfl]; rfl
  · rw [if_neg (show ¬ inB tw (lcOf x).bal.length = true from h), if_pos (show inB tw x.bal.length = false by simpa using h), if_neg (by decide)]
theorem send_tie (x : EC) (who tw a : Int) {ds : List (DA × Value)} (t : DTie x ds) : sendF (lcOf x) who tw a = ((sendR x who tw a).1, lcOf (sendR x who tw a).2) ∧ (sendR x who tw a).2.vals = x.vals ∧ (sendR x who tw a).2.ents = x.ents ∧ DTie (sendR x who tw a).2 ds := by
  unfold sendF sendR
  rw [charge_lc]
  rcases chg_cases x who with ⟨hc, e⟩ | ⟨k, rfl, hk, hc, hf, e⟩
  · rw [msgR_fail hc, e]
    simp only
    rw [if_neg hc]
    exact ⟨rfl, by first | rfl | trivial, by first | rfl | trivial, t⟩
  · rw [e]
    simp only
    rw [if_pos hc, give_lc]
    by_cases he : transR (chargeFE x k).bal.length ((chargeFE x k).balAt k) tw a = 0
    · rw [msgR_ok hc he, if_pos he]
      exact ⟨rfl, rfl, rfl, (t.charge k).same (by simp [sentB]) rfl rfl rfl⟩
    · rw [msgR_err hc he, if_neg he]
      exact ⟨rfl, rfl, rfl, t.charge k⟩
theorem spend_tie (x : EC) (tw a : Int) {ds : List (DA × Value)} (t : DTie x ds) : spendF (lcOf x) tw a = ((spendR x tw a).1, lcOf (spendR x tw a).2) ∧ (spendR x tw a).2.vals = x.vals ∧ (spendR x tw a).2.ents = x.ents ∧ DTie (spendR x tw a).2 ds := by
  unfold spendR spendF transR
  rw [inN_inB0]
  by_cases h : inB tw x.bal.length = true
  · rw [if_pos (show inB tw (lcOf x).bal.length = true from h), if_neg (show ¬ inB tw x.bal.length = false by simp [h])]
    by_cases h1 : a < 1
    · rw [if_pos h1, if_pos h1, if_pos (by decide)]; exact ⟨rfl, rfl, rfl, t⟩
    · rw [if_neg h1, if_neg h1]
      by_cases h2 : x.pool < a
      · rw [if_pos (show (lcOf x).pool < a from h2), if_pos h2, if_pos (by decide)]; exact ⟨rfl, rfl, rfl, t⟩
      · rw [if_neg (show ¬ (lcOf x).pool < a from h2), if_neg h2, if_neg (by decide)]
        exact ⟨rfl, rfl, rfl, t.same (by simp) rfl rfl rfl⟩
  · rw [if_neg (show ¬ inB tw (lcOf x).bal.length = true from h), if_pos (show inB tw x.bal.length = false by simpa using h), if_pos (by decide)]; exact ⟨rfl, rfl, rfl, t⟩

/-! ### Bond -/
theorem buy_err (v : VS) (a : Int) (a1 : 1 ≤ a) (ok : VOkE v) : (buyF v a).2 = joinErrF v a ∧ (joinErrF v a = 0 → (buyF v a).1 = sharesForF v a) := by
  have s0 := ok.s0
  have t0 := ok.t0
  unfold buyF joinErrF
  by_cases hs : 0 < v.shares
  · by_cases ht : v.tokens = 0
    · rw [if_pos hs, if_pos ht, if_pos ⟨hs, ht⟩]; exact ⟨rfl, fun h => by simp at h⟩
    · have d0 : 0 ≤ a * v.shares / v.tokens := Int.ediv_nonneg (Int.mul_nonneg (by omega) s0) t0
      have e : sharesForF v a = a * v.shares / v.tokens := by unfold sharesForF; rw [if_neg (by omega), if_neg ht]
      rw [e, if_pos hs, if_neg ht, if_neg (show ¬ (0 < v.shares ∧ v.tokens = 0) from fun h => ht h.2)]
      generalize a * v.shares / v.tokens = n at *
      by_cases h0 : n = 0
      · rw [if_pos h0, if_pos (show n < 1 by omega)]; exact ⟨rfl, fun h => by simp at h⟩
      · rw [if_neg h0, if_neg (show ¬ n < 1 by omega)]
        by_cases h9 : 1000000 < v.shares + n
        · rw [if_pos h9, if_pos h9]; exact ⟨rfl, fun h => by simp at h⟩
        · rw [if_neg h9, if_neg h9]; exact ⟨rfl, fun _ => rfl⟩
  · have hz : v.shares = 0 := by omega
    have e : sharesForF v a = a := by unfold sharesForF; rw [if_pos hz]
    rw [e, if_neg hs, if_neg (show ¬ (0 < v.shares ∧ v.tokens = 0) from fun h => hs h.1), if_neg (show ¬ a = 0 by omega), if_neg (show ¬ a < 1 by omega)]
    by_cases h9 : 1000000 < v.shares + a
    · rw [if_pos h9, if_pos h9]; exact ⟨rfl, fun h => by simp at h⟩
    · rw [if_neg h9, if_neg h9]; exact ⟨rfl, fun _ => rfl⟩
theorem joinErr_ok {v : VS} {a : Int} (h : joinErrF v a = 0) : 1 ≤ sharesForF v a ∧ v.shares + sharesForF v a ≤ 1000000 := by
  unfold joinErrF at h
  split at h
  · simp at h
  · split at h
    · simp at h
    · split at h
      · simp at h
      · omega
theorem own_lc {x : EC} (who v : Int) (y : EC) (hy : y.vals = x.vals) : ownF x.vals who v = ownErrF y who v := by
  unfold ownF ownErrF
  rw [inN_inB0, hy]
  by_cases hb : inB v x.vals.length = true
  · rw [if_pos hb, if_neg (show ¬ inB v x.vals.length = false by simp [hb])]
    have : (x.vals.getD v.toNat ⟨0, 0, 0, 0, 0, 0, false, false⟩) = y.val v.toNat := by unfold EC.val; rw [hy]
    rw [this]
  · rw [if_neg hb, if_pos (show inB v x.vals.length = false by simpa using hb)]
section
variable {x : EC} (ok : Fine x) {ds : List (DA × Value)} (t : DTie x ds)
include ok t
theorem bond_tie (who v a q : Int) (hq : dueQ x who v q) : ∃ ds', bondF (lcOf x) x.vals ds who v a q = ((bondR x who v a).1, lcOf (bondR x who v a).2, (bondR x who v a).2.vals, ds') ∧ DTie (bondR x who v a).2 ds' ∧ (bondR x who v a).2.ents = x.ents := by
  unfold bondF bondR
  rw [charge_lc]
  rcases chg_cases x who with ⟨hc, e⟩ | ⟨k, rfl, hk, hc, hf, e⟩
  · rw [msgR_fail hc, e]
    simp only
    rw [if_neg hc]
    exact ⟨ds, rfl, t, by first | rfl | trivial⟩
  · rw [e]
    simp only
    rw [if_pos hc]
    have hcy := ok.chg hc
    have ty := t.charge k
    have hly : (chargeFE x k).bal.length = x.bal.length := by simp [chargeFE]
    have okx' : Ok (chargeFE x k).height (chargeFE x k) := hcy
    rw [inN_inB0]
    by_cases hb : inB v x.vals.length = true
    · obtain ⟨j, rfl, hj⟩ := inB_tt hb
      rw [if_pos hb]
      have hbz : ¬ inB (j : Int) (chargeFE x k).vals.length = false := by rw [show (chargeFE x k).vals = x.vals from rfl]; simp [hb]
      have hbe : bondErrF (chargeFE x k) k j a = if a < 1 then 5 else if (chargeFE x k).balAt k < a then 4 else joinErrF ((chargeFE x k).val j) a := by
        unfold bondErrF; rw [if_neg hbz, Int.toNat_natCast]
      simp only [Int.toNat_natCast]
      by_cases ha : a < 1
      · have he : ¬ bondErrF (chargeFE x k) k j a = 0 := by rw [hbe, if_pos ha]; decide
        rw [if_pos ha, msgR_err hc he, hbe, if_pos ha]
        exact ⟨ds, rfl, ty, by first | rfl | trivial⟩
      rw [if_neg ha]
      by_cases hbl : (chargeFE x k).balAt k < a
      · have he : ¬ bondErrF (chargeFE x k) k j a = 0 := by rw [hbe, if_neg ha, if_pos hbl]; decide
        rw [if_pos (show (lcOf (chargeFE x k)).bal.getD k 0 < a from hbl), msgR_err hc he, hbe, if_neg ha, if_pos hbl]
        exact ⟨ds, rfl, ty, by first | rfl | trivial⟩
      rw [if_neg (show ¬ (lcOf (chargeFE x k)).bal.getD k 0 < a from hbl)]
      have hvj : x.vals.getD j ⟨0, 0, 0, 0, 0, 0, false, false⟩ = (chargeFE x k).val j := rfl
      rw [hvj]
      obtain ⟨be1, be2⟩ := buy_err ((chargeFE x k).val j) a (by omega) (okx'.val j hj)
      rw [be1]
      by_cases he0 : joinErrF ((chargeFE x k).val j) a = 0
      · have he : bondErrF (chargeFE x k) k j a = 0 := by rw [hbe, if_neg ha, if_neg hbl, he0]
        rw [if_pos he0, msgR_ok hc he]
        obtain ⟨n1, n2⟩ := joinErr_ok he0
        have hbn : ∀ i, i < (chargeFE x k).bal.length → 0 ≤ ((chargeFE x k).bal.set k ((chargeFE x k).balAt k - a)).getD i 0 := fun i hi => by
          rw [balAt_set _ _ _ _ (by omega)]
          split
          · omega
          · exact okx'.bal i hi
        have hsum := sumI_set (chargeFE x k).bal k ((chargeFE x k).balAt k - a) (by omega)
        have htot := okx'.tot
        have hg : (chargeFE x k).bal.getD k 0 = (chargeFE x k).balAt k := rfl
        rw [hg] at hsum
        have okz : Ok (chargeFE x k).height { chargeFE x k with bal := (chargeFE x k).bal.set k ((chargeFE x k).balAt k - a), fees := (chargeFE x k).fees, pool := (chargeFE x k).pool } := okx'.acc _ _ _ (by simp) hbn okx'.fees okx'.pool (by rw [hsum]; omega)
        have tz : DTie { chargeFE x k with bal := (chargeFE x k).bal.set k ((chargeFE x k).balAt k - a), fees := (chargeFE x k).fees, pool := (chargeFE x k).pool } ds := ty.same (by simp) rfl rfl rfl
        have hd : q = EC.due { chargeFE x k with bal := (chargeFE x k).bal.set k ((chargeFE x k).balAt k - a), fees := (chargeFE x k).fees, pool := (chargeFE x k).pool } k j := hq k j rfl rfl hk hj
        obtain ⟨ds', e1, e2⟩ := enter_tie okz tz (k := k) (j := j) (by simp; omega) hj a (buyF ((chargeFE x k).val j) a).1 q (be2 he0) (by rw [be2 he0]; exact n1) hd
        refine ⟨ds', ?_, e2, rfl⟩
        have e3 : setB (lcOf (chargeFE x k)) k ((lcOf (chargeFE x k)).bal.getD k 0 - a) = lcOf { chargeFE x k with bal := (chargeFE x k).bal.set k ((chargeFE x k).balAt k - a), fees := (chargeFE x k).fees, pool := (chargeFE x k).pool } := rfl
        rw [e3]
        have e4 : x.vals = EC.vals { chargeFE x k with bal := (chargeFE x k).bal.set k ((chargeFE x k).balAt k - a), fees := (chargeFE x k).fees, pool := (chargeFE x k).pool } := rfl
        rw [e4, e1]
      · have he : ¬ bondErrF (chargeFE x k) k j a = 0 := by rw [hbe, if_neg ha, if_neg hbl]; exact he0
        rw [if_neg he0, msgR_err hc he, hbe, if_neg ha, if_neg hbl]
        exact ⟨ds, rfl, ty, by first | rfl | trivial⟩
    · have hb' : inB v x.vals.length = false := by simpa using hb
      have he : bondErrF (chargeFE x k) k v a = 3 := by unfold bondErrF; rw [if_pos (show inB v (chargeFE x k).vals.length = false from hb')]
      rw [if_neg hb, msgR_err hc (by rw [he]; decide), he]
      exact ⟨ds, rfl, ty, by first | rfl | trivial⟩
end
/-! ### Collect, Free -/
theorem coll_tie {x : EC} {ds : List (DA × Value)} (t : DTie x ds) (who v : Int) : collectF (lcOf x) x.vals who v = ((collR x who v).1, lcOf (collR x who v).2, (collR x who v).2.vals) ∧ DTie (collR x who v).2 ds ∧ (collR x who v).2.ents = x.ents := by
  unfold collectF collR ownedF
  rw [charge_lc]
  rcases chg_cases x who with ⟨hc, e⟩ | ⟨k, rfl, hk, hc, hf, e⟩
  · rw [msgR_fail hc, e]
    simp only
    rw [if_neg hc, if_neg hc]
    exact ⟨rfl, t, by first | rfl | trivial⟩
  · rw [e]
    simp only
    rw [if_pos hc, own_lc (x := x) k v (chargeFE x k) rfl]
    by_cases he : ownErrF (chargeFE x k) k v = 0
    · rw [msgR_ok hc he, if_pos he]
      refine ⟨?_, (t.charge k).same (by simp [collF]) (by simp [collF]) rfl rfl, rfl⟩
      simp only [Prod.mk.injEq, true_and]
      refine ⟨rfl, ?_⟩
      unfold collV
      show _ = (x.vals.modify v.toNat _).modify v.toNat _
      rw [mod_mod]
    · rw [msgR_err hc he, if_neg he]
      exact ⟨rfl, t.charge k, by first | rfl | trivial⟩
theorem free_tie {x : EC} {ds : List (DA × Value)} (t : DTie x ds) (who v : Int) : freeF (lcOf x) x.vals who v = ((freeR x who v).1, lcOf (freeR x who v).2, (freeR x who v).2.vals) ∧ DTie (freeR x who v).2 ds ∧ (freeR x who v).2.ents = x.ents := by
  unfold freeF freeR ownedF
  rw [charge_lc]
  rcases chg_cases x who with ⟨hc, e⟩ | ⟨k, rfl, hk, hc, hf, e⟩
  · rw [msgR_fail hc, e]
    simp only
    rw [if_neg hc, if_neg hc]
    exact ⟨rfl, t, by first | rfl | trivial⟩
  · rw [e]
    simp only
    rw [if_pos hc, own_lc (x := x) k v (chargeFE x k) rfl]
    have hv : x.vals.getD v.toNat ⟨0, 0, 0, 0, 0, 0, false, false⟩ = (chargeFE x k).val v.toNat := rfl
    rw [hv]
    by_cases ho : ownErrF (chargeFE x k) k v = 0
    · rw [if_pos ho]
      by_cases hj : ((chargeFE x k).val v.toNat).jailed = true
      · have he : freeErrF (chargeFE x k) k v = 0 := by unfold freeErrF; rw [if_neg (by simpa using ho), if_pos hj]
        rw [if_pos hj, msgR_ok hc he]
        exact ⟨rfl, (t.charge k).same rfl (by simp [outF]) rfl rfl, rfl⟩
      · have he : freeErrF (chargeFE x k) k v = 11 := by unfold freeErrF; rw [if_neg (by simpa using ho), if_neg hj]
        rw [if_neg hj, msgR_err hc (by rw [he]; decide), he]
        exact ⟨rfl, t.charge k, by first | rfl | trivial⟩
    · have he : freeErrF (chargeFE x k) k v = ownErrF (chargeFE x k) k v := by unfold freeErrF; rw [if_pos ho]
      rw [if_neg ho, msgR_err hc (by rw [he]; exact ho), he]
      exact ⟨rfl, t.charge k, by first | rfl | trivial⟩
end Go.Proofs.YtohjjgefklhmaaaGreatDoor

namespace Go.Proofs.YtohjjgefklhmaaaGreatDoor
open Go.ChangeShapes Go.WideShapes Go.ChangeAt Go.RowKit
set_option linter.unusedVariables false
set_option linter.unusedSimpArgs false

/-! ### Unbond -/
theorem cntL_countE (who v : Int) (l : List ES) : (cntL who v l : Int) = countE l who v := by
  have key : ∀ (l : List ES) (a : Int), l.foldl (fun n e => if e.who = who ∧ e.val = v then n + 1 else n) a = a + (cntL who v l : Int) := by
    intro l
    induction l with
    | nil => intro a; simp [cntL]
    | cons e l ih =>
      intro a
      rw [List.foldl_cons, ih]
      unfold cntL
      rw [List.countP_cons]
      by_cases h : e.who = who ∧ e.val = v
      · rw [if_pos h, if_pos (by simp [h.1, h.2])]; push_cast; omega
      · rw [if_neg h, if_neg (by simpa using h)]; simp
  unfold countE
  rw [key]; omega
theorem has_lc {x : EC} {ds : List (DA × Value)} (t : DTie x ds) {k j : Nat} (hk : k < x.bal.length) (hj : j < x.vals.length) (s0 : 0 ≤ x.sh k j) (n : Int) : hasF ds k j n = true ↔ ¬ (n < 1 ∨ x.sh k j < n) := by
  by_cases hs : 0 < x.sh k j
  · obtain ⟨i, hi, hat, hw, hv, hsh, _⟩ := t.at hk hj hs
    unfold hasF
    rw [atF_find hat]
    simp [hi, hsh]
  · have hat : atF ds k j = -1 := t.no (fun k' j' h1 h2 _ _ => by
      have : k' = k := by omega
      have : j' = j := by omega
      subst k' j'; exact hs)
    unfold hasF
    rw [atF_none hat]
    simp
    omega
section
variable {x : EC} (ok : Fine x) {ds : List (DA × Value)} (t : DTie x ds) (hc4 : ∀ k j : Int, countE x.ents k j ≤ 4)
include ok t hc4
theorem unb_tie (who v n q : Int) (hq : dueQ x who v q) : ∃ ds', unbondF (lcOf x) x.vals ds x.ents who v n q = ((unbR x who v n).1, lcOf (unbR x who v n).2, (unbR x who v n).2.vals, ds', (unbR x who v n).2.ents) ∧ DTie (unbR x who v n).2 ds' := by
  unfold unbondF unbR
  rw [charge_lc]
  rcases chg_cases x who with ⟨hc, e⟩ | ⟨k, rfl, hk, hc, hf, e⟩
  · rw [msgR_fail hc, e]
    simp only
    rw [if_neg hc]
    exact ⟨ds, rfl, t⟩
  · rw [e]
    simp only
    rw [if_pos hc]
    have hcy := ok.chg hc
    have ty := t.charge k
    have hly : (chargeFE x k).bal.length = x.bal.length := by simp [chargeFE]
    have okx' : Ok (chargeFE x k).height (chargeFE x k) := hcy
    rw [inN_inB0]
    by_cases hb : inB v x.vals.length = true
    · obtain ⟨j, rfl, hj⟩ := inB_tt hb
      rw [if_pos hb]
      have b6 := okx'.b6
      have v5 := okx'.v5
      have hj5 : j < 5 := by have : (chargeFE x k).vals.length = x.vals.length := rfl; omega
      have s0 : 0 ≤ x.sh k j := okx'.sh0 k j (by omega) hj5
      have hbz : ¬ inB (j : Int) (chargeFE x k).vals.length = false := by rw [show (chargeFE x k).vals = x.vals from rfl]; simp [hb]
      have hue : unbErrF (chargeFE x k) k j n = if n < 1 ∨ x.sh k j < n then 6 else if 4 ≤ countE x.ents k j then 9 else 0 := by
        unfold unbErrF; rw [if_neg hbz, Int.toNat_natCast]; rfl
      simp only [Int.toNat_natCast]
      by_cases hh : hasF ds k j n = true
      · have hh' := (has_lc t hk hj s0 n).1 hh
        rw [if_pos hh]
        by_cases h4 : cntL k j x.ents = 4
        · have he : unbErrF (chargeFE x k) k j n = 9 := by rw [hue, if_neg hh', if_pos (by rw [← cntL_countE]; omega)]
          rw [if_pos h4, msgR_err hc (by rw [he]; decide), he]
          exact ⟨ds, rfl, ty⟩
        · have h4' := hc4 k j
          rw [← cntL_countE] at h4'
          have he : unbErrF (chargeFE x k) k j n = 0 := by rw [hue, if_neg hh', if_neg (by rw [← cntL_countE]; omega)]
          rw [if_neg h4, msgR_ok hc he]
          have hd : q = (chargeFE x k).due k j := hq k j rfl rfl hk hj
          obtain ⟨ds', e1, e2⟩ := leave_tie okx' ty (k := k) (j := j) (by omega) hj n q (by omega) (show n ≤ x.sh k j by omega) hd
          have e1' : lvF (lcOf (chargeFE x k)) x.vals ds k j n q = _ := e1
          rw [e1']
          simp only
          have hlh : (lcOf (leaveF (chargeFE x k) k j n)).height = (leaveF (chargeFE x k) k j n).height := rfl
          have hle : (leaveF (chargeFE x k) k j n).ents = x.ents := by unfold leaveF; split <;> rfl
          refine ⟨ds', ?_, ?_⟩
          · unfold unbF entF
            rw [hlh]
            by_cases ht : 0 < tokensForF ((chargeFE x k).val j) n
            · rw [if_pos ht, if_neg (by omega), hle]; rfl
            · rw [if_neg ht, if_pos (by omega), hle]
          · unfold unbF entF
            split
            · exact e2
            · exact e2.same rfl rfl rfl rfl
      · have hh' : n < 1 ∨ x.sh k j < n := Classical.byContradiction (fun h => hh ((has_lc t hk hj s0 n).2 h))
        have he : unbErrF (chargeFE x k) k j n = 6 := by rw [hue, if_pos hh']
        rw [if_neg hh, msgR_err hc (by rw [he]; decide), he]
        exact ⟨ds, rfl, ty⟩
    · have hb' : inB v x.vals.length = false := by simpa using hb
      have he : unbErrF (chargeFE x k) k v n = 3 := by unfold unbErrF; rw [if_pos (show inB v (chargeFE x k).vals.length = false from hb')]
      rw [if_neg hb, msgR_err hc (by rw [he]; decide), he]
      exact ⟨ds, rfl, ty⟩
end
end Go.Proofs.YtohjjgefklhmaaaGreatDoor
