import Derived.Test.YtenjjneobkodbaaGreatLAhead
namespace Go.Proofs.YtenjjneobkodbaaGreat
open Go.ChangeShapes Go.WideShapes Go.ChangeAt Go.RowKit
set_option linter.unusedVariables false

/-- how many of the first k go ahead of i, and are not jailed -/
def cntN (vals : List VS) (i : Nat) : Nat → Nat
  | 0 => 0
  | k + 1 => cntN vals i k + (if (aheadN vals k i && !(match vals[k]? with | some v => v.jailed | none => true)) = true then 1 else 0)
theorem cntN_le (vals : List VS) (i k : Nat) : cntN vals i k ≤ k := by
  induction k with
  | zero => simp [cntN]
  | succ k ih =>
    have h1 : ∀ b : Bool, (if b = true then 1 else 0) ≤ 1 := fun b => by cases b <;> simp
    have := h1 (aheadN vals k i && !(match vals[k]? with | some v => v.jailed | none => true))
    simp only [cntN]; omega
def selN (vals : List VS) (top : Int) (i : Nat) (v : VS) : Bool := !v.jailed && (decide (0 < v.tokens) && decide ((cntN vals i vals.length : Int) < top))
def chooseTo (vals : List VS) (top : Int) : Nat → List VS
  | 0 => vals
  | i + 1 => (chooseTo vals top i).modify i (fun v => { v with inset := selN (chooseTo vals top i) top i v })
theorem chooseTo_length (vals : List VS) (top : Int) (i : Nat) : (chooseTo vals top i).length = vals.length := by
  induction i with
  | zero => rfl
  | succ i ih => simp [chooseTo, ih]
theorem vrow_inset (l : List VS) (i : Nat) (hi : i < l.length) (f : VS → Bool) : (vrow l).set (i * 8 + 7) (.bool (f l[i])) = vrow (l.modify i (fun v => { v with inset := f v })) := by
  induction l generalizing i with
  | nil => simp at hi
  | cons v l ih =>
    cases i with
    | zero => simp [vrow, VS.cells]
    | succ i =>
      have e : (i + 1) * 8 + 7 = v.cells.length + (i * 8 + 7) := by simp [VS.cells]; omega
      rw [vrow, e, List.set_append_right _ _ (by omega), Nat.add_sub_cancel_left, List.modify_succ_cons, vrow]
      congr 1
      have := ih i (by simpa using hi)
      simpa using this

theorem ownsRow_frozen {w : World} {base : Nat} {e : TypeId} {size : Nat} {g n m cap : Nat} {xs : List Value} (h : w.ownsRow base e size (.slice (some ⟨g, 0, none⟩) m cap) n xs) (hm : m = n) (j : Nat) : w.frozen? ⟨g, j, none⟩ = false := by
  subst hm; exact h.frozenAt j
/-- the ledger's struct, and its validators, to be written -/
structure LVw (w : World) (g : Nat) (top : Int) (vv : Value) (vals : List VS) (cs : List Value) : Prop where
  L : Has w g 75 cs
  c0 : cs[0]? = some (.int .i64 top)
  c7 : cs[7]? = some vv
  v : w.ownsRow 0 108 8 vv vals.length (vrow vals)
  len : vals.length ≤ 1000
theorem LVw.vals {w : World} {g : Nat} {top : Int} {vv : Value} {vals : List VS} {cs : List Value} (h : LVw w g top vv vals cs) : LVals w g vv vals := ⟨(h.L.cell 7).trans h.c7, Rd.of_owns h.v, h.len⟩
theorem LVw.drewN {w : World} {g : Nat} {top : Int} {vv : Value} {vals : List VS} {cs : List Value} (h : LVw w g top vv vals cs) (n : Nat) : LVw (w.drewN n) g top vv vals cs := ⟨h.L, h.c0, h.c7, h.v, h.len⟩

set_option maxHeartbeats 4000000 in
set_option maxRecDepth 100000 in
theorem choose_any (g : Nat) (top : Int) (vv : Value) (vals : List VS) (cs : List Value) (w : World) (h : LVw w g top vv vals cs) :
    Calls Tryz.prog 96 #[.pointer (some ⟨g, 0, none⟩)] w fun e w' => e = .returned (.tuple #[]) ∧ LVw w' g top vv (chooseTo vals top vals.length) cs ∧ Kp (fun k => vv.ownBlock = some k) w w' := by
  obtain ⟨va, vc, (hva : vv = .slice va vals.length vc)⟩ := ownsRow_slice h.v
  subst hva
  have hlen := h.len
  have HH : Hid (LVw w g top (.slice va vals.length vc) vals cs) := h
  clear h
  go_enter Tryz.func96, Tryz.ntmps96
  go_wp2
  go_loopw [2] (fun i wr => ∃ i2 : Nat, i2 ≤ vals.length ∧ i = .int .i64 i2 ∧ LVw wr g top (.slice va vals.length vc) (chooseTo vals top i2) cs ∧ Kp (fun k => (Value.slice va vals.length vc).ownBlock = some k) w wr) (fun i _ => vals.length - (intOf i).toNat)
  case atStart => exact ⟨0, Nat.zero_le _, rfl, HH.out, Kp.refl _ _⟩
  case round =>
    clear HH
    obtain ⟨i2, hi2, rfl, hV, hK⟩ := hrel
    have hl := chooseTo_length vals top i2
    have c7 : wr.cell? ⟨g, 7, none⟩ = some (.slice va vals.length vc) := hV.vals.c7
    by_cases hlt : i2 < vals.length
    · have HS : Hid (chooseTo vals top (i2 + 1) = (chooseTo vals top i2).modify i2 (fun v => { v with inset := selN (chooseTo vals top i2) top i2 v })) := rfl
      generalize chooseTo vals top i2 = cur at *
      have hlc : i2 < cur.length := by omega
      have HL : Hid (cur.length = vals.length) := hl
      have hla : cur.length ≤ vals.length := by omega
      have hlb : vals.length ≤ cur.length := by omega
      clear hl
      obtain ⟨gv, rfl, x2, _, x6, x7⟩ := hV.vals.facts hlc
      have HV : Hid (LVw wr g top (.slice (some ⟨gv, 0, none⟩) vals.length vc) cur cs) := hV
      clear hV
      go_wp2
      obtain ⟨wo, rfl⟩ : ∃ wo : World, wo = wr := ⟨_, rfl⟩
      go_loopw [3, 4] (fun n k wr => ∃ k2 : Nat, k2 ≤ vals.length ∧ k = .int .i64 k2 ∧ n = .int .i64 (cntN cur i2 k2 : Nat) ∧ ∃ m, wr = wo.drewN m) (fun _ k _ => vals.length - (intOf k).toNat)
      case atStart => exact ⟨0, Nat.zero_le _, rfl, rfl, 0, rfl⟩
      case round =>
        obtain ⟨k2, hk2, rfl, rfl, m, rfl⟩ := hrel
        have hcn := cntN_le cur i2 k2
        by_cases hlt2 : k2 < vals.length
        · have hkc : k2 < cur.length := by omega
          obtain ⟨gv', he, _, _, y6, _⟩ := HV.out.vals.facts hkc
          simp only [Option.some.injEq, Addr.mk.injEq, and_true] at he
          subst he
          have HC : Hid (cntN cur i2 (k2 + 1) = cntN cur i2 k2 + (if (aheadN cur k2 i2 && !cur[k2].jailed) = true then 1 else 0)) := by
            show cntN cur i2 (k2 + 1) = _
            rw [cntN, List.getElem?_eq_getElem hkc]
          have HA : Hid (∀ u, Calls Tryz.prog 116 #[.pointer (some ⟨g, 0, none⟩), .int .i64 k2, .int .i64 i2] (wo.drewN u) fun e w' => e = .returned (.bool (aheadN cur k2 i2)) ∧ ∃ n, w' = wo.drewN n) := fun u => by
            refine (ahead_any g _ cur k2 i2 _ (HV.out.drewN u).vals hkc hlc).mono ?_
            rintro e w' ⟨rfl, n, rfl⟩
            exact ⟨rfl, u + n, by simp [World.drewN, Nat.add_assoc]⟩
          generalize cur[k2].jailed = jl at *
          generalize aheadN cur k2 i2 = ah at *
          generalize cntN cur i2 k2 = cn at *
          clear x2 x6 x7
          go_wp2_with fail
          refine (HA.out m).mono ?_
          rintro e w' ⟨rfl, n, rfl⟩
          clear HA
          cases ah with
          | true =>
            cases jl with
            | true =>
              go_wp2
              refine And.intro ?_ ?_
              · first | exact ⟨k2 + 1, by omega, by go_num, by rw [HC.out]; rfl, n, rfl⟩ | ((repeat apply Exists.intro); exact ⟨⟨k2 + 1, by omega, by go_num, by rw [HC.out]; rfl, n, rfl⟩, rfl⟩)
              · simp [intOf]; omega
            | false =>
              go_wp2
              refine And.intro ?_ ?_
              · first | exact ⟨k2 + 1, by omega, by go_num, by rw [HC.out]; rfl, n, rfl⟩ | ((repeat apply Exists.intro); exact ⟨⟨k2 + 1, by omega, by go_num, by rw [HC.out]; rfl, n, rfl⟩, rfl⟩)
              · simp [intOf]; omega
          | false =>
            go_wp2
            refine And.intro ?_ ?_
            · first | exact ⟨k2 + 1, by omega, by go_num, by rw [HC.out]; rfl, n, rfl⟩ | ((repeat apply Exists.intro); exact ⟨⟨k2 + 1, by omega, by go_num, by rw [HC.out]; rfl, n, rfl⟩, rfl⟩)
            · simp [intOf]; omega
        · have hke : k2 = vals.length := by omega
          have c0 : wo.cell? ⟨g, 0, none⟩ = some (.int .i64 top) := (HV.out.L.cell 0).trans HV.out.c0
          have fr7 := ownsRow_frozen HV.out.v HL.out.symm (i2 * 8 + 7)
          have HFin : Hid (∀ b, selN cur top i2 cur[i2] = b → LVw (wo.setCell ⟨gv, i2 * 8 + 7, none⟩ (.bool b)) g top (.slice (some ⟨gv, 0, none⟩) vals.length vc) (chooseTo vals top (i2 + 1)) cs ∧ Kp (fun k => (Value.slice (some ⟨gv, 0, none⟩) vals.length vc).ownBlock = some k) w (wo.setCell ⟨gv, i2 * 8 + 7, none⟩ (.bool b))) := by
            intro b hb
            have hne : g ≠ gv := fun e => Has.apart HV.out.L HV.out.v (by decide) (by rw [e]; rfl)
            refine ⟨⟨HV.out.L.other _ _ hne, HV.out.c0, HV.out.c7, ?_, ?_⟩, hK.setCell (p := ⟨gv, i2 * 8 + 7, none⟩) rfl _⟩
            · have h1 := HV.out.v
              rw [HL.out] at h1
              have h2 := (h1.stored (i2 * 8 + 7) (.bool b)).1
              rw [← hb, vrow_inset cur i2 hlc (fun v => selN cur top i2 v)] at h2
              rw [HS.out, ← hb]
              simpa [HL.out] using h2
            · rw [HS.out]; simp; omega
          have HSel : Hid (selN cur top i2 cur[i2] = (!cur[i2].jailed && (decide (0 < cur[i2].tokens) && decide ((cntN cur i2 k2 : Int) < top)))) := by
            unfold selN
            rw [HL.out, hke]
            exact rfl
          clear hke HS hK
          generalize cur[i2].jailed = jl at *
          generalize cur[i2].tokens = tk at *
          generalize cntN cur i2 k2 = cn at *
          cases jl with
          | true =>
            have hb : selN cur top i2 cur[i2] = false := by rw [HSel.out]; rfl
            have HF := HFin.out false hb
            clear HFin HV HL
            go_wp2
            go_region
            all_goals
              go_wp2
              refine And.intro ?_ ?_
              · first | exact ⟨i2 + 1, by omega, by go_num, ⟨HF.1.L, HF.1.c0, HF.1.c7, HF.1.v, HF.1.len⟩, ⟨HF.2.os, HF.2.tape, HF.2.output, HF.2.size, HF.2.block⟩⟩ | ((repeat apply Exists.intro); exact ⟨⟨i2 + 1, by omega, by go_num, ⟨HF.1.L, HF.1.c0, HF.1.c7, HF.1.v, HF.1.len⟩, ⟨HF.2.os, HF.2.tape, HF.2.output, HF.2.size, HF.2.block⟩⟩, rfl⟩)
              · simp [intOf]; omega
          | false =>
            by_cases ht : 0 < tk
            · by_cases hc : (cn : Int) < top
              · have hb : selN cur top i2 cur[i2] = true := by rw [HSel.out]; simp [ht, hc]
                have HF := HFin.out true hb
                clear HFin HV HL
                go_wp2
                go_region
                all_goals
                  go_wp2
                  refine And.intro ?_ ?_
                  · first | exact ⟨i2 + 1, by omega, by go_num, ⟨HF.1.L, HF.1.c0, HF.1.c7, HF.1.v, HF.1.len⟩, ⟨HF.2.os, HF.2.tape, HF.2.output, HF.2.size, HF.2.block⟩⟩ | ((repeat apply Exists.intro); exact ⟨⟨i2 + 1, by omega, by go_num, ⟨HF.1.L, HF.1.c0, HF.1.c7, HF.1.v, HF.1.len⟩, ⟨HF.2.os, HF.2.tape, HF.2.output, HF.2.size, HF.2.block⟩⟩, rfl⟩)
                  · simp [intOf]; omega
              · have hb : selN cur top i2 cur[i2] = false := by rw [HSel.out]; simp [hc]
                have hc' : decide ((cn : Int) < top) = false := by simpa using hc
                have HF := HFin.out false hb
                clear HFin HV HL
                go_wp2
                go_region
                all_goals
                  go_wp2
                  refine And.intro ?_ ?_
                  · first | exact ⟨i2 + 1, by omega, by go_num, ⟨HF.1.L, HF.1.c0, HF.1.c7, HF.1.v, HF.1.len⟩, ⟨HF.2.os, HF.2.tape, HF.2.output, HF.2.size, HF.2.block⟩⟩ | ((repeat apply Exists.intro); exact ⟨⟨i2 + 1, by omega, by go_num, ⟨HF.1.L, HF.1.c0, HF.1.c7, HF.1.v, HF.1.len⟩, ⟨HF.2.os, HF.2.tape, HF.2.output, HF.2.size, HF.2.block⟩⟩, rfl⟩)
                  · simp [intOf]; omega
            · have hb : selN cur top i2 cur[i2] = false := by rw [HSel.out]; simp [ht]
              have ht' : decide (0 < tk) = false := by simpa using ht
              have HF := HFin.out false hb
              clear HFin HV HL
              go_wp2
              go_region
              all_goals
                go_wp2
                refine And.intro ?_ ?_
                · first | exact ⟨i2 + 1, by omega, by go_num, ⟨HF.1.L, HF.1.c0, HF.1.c7, HF.1.v, HF.1.len⟩, ⟨HF.2.os, HF.2.tape, HF.2.output, HF.2.size, HF.2.block⟩⟩ | ((repeat apply Exists.intro); exact ⟨⟨i2 + 1, by omega, by go_num, ⟨HF.1.L, HF.1.c0, HF.1.c7, HF.1.v, HF.1.len⟩, ⟨HF.2.os, HF.2.tape, HF.2.output, HF.2.size, HF.2.block⟩⟩, rfl⟩)
                · simp [intOf]; omega
    · have hke : i2 = vals.length := by omega
      have HF : Hid (LVw wr g top (.slice va vals.length vc) (chooseTo vals top vals.length) cs) := by rw [hke] at hV; exact hV
      clear hV hke hl
      go_wp2
      go_end0
      exact ⟨rfl, HF.out, hK⟩
end Go.Proofs.YtenjjneobkodbaaGreat
