import Derived.Test.YtenjjneobkodbaaKPay2
namespace Go.Proofs.Ytenjjneobkodbaa
open Go.ChangeShapes Go.WideShapes Go.ChangeAt Go.RowKit
set_option linter.unusedVariables false

/-- the same validators, but for the set -/
def NoSet (l l' : List VS) : Prop := l'.map (fun v => { v with inset := false }) = l.map (fun v => { v with inset := false })
theorem NoSet.refl (l : List VS) : NoSet l l := rfl
theorem NoSet.trans {a b c : List VS} (h : NoSet a b) (k : NoSet b c) : NoSet a c := Eq.trans k h
theorem NoSet.len {l l' : List VS} (h : NoSet l l') : l'.length = l.length := by
  have := congrArg List.length h
  simpa using this
theorem NoSet.get {l l' : List VS} (h : NoSet l l') {k : Nat} (hk : k < l.length) (hk' : k < l'.length) : l'[k].tokens = l[k].tokens ∧ l'[k].shares = l[k].shares := by
  have e := congrArg (fun x => x[k]?) h
  simp only [List.getElem?_map, List.getElem?_eq_getElem hk, List.getElem?_eq_getElem hk', Option.map_some, Option.some.injEq, VS.mk.injEq] at e
  exact ⟨e.2.2.1, e.2.2.2.1⟩
theorem NoSet.put (l : List VS) (k : Nat) (b : Bool) : NoSet l (l.modify k (fun v => { v with inset := b })) := by
  unfold NoSet
  apply List.ext_getElem?
  intro i
  simp only [List.getElem?_map, List.getElem?_modify]
  by_cases e : k = i
  · subst e
    cases l[k]? <;> simp
  · simp [e]

set_option maxHeartbeats 2000000 in
set_option maxRecDepth 100000 in
theorem kbest (g : Nat) (vals : List VS) (vv : Value) (w : World) (c7 : w.cell? ⟨g, 7, none⟩ = some vv) (hv : Rd w vv vals.length 8 (vrow vals)) (l2 : vals.length ≤ 1000) :
    Calls Try.prog 39 #[.pointer (some ⟨g, 0, none⟩)] w fun e w' => (∃ r : Int, e = .returned (.int .i64 r) ∧ (r = -1 ∨ (0 ≤ r ∧ r < vals.length))) ∧ Below w.heap.size w w' := by
  obtain ⟨va, vc, rfl⟩ := hv.form
  go_enter Try.func39, Try.ntmps39
  go_wp2
  go_loopw [3, 4, 12] (fun b m i wr => ∃ k : Nat, k ≤ vals.length ∧ i = .int .i64 k ∧ (∃ r : Int, b = .int .i64 r ∧ (r = -1 ∨ (0 ≤ r ∧ r < vals.length))) ∧ (∃ q : Int, m = .int .i64 q) ∧ Below w.heap.size w wr) (fun _ _ i _ => vals.length - (intOf i).toNat)
  case atStart => exact ⟨0, Nat.zero_le _, rfl, ⟨-1, rfl, .inl rfl⟩, ⟨0, rfl⟩, Below.refl _ _⟩
  case round =>
    obtain ⟨k, hk, rfl, ⟨r, rfl, hr⟩, ⟨q, rfl⟩, hbw⟩ := hrel
    have hv' := hv.below hbw (Nat.le_refl _)
    have HR : Hid (r = -1 ∨ (0 ≤ r ∧ r < vals.length)) := hr
    clear hr
    by_cases hlt : k < vals.length
    · obtain ⟨gv, rfl, hc⟩ := hv'.get (by omega)
      have y0 := hc _ _ (vrow_at vals k hlt 0 (by omega))
      have y1 := hc _ _ (vrow_at vals k hlt 1 (by omega))
      have y2 := hc _ _ (vrow_at vals k hlt 2 (by omega))
      have y3 := hc _ _ (vrow_at vals k hlt 3 (by omega))
      have y4 := hc _ _ (vrow_at vals k hlt 4 (by omega))
      have y5 := hc _ _ (vrow_at vals k hlt 5 (by omega))
      have y6 := hc _ _ (vrow_at vals k hlt 6 (by omega))
      have y7 := hc _ _ (vrow_at vals k hlt 7 (by omega))
      rw [Nat.add_zero] at y0
      have HB : Hid (∀ o, Below w.heap.size w (wr.alloc o)) := fun o => hbw.alloc hbw.size o
      generalize vals[k] = x at *
      obtain ⟨xo, xr, xt, xs, xc, xou, xj, xi⟩ := x
      dsimp only at y0 y1 y2 y3 y4 y5 y6 y7
      clear hc hv hv' hbw
      cases xi <;> cases xj <;> go_wp2
      all_goals
        refine And.intro ?_ ?_
        · first
            | exact ⟨k + 1, by omega, by go_num, ⟨_, rfl, HR.out⟩, ⟨_, rfl⟩, HB.out _⟩
            | exact ⟨k + 1, by omega, by go_num, ⟨_, rfl, .inr ⟨by omega, by omega⟩⟩, ⟨_, rfl⟩, HB.out _⟩
            | ((repeat apply Exists.intro); exact ⟨⟨k + 1, by omega, by go_num, ⟨_, rfl, HR.out⟩, ⟨_, rfl⟩, HB.out _⟩, rfl⟩)
            | ((repeat apply Exists.intro); exact ⟨⟨k + 1, by omega, by go_num, ⟨_, rfl, .inr ⟨by omega, by omega⟩⟩, ⟨_, rfl⟩, HB.out _⟩, rfl⟩)
        · simp [intOf]; omega
    · go_wp2
      go_ret
      exact ⟨⟨r, rfl, HR.out⟩, hbw⟩

set_option maxHeartbeats 2000000 in
set_option maxRecDepth 100000 in
theorem kchoose {B0 : Nat} {W0 : World} (g : Nat) (c : LC) (sh : List Int) (bv vv ev : Value) (vals : List VS) (ents : List ES) (w : World) (h : PE B0 W0 w g c sh bv vv ev vals ents) (l2 : vals.length ≤ 1000) (ht0 : 0 ≤ c.top) (ht1 : c.top ≤ 1000) :
    Calls Try.prog 29 #[.pointer (some ⟨g, 0, none⟩)] w fun e w' => e = .returned (.tuple #[]) ∧ ∃ vals', NoSet vals vals' ∧ PE B0 W0 w' g c sh bv vv ev vals' ents := by
  obtain ⟨va, vc, rfl⟩ := ownsRow_slice h.v
  have c7 : w.cell? ⟨g, 7, none⟩ = some (.slice va vals.length vc) := h.L.cell 7
  have HC : Hid (PE B0 W0 w g c sh bv (.slice va vals.length vc) ev vals ents) := h
  clear h
  go_enter Try.func29, Try.ntmps29
  go_wp2
  go_loopw [10] (fun i wr => ∃ k : Nat, k ≤ vals.length ∧ i = .int .i64 k ∧ ∃ vals', NoSet vals vals' ∧ PE B0 W0 wr g c sh bv (.slice va vals.length vc) ev vals' ents) (fun i _ => vals.length - (intOf i).toNat)
  case atStart => exact ⟨0, Nat.zero_le _, rfl, vals, NoSet.refl _, HC.out⟩
  case round =>
    clear HC
    obtain ⟨k, hk, rfl, vals', hN, hP⟩ := hrel
    have hln := hN.len
    have c7' : wr.cell? ⟨g, 7, none⟩ = some (.slice va vals.length vc) := hP.L.cell 7
    by_cases hlt : k < vals.length
    · have hlt' : k < vals'.length := by omega
      obtain ⟨gv, rfl, hcell, hfr⟩ := hP.val8 hln.symm hlt'
      have y7 := hcell 7 (by omega)
      simp only [VS.cells, List.getElem?_cons_succ, List.getElem?_cons_zero] at y7
      have f7 := hfr (k * 8 + 7)
      have HP1 : Hid (PE B0 W0 (wr.setCell ⟨gv, k * 8 + 7, none⟩ (.bool false)) g c sh bv (.slice (some ⟨gv, 0, none⟩) vals.length vc) ev (vals'.modify k (fun v => { v with inset := false })) ents) :=
        hP.setVal hln.symm (k * 8 + 7) (.bool false) (vrow_inset vals' k hlt' (fun _ => false)) (by simp)
      have HN1 : Hid (NoSet vals (vals'.modify k (fun v => { v with inset := false }))) := hN.trans (NoSet.put vals' k false)
      clear hP hN hcell hfr hln
      generalize vals'[k] = xx at *
      go_wp2
      refine And.intro ?_ ?_
      · first | exact ⟨k + 1, by omega, by go_num, _, HN1.out, HP1.out⟩ | ((repeat apply Exists.intro); exact ⟨⟨k + 1, by omega, by go_num, _, HN1.out, HP1.out⟩, rfl⟩)
      · simp [intOf]; omega
    · have HP0 : Hid (NoSet vals vals' ∧ PE B0 W0 wr g c sh bv (.slice va vals.length vc) ev vals' ents) := ⟨hN, hP⟩
      clear hP hN hln c7' c7
      go_wp2
      obtain ⟨wo, rfl⟩ : ∃ wo : World, wo = wr := ⟨_, rfl⟩
      go_loopw [3] (fun n wr => ∃ q : Nat, (q : Int) ≤ c.top ∧ n = .int .i64 q ∧ ∃ vals', NoSet vals vals' ∧ PE B0 W0 wr g c sh bv (.slice va vals.length vc) ev vals' ents) (fun n _ => c.top.toNat - (intOf n).toNat)
      case atStart => exact ⟨0, by omega, rfl, vals', HP0.out.1, HP0.out.2⟩
      case round =>
        clear HP0
        obtain ⟨q, hq, rfl, vals2, hN, hP⟩ := hrel
        have hln := hN.len
        have c0 : wr.cell? ⟨g, 0, none⟩ = some (.int .i64 c.top) := hP.L.cell 0
        have c7 : wr.cell? ⟨g, 7, none⟩ = some (.slice va vals.length vc) := hP.L.cell 7
        by_cases hqt : (q : Int) < c.top
        · have HB : Hid (Calls Try.prog 39 #[.pointer (some ⟨g, 0, none⟩)] wr fun e w' => (∃ r : Int, e = .returned (.int .i64 r) ∧ (r = -1 ∨ (0 ≤ r ∧ r < vals2.length))) ∧ Below wr.heap.size wr w') := kbest g vals2 _ wr c7 (by have := Rd.of_owns hP.v; exact this) (by omega)
          have HP1 : Hid (NoSet vals vals2 ∧ PE B0 W0 wr g c sh bv (.slice va vals.length vc) ev vals2 ents) := ⟨hN, hP⟩
          clear hP hN hln
          go_wp2_with fail
          refine HB.out.mono ?_
          rintro e w2 ⟨⟨r, rfl, hr⟩, hb2⟩
          have hP2 := HP1.out.2.below hb2
          have hln := HP1.out.1.len
          clear HB hb2 c0 c7
          rcases hr with rfl | ⟨hr0, hr1⟩
          · have HF : Hid (PE B0 W0 w2 g c sh bv (.slice va vals.length vc) ev vals2 ents) := hP2
            clear hP2 hln
            go_wp2
            (try simp only [Exit.inBlock, Exit.then])
            refine bodyPost_ret (results_none rfl _ _ _) rfl ?_
            exact ⟨rfl, vals2, HP1.out.1, HF.out⟩
          · obtain ⟨r2, rfl⟩ := Int.eq_ofNat_of_zero_le hr0
            have hr2 : r2 < vals2.length := by omega
            have hr3 : r2 < vals.length := by omega
            have c7 : w2.cell? ⟨g, 7, none⟩ = some (.slice va vals.length vc) := hP2.L.cell 7
            obtain ⟨gv, rfl, hcell, hfr⟩ := hP2.val8 hln.symm hr2
            have y7 := hcell 7 (by omega)
            simp only [VS.cells, List.getElem?_cons_succ, List.getElem?_cons_zero] at y7
            have f7 := hfr (r2 * 8 + 7)
            have HP3 : Hid (PE B0 W0 (w2.setCell ⟨gv, r2 * 8 + 7, none⟩ (.bool true)) g c sh bv (.slice (some ⟨gv, 0, none⟩) vals.length vc) ev (vals2.modify r2 (fun v => { v with inset := true })) ents) :=
              hP2.setVal hln.symm (r2 * 8 + 7) (.bool true) (vrow_inset vals2 r2 hr2 (fun _ => true)) (by simp)
            have HN3 : Hid (NoSet vals (vals2.modify r2 (fun v => { v with inset := true }))) := HP1.out.1.trans (NoSet.put vals2 r2 true)
            clear hP2 hcell hfr hln HP1
            generalize vals2[r2] = xx at *
            clear hr2 hr1
            go_wp2
            refine And.intro ?_ ?_
            · first | exact ⟨q + 1, by omega, by go_num, _, HN3.out, HP3.out⟩ | ((repeat apply Exists.intro); exact ⟨⟨q + 1, by omega, by go_num, _, HN3.out, HP3.out⟩, rfl⟩)
            · simp [intOf]; omega
        · have HF : Hid (NoSet vals vals2 ∧ PE B0 W0 wr g c sh bv (.slice va vals.length vc) ev vals2 ents) := ⟨hN, hP⟩
          clear hP hN hln c7
          go_wp2
          go_end0
          exact ⟨rfl, vals2, HF.out.1, HF.out.2⟩
end Go.Proofs.Ytenjjneobkodbaa
