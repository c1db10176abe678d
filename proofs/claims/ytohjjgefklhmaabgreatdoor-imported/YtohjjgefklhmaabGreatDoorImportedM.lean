import Derived.Test.YtohjjgefklhmaabGreatDoorXItoaBM
import Derived.Test.YtohjjgefklhmaabGreatDoorCards
import Derived.Test.YtohjjgefklhmaabGreatDoorTie
import Derived.Deep.DeepHandedRow
import Derived.Stop.LaidErr
import Derived.ShutString
import Derived.ChangeMaps5
namespace Go.Proofs.YtohjjgefklhmaabGreatDoor
open Go.ChangeShapes Go.WideShapes Go.ChangeAt Go.RowKit
set_option linter.unusedVariables false

set_option maxHeartbeats 4000000 in
set_option maxRecDepth 100000 in
theorem imported_walk (s : ByteArray) (v : Value) (ops : List StepD) (w : World) (hsz : s.size ≤ 9223372036854775807) (hs : StepSl w v ops) (hI : ItoaOk w.heap.size w) :
    Calls Tryz.prog 4 #[.string s, v] w fun e w' => e = .returned (.bool true) ∧ Below w.heap.size w w' := by
  obtain ⟨sa, scap, rfl, hh0⟩ := id hs
  clear hh0
  have HLi : Hid (∀ u, Calls Tryz.prog 6 #[] u fun e w' => e = .returned (.bool true) ∧ Below u.heap.size u w') := lives_any
  have HSt : Hid (StepSl w (.slice sa ops.length scap) ops) := hs
  have HI : Hid (ItoaOk w.heap.size w) := hI
  clear hs hI
  go_enter Tryz.func4, Tryz.ntmps4
  go_wp2_with fail
  refine (HLi.out _).mono ?_
  rintro e w1 ⟨rfl, hb1⟩
  have HIm : Hid (Calls Tryz.prog 10 #[.string s] w1 fun e w' => ImpPost s w1 w' e) := import_any w1 s hsz w.heap.size (HI.out.on hb1) hb1.size
  have HB1 : Hid (Below w.heap.size w w1) := hb1
  have HI1 : Hid (ItoaOk w.heap.size w1) := HI.out.on hb1
  have HSt1 : Hid (StepSl w1 (.slice sa ops.length scap) ops) := HSt.out.below hb1 (Nat.le_refl _)
  clear hb1 HLi HI HSt
  go_wp2_with fail
  refine HIm.out.mono ?_
  rintro e w2 hpost
  clear HIm
  rcases hpost with ⟨rfl, hb2, _⟩ | ⟨g, bv, vv, ev, rfl, hP, hfi, hib, hrb, hS⟩
  · have HF : Hid (Below w.heap.size w w2) := HB1.out.trans (hb2.mono HB1.out.size)
    clear hb2
    go_wp2
    go_ret
    exact ⟨rfl, HF.out⟩
  · have hb2 : Below w1.heap.size w1 w2 := hP.fr.toBelow (Nat.le_refl _) (fun k hk h => by omega)
    have hbw : Below w.heap.size w1 w2 := hb2.mono HB1.out.size
    have hel := hrb.el
    have HX : Hid (Calls Tryz.prog 9 #[.pointer (some ⟨g, 0, none⟩)] w2 fun e w' => e = .returned (.string s) ∧ Below w2.heap.size w2 w') := by
      have h := export_any g _ bv vv ev hP w.heap.size (HI1.out.on hbw) (Nat.le_trans HB1.out.size hb2.size) hrb.wbd
      rw [← hS] at h
      exact h
    have HEn : Hid (Eng (fun k => w1.heap.size ≤ k) w1 w2 g (rdX s.data.toList).1 bv vv) := ⟨ev, hP⟩
    have HFi : Hid (Fine (rdX s.data.toList).1 ∧ InvB (rdX s.data.toList).1) := ⟨hfi, hib⟩
    have ht : (rdX s.data.toList).1.tot ≤ 1000000 := by have okx : Ok _ (rdX s.data.toList).1 := hfi; exact okx.tot
    generalize (rdX s.data.toList).1 = x at *
    clear hP hfi hib hrb hS hb2 hbw
    go_wp2_with fail
    refine HX.out.mono ?_
    rintro e w3 ⟨rfl, hb3⟩
    have HEn3 : Hid (Eng (fun k => w1.heap.size ≤ k) w1 w3 g x bv vv) := HEn.out.below hb3
    clear hb3 HX HEn
    have HTo : Hid (∀ {u : World} {y : EC}, Eng (fun k => w1.heap.size ≤ k) w1 u g y bv vv → Fine y → y.ents.length ≤ 1000 → Calls Tryz.prog 14 #[.pointer (some ⟨g, 0, none⟩)] u fun e w' => e = .returned (.int .i64 y.tot) ∧ Below u.heap.size u w') := fun h1 h2 h3 => total_any h1 h2 h3
    have HBk : Hid (∀ {u : World} {y : EC}, Eng (fun k => w1.heap.size ≤ k) w1 u g y bv vv → Fine y → InvB y → y.ents.length ≤ 1000 → Calls Tryz.prog 15 #[.pointer (some ⟨g, 0, none⟩), .int .i64 5] u fun e w' => e = .returned (.bool true) ∧ Below u.heap.size u w') := fun h1 h2 h3 h4 => booked_any h1 h2 h3 h4 5 (by have okx : Ok _ _ := h2; exact okx.top1)
    go_wp2_with fail
    refine (HTo.out HEn3.out HFi.out.1 (by omega)).mono ?_
    rintro e w4 ⟨rfl, hb4⟩
    have HEn4 : Hid (Eng (fun k => w1.heap.size ≤ k) w1 w4 g x bv vv) := HEn3.out.below hb4
    obtain ⟨T, hT⟩ : ∃ T, x.tot = T := ⟨_, rfl⟩
    have HT : Hid (x.tot = T) := hT
    rw [hT] at ht ⊢
    clear hb4 HEn3 hT
    go_wp2
    go_loopw [10] (fun i wr => ∃ (q : Nat) (y : EC), q ≤ 201 ∧ i = .int .i64 q ∧ Fine y ∧ y.ents.length ≤ 120 + q ∧ InvB y ∧ y.tot = T ∧ Eng (fun k => w1.heap.size ≤ k) w1 wr g y bv vv) (fun i _ => 201 - (intOf i).toNat)
    case atStart => exact ⟨0, x, by omega, rfl, HFi.out.1, by omega, HFi.out.2, HT.out, HEn4.out⟩
    case round =>
      clear HEn4 HFi HT
      obtain ⟨q, y, hq, rfl, hfi, hen, hib, hto, hE⟩ := hrel
      have hfr : Below w1.heap.size w1 wr := by
        obtain ⟨ev, hP⟩ := hE
        exact hP.fr.toBelow (Nat.le_refl _) (fun k hk h => by omega)
      have HFr : Hid (Below w.heap.size w wr) := HB1.out.trans (hfr.mono HB1.out.size)
      have HFi : Hid (Fine y ∧ InvB y) := ⟨hfi, hib⟩
      have HTy : Hid (y.tot = T) := hto
      have HEn : Hid (Eng (fun k => w1.heap.size ≤ k) w1 wr g y bv vv) := hE
      clear hfi hib hto hE hfr
      by_cases hlt : q ≤ ops.length ∧ q ≤ 200
      · obtain ⟨hl1, hl2⟩ := hlt
        go_wp2_with fail
        refine (HBk.out HEn.out HFi.out.1 HFi.out.2 (by omega)).mono ?_
        rintro e w5 ⟨rfl, hb5⟩
        have HE5 : Hid (Eng (fun k => w1.heap.size ≤ k) w1 w5 g y bv vv) := HEn.out.below hb5
        clear hb5 HEn
        go_wp2_with fail
        refine (HTo.out HE5.out HFi.out.1 (by omega)).mono ?_
        rintro e w6 ⟨rfl, hb6⟩
        have HE6 : Hid (Eng (fun k => w1.heap.size ≤ k) w1 w6 g y bv vv) := HE5.out.below hb6
        rw [HTy.out]
        clear hb6 HE5
        by_cases hl3 : q < ops.length
        · have hfr6 : Below w1.heap.size w1 w6 := by
            obtain ⟨ev, hP⟩ := HE6.out
            exact hP.fr.toBelow (Nat.le_refl _) (fun k hk h => by omega)
          have hst := HSt1.out.below hfr6 (Nat.le_refl _)
          obtain ⟨gs, off, rfl, hc⟩ := hst.get (by omega)
          have z0 : w6.cell? ⟨gs, off + q * 5, none⟩ = some (.int .i64 ops[q].k) := hc q hl3 0 (by omega)
          have z1 : w6.cell? ⟨gs, off + q * 5 + 1, none⟩ = some (.int .i64 ops[q].a) := hc q hl3 1 (by omega)
          have z2 : w6.cell? ⟨gs, off + q * 5 + 2, none⟩ = some (.int .i64 ops[q].b) := hc q hl3 2 (by omega)
          have z3 : w6.cell? ⟨gs, off + q * 5 + 3, none⟩ = some (.int .i64 ops[q].c) := hc q hl3 3 (by omega)
          have z4 : w6.cell? ⟨gs, off + q * 5 + 4, none⟩ = some (.int .i64 ops[q].d) := hc q hl3 4 (by omega)
          clear hc hst hfr6
          generalize ops[q] = st at *
          go_wp2_with fail
          refine (does_any HE6.out HFi.out.1 (120 + q) hen (by omega) st.k st.a st.b st.c st.d).mono ?_
          rintro e w7 ⟨rfl, hE7, hL7⟩
          have HE7 : Hid (∃ y', Fine y' ∧ y'.ents.length ≤ 120 + (q + 1) ∧ InvB y' ∧ y'.tot = T ∧ Eng (fun k => w1.heap.size ≤ k) w1 w7 g y' bv vv) := ⟨_, hL7.fine, hL7.el, HFi.out.2.does HFi.out.1 st.k st.a st.b st.c st.d, hL7.tot.trans HTy.out, hE7⟩
          generalize (doesR y st.k st.a st.b st.c st.d).1 = rc at *
          clear hE7 hL7 HE6 HFi z0 z1 z2 z3 z4
          go_wp2
          refine And.intro ?_ ?_
          · obtain ⟨y', h1, h2, h3, h4, h5⟩ := HE7.out
            first | exact ⟨q + 1, y', by omega, by go_num, h1, h2, h3, h4, h5⟩ | ((repeat apply Exists.intro); exact ⟨⟨q + 1, y', by omega, by go_num, h1, h2, h3, h4, h5⟩, rfl⟩)
          · simp [intOf]; omega
        · go_wp2
          refine And.intro ?_ ?_
          · first | exact ⟨q + 1, y, by omega, by go_num, HFi.out.1, by omega, HFi.out.2, HTy.out, HE6.out⟩ | ((repeat apply Exists.intro); exact ⟨⟨q + 1, y, by omega, by go_num, HFi.out.1, by omega, HFi.out.2, HTy.out, HE6.out⟩, rfl⟩)
          · simp [intOf]; omega
      · have hsp : ¬ q ≤ ops.length ∨ (q ≤ ops.length ∧ ¬ q ≤ 200) := by omega
        clear hlt
        rcases hsp with hsp | ⟨hsp, hsp2⟩
        all_goals
          go_wp2
          go_ret
          exact ⟨rfl, HFr.out⟩
end Go.Proofs.YtohjjgefklhmaabGreatDoor

namespace Go.Proofs.YtohjjgefklhmaabGreatDoor
open Go.ChangeShapes Go.WideShapes Go.ChangeAt Go.RowKit
set_option linter.unusedVariables false

theorem gTab : Tryz.prog.globalNamed "internal/strconv.uint64pow10" = some 0 := by kernel_rfl
theorem gTabType : (Tryz.prog.globals[0]?).map (·.type) = some 112 := by kernel_rfl
theorem cellsTab : Tryz.prog.cellsOf 112 = 20 := by kernel_rfl
theorem cellsU64 : Tryz.prog.cellsOf 106 = 1 := by kernel_rfl
set_option maxRecDepth 100000 in
theorem tab_of {W : World} (h : laidMetH Tryz.prog Rows.importedRow.laid W) : Lib.TabIs Tryz.prog W "internal/strconv.uint64pow10" .u64 Lib.pow10Tab := by
  have h1 : laidMet Tryz.prog [("math/bits.deBruijn32tab", Rows.laid_math_bits_deBruijn32tab), ("math/bits.deBruijn64tab", Rows.laid_math_bits_deBruijn64tab), ("internal/strconv.uint64pow10", Rows.laid_internal_strconv_uint64pow10)] W := h
  have e : (Rows.laid_internal_strconv_uint64pow10 : DataW Unit) = Lib.tabData .u64 Lib.pow10Tab := by kernel_rfl
  have h2 : laidMet Tryz.prog [("internal/strconv.uint64pow10", Rows.laid_internal_strconv_uint64pow10)] W := h1.tail.tail
  rw [e] at h2
  generalize Lib.pow10Tab = zs at *
  exact Lib.tabIs_of_head (name := "internal/strconv.uint64pow10") (k := .u64) (zs := zs) (rest := []) gTab gTabType Tryz.underlying112 Tryz.underlying106 cellsU64 cellsTab h2
set_option maxRecDepth 100000 in
theorem imported_contract (H : Type) (enc : TypeId × Value → H) (W : World) (base : Nat) (args : Array Value) (ds gs : List (DataW H)) (before : List MemPlace)
    (hval0 : ∀ (j : Nat) t v, Tryz.f4.params[j]? = some t → args[j]? = some v → Value.okWide Tryz.prog W .any base t v)
    (hW : DataW.Whole enc Tryz.prog Tryz.f4.params.toList Rows.importedSpec.vars false W args.toList ds gs before) (hL : laidMetH Tryz.prog Rows.importedRow.laid W) :
    Calls Tryz.prog 4 args W fun e W' => ∃ v, e = .returned v ∧ Rows.importedSpec.post enc Tryz.prog Tryz.f4 false true false false W args v W' := by
  have hval : ∀ (j : Nat) t v, Tryz.f4.params[j]? = some t → args[j]? = some v → Value.okWide Tryz.prog W .any base t v := hval0
  have hW' := hW
  obtain ⟨p, q, hA0, hV, rfl, hfz, hnd⟩ := hW
  have hA : DataW.TrodAll enc Tryz.prog W 0 (fun _ => true) true Tryz.f4.params.toList args.toList ds p := hA0
  rw [Tryz.params4] at hA hval
  obtain ⟨v0, vs0, d0, ds0, p0, q0, hargs, rfl, rfl, h0, r0⟩ := trodAll_cons hA
  obtain ⟨v1, vs1, d1, ds1, p1, q1, rfl, rfl, rfl, h1, r1⟩ := trodAll_cons r0
  obtain ⟨rfl, rfl, rfl⟩ := trodAll_nil r1
  obtain rfl : args = #[v0, v1] := by cases args; simp_all
  obtain ⟨rfl, rfl⟩ := trodVars_none hV
  obtain ⟨s, rfl, rfl, rfl, ws⟩ := Go.ChangeMaps.open_string Tryz.underlying9 (hval 0 9 v0 rfl rfl) h0
  obtain ⟨a1, len1, cap1, rfl⟩ := okWide_slice Tryz.underlying22 (hval 1 22 v1 rfl rfl)
  have k1 := h1
  have lt1 : ∀ x ∈ p1, x.block < W.heap.size := by obtain ⟨m, hm⟩ := k1; exact DataW.trod_lt m _ _ _ hm
  obtain ⟨ops, ho⟩ := steps_read h1 ⟨_, _, _, rfl⟩
  clear hA0 hval0
  refine (imported_walk s _ ops W (by simpa [maxLen] using ws) ho (itoa_ok W (tab_of hL))).mono fun e W' ⟨he, bel⟩ => ?_
  subst he
  exact ⟨_, rfl, _, _, _, [], _, [], hW', trodAll_mk1 (shut_bool Tryz.underlying4 _), (trodAll_cons_mk (Go.ChangeMaps.shut_string Tryz.underlying9 ws) (trodAll_cons_mk (Below.trod laidOut0 (by kernel_rfl) (of_decide_eq_true (by kernel_rfl)) k1 bel lt1) trodAll_mk0)), rfl, bel.frame _, fun h => by cases h⟩

/-! ### a world for the witness: the tables as their initialisers lay them -/
def laidCells (d : DataW Unit) : Array Value := match d with
  | .agg ps => (ps.map fun p => match p with
    | .lit (.int k n) => Value.int k n
    | _ => .int .u8 0).toArray
  | _ => #[]
def putCells (c : Array Value) : Obj → Obj
  | .cells _ t frozen => .cells c t frozen
  | o => o
noncomputable def laidWorld (os : Os) : World :=
  { World.holding Tryz.prog os ⟨#[], #[], []⟩ with heap := (((World.holding Tryz.prog os ⟨#[], #[], []⟩).heap.modify 0 (putCells (laidCells Rows.laid_internal_strconv_uint64pow10))).modify 1 (putCells (laidCells Rows.laid_math_bits_deBruijn32tab))).modify 2 (putCells (laidCells Rows.laid_math_bits_deBruijn64tab)) }
theorem imported_met (os : Os) : laidMet Tryz.prog Rows.importedRow.laid ((laidWorld os).forCall (fun _ _ => 0) ⟨#[], #[.string ⟨#[]⟩, .slice none 0 0], []⟩).memory :=
  laidMet_of_run' 8 (by kernel_rfl) (by kernel_rfl)
theorem imported_reads (os : Os) {H : Type} (enc : TypeId × Value → H) : ∃ places, DataW.whole enc Tryz.prog ((laidWorld os).forCall (fun _ _ => 0) ⟨#[], #[.string ⟨#[]⟩, .slice none 0 0], []⟩).memory Tryz.f4.params.toList Rows.importedSpec.vars false #[Value.string ⟨#[]⟩, .slice none 0 0].toList 8 = some ([.lit (.string []), .nil], [], places) :=
  ⟨[], by kernel_rfl⟩
set_option maxRecDepth 100000 in
theorem imported_lifted (os : Os) (started : os.Started) (H : Type) (enc : TypeId × Value → H) (F : Stop.Interp) :
    ReturnsInHanded {} Tryz.checked os 4 .any ((OpenSpec.ofChange Rows.importedSpec).preRow enc Tryz.prog Tryz.f4 Rows.importedRow.domain false Rows.importedRow.laid) (((OpenSpec.ofChange Rows.importedSpec).at F).post enc Tryz.prog Tryz.f4 false true false false) := by
  obtain ⟨places, hx⟩ := imported_reads os enc
  refine returnsInHanded_of_row (C := Tryz.checked) (s := OpenSpec.ofChange Rows.importedSpec) own0 started (by kernel_rfl) Tryz.func4
    (witness_row_at (enc := enc) (C := Tryz.checked) false (laidWorld os) #[.string ⟨#[]⟩, .slice none 0 0] rfl (by kernel_rfl) (by kernel_rfl) (by kernel_rfl)
      (OpenSpec.preRow_of_cond 8 hx (by kernel_rfl) (fun k hk => by cases hk) (by kernel_rfl) (imported_met os))) ?_
  intro W base args ds gs before hval hW _ _ _ hL _ _
  exact imported_contract H enc W base args ds gs before hval hW hL
theorem imported_said : Rows.ImportedSaid :=
  OpenClaim.holds_of_cond 4 Tryz.f4 rfl rfl rfl rfl rfl rfl rfl ⟨rfl, rfl, rfl, rfl, rfl⟩ rfl rfl rfl rfl rfl (by kernel_rfl) Tryz.func4 (by kernel_rfl)
    (of_decide_eq_true (by kernel_rfl)) (by unfold Func.isWrapper; first | (rw [if_pos (by decide +kernel)]; kernel_rfl) | (rw [if_neg (by decide +kernel)]; exact ⟨rfl, rfl⟩))
    (fun os started H enc _ F => by rw [OpenClaim.pre_eq_preRow]; exact imported_lifted os started H enc F)
theorem imported_plain (f : FuncId) (fn : Func) (hf : Tryz.pinned.checked.prog.funcNamed "staking/stakingkeep.Imported" = some f) (hfn : Tryz.pinned.checked.prog.funcs[f]? = some fn) :
    false = Tryz.pinned.checked.prog.looks [] ∧ ∀ (j : Nat) t, fn.params[j]? = some t → Tryz.pinned.checked.prog.wantsStandIn t = false := by
  obtain rfl : f = 4 := Option.some.inj ((show Tryz.prog.funcNamed "staking/stakingkeep.Imported" = some 4 by kernel_rfl).symm.trans hf) |>.symm
  obtain rfl : fn = Tryz.f4 := (Option.some.inj (Tryz.func4.symm.trans hfn)).symm
  refine ⟨by kernel_rfl, fun j t ht => ?_⟩
  rw [Tryz.params4] at ht
  have hm : t = 9 ∨ t = 22 := by simpa using Array.mem_of_getElem? ht
  rcases hm with rfl | rfl
  · exact (show Tryz.prog.wantsStandIn 9 = false by kernel_rfl)
  · exact (show Tryz.prog.wantsStandIn 22 = false by kernel_rfl)
theorem imported_proved : Rows.ImportedCardSaid :=
  Claim7.holds_tied_plain_at .later [] _ _ _ _ imported_said (fun _ h => by cases h) (by kernel_rfl) (fun _ h => by cases h) imported_row_tie rfl ⟨rfl, rfl⟩ (by kernel_rfl) rfl imported_plain (by kernel_rfl)
end Go.Proofs.YtohjjgefklhmaabGreatDoor
