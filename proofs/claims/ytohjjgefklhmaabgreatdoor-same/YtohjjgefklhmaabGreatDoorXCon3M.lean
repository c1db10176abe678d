import Derived.Test.YtohjjgefklhmaabGreatDoorXConM
import Derived.Deep.RegionWith
import Derived.Deep.DeepCutAuto
namespace Go.Proofs.YtohjjgefklhmaabGreatDoor
open Go.ChangeShapes Go.WideShapes Go.ChangeAt Go.RowKit
set_option linter.unusedVariables false

/-- what is asked of a validator that was read -/
structure ValC (x : EC) (j : Nat) : Prop where
  s1 : (x.val j).shares ≤ 1000000
  ko : (x.val j).comm ≤ (x.val j).outs
  z : (x.val j).shares = 0 → (x.val j).tokens ≤ 0 ∧ (x.val j).outs ≤ (x.val j).comm
  d : owedN x j x.bal.length ≤ ((x.val j).outs - (x.val j).comm) * 1073741824

section
variable {S : Nat → Prop} {W0 : World} (g : Nat) (x : EC) (bv vv ev : Value) (w : World) (h : PE S W0 w g x bv vv ev) (wb : WBd x)
include h wb

set_option maxHeartbeats 4000000 in
set_option maxRecDepth 100000 in
theorem cvalid (j : Nat) (hj : j < x.vals.length) :
    Calls Tryz.prog 82 #[.pointer (some ⟨g, 0, none⟩), .int .i64 j] w fun e w' => BoolIff e (ValC x j) ∧ Below w.heap.size w w' := by
  have v5 := wb.v5
  have HC : Hid (∀ o, (x.val j).comm ≤ (x.val j).outs → Calls Tryz.prog 96 #[.pointer (some ⟨g, 0, none⟩), .int .i64 j] (w.alloc o) fun e w' => e = .returned (.bool (decide (owedN x j x.bal.length ≤ ((x.val j).outs - (x.val j).comm) * 1073741824))) ∧ Below (w.alloc o).heap.size (w.alloc o) w') := fun o hco => ccovers g x bv vv ev (w.alloc o) (h.alloc o) wb j hj hco
  obtain ⟨va, vc, rfl⟩ := ownsRow_slice h.v
  obtain ⟨gv, hgv, hcell, hfr⟩ := h.val8 rfl hj
  subst hgv
  have c7 : w.cell? ⟨g, 7, none⟩ = some (.slice (some ⟨gv, 0, none⟩) x.vals.length vc) := h.L.cell 7
  have y0 := hcell 0 (by omega)
  have y1 := hcell 1 (by omega)
  have y2 := hcell 2 (by omega)
  have y3 := hcell 3 (by omega)
  have y4 := hcell 4 (by omega)
  have y5 := hcell 5 (by omega)
  have y6 := hcell 6 (by omega)
  have y7 := hcell 7 (by omega)
  rw [Nat.add_zero] at y0
  rw [EC.val_eq x hj] at y0 y1 y2 y3 y4 y5 y6 y7
  have HV : Hid (ValC x j ↔ ((x.val j).shares ≤ 1000000 ∧ (x.val j).comm ≤ (x.val j).outs ∧ ((x.val j).shares = 0 → (x.val j).tokens ≤ 0 ∧ (x.val j).outs ≤ (x.val j).comm) ∧ owedN x j x.bal.length ≤ ((x.val j).outs - (x.val j).comm) * 1073741824)) := ⟨fun h => ⟨h.s1, h.ko, h.z, h.d⟩, fun h => ⟨h.1, h.2.1, h.2.2.1, h.2.2.2⟩⟩
  have HA : Hid (∀ o, Below w.heap.size w (w.alloc o)) := fun o => (Below.refl _ _).alloc (Nat.le_refl _) o
  clear h wb hcell hfr
  generalize owedN x j x.bal.length = OW at *
  generalize x.val j = vj at *
  obtain ⟨v1, v2, v3, v4, v5', v6, v7, v8⟩ := vj
  simp only [VS.cells, List.getElem?_cons_zero, List.getElem?_cons_succ] at y0 y1 y2 y3 y4 y5 y6 y7
  dsimp only at HV HC
  by_cases h1 : 1000000 < v4
  · have HN : Hid (¬ ValC x j) := fun hv => by have := HV.out.1 hv; omega
    go_enter Tryz.func82, Tryz.ntmps82
    go_wp2
    go_ret
    exact ⟨BoolIff.ff HN.out, HA.out _⟩
  · by_cases h2 : v6 < v5'
    · have HN : Hid (¬ ValC x j) := fun hv => by have := HV.out.1 hv; omega
      go_enter Tryz.func82, Tryz.ntmps82
      go_wp2
      go_ret
      exact ⟨BoolIff.ff HN.out, HA.out _⟩
    · by_cases h3 : v4 = 0 ∧ (0 < v3 ∨ v5' < v6)
      · have HN : Hid (¬ ValC x j) := fun hv => by have := HV.out.1 hv; omega
        obtain ⟨rfl, h4⟩ := h3
        by_cases h5 : 0 < v3
        · go_enter Tryz.func82, Tryz.ntmps82
          go_wp2
          go_ret
          exact ⟨BoolIff.ff HN.out, HA.out _⟩
        · have h6 : v5' < v6 := by omega
          go_enter Tryz.func82, Tryz.ntmps82
          go_wp2
          go_ret
          exact ⟨BoolIff.ff HN.out, HA.out _⟩
      · have HN : Hid (ValC x j ↔ OW ≤ (v6 - v5') * 1073741824) := by
          show ValC x j ↔ OW ≤ (v6 - v5') * 1073741824
          rw [HV.out]
          constructor
          · intro hv; exact hv.2.2.2
          · intro hv
            refine ⟨by omega, by omega, fun h7 => ?_, hv⟩
            omega
        have HK : Hid (v5' ≤ v6) := by show v5' ≤ v6; omega
        by_cases h7 : v4 = 0
        · subst h7
          have h8 : ¬ 0 < v3 := by omega
          have h9 : ¬ v5' < v6 := by omega
          clear h3 HV
          go_enter Tryz.func82, Tryz.ntmps82
          go_wp2_with fail
          refine (HC.out _ HK.out).mono ?_
          rintro e w1 ⟨rfl, hb1⟩
          have HB1 : Hid (Below w.heap.size w w1) := (HA.out _).trans (hb1.mono (by simp))
          clear hb1 HC
          by_cases h10 : OW ≤ (v6 - v5') * 1073741824
          · rw [decide_eq_true h10]
            go_wp2
            go_ret
            exact ⟨BoolIff.tt (HN.out.2 h10), HB1.out⟩
          · rw [decide_eq_false h10]
            go_wp2
            go_ret
            exact ⟨BoolIff.ff (fun hv => by have := HN.out.1 hv; omega), HB1.out⟩
        · have h7' : (v4 == 0) = false := by simp [h7]
          clear h3 HV
          go_enter Tryz.func82, Tryz.ntmps82
          go_wp2_with fail
          refine (HC.out _ HK.out).mono ?_
          rintro e w1 ⟨rfl, hb1⟩
          have HB1 : Hid (Below w.heap.size w w1) := (HA.out _).trans (hb1.mono (by simp))
          clear hb1 HC
          by_cases h10 : OW ≤ (v6 - v5') * 1073741824
          · rw [decide_eq_true h10]
            go_wp2
            go_ret
            exact ⟨BoolIff.tt (HN.out.2 h10), HB1.out⟩
          · rw [decide_eq_false h10]
            go_wp2
            go_ret
            exact ⟨BoolIff.ff (fun hv => by have := HN.out.1 hv; omega), HB1.out⟩

/-- the block of the last entry -/
def lastM (l : List ES) : Int := l.foldl (fun _ e => e.made) 0
/-- what the entries must be -/
def EntQ (x : EC) : Prop := EntI x.vals.length x.height x.mature x.ents ∧ ∀ e, e ∈ x.ents → 0 ≤ e.made

set_option maxHeartbeats 4000000 in
set_option maxRecDepth 100000 in
theorem centries : Calls Tryz.prog 83 #[.pointer (some ⟨g, 0, none⟩)] w fun e w' => (∃ b, e = .returned (.bool b) ∧ (EntQ x → b = true)) ∧ Below w.heap.size w w' := by
  have el := wb.el
  have hm := wb.m
  have hh := wb.hh
  have HCT : Hid (∀ w' who val, Below w.heap.size w w' → Calls Tryz.prog 89 #[.pointer (some ⟨g, 0, none⟩), .int .i64 who, .int .i64 val] w' fun e w'' => e = .returned (.int .i64 (countE x.ents who val)) ∧ Below w'.heap.size w' w'') := fun w' who val hb => gcount g x bv vv ev w' (h.below hb) who val (by omega)
  have HCB : Hid (∀ a b, 0 ≤ countE x.ents a b ∧ countE x.ents a b ≤ x.ents.length) := fun a b => by have := countE_bd x.ents a b x.ents.length (Nat.le_refl _); rwa [List.take_length] at this
  have HNB : Hid (∀ e, e ∈ x.ents → 0 ≤ e.made ∧ e.made ≤ 1073741824000000) := fun e he => wb.eb e he e.made (by simp [entNs])
  have HSN : Hid (∀ k (hk : k < x.ents.length), lastM (x.ents.take (k + 1)) = x.ents[k].made) := fun k hk => by unfold lastM; rw [foldl_snoc _ _ _ _ hk]
  have HLE : Hid (EntQ x → ∀ k (hk : k < x.ents.length), lastM (x.ents.take k) ≤ x.ents[k].made) := fun hq k hk => by
    cases k with
    | zero => simp only [List.take_zero, lastM, List.foldl_nil]; exact hq.2 _ (List.getElem_mem hk)
    | succ k =>
      rw [HSN.out k (by omega)]
      exact List.pairwise_iff_getElem.1 hq.1.so k (k + 1) (by omega) hk (by omega)
  obtain ⟨ea, ec, rfl⟩ := ownsRow_slice h.e
  have c73 : w.cell? ⟨g, 73, none⟩ = some (.slice ea x.ents.length ec) := h.evAt
  have HP : Hid (PE S W0 w g x bv vv (.slice ea x.ents.length ec)) := h
  clear h wb
  go_enter Tryz.func83, Tryz.ntmps83
  go_wp2
  go_loopw [3, 11] (fun n i wr => ∃ k : Nat, k ≤ x.ents.length ∧ i = .int .i64 k ∧ n = .int .i64 (lastM (x.ents.take k)) ∧ Below w.heap.size w wr) (fun _ i _ => x.ents.length - (intOf i).toNat)
  case atStart => exact ⟨0, Nat.zero_le _, rfl, rfl, Below.refl _ _⟩
  case round =>
    obtain ⟨k, hk, rfl, rfl, hbw⟩ := hrel
    have hP := HP.out.below hbw
    by_cases hlt : k < x.ents.length
    · obtain ⟨ge, rfl, hc⟩ := (Rd.of_owns hP.e).get (by omega)
      have y0 := hc _ _ (erow_at x.ents k hlt 0 (by omega))
      have y1 := hc _ _ (erow_at x.ents k hlt 1 (by omega))
      have y2 := hc _ _ (erow_at x.ents k hlt 2 (by omega))
      have y3 := hc _ _ (erow_at x.ents k hlt 3 (by omega))
      rw [Nat.add_zero] at y0
      have d1 : wr.cell? ⟨g, 1, none⟩ = some (.int .i64 x.mature) := hP.L.cell 1
      have d3 : wr.cell? ⟨g, 3, none⟩ = some (.int .i64 x.height) := hP.L.cell 3
      have lg := hP.L.lt
      have lg2 : g < wr.heap.size + 1 := by omega
      have hsn := HSN.out k hlt
      have hmb := HNB.out x.ents[k] (List.getElem_mem hlt)
      have HLk : Hid (EntQ x → lastM (x.ents.take k) ≤ x.ents[k].made) := fun hq => HLE.out hq k hlt
      have HLv : Hid (EntQ x → x.height < x.ents[k].made + x.mature) := fun hq => hq.1.lv _ (List.getElem_mem hlt)
      have HCk : Hid (EntQ x → countE x.ents x.ents[k].who x.ents[k].val ≤ 4) := fun hq => hq.1.ct _ _
      have hcb := HCB.out x.ents[k].who x.ents[k].val
      have HBX : Hid (∀ o, Below w.heap.size w (wr.alloc o)) := fun o => hbw.alloc hbw.size o
      have HCT2 : Hid (∀ o, Calls Tryz.prog 89 #[.pointer (some ⟨g, 0, none⟩), .int .i64 x.ents[k].who, .int .i64 x.ents[k].val] (wr.alloc o).drew fun e w'' => e = .returned (.int .i64 (countE x.ents x.ents[k].who x.ents[k].val)) ∧ Below (wr.alloc o).drew.heap.size (wr.alloc o).drew w'') := fun o => HCT.out (wr.alloc o).drew _ _ (HBX.out o).drew
      have HSN2 : Hid (lastM (x.ents.take (k + 1)) = x.ents[k].made) := hsn
      clear hP hbw hc HP hsn HSN HLE HNB HCB HCT
      generalize x.ents[k] = en at *
      obtain ⟨ew, evl, em, ea2⟩ := en
      dsimp only at y0 y1 y2 y3 hmb HLk HLv HCk hcb HCT2 HSN2
      generalize hlm : lastM (x.ents.take k) = lm at *
      generalize countE x.ents ew evl = cn at *
      clear hlm
      by_cases k1 : em < lm
      · have d1' : decide (em < lm) = true := decide_eq_true k1
        have HF : Hid (EntQ x → false = true) := fun hq => by have := HLk.out hq; omega
        go_wp2_with fail
        go_region
        go_wp2
        go_ret
        exact ⟨⟨false, rfl, HF.out⟩, (HBX.out _).drew⟩
      · have d1' : decide (em < lm) = false := decide_eq_false k1
        by_cases k2 : em + x.mature ≤ x.height
        · have d2' : decide (em + x.mature ≤ x.height) = true := decide_eq_true k2
          have HF : Hid (EntQ x → false = true) := fun hq => by have := HLv.out hq; omega
          go_wp2_with fail
          go_region
          go_wp2
          go_ret
          exact ⟨⟨false, rfl, HF.out⟩, (HBX.out _).drew⟩
        · have d2' : decide (em + x.mature ≤ x.height) = false := decide_eq_false k2
          by_cases k3 : 4 < cn
          · have HF : Hid (EntQ x → false = true) := fun hq => by have := HCk.out hq; omega
            go_wp2_with fail
            go_region
            go_wp2_with fail
            refine (HCT2.out _).mono ?_
            rintro e w2 ⟨rfl, hb2⟩
            have HB2 : Hid (Below w.heap.size w w2) := (HBX.out _).drew.trans (hb2.mono (HBX.out _).size)
            clear hb2
            go_wp2
            go_ret
            exact ⟨⟨false, rfl, HF.out⟩, HB2.out⟩
          · go_wp2_with fail
            go_region
            go_wp2_with fail
            refine (HCT2.out _).mono ?_
            rintro e w2 ⟨rfl, hb2⟩
            have HB2 : Hid (Below w.heap.size w w2) := (HBX.out _).drew.trans (hb2.mono (HBX.out _).size)
            clear hb2
            go_wp2
            refine And.intro ?_ ?_
            · first | exact ⟨k + 1, by omega, by go_num, by rw [HSN2.out], HB2.out⟩ | ((repeat apply Exists.intro); exact ⟨⟨k + 1, by omega, by go_num, by rw [HSN2.out], HB2.out⟩, rfl⟩)
            · simp [intOf]; omega
    · have HBY : Hid (Below w.heap.size w wr) := hbw
      clear hP hbw
      go_wp2
      go_ret
      exact ⟨⟨true, rfl, fun _ => rfl⟩, HBY.out⟩

/-- what is asked of an engine that was read -/
structure ConsT (x : EC) : Prop where
  t : x.tot ≤ 1000000
  n : sumV inI x.vals ≤ x.top
  v : ∀ j, j < x.vals.length → ValC x j
def ConPost (x : EC) (e : Ending) : Prop := ∃ b, e = .returned (.bool b) ∧ (b = true → ConsT x) ∧ (ConsT x → EntQ x → b = true)

set_option maxHeartbeats 4000000 in
set_option maxRecDepth 100000 in
theorem consist_any : Calls Tryz.prog 38 #[.pointer (some ⟨g, 0, none⟩)] w fun e w' => ConPost x e ∧ Below w.heap.size w w' := by
  have v5 := wb.v5
  have HS1 : Hid (Calls Tryz.prog 80 #[.pointer (some ⟨g, 0, none⟩)] w fun e w' => e = .returned (.int .i64 x.tot) ∧ Below w.heap.size w w') := csupply g x bv vv ev w h wb
  have HS2 : Hid (∀ w', Below w.heap.size w w' → Calls Tryz.prog 81 #[.pointer (some ⟨g, 0, none⟩)] w' fun e w'' => e = .returned (.int .i64 (sumV inI x.vals)) ∧ Below w'.heap.size w' w'') := fun w' hb => csetSize g x bv vv ev w' (h.below hb) wb
  have HS3 : Hid (∀ w' j, Below w.heap.size w w' → j < x.vals.length → Calls Tryz.prog 82 #[.pointer (some ⟨g, 0, none⟩), .int .i64 (j : Nat)] w' fun e w'' => BoolIff e (ValC x j) ∧ Below w'.heap.size w' w'') := fun w' j hb hj => cvalid g x bv vv ev w' (h.below hb) wb j hj
  have HS4 : Hid (∀ w', Below w.heap.size w w' → Calls Tryz.prog 83 #[.pointer (some ⟨g, 0, none⟩)] w' fun e w'' => (∃ b, e = .returned (.bool b) ∧ (EntQ x → b = true)) ∧ Below w'.heap.size w' w'') := fun w' hb => centries g x bv vv ev w' (h.below hb) wb
  obtain ⟨va, vc, rfl⟩ := ownsRow_slice h.v
  have HC : Hid (∀ w', Below w.heap.size w w' → w'.cell? ⟨g, 0, none⟩ = some (.int .i64 x.top) ∧ w'.cell? ⟨g, 7, none⟩ = some (.slice va x.vals.length vc) ∧ g < w'.heap.size) := fun w' hb => ⟨(h.below hb).L.cell 0, (h.below hb).L.cell 7, (h.below hb).L.lt⟩
  clear h wb
  go_enter Tryz.func38, Tryz.ntmps38
  go_wp2_with fail
  refine HS1.out.mono ?_
  rintro e w1 ⟨rfl, hb1⟩
  have HB1 : Hid (Below w.heap.size w w1) := hb1
  obtain ⟨c0, c7, lg⟩ := HC.out w1 hb1
  clear hb1 HS1
  by_cases k1 : 1000000 < x.tot
  · have HF : Hid (ConPost x (.returned (.bool false))) := ⟨false, rfl, (fun h => by cases h), (fun h => by have := h.t; omega)⟩
    go_wp2
    go_ret
    exact ⟨HF.out, HB1.out⟩
  · have HT1 : Hid (x.tot ≤ 1000000) := by show x.tot ≤ 1000000; omega
    obtain ⟨tt, htt⟩ : ∃ tt, x.tot = tt := ⟨_, rfl⟩
    have HTT : Hid (x.tot = tt) := htt
    rw [htt] at HT1 k1 ⊢
    clear htt
    go_wp2_with fail
    go_cut [13] (fun s13 wx => s13 = .bool (decide (x.top < sumV inI x.vals)) ∧ Below w.heap.size w wx)
    case first =>
      go_region_with (go_at_call 81; go_loud (refine (HS2.out _ HB1.out.drew).mono ?_); rintro e w2 ⟨rfl, hb2⟩; have hb3 : Below w.heap.size w w2 := HB1.out.drew.trans (hb2.mono HB1.out.size); obtain ⟨c0', c7', lg'⟩ := HC.out w2 hb3; have HB3 : Hid (Below w.heap.size w w2) := hb3; clear hb2 hb3)
      all_goals (go_wp2_with fail; go_meet; exact ⟨rfl, HB3.out⟩)
    case rest =>
      obtain ⟨hs13, hbx⟩ := hcut
      obtain ⟨d0, d7, lgx⟩ := HC.out wc hbx
      have HB4 : Hid (Below w.heap.size w wc) := hbx
      clear hbx HS2 c0 c7 lg HB1
      by_cases k2 : x.top < sumV inI x.vals
      · rw [decide_eq_true k2] at hs13
        subst hs13
        have HF : Hid (ConPost x (.returned (.bool false))) := ⟨false, rfl, (fun h => by cases h), (fun h => by have := h.n; omega)⟩
        go_wp2
        go_ret
        exact ⟨HF.out, HB4.out⟩
      · rw [decide_eq_false k2] at hs13
        subst hs13
        have HT2 : Hid (sumV inI x.vals ≤ x.top) := by show sumV inI x.vals ≤ x.top; omega
        clear k2
        go_wp2
        go_loopw [19] (fun i wr => ∃ k : Nat, k ≤ x.vals.length ∧ i = .int .i64 k ∧ (∀ j, j < k → ValC x j) ∧ Below w.heap.size w wr) (fun i _ => x.vals.length - (intOf i).toNat)
        case atStart => exact ⟨0, Nat.zero_le _, rfl, fun j hj => by omega, HB4.out⟩
        case round =>
          obtain ⟨k, hk, rfl, hall, hbw⟩ := hrel
          have HB5 : Hid (Below w.heap.size w wr) := hbw
          have HAll : Hid (∀ j, j < k → ValC x j) := hall
          clear hbw hall
          by_cases hlt : k < x.vals.length
          · go_wp2_with fail
            refine (HS3.out wr k HB5.out hlt).mono ?_
            rintro e w6 ⟨⟨b, rfl, hbv⟩, hb6⟩
            have HB6 : Hid (Below w.heap.size w w6) := HB5.out.trans (hb6.mono HB5.out.size)
            have HBV : Hid (b = true ↔ ValC x k) := hbv
            clear hb6 hbv
            cases b
            · have HF : Hid (ConPost x (.returned (.bool false))) := ⟨false, rfl, (fun h => by cases h), (fun h => by have := HBV.out.2 (h.v k hlt); cases this)⟩
              go_wp2
              go_ret
              exact ⟨HF.out, HB6.out⟩
            · have HAll2 : Hid (∀ j, j < k + 1 → ValC x j) := fun j hj => by
                by_cases e : j = k
                · subst e; exact HBV.out.1 rfl
                · exact HAll.out j (by omega)
              go_wp2
              refine And.intro ?_ ?_
              · first | exact ⟨k + 1, by omega, by go_num, HAll2.out, HB6.out⟩ | ((repeat apply Exists.intro); exact ⟨⟨k + 1, by omega, by go_num, HAll2.out, HB6.out⟩, rfl⟩)
              · simp [intOf]; omega
          · have ek : k = x.vals.length := by omega
            subst ek
            go_wp2_with fail
            refine (HS4.out wr HB5.out).mono ?_
            rintro e w6 ⟨⟨b, rfl, hbv⟩, hb6⟩
            have HB6 : Hid (Below w.heap.size w w6) := HB5.out.trans (hb6.mono HB5.out.size)
            have HF : Hid (ConPost x (.returned (.bool b))) := ⟨b, rfl, fun _ => ⟨HTT.out.symm ▸ HT1.out, HT2.out, HAll.out⟩, fun _ hq => hbv hq⟩
            clear hb6 hbv
            go_wp2
            go_ret
            exact ⟨HF.out, HB6.out⟩
end
end Go.Proofs.YtohjjgefklhmaabGreatDoor
