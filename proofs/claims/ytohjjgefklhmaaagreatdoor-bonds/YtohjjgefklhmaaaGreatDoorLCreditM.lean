import Derived.Test.YtohjjgefklhmaaaGreatDoorLWithM
import Derived.Deep.RegionWith
import Derived.Deep.RegionHeld3
namespace Go.Proofs.YtohjjgefklhmaaaGreatDoor
open Go.ChangeShapes Go.WideShapes Go.ChangeAt Go.RowKit
set_option linter.unusedVariables false

/-- behind with's call -/
structure CrP2 (w w1 : World) (g : Nat) (vv dv : Value) (vals : List VS) (ds : List (DA × Value)) (cs : List Value) (ps : List PS) (st : Value) : Prop where
  D : LDl w1 g vv dv vals ds cs
  K : Kp (fun k => dv.ownBlock = some k) w w1
  s : w1.ownsRow 0 134 2 st ps.length (prow ps)
  nb : ∀ b, st.ownBlock = some b → w.heap.size ≤ b
theorem CrP2.fr {w w1 : World} {g gd n dc : Nat} {vv st : Value} {vals : List VS} {ds : List (DA × Value)} {cs : List Value} {ps : List PS} (h : CrP2 w w1 g vv (.slice (some ⟨gd, 0, none⟩) n dc) vals ds cs ps st) (hn : ds.length = n) (j : Nat) : w1.frozen? ⟨gd, j, none⟩ = false := by
  have := h.D.d
  exact ownsRow_frozen this hn.symm j
/-- the state of credit's loop; O: where the parts may lie -/
def CrI2 (O : Nat → Prop) (w wr : World) (g : Nat) (vv dv : Value) (vals : List VS) (l : List DA) (cs : List Value) : Prop :=
  ∃ ds', LDl wr g vv dv vals ds' cs ∧ ds'.map Prod.fst = l ∧ Kp (fun k => dv.ownBlock = some k) w wr ∧ ∀ d ∈ ds', ∀ b, d.2.ownBlock = some b → O b

set_option maxHeartbeats 40000000 in
set_option maxRecDepth 100000 in
theorem credit_any (g : Nat) (vv dv : Value) (vals : List VS) (ds : List (DA × Value)) (cs : List Value) (v : Nat) (of : Int) (w : World) (h : LDl w g vv dv vals ds cs) (hv : v < vals.length) (hvl : vals.length ≤ 1000) (hdl : ds.length ≤ 1000)
    (hp : ∀ k (hk : k < ds.length), POk ds[k].1.parts ⟨of, vals[v].shares⟩) (O : Nat → Prop) (hO : ∀ b, w.heap.size ≤ b → O b) (hO2 : ∀ d ∈ ds, ∀ b, d.2.ownBlock = some b → O b) :
    Calls Tryz.prog 125 #[.pointer (some ⟨g, 0, none⟩), .int .i64 v, .int .i64 of] w fun e w' => e = .returned (.tuple #[]) ∧ ∃ ds', LDl w' g vv dv vals ds' cs ∧ ds'.map Prod.fst = (ds.map Prod.fst).map (creditOne v ⟨of, vals[v].shares⟩) ∧ Kp (fun k => dv.ownBlock = some k) w w' ∧ ∀ d ∈ ds', ∀ b, d.2.ownBlock = some b → O b := by
  have HO : Hid (∀ b, w.heap.size ≤ b → O b) := hO
  have HO2 : Hid (∀ d ∈ ds, ∀ b, d.2.ownBlock = some b → O b) := hO2
  clear hO hO2
  obtain ⟨da, dc, (hda : dv = .slice da ds.length dc)⟩ := ownsRow_slice h.d
  obtain ⟨va, vc, (hva : vv = .slice va vals.length vc)⟩ := ownsRow_slice h.v
  subst hda hva
  obtain ⟨gv, rfl, _⟩ := ownsRow_some h.v (by omega)
  obtain ⟨l, hl⟩ : ∃ l, l = ds.map Prod.fst := ⟨_, rfl⟩
  have hll : l.length = ds.length := by simp [hl]
  have HP : Hid (∀ k (hk : k < l.length), POk l[k].parts ⟨of, vals[v].shares⟩) := by
    intro k hk; subst hl; simpa using hp k (by simpa using hk)
  have HH : Hid (LDl w g (.slice (some ⟨gv, 0, none⟩) vals.length vc) (.slice da ds.length dc) vals ds cs) := h
  have HL : Hid (l = ds.map Prod.fst) := hl
  rw [← hl]
  have hn1 : ds.length ≤ l.length := by omega
  have hn2 : l.length ≤ ds.length := by omega
  clear h hp hl hll
  generalize ds.length = n at *
  obtain ⟨f, hf⟩ : ∃ f, f = creditOne v ⟨of, vals[v].shares⟩ := ⟨_, rfl⟩
  have HF : Hid (f = creditOne v ⟨of, vals[v].shares⟩) := hf
  rw [← hf]
  clear hf
  go_enter Tryz.func125, Tryz.ntmps125
  go_wp2
  go_loopw [6] (fun i wr => ∃ k : Nat, k ≤ n ∧ i = .int .i64 k ∧ CrI2 O w wr g (.slice (some ⟨gv, 0, none⟩) vals.length vc) (.slice da n dc) vals (firstK f l k) cs) (fun i _ => n - (intOf i).toNat)
  case atStart => exact ⟨0, Nat.zero_le _, rfl, ds, HH.out, by rw [firstK_zero]; exact HL.out.symm, Kp.refl _ _, HO2.out⟩
  case round =>
    clear HH HL HO2
    obtain ⟨k, hk, rfl, ds', hD, hm, hK, hOb⟩ := hrel
    have HOb : Hid (∀ d ∈ ds', ∀ b, d.2.ownBlock = some b → O b) := hOb
    clear hOb
    have c8 : wr.cell? ⟨g, 8, none⟩ = some (.slice da n dc) := (hD.L.cell 8).trans hD.c8
    by_cases hlt : k < n
    · have hkl : k < l.length := by omega
      have hdl' : ds'.length = l.length := by have := congrArg List.length hm; simpa [firstK_length] using this
      have hkd : k < ds'.length := by omega
      have hdn : ds'.length = n := by omega
      have hat : ds'[k].1 = l[k] := by
        have h1 := firstK_at f l k hkl
        rw [← hm] at h1
        simpa [hkd] using h1
      have HSn : Hid (firstK f l (k + 1) = (firstK f l k).set k (f l[k])) := firstK_snoc f l k hkl
      have hdd := hD.d
      rw [hdn] at hdd
      obtain ⟨gd, rfl, _⟩ := ownsRow_some hdd (by omega)
      have z1 := (hdd.cellAt (k * 4 + 1) (by omega)).trans (arow_at ds' k hkd 1 (by omega))
      have z3 := (hdd.cellAt (k * 4 + 3) (by omega)).trans (arow_at ds' k hkd 3 (by omega))
      have fr3 := hdd.frozenAt (k * 4 + 3)
      have c7 : wr.cell? ⟨g, 7, none⟩ = some (.slice (some ⟨gv, 0, none⟩) vals.length vc) := (hD.L.cell 7).trans hD.c7
      have zv := (hD.v.cellAt (v * 8 + 3) (by omega)).trans (vrow_at vals v hv 3 (by omega))
      have hpk := hD.p k hkd
      have hok := HP.out k hkl
      rw [← hat] at hok
      have HSn' : Hid (firstK f l (k + 1) = (firstK f l k).set k (f ds'[k].1)) := by rw [hat]; exact HSn.out
      obtain ⟨pv, hpv⟩ : ∃ pv, pv = ds'[k].2 := ⟨_, rfl⟩
      simp only [DA.cells, List.getElem?_cons_succ, List.getElem?_cons_zero, VS.cells, ← hpv] at z1 z3 zv
      rw [← hpv] at hpk
      have HD : Hid (LDl wr g (.slice (some ⟨gv, 0, none⟩) vals.length vc) (.slice (some ⟨gd, 0, none⟩) n dc) vals ds' cs) := hD
      have HM : Hid (ds'.map Prod.fst = firstK f l k) := hm
      have HKP : Hid (Kp (fun k => (Value.slice (some ⟨gd, 0, none⟩) n dc).ownBlock = some k) w wr) := hK
      have HDN : Hid (ds'.length = n) := hdn
      by_cases hval : ds'[k].1.val = v
      · have HV : Hid (f ds'[k].1 = { ds'[k].1 with parts := withF ds'[k].1.parts ⟨of, vals[v].shares⟩ }) := by show f _ = _; rw [HF.out, creditOne, if_pos hval]
        have HFin : Hid (∀ w1 st, CrP2 w w1 g (.slice (some ⟨gv, 0, none⟩) vals.length vc) (.slice (some ⟨gd, 0, none⟩) n dc) vals ds' cs (withF ds'[k].1.parts ⟨of, vals[v].shares⟩) st → CrI2 O w (w1.setCell ⟨gd, k * 4 + 3, none⟩ st) g (.slice (some ⟨gv, 0, none⟩) vals.length vc) (.slice (some ⟨gd, 0, none⟩) n dc) vals (firstK f l (k + 1)) cs) := by
          intro w1 st hp
          refine ⟨_, hp.D.setParts HDN.out.symm k hkd _ st hp.s, ?_, hp.K.setCell (p := ⟨gd, k * 4 + 3, none⟩) rfl _, fun d hd b hb => ?_⟩
          · rw [HSn'.out, ← HM.out, HV.out, List.map_set]
          · rcases List.mem_or_eq_of_mem_set hd with h | h
            · exact HOb.out d h b hb
            · rw [h] at hb; exact HO.out b (hp.nb b hb)
        have HW : Hid (∀ u, LDl u g (.slice (some ⟨gv, 0, none⟩) vals.length vc) (.slice (some ⟨gd, 0, none⟩) n dc) vals ds' cs ∧ Kp (fun k => (Value.slice (some ⟨gd, 0, none⟩) n dc).ownBlock = some k) w u → Calls Tryz.prog 152 #[pv, .agg #[.int .i64 of, .int .i64 vals[v].shares]] u fun e w1 => ∃ st, e = .returned st ∧ CrP2 w w1 g (.slice (some ⟨gv, 0, none⟩) vals.length vc) (.slice (some ⟨gd, 0, none⟩) n dc) vals ds' cs (withF ds'[k].1.parts ⟨of, vals[v].shares⟩) st) := by
          rintro u ⟨h1, h2⟩
          refine (with_any pv _ ⟨of, vals[v].shares⟩ u (Rd.of_owns (by rw [hpv]; exact h1.p k hkd)) hok).mono ?_
          rintro e w1 ⟨st, rfl, h3, h4⟩
          exact ⟨st, rfl, h1.below h4, h2.trans (Kp.of_below h4 _), ownsRow_base h3 (Nat.zero_le _), fun b hb => by have := (h3.lt b hb).1; have := h2.size; omega⟩
        rw [hval] at z1
        have HSH : Hid (∀ w1 st, CrP2 w w1 g (.slice (some ⟨gv, 0, none⟩) vals.length vc) (.slice (some ⟨gd, 0, none⟩) n dc) vals ds' cs (withF ds'[k].1.parts ⟨of, vals[v].shares⟩) st → w1.cell? ⟨gv, v * 8 + 3, none⟩ = some (.int .i64 vals[v].shares)) := fun w1 st hp => by
          have zz := (hp.D.v.cellAt (v * 8 + 3) (by omega)).trans (vrow_at vals v hv 3 (by omega))
          simpa [VS.cells] using zz
        have HSP : Hid (∀ w1 st, CrP2 w w1 g (.slice (some ⟨gv, 0, none⟩) vals.length vc) (.slice (some ⟨gd, 0, none⟩) n dc) vals ds' cs (withF ds'[k].1.parts ⟨of, vals[v].shares⟩) st → w1.cell? ⟨gd, k * 4 + 3, none⟩ = some pv) := fun w1 st hp => by
          have h9 := hp.D.d
          rw [HDN.out] at h9
          have zz := (h9.cellAt (k * 4 + 3) (by omega)).trans (arow_at ds' k hkd 3 (by omega))
          rw [hpv]; simpa [DA.cells] using zz
        clear hD hm hK hdd hpk hok hat hdl' hdn hval HP HF HM HSn
        generalize vals[v].shares = sh at *
        go_wp2
        clear z1 hpv HSn' HV
        go_region_with (go_at_call 152; refine (HW.out _ ?_).mono ?_; exact ⟨HD.out.drew, HKP.out.drew⟩; rintro e w1 ⟨st, rfl, hcp⟩; obtain ⟨sa, sc, hsa⟩ := ownsRow_slice hcp.s; subst hsa; have d8 : w1.cell? ⟨g, 8, none⟩ = some (.slice (some ⟨gd, 0, none⟩) n dc) := (hcp.D.L.cell 8).trans hcp.D.c8; have d7 : w1.cell? ⟨g, 7, none⟩ = some (.slice (some ⟨gv, 0, none⟩) vals.length vc) := (hcp.D.L.cell 7).trans hcp.D.c7; have dv := HSH.out _ _ hcp; have dp := HSP.out _ _ hcp; have d3 := hcp.fr HDN.out (k * 4 + 3); have HCP : Hid _ := hcp; clear hcp)
        all_goals
          go_wp2
          refine And.intro ⟨k + 1, by omega, by go_num, ?_⟩ (by simp [intOf]; omega)
          exact HFin.out _ _ HCP.out
      · have HV : Hid (f ds'[k].1 = ds'[k].1) := by show f _ = _; rw [HF.out, creditOne, if_neg hval]
        have HFin : Hid (CrI2 O w wr g (.slice (some ⟨gv, 0, none⟩) vals.length vc) (.slice (some ⟨gd, 0, none⟩) n dc) vals (firstK f l (k + 1)) cs) := by
          refine ⟨ds', HD.out, ?_, HKP.out, HOb.out⟩
          rw [HSn'.out, HV.out, ← HM.out]
          have e1 : ds'[k].1 = (ds'.map Prod.fst)[k]'(by simpa using hkd) := by simp
          rw [e1, List.set_getElem_self]
        clear hD hm hK hdd hpk hok hat hdl' hdn HP HF HM HSn HSn' HV hpv z3
        generalize ds'[k].1.val = dvl at *
        go_wp2
        exact ⟨⟨k + 1, by omega, by go_num, HFin.out⟩, by simp [intOf]; omega⟩
    · have hke : k = l.length := by omega
      subst hke
      have HX : Hid (ds'.map Prod.fst = l.map f) := hm.trans (firstK_all f l)
      have HD : Hid (LDl wr g (.slice (some ⟨gv, 0, none⟩) vals.length vc) (.slice da n dc) vals ds' cs) := hD
      clear hD hm
      go_wp2
      go_end0
      exact ⟨rfl, ds', HD.out, HX.out, hK, HOb.out⟩
end Go.Proofs.YtohjjgefklhmaaaGreatDoor
