import Derived.Test.YtohjjgefklhmaaaGreatDoorLWithM
import Derived.Deep.RegionWith
import Derived.Deep.RegionHeld3
namespace Go.Proofs.YtohjjgefklhmaaaGreatDoor
open Go.ChangeShapes Go.WideShapes Go.ChangeAt Go.RowKit
set_option linter.unusedVariables false
set_option maxHeartbeats 40000000
set_option maxRecDepth 100000
structure No (w w1 : World) (g : Nat) (vv dv : Value) (vals : List VS) (ds : List (DA × Value)) (cs : List Value) (ps : List PS) (st : Value) : Prop where
 D : LDl w1 g vv dv vals ds cs
 K : Kp (fun k => dv.ownBlock = some k) w w1
 s : w1.ownsRow 0 134 2 st ps.length (Dh ps)
 nb : ∀ b, st.ownBlock = some b -> w.heap.size <= b
theorem No.fr {w w1 : World} {g gd n dc : Nat} {vv st : Value} {vals : List VS} {ds : List (DA × Value)} {cs : List Value} {ps : List PS} (h : No w w1 g vv (.slice (some ⟨gd, 0, none⟩) n dc) vals ds cs ps st) (hn : ds.length = n) (j : Nat) : w1.frozen? ⟨gd, j, none⟩ = false := by
 have := h.D.d
 exact E7 this hn.symm j
def R9 (O : Nat -> Prop) (w wr : World) (g : Nat) (vv dv : Value) (vals : List VS) (l : List DA) (cs : List Value) : Prop :=
 ∃ ds', LDl wr g vv dv vals ds' cs ∧ ds'.map Prod.fst = l ∧ Kp (fun k => dv.ownBlock = some k) w wr ∧ ∀ d ∈ ds', ∀ b, d.2.ownBlock = some b -> O b
theorem L5 (g : Nat) (vv dv : Value) (vals : List VS) (ds : List (DA × Value)) (cs : List Value) (v : Nat) (of : Int) (w : World) (h : LDl w g vv dv vals ds cs) (hv : v < vals.length) (hvl : vals.length <= 1000) (hdl : ds.length <= 1000)
  (hp : ∀ k (hk : k < ds.length), POk ds[k].1.parts ⟨of, vals[v].shares⟩) (O : Nat -> Prop) (hO : ∀ b, w.heap.size <= b -> O b) (hO2 : ∀ d ∈ ds, ∀ b, d.2.ownBlock = some b -> O b) :
  Calls Tryz.prog 125 #[.pointer (some ⟨g, 0, none⟩), .int .i64 v, .int .i64 of] w fun e w' => e = .returned (.tuple #[]) ∧ ∃ ds', LDl w' g vv dv vals ds' cs ∧ ds'.map Prod.fst = (ds.map Prod.fst).map (Bp v ⟨of, vals[v].shares⟩) ∧ Kp (fun k => dv.ownBlock = some k) w w' ∧ ∀ d ∈ ds', ∀ b, d.2.ownBlock = some b -> O b := by
 have HO := Hd hO
 have HO2 := Hd hO2
 clear hO hO2
 obtain ⟨da, dc, (hda : dv = .slice da ds.length dc)⟩ := Ac h.d
 obtain ⟨va, vc, (hva : vv = .slice va vals.length vc)⟩ := Ac h.v
 subst hda hva
 obtain ⟨gv, rfl, _⟩ := Ag h.v (by omega)
 obtain ⟨l, hl⟩ : ∃ l, l = ds.map Prod.fst := ⟨_, rfl⟩
 have hll : l.length = ds.length := by simp [hl]
 have HP : Hid (∀ k (hk : k < l.length), POk l[k].parts ⟨of, vals[v].shares⟩) := by
  intro k hk; subst hl; simpa using hp k (by simpa using hk)
 have HH := Hd h
 have HL := Hd hl
 rw [<- hl]
 have hn1 : ds.length <= l.length := by omega
 have hn2 : l.length <= ds.length := by omega
 clear h hp hl hll
 generalize ds.length = n at *
 obtain ⟨f, hf⟩ : ∃ f, f = Bp v ⟨of, vals[v].shares⟩ := ⟨_, rfl⟩
 have HF := Hd hf
 rw [<- hf]
 clear hf
 go_enter Tryz.func125, Tryz.ntmps125
 go_wp2
 go_loopw [6] (fun i wr => ∃ k : Nat, k <= n ∧ i = .int .i64 k ∧ R9 O w wr g (.slice (some ⟨gv, 0, none⟩) vals.length vc) (.slice da n dc) vals (Cq f l k) cs) (fun i _ => n - (intOf i).toNat)
 case atStart => exact ⟨0, Nat.zero_le _, rfl, ds, HH.out, by rw [KM]; exact HL.out.symm, Kp.refl _ _, HO2.out⟩
 case round =>
  clear HH HL HO2
  obtain ⟨k, hk, rfl, ds', hD, hm, hK, hOb⟩ := hrel
  have HOb := Hd hOb
  clear hOb
  have c8 : wr.cell? ⟨g, 8, none⟩ = some (.slice da n dc) := (hD.L.cell 8).trans hD.c8
  by_cases hlt : k < n
  ·have hkl : k < l.length := by omega
   have hdl' : ds'.length = l.length := by have := congrArg List.length hm; simpa [Jb] using this
   have hkd : k < ds'.length := by omega
   have hdn : ds'.length = n := by omega
   have hat : ds'[k].1 = l[k] := by
    have h1 := Nh f l k hkl
    rw [<- hm] at h1
    simpa [hkd] using h1
   have HSn : Hid (Cq f l (k + 1) = (Cq f l k).set k (f l[k])) := KJ f l k hkl
   have hdd := hD.d
   rw [hdn] at hdd
   obtain ⟨gd, rfl, _⟩ := Ag hdd (by omega)
   have z1 := (hdd.cellAt (k * 4 + 1) (by omega)).trans (BF ds' k hkd 1 (by omega))
   have z3 := (hdd.cellAt (k * 4 + 3) (by omega)).trans (BF ds' k hkd 3 (by omega))
   have fr3 := hdd.frozenAt (k * 4 + 3)
   have c7 : wr.cell? ⟨g, 7, none⟩ = some (.slice (some ⟨gv, 0, none⟩) vals.length vc) := (hD.L.cell 7).trans hD.c7
   have zv := (hD.v.cellAt (v * 8 + 3) (by omega)).trans (An vals v hv 3 (by omega))
   have hpk := hD.p k hkd
   have hok := HP.out k hkl
   rw [<- hat] at hok
   have HSn' : Hid (Cq f l (k + 1) = (Cq f l k).set k (f ds'[k].1)) := by rw [hat]; exact HSn.out
   obtain ⟨pv, hpv⟩ : ∃ pv, pv = ds'[k].2 := ⟨_, rfl⟩
   simp only [DA.cells, List.getElem?_cons_succ, List.getElem?_cons_zero, VS.cells, <- hpv] at z1 z3 zv
   rw [<- hpv] at hpk
   have HD := Hd hD
   have HM := Hd hm
   have HKP := Hd hK
   have HDN := Hd hdn
   by_cases hval : ds'[k].1.val = v
   ·have HV : Hid (f ds'[k].1 = { ds'[k].1 with parts := Cb ds'[k].1.parts ⟨of, vals[v].shares⟩ }) := by show f _ = _; rw [HF.out, Bp, if_pos hval]
    have HFin : Hid (∀ w1 st, No w w1 g (.slice (some ⟨gv, 0, none⟩) vals.length vc) (.slice (some ⟨gd, 0, none⟩) n dc) vals ds' cs (Cb ds'[k].1.parts ⟨of, vals[v].shares⟩) st -> R9 O w (w1.setCell ⟨gd, k * 4 + 3, none⟩ st) g (.slice (some ⟨gv, 0, none⟩) vals.length vc) (.slice (some ⟨gd, 0, none⟩) n dc) vals (Cq f l (k + 1)) cs) := by
     intro w1 st hp
     refine ⟨_, hp.D.setParts HDN.out.symm k hkd _ st hp.s, ?_, hp.K.setCell (p := ⟨gd, k * 4 + 3, none⟩) rfl _, fun d hd b hb => ?_⟩
     ·rw [HSn'.out, <- HM.out, HV.out, List.map_set]
     ·rcases List.mem_or_eq_of_mem_set hd with h | h
      ·exact HOb.out d h b hb
      ·rw [h] at hb; exact HO.out b (hp.nb b hb)
    have HW : Hid (∀ u, LDl u g (.slice (some ⟨gv, 0, none⟩) vals.length vc) (.slice (some ⟨gd, 0, none⟩) n dc) vals ds' cs ∧ Kp (fun k => (Value.slice (some ⟨gd, 0, none⟩) n dc).ownBlock = some k) w u -> Calls Tryz.prog 152 #[pv, .agg #[.int .i64 of, .int .i64 vals[v].shares]] u fun e w1 => ∃ st, e = .returned st ∧ No w w1 g (.slice (some ⟨gv, 0, none⟩) vals.length vc) (.slice (some ⟨gd, 0, none⟩) n dc) vals ds' cs (Cb ds'[k].1.parts ⟨of, vals[v].shares⟩) st) := by
     rintro u ⟨h1, h2⟩
     refine (PK pv _ ⟨of, vals[v].shares⟩ u (Rd.of_owns (by rw [hpv]; exact h1.p k hkd)) hok).mono ?_
     rintro e w1 ⟨st, rfl, h3, h4⟩
     exact ⟨st, rfl, h1.below h4, h2.trans (Kp.of_below h4 _), Aj h3 (Nat.zero_le _), fun b hb => by have := (h3.lt b hb).1; have := h2.size; omega⟩
    rw [hval] at z1
    have HSH : Hid (∀ w1 st, No w w1 g (.slice (some ⟨gv, 0, none⟩) vals.length vc) (.slice (some ⟨gd, 0, none⟩) n dc) vals ds' cs (Cb ds'[k].1.parts ⟨of, vals[v].shares⟩) st -> w1.cell? ⟨gv, v * 8 + 3, none⟩ = some (.int .i64 vals[v].shares)) := fun w1 st hp => by
     have zz := (hp.D.v.cellAt (v * 8 + 3) (by omega)).trans (An vals v hv 3 (by omega))
     simpa [VS.cells] using zz
    have HSP : Hid (∀ w1 st, No w w1 g (.slice (some ⟨gv, 0, none⟩) vals.length vc) (.slice (some ⟨gd, 0, none⟩) n dc) vals ds' cs (Cb ds'[k].1.parts ⟨of, vals[v].shares⟩) st -> w1.cell? ⟨gd, k * 4 + 3, none⟩ = some pv) := fun w1 st hp => by
     have h9 := hp.D.d
     rw [HDN.out] at h9
     have zz := (h9.cellAt (k * 4 + 3) (by omega)).trans (BF ds' k hkd 3 (by omega))
     rw [hpv]; simpa [DA.cells] using zz
    clear hD hm hK hdd hpk hok hat hdl' hdn hval HP HF HM HSn
    generalize vals[v].shares = sh at *
    go_wp2
    clear z1 hpv HSn' HV
    go_region_with (go_at_call 152; refine (HW.out _ ?_).mono ?_; exact ⟨HD.out.drew, HKP.out.drew⟩; rintro e w1 ⟨st, rfl, hcp⟩; obtain ⟨sa, sc, hsa⟩ := Ac hcp.s; subst hsa; have d8 : w1.cell? ⟨g, 8, none⟩ = some (.slice (some ⟨gd, 0, none⟩) n dc) := (hcp.D.L.cell 8).trans hcp.D.c8; have d7 : w1.cell? ⟨g, 7, none⟩ = some (.slice (some ⟨gv, 0, none⟩) vals.length vc) := (hcp.D.L.cell 7).trans hcp.D.c7; have dv := HSH.out _ _ hcp; have dp := HSP.out _ _ hcp; have d3 := hcp.fr HDN.out (k * 4 + 3); have HCP : Hid _ := hcp; clear hcp)
    all_goals
     go_wp2
     refine And.intro ⟨k + 1, by omega, by go_num, ?_⟩ (by simp [intOf]; omega)
     exact HFin.out _ _ HCP.out
   ·have HV : Hid (f ds'[k].1 = ds'[k].1) := by show f _ = _; rw [HF.out, Bp, if_neg hval]
    have HFin : Hid (R9 O w wr g (.slice (some ⟨gv, 0, none⟩) vals.length vc) (.slice (some ⟨gd, 0, none⟩) n dc) vals (Cq f l (k + 1)) cs) := by
     refine ⟨ds', HD.out, ?_, HKP.out, HOb.out⟩
     rw [HSn'.out, HV.out, <- HM.out]
     have e1 : ds'[k].1 = (ds'.map Prod.fst)[k]'(by simpa using hkd) := by simp
     rw [e1, List.set_getElem_self]
    clear hD hm hK hdd hpk hok hat hdl' hdn HP HF HM HSn HSn' HV hpv z3
    generalize ds'[k].1.val = dvl at *
    go_wp2
    exact ⟨⟨k + 1, by omega, by go_num, HFin.out⟩, by simp [intOf]; omega⟩
  ·have hke : k = l.length := by omega
   subst hke
   have HX : Hid (ds'.map Prod.fst = l.map f) := hm.trans (Md f l)
   have HD := Hd hD
   clear hD hm
   go_wp2
   go_end0
   exact ⟨rfl, ds', HD.out, HX.out, hK, HOb.out⟩
end Go.Proofs.YtohjjgefklhmaaaGreatDoor
