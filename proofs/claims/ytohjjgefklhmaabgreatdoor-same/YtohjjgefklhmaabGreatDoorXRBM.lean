import Derived.Test.YtohjjgefklhmaabGreatDoorXCon3M
namespace Go.Proofs.YtohjjgefklhmaabGreatDoor
open Go.ChangeShapes Go.WideShapes Go.ChangeAt Go.RowKit
set_option linter.unusedVariables false

/-- what is sure of an engine that was read -/
structure RB (x : EC) : Prop where
  b1 : 1 ≤ x.bal.length
  b6 : x.bal.length ≤ 6
  v1 : 1 ≤ x.vals.length
  v5 : x.vals.length ≤ 5
  tl : x.tab.length = 65
  fee : 0 ≤ x.fee ∧ x.fee ≤ 100
  top : 1 ≤ x.top ∧ x.top ≤ 5
  mat : 1 ≤ x.mature ∧ x.mature ≤ 20
  hgt : 0 ≤ x.height ∧ x.height ≤ 1000
  bal : ∀ n, n ∈ x.bal → 0 ≤ n ∧ n ≤ 1000000
  fees : 0 ≤ x.fees ∧ x.fees ≤ 1000000
  pool : 0 ≤ x.pool ∧ x.pool ≤ 1000000
  vb : ∀ j, j < x.vals.length → VB0 (x.val j)
  rt : ∀ j, j < x.vals.length → 0 ≤ (x.val j).rate ∧ (x.val j).rate ≤ 100
  ow : ∀ j, j < x.vals.length → 0 ≤ (x.val j).owner ∧ (x.val j).owner ≤ 6
  shs : ∀ j, j < x.vals.length → (x.val j).shares = sumN (fun r => x.sh r j) x.bal.length
  sh : ∀ k j, k < 6 → j < 5 → 0 ≤ x.sh k j ∧ x.sh k j ≤ 1000000
  shz : ∀ k j, k < 6 → j < 5 → x.bal.length ≤ k → x.sh k j = 0
  per : ∀ j, j < 5 → x.per j = 0
  upt : ∀ k j, k < 6 → j < 5 → -1073741824000000 ≤ x.upto k j ∧ x.upto k j ≤ 0
  eb : ∀ e, e ∈ x.ents → EBd x.bal.length x.vals.length x.height e
  el : x.ents.length ≤ 120
theorem val_mem {x : EC} {v : VS} (hv : v ∈ x.vals) : ∃ j, j < x.vals.length ∧ v = x.val j := by
  obtain ⟨j, hj, e⟩ := List.getElem_of_mem hv
  exact ⟨j, hj, by rw [← e]; simp [EC.val, hj]⟩
theorem rb_of (s : List UInt8) (hg : GGen (rdG s ⟨0, false⟩).1) : RB (rdX s).1 := by
  have hbd := rdG_bd s ⟨0, false⟩
  unfold rdX
  generalize rdG s ⟨0, false⟩ = G at *
  obtain ⟨gn, st0⟩ := G
  dsimp only at hbd hg ⊢
  obtain ⟨q1, q2, q3, q4, q5, q6, q7, q8, q9⟩ := hbd
  obtain ⟨⟨g1, g2, g3, g4⟩, ⟨g5, g6, g7, g8, g9⟩, ⟨g10, g11, g12, g13, g14, g15⟩⟩ := hg
  have hvl0 : (xN' gn).vals.length = gn.os.length := vs0_len' _ _ g7
  have hv0 : ∀ i, i < gn.os.length → (xN' gn).val i = ⟨gn.os.getD i 0, gn.rs.getD i 0, 0, 0, 0, 0, false, false⟩ := fun i hi => vs0_at' _ _ i g7 hi
  -- the chain's numbers
  obtain ⟨a, ha⟩ : ∃ a, a = rdX1 s (xN' gn, st0) := ⟨_, rfl⟩
  have e1 : a.1 = { xN' gn with height := (nx s 1000 st0).1, fees := (nx s 1000000 (nx s 1000 st0).2).1, pool := (nx s 1000000 (nx s 1000000 (nx s 1000 st0).2).2).1 } := by rw [ha]; rfl
  have hX3 : rdX3 s (xN' gn, st0) = rdDa s (rdV s a a.1.vals.length) (rdV s a a.1.vals.length).1.vals.length (rdV s a a.1.vals.length).1.bal.length := by rw [ha]; rfl
  rw [hX3]
  clear ha hX3
  have al : a.1.vals.length = gn.os.length := by rw [e1]; exact hvl0
  have av : ∀ i, a.1.val i = (xN' gn).val i := fun i => by rw [e1]; rfl
  have vm := rdV_bd s a a.1.vals.length (Nat.le_refl _)
  obtain ⟨b, hb⟩ : ∃ b, b = rdV s a a.1.vals.length := ⟨_, rfl⟩
  rw [← hb] at vm ⊢
  clear hb
  have bl : b.1.vals.length = gn.os.length := vm.vl.trans al
  have eb : b.1 = { a.1 with vals := b.1.vals } := vm.eq
  have bb : b.1.bal = gn.bs := by rw [eb, e1]; rfl
  have bt : b.1.tab = List.replicate 65 0 := by rw [eb, e1]; rfl
  have dm := rdDa_bd (s := s) (q := b) bt (by omega) b.1.bal.length (by rw [bb]; omega)
  obtain ⟨c, hc⟩ : ∃ c, c = rdDa s b b.1.vals.length b.1.bal.length := ⟨_, rfl⟩
  rw [← hc] at dm ⊢
  clear hc
  have ec : c.1 = { b.1 with vals := c.1.vals, tab := c.1.tab } := dm.eq
  have cb : c.1.bal = gn.bs := by rw [ec]; exact bb
  have cl : c.1.vals.length = gn.os.length := dm.vl.trans bl
  have ch : c.1.height = (nx s 1000 st0).1 := by rw [ec]; show b.1.height = _; rw [eb, e1]
  have hh := nx_bd s 1000 st0 (by decide)
  have hf := nx_bd s 1000000 (nx s 1000 st0).2 (by decide)
  have hp := nx_bd s 1000000 (nx s 1000000 (nx s 1000 st0).2).2 (by decide)
  have hn := nx_bd s 120 c.2 (by decide)
  have hE := rdE_bd s c.1.bal.length c.1.vals.length c.1.height (nx s 120 c.2).2 (by rw [cb]; omega) (by omega) (by rw [ch]; exact hh.1) (nx s 120 c.2).1.toNat
  have hval : ∀ j, j < gn.os.length → c.1.val j = { b.1.val j with shares := sumN (fun r => c.1.sh r j) gn.bs.length } := fun j hj => by
    have h1 := dm.val j (by omega)
    have h2 := vm.lo j (by omega) (by omega)
    rw [if_neg (by omega), h2.2.2.2, av, hv0 j hj, bb] at h1
    simp only [Int.zero_add] at h1
    exact h1
  have hsh : ∀ k j, k < 6 → j < 5 → GBd k j (c.1.sh k j) (c.1.upto k j) := fun k j hk hj => by
    by_cases h1 : bef b.1.bal.length 0 k j ∧ j < b.1.vals.length
    · exact dm.lo k j hk h1.2 h1.1
    · have h2 := dm.hi k j hk hj (by
        by_cases h3 : bef b.1.bal.length 0 k j
        · exact .inr (by have : ¬ j < b.1.vals.length := fun h4 => h1 ⟨h3, h4⟩; omega)
        · exact .inl h3)
      rw [h2.1, h2.2]
      exact ⟨by decide, by decide, by decide, by decide⟩
  refine ⟨?_, ?_, ?_, ?_, ?_, ?_, ?_, ?_, ?_, ?_, ?_, ?_, ?_, ?_, ?_, ?_, ?_, ?_, ?_, ?_, ?_, ?_⟩
  · show 1 ≤ c.1.bal.length; rw [cb]; exact g1
  · show c.1.bal.length ≤ 6; rw [cb]; exact g2
  · show 1 ≤ c.1.vals.length; omega
  · show c.1.vals.length ≤ 5; omega
  · exact dm.tl
  · show 0 ≤ c.1.fee ∧ c.1.fee ≤ 100; rw [ec]; show 0 ≤ b.1.fee ∧ b.1.fee ≤ 100; rw [eb, e1]; exact ⟨g14, g15⟩
  · show 1 ≤ c.1.top ∧ c.1.top ≤ 5; rw [ec]; show 1 ≤ b.1.top ∧ b.1.top ≤ 5; rw [eb, e1]; exact ⟨g10, g11⟩
  · show 1 ≤ c.1.mature ∧ c.1.mature ≤ 20; rw [ec]; show 1 ≤ b.1.mature ∧ b.1.mature ≤ 20; rw [eb, e1]; exact ⟨g12, g13⟩
  · show 0 ≤ c.1.height ∧ c.1.height ≤ 1000; rw [ch]; exact hh
  · show ∀ n, n ∈ c.1.bal → 0 ≤ n ∧ n ≤ 1000000; rw [cb]; exact q4
  · show 0 ≤ c.1.fees ∧ c.1.fees ≤ 1000000; rw [ec]; show 0 ≤ b.1.fees ∧ b.1.fees ≤ 1000000; rw [eb, e1]; exact hf
  · show 0 ≤ c.1.pool ∧ c.1.pool ≤ 1000000; rw [ec]; show 0 ≤ b.1.pool ∧ b.1.pool ≤ 1000000; rw [eb, e1]; exact hp
  · intro j hj
    have hj' : j < gn.os.length := by have : j < c.1.vals.length := hj; omega
    show VB0 (c.1.val j)
    rw [hval j hj']
    have h2 := (vm.lo j (by omega) (by omega)).1
    exact ⟨h2.t0, h2.t1, h2.k0, h2.k1, h2.o0, h2.o1, h2.jl⟩
  · intro j hj
    have hj' : j < gn.os.length := by have : j < c.1.vals.length := hj; omega
    show 0 ≤ (c.1.val j).rate ∧ (c.1.val j).rate ≤ 100
    rw [hval j hj']
    have h2 := (vm.lo j (by omega) (by omega)).2.2.1
    rw [av, hv0 j hj'] at h2
    show 0 ≤ (b.1.val j).rate ∧ (b.1.val j).rate ≤ 100
    rw [h2]
    have hr : j < gn.rs.length := by omega
    have e : gn.rs.getD j 0 = gn.rs[j] := by simp [hr]
    simp only [e]
    exact q6 _ (List.getElem_mem hr)
  · intro j hj
    have hj' : j < gn.os.length := by have : j < c.1.vals.length := hj; omega
    show 0 ≤ (c.1.val j).owner ∧ (c.1.val j).owner ≤ 6
    rw [hval j hj']
    have h2 := (vm.lo j (by omega) (by omega)).2.1
    rw [av, hv0 j hj'] at h2
    show 0 ≤ (b.1.val j).owner ∧ (b.1.val j).owner ≤ 6
    rw [h2]
    have e : gn.os.getD j 0 = gn.os[j] := by simp [hj']
    simp only [e]
    exact q5 _ (List.getElem_mem hj')
  · intro j hj
    have hj' : j < gn.os.length := by have : j < c.1.vals.length := hj; omega
    show (c.1.val j).shares = sumN (fun r => c.1.sh r j) c.1.bal.length
    rw [hval j hj', cb]
  · intro k j hk hj
    have := hsh k j hk hj
    exact ⟨this.1, this.2.1⟩
  · intro k j hk hj hk2
    exact (dm.hi k j hk hj (.inl (by unfold bef; have : c.1.bal.length ≤ k := hk2; rw [cb] at this; rw [bb]; omega))).1
  · exact dm.per
  · intro k j hk hj
    have := hsh k j hk hj
    exact ⟨this.2.2.1, this.2.2.2⟩
  · exact hE.2
  · show (rdE s c.1.bal.length c.1.vals.length c.1.height (nx s 120 c.2).2 (nx s 120 c.2).1.toNat).1.length ≤ 120
    rw [hE.1]; omega
theorem RB.wbd {x : EC} (r : RB x) : WBd x := by
  refine ⟨r.b6, r.v5, fun n hn => ?_, fun n hn => ?_, fun n hn => ?_, ⟨by have := r.top; omega, by have := r.top; omega⟩, ⟨by have := r.mat; omega, by have := r.mat; omega⟩, ⟨r.fee.1, by have := r.fee; omega⟩, ⟨r.hgt.1, by have := r.hgt; omega⟩, r.fees, r.pool, fun v hv => ?_, ⟨r.sh, fun k j hk hj _ => ?_⟩, fun k j hk hj => ?_, by have := r.el; omega, fun e he n hn => ?_⟩
  · have := r.bal n hn; omega
  · obtain ⟨v, hv, rfl⟩ := List.mem_map.1 hn
    obtain ⟨j, hj, rfl⟩ := val_mem hv
    have := r.ow j hj; omega
  · obtain ⟨v, hv, rfl⟩ := List.mem_map.1 hn
    obtain ⟨j, hj, rfl⟩ := val_mem hv
    have := r.rt j hj; omega
  · obtain ⟨j, hj, rfl⟩ := val_mem hv
    exact r.vb j hj
  · have h1 := r.per j hj; have h2 := r.upt k j hk hj; omega
  · have h1 := r.per j hj; have h2 := r.upt k j hk hj; omega
  · obtain ⟨w0, w1, v0, v1, m0, m1, a0, a1⟩ := r.eb e he
    have := r.hgt; have := r.b6; have := r.v5
    simp only [entNs, List.mem_cons, List.not_mem_nil, or_false] at hn
    omega
theorem owed6 {x : EC} (hb : x.bal.length ≤ 6) (hz : ∀ k j, k < 6 → j < 5 → x.bal.length ≤ k → x.sh k j = 0) {j : Nat} (hj : j < 5) : owedN x j x.bal.length = sum6 (fun k => x.sh k j * (x.per j - x.upto k j)) := by
  rw [← sumN6]
  have := sumN_tail (f := fun r => x.sh r j * (x.per j - x.upto r j)) x.bal.length (6 - x.bal.length) (fun k h1 h2 => by rw [hz k j (by omega) hj h1, Int.zero_mul])
  rw [show x.bal.length + (6 - x.bal.length) = 6 by omega] at this
  exact this.symm
theorem RB.fine {x : EC} (r : RB x) (c : ConsT x) : Fine x ∧ InvB x := by
  have b6 := r.b6
  have v5 := r.v5
  have hh := r.hgt
  refine ⟨⟨b6, v5, r.tl, r.fee.1, r.fee.2, r.top.1, r.top.2, r.mat.1, r.mat.2, hh.1, hh.2, hh.1, by omega, fun k hk => ?_, r.fees.1, r.pool.1, fun j hj => ?_, fun e he => ?_, c.t, fun k j hk hj => (r.sh k j hk hj).1, fun j hj => ?_, fun j hj => ?_, fun k j hk hj => ?_, fun j hj => ?_⟩, ⟨c.n, fun k j hk h6 h5 => r.shz k j h6 h5 hk⟩⟩
  · have e : x.balAt k = x.bal[k] := by simp [EC.balAt, hk]
    rw [e]; exact (r.bal _ (List.getElem_mem hk)).1
  · have hv := r.vb j hj
    have hc := c.v j hj
    have hs := r.shs j hj
    have hsn := sumN_bd (fun q => x.sh q j) 1000000 x.bal.length (fun q hq => r.sh q j (by omega) (by omega))
    have hko := hc.ko
    exact ⟨hv.t0, by rw [hs]; exact hsn.1, hc.s1, (r.rt j hj).1, (r.rt j hj).2, hv.k0, hko, fun ht => by
      have h1 : 0 ≤ (x.val j).shares := by rw [hs]; exact hsn.1
      by_cases h0 : (x.val j).shares = 0
      · have := (hc.z h0).1; omega
      · omega, fun h0 => by have := (hc.z h0).2; omega, hv.jl⟩
  · obtain ⟨w0, w1, v0, v1, m0, m1, a0, a1⟩ := r.eb e he
    exact ⟨⟨e.who.toNat, by omega, by omega⟩, m0, m1, a0⟩
  · rw [r.shs j hj, ← sumN6]
    have := sumN_tail (f := fun q => x.sh q j) x.bal.length (6 - x.bal.length) (fun k h1 h2 => r.shz k j (by omega) (by omega) h1)
    rw [show x.bal.length + (6 - x.bal.length) = 6 by omega] at this
    exact this
  · rw [r.per j hj]; exact ⟨Int.le_refl _, by have := hh.1; omega⟩
  · rw [r.per j hj]; exact r.upt k j hk hj
  · have := (c.v j hj).d
    rw [owed6 b6 r.shz (by omega)] at this
    rw [Int.mul_comm]; exact this
end Go.Proofs.YtohjjgefklhmaabGreatDoor

namespace Go.Proofs.YtohjjgefklhmaabGreatDoor
open Go.ChangeShapes Go.WideShapes Go.ChangeAt Go.RowKit
set_option linter.unusedVariables false

/-! ### what an engine wrote is let by -/
theorem gen_good {y : EC} (ok : Fine y) (hE : InvE y) : GoodGen y.bal (y.vals.map (fun v => v.owner)) (y.vals.map (fun v => v.rate)) y.top y.mature y.fee := by
  have okx : Ok y.height y := ok
  obtain ⟨p1, p2, p3, p4⟩ := okx.parts
  have ht := okx.tot
  have hf := okx.fees
  have hp := okx.pool
  unfold EC.tot at ht
  refine ⟨⟨hE.b1, okx.b6, fun j n hj hn => ?_, by rw [sumL_sumI]; omega⟩, ⟨by simpa using hE.v1, by simpa using okx.v5, by simp, fun j n hj hn => ?_, fun j n hj hn => ?_⟩, ⟨okx.top0, okx.top1, okx.mat0, okx.mat1, okx.fee0, okx.fee1⟩⟩
  · obtain ⟨h1, rfl⟩ := List.getElem?_eq_some_iff.1 hn
    have e : y.balAt j = y.bal[j] := by simp [EC.balAt, h1]
    have h2 := okx.bal j h1
    have h3 := okx.bds.1 j h1
    rw [e] at h2 h3
    exact ⟨h2, by omega⟩
  · obtain ⟨i, rfl, hi⟩ := hE.ow n (List.mem_of_getElem? hn)
    omega
  · have hm := List.mem_of_getElem? hn
    obtain ⟨v, hv, rfl⟩ := List.mem_map.1 hm
    obtain ⟨i, hi, rfl⟩ := val_mem hv
    exact ⟨(okx.val i hi).r0, (okx.val i hi).r1⟩
theorem delN_sim {x y : EC} (h : Sim y x) {k j : Nat} (hk : k < 6) (hj : j < 5) : delN x k j = delN y k j := by
  have e := h.sh hk hj
  obtain ⟨t, rfl, st⟩ := h
  have h2 := st.pd k j hk hj
  unfold delN
  rw [e]
  by_cases hs : 0 < y.sh k j
  · have h3 : EC.per { y with tab := t } j - EC.upto { y with tab := t } k j = y.per j - y.upto k j := h2 (by show y.sh k j ≠ 0; omega)
    rw [if_pos hs, if_pos hs, h3]
  · rw [if_neg hs, if_neg hs]
theorem nums_sim {x y : EC} (h : Sim y x) (b6 : y.bal.length ≤ 6) (v5 : y.vals.length ≤ 5) : nums x = nums y := by
  have hR : ∀ k j, k < 6 → j ≤ 5 → delR x k j = delR y k j := fun k j hk hj => by
    induction j with
    | zero => rfl
    | succ j ih => simp only [delR]; rw [ih (by omega), delN_sim h hk (by omega)]
  have hv := h.refl'.2.1
  have hA : ∀ k, k ≤ 6 → delA x k = delA y k := fun k hk => by
    induction k with
    | zero => rfl
    | succ k ih => simp only [delA]; rw [ih (by omega), hv, hR k _ (by omega) v5]
  obtain ⟨eb, ev, ee, eh, ef, ep, et, em, efe⟩ := h.refl'
  have hd := hA y.bal.length b6
  unfold nums genNs
  rw [eb, ev, ee, eh, ef, ep, et, em, efe, hd]
theorem sim_cons {x y : EC} (h : Sim y x) (ok : Fine y) (hB : InvB y) (hE : InvE y) : ConsT x ∧ EntQ x := by
  have okx : Ok y.height y := ok
  have b6 := okx.b6
  have v5 := okx.v5
  obtain ⟨eb, ev, ee, eh, ef, ep, et, em, efe⟩ := h.refl'
  have htot : x.tot = y.tot := by unfold EC.tot; rw [eb, ev, ee, ef, ep]
  refine ⟨⟨by rw [htot]; exact okx.tot, by rw [ev, et]; exact hB.ins, fun j hj => ?_⟩, ?_, ?_⟩
  · rw [ev] at hj
    have hv := okx.val j hj
    have hj5 : j < 5 := by omega
    have e1 := h.val j
    have e2 : owedN x j x.bal.length = owedN y j y.bal.length := by
      rw [eb]
      unfold owedN
      refine sumN_congr _ (fun k hk => ?_)
      have e3 := h.sh (k := k) (by omega) hj5
      obtain ⟨t, rfl, st⟩ := h
      have h2 := st.pd k j (by omega) hj5
      rw [e3]
      by_cases hs : y.sh k j = 0
      · rw [hs, Int.zero_mul, Int.zero_mul]
      · have h3 : EC.per { y with tab := t } j - EC.upto { y with tab := t } k j = y.per j - y.upto k j := h2 hs
        rw [h3]
    have e4 := owed6 (x := y) b6 (fun k j h1 h2 h3 => hB.sh k j h3 h1 h2) hj5
    refine ⟨by rw [e1]; exact hv.s1, by rw [e1]; exact hv.ko, fun h0 => ?_, ?_⟩
    · rw [e1] at h0 ⊢
      have := hv.oz h0
      refine ⟨?_, by omega⟩
      by_cases ht : 0 < (y.val j).tokens
      · have := hv.tk ht; omega
      · omega
    · rw [e2, e1, e4, Int.mul_comm]; exact okx.due j hj
  · rw [ev, eh, em, ee]; exact hE.en
  · rw [ee]; exact fun e he => (okx.ent e he).m0
/-- bytes that an engine wrote -/
def Wrote (S : List UInt8) : Prop := ∃ y, Fine y ∧ InvB y ∧ InvE y ∧ S = txt (nums y)
theorem wrote_rd {S : List UInt8} {y : EC} (ok : Fine y) (hB : InvB y) (hE : InvE y) (hS : S = txt (nums y)) : S.length ≤ 8192 ∧ GGen (rdG S ⟨0, false⟩).1 ∧ (rdX S).2.bad = false ∧ Sim y (rdX S).1 := by
  have okx : Ok y.height y := ok
  have yb := yb_of ok hB hE
  have h1 := rdX_good ok hB hE
  rw [← hS] at h1
  refine ⟨by rw [hS]; exact txt_len ok hB hE, ?_, h1.2, h1.1⟩
  have h0 : AtN S ⟨0, false⟩ (nums y) := ⟨rfl, by rw [hS]; rfl⟩
  unfold nums at h0
  simp only [List.append_assoc] at h0
  obtain ⟨g1, _⟩ := rdG_good h0 okx.b6 okx.v5 yb.bb yb.ob yb.rb ⟨by have := okx.top0; omega, okx.top1⟩ ⟨by have := okx.mat0; omega, okx.mat1⟩ ⟨okx.fee0, okx.fee1⟩
  rw [g1]
  exact gen_good ok hE
/-- what Import answers -/
def ImpPost (s : ByteArray) (w w' : World) (e : Ending) : Prop :=
  (e = .returned (.tuple #[.pointer none, .int .i64 15]) ∧ Below w.heap.size w w' ∧ ¬ Wrote s.data.toList) ∨
  (∃ g bv vv ev, e = .returned (.tuple #[.pointer (some ⟨g, 0, none⟩), .int .i64 0]) ∧ PE (fun k => w.heap.size ≤ k) w w' g (rdX s.data.toList).1 bv vv ev ∧ Fine (rdX s.data.toList).1 ∧ InvB (rdX s.data.toList).1 ∧ RB (rdX s.data.toList).1 ∧ s.data.toList = txt (nums (rdX s.data.toList).1))

set_option maxHeartbeats 4000000 in
set_option maxRecDepth 100000 in
theorem import_any (w : World) (s : ByteArray) (hs : s.size ≤ 9223372036854775807) (B : Nat) (hI : ItoaOk B w) (hB : B ≤ w.heap.size) :
    Calls Tryz.prog 10 #[.string s] w fun e w' => ImpPost s w w' e := by
  have hlen : s.data.toList.length = s.size := by rw [Array.length_toList]; rfl
  by_cases hbig : 8192 < s.size
  · have HF : Hid (¬ Wrote s.data.toList) := fun ⟨y, h1, h2, h3, h4⟩ => by have := (wrote_rd h1 h2 h3 h4).1; omega
    clear hI hlen
    go_enter Tryz.func10, Tryz.ntmps10
    go_wp2
    go_ret2
    exact .inl ⟨rfl, Below.refl _ _, HF.out⟩
  · have HR : Hid (Calls Tryz.prog 37 #[.string s] w fun e w' => RdPost s w w' e) := readX_any w s (by omega)
    have HI : Hid (ItoaOk B w) := hI
    clear hI hlen
    go_enter Tryz.func10, Tryz.ntmps10
    go_wp2_with fail
    refine HR.out.mono ?_
    rintro e w1 hpost
    rcases hpost with ⟨rfl, hb1, hno⟩ | ⟨g, bv, vv, ev, rfl, hP, hg, hbad⟩
    · have HF : Hid (¬ Wrote s.data.toList) := fun ⟨y, h1, h2, h3, h4⟩ => by
        have h5 := wrote_rd h1 h2 h3 h4
        rcases hno with h6 | h6
        · exact h6 h5.2.1
        · rw [h5.2.2.1] at h6; cases h6
      have HB1 : Hid (Below w.heap.size w w1) := hb1
      clear hb1 hno HR
      go_wp2
      go_ret2
      exact .inl ⟨rfl, HB1.out, HF.out⟩
    · have hrb := rb_of s.data.toList hg
      have hfr : Below w.heap.size w w1 := hP.fr.toBelow (Nat.le_refl _) (fun k hk h => by omega)
      have HC : Hid (Calls Tryz.prog 38 #[.pointer (some ⟨g, 0, none⟩)] w1 fun e w' => ConPost (rdX s.data.toList).1 e ∧ Below w1.heap.size w1 w') := consist_any g _ bv vv ev w1 hP hrb.wbd
      have HP : Hid (PE (fun k => w.heap.size ≤ k) w w1 g (rdX s.data.toList).1 bv vv ev) := hP
      have HRB : Hid (RB (rdX s.data.toList).1) := hrb
      have HFR : Hid (Below w.heap.size w w1) := hfr
      clear hrb hfr hP hg hbad HR
      go_wp2_with fail
      refine HC.out.mono ?_
      rintro e w2 ⟨⟨b, rfl, hb1, hb2⟩, hbw⟩
      cases b
      · have HF : Hid (¬ Wrote s.data.toList) := fun ⟨y, h1, h2, h3, h4⟩ => by
          have h5 := sim_cons (wrote_rd h1 h2 h3 h4).2.2.2 h1 h2 h3
          have := hb2 h5.1 h5.2
          cases this
        have HB2 : Hid (Below w.heap.size w w2) := HFR.out.trans (hbw.mono HFR.out.size)
        clear hb1 hb2 hbw HC
        go_wp2
        go_ret2
        exact .inl ⟨rfl, HB2.out, HF.out⟩
      · have hcons := hb1 rfl
        have hfi := HRB.out.fine hcons
        have hfr2 : Below w.heap.size w w2 := HFR.out.trans (hbw.mono HFR.out.size)
        have HX : Hid (Calls Tryz.prog 9 #[.pointer (some ⟨g, 0, none⟩)] w2 fun e w' => e = .returned (.string ⟨(txt (nums (rdX s.data.toList).1)).toArray⟩) ∧ Below w2.heap.size w2 w') := export_any g _ bv vv ev (HP.out.below hbw) B (HI.out.on (hfr2.mono hB)) (Nat.le_trans hB hfr2.size) HRB.out.wbd
        have HFI : Hid (Fine (rdX s.data.toList).1 ∧ InvB (rdX s.data.toList).1) := hfi
        have HP2 : Hid (PE (fun k => w.heap.size ≤ k) w w2 g (rdX s.data.toList).1 bv vv ev) := HP.out.below hbw
        have HFR2 : Hid (Below w.heap.size w w2) := hfr2
        have HW : Hid (∀ y, Fine y → InvB y → InvE y → s.data.toList = txt (nums y) → txt (nums (rdX s.data.toList).1) = s.data.toList) := fun y h1 h2 h3 h4 => by
          have okx : Ok y.height y := h1
          rw [nums_sim (wrote_rd h1 h2 h3 h4).2.2.2 okx.b6 okx.v5, ← h4]
        clear hb1 hb2 hbw hcons hfi hfr2 HC HP HFR HI
        go_wp2_with fail
        refine HX.out.mono ?_
        rintro e w3 ⟨rfl, hb3⟩
        have HP3 : Hid (PE (fun k => w.heap.size ≤ k) w w3 g (rdX s.data.toList).1 bv vv ev) := HP2.out.below hb3
        have HFR3 : Hid (Below w.heap.size w w3) := HFR2.out.trans (hb3.mono HFR2.out.size)
        clear hb3 HX HP2 HFR2
        by_cases heq : txt (nums (rdX s.data.toList).1) = s.data.toList
        · have hsn : (⟨(txt (nums (rdX s.data.toList).1)).toArray⟩ : ByteArray) = s := by
            rw [heq]
          rw [hsn]
          have HQ : Hid (s.data.toList = txt (nums (rdX s.data.toList).1)) := heq.symm
          clear heq hsn HW
          go_wp2
          go_ret2
          exact .inr ⟨g, bv, vv, ev, rfl, HP3.out, HFI.out.1, HFI.out.2, HRB.out, HQ.out⟩
        · have HF : Hid (¬ Wrote s.data.toList) := fun ⟨y, h1, h2, h3, h4⟩ => heq (HW.out y h1 h2 h3 h4)
          have hne : ((txt (nums (rdX s.data.toList).1)) == s.toList) = false := by rw [ByteArray.toList_eq]; simpa using heq
          have hne2 : ((⟨(txt (nums (rdX s.data.toList).1)).toArray⟩ : ByteArray).toList == s.toList) = false := by rw [ByteArray.toList_eq, ByteArray.toList_eq]; simpa using heq
          generalize txt (nums (rdX s.data.toList).1) = T at *
          go_wp2
          go_ret2
          exact .inl ⟨rfl, HFR3.out, HF.out⟩
end Go.Proofs.YtohjjgefklhmaabGreatDoor
