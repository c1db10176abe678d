import Derived.Test.YtohjjgefklhmaabGreatDoorGBeg0M
namespace Go.Proofs.YtohjjgefklhmaabGreatDoor
open Go.ChangeShapes Go.WideShapes Go.ChangeAt Go.RowKit
set_option linter.unusedVariables false

theorem bl_sum (l : List VS) (a b : Int) : l.foldl (fun n v => if v.inset = true then n + v.tokens else n) a + l.foldl (fun n v => if v.inset = true then n else n + v.tokens) b = a + b + sumV (·.tokens) l := by
  induction l generalizing a b with
  | nil => simp [sumV, sumI]
  | cons v l ih =>
    simp only [List.foldl_cons]
    cases hv : v.inset with
    | true =>
      rw [if_pos rfl, if_pos rfl, ih]
      simp only [sumV, List.map_cons, sumI]; omega
    | false =>
      rw [if_neg (by decide), if_neg (by decide), ih]
      simp only [sumV, List.map_cons, sumI]; omega
theorem sumE_eq (l : List ES) (a : Int) : l.foldl (fun n v => n + v.amount) a = a + sumI (l.map (·.amount)) := by
  induction l generalizing a with
  | nil => simp [sumI]
  | cons v l ih => simp only [List.foldl_cons, ih, List.map_cons, sumI]; omega
theorem tot_eq (x : EC) : x.tot = x.fees + x.pool + bondedN x.vals + (looseV x.vals + sumE x.ents) + sumI x.bal + sumV (·.outs) x.vals := by
  have h1 := bl_sum x.vals 0 0
  have h2 := sumE_eq x.ents 0
  unfold EC.tot bondedN looseV sumE
  omega
theorem sumI_take (l : List Int) (k : Nat) (h : k < l.length) : sumI (l.take (k + 1)) = sumI (l.take k) + l.getD k 0 := by
  rw [List.take_succ_eq_append_getElem h, sumI_append]; simp [sumI, h]
theorem sumV_take (f : VS → Int) (l : List VS) (k : Nat) (h : k < l.length) : sumV f (l.take (k + 1)) = sumV f (l.take k) + f l[k] := by
  unfold sumV
  rw [List.take_succ_eq_append_getElem h, List.map_append, sumI_append]; simp [sumI]
theorem sumI_tk {l : List Int} (hn : ∀ k, k < l.length → 0 ≤ l.getD k 0) (k : Nat) (hk : k ≤ l.length) : 0 ≤ sumI (l.take k) ∧ sumI (l.take k) ≤ sumI l := by
  have key : ∀ m (l : List Int), (∀ k, k < l.length → 0 ≤ l.getD k 0) → 0 ≤ sumI (l.take m) ∧ sumI (l.take m) ≤ sumI l := by
    intro m
    induction m with
    | zero => intro l hn; exact ⟨by simp [sumI], by simp [sumI]; exact sumI_nn l hn⟩
    | succ m ih =>
      intro l hn
      cases l with
      | nil => simp [sumI]
      | cons a l =>
        have h0 := hn 0 (by simp)
        simp only [List.getD_cons_zero] at h0
        have := ih l (fun k hk => by have := hn (k + 1) (by simpa using hk); simpa using this)
        simp only [List.take_succ_cons, sumI]; omega
  exact key k l hn
theorem sumV_tk {f : VS → Int} {l : List VS} (hn : ∀ k (h : k < l.length), 0 ≤ f l[k]) (k : Nat) (hk : k ≤ l.length) : 0 ≤ sumV f (l.take k) ∧ sumV f (l.take k) ≤ sumV f l := by
  have := sumI_tk (l := l.map f) (fun i hi => by
    have hi' : i < l.length := by simpa using hi
    have : (l.map f).getD i 0 = f l[i] := by simp [hi']
    rw [this]; exact hn i hi') k (by simpa using hk)
  unfold sumV
  rw [List.map_take]
  exact this

set_option maxHeartbeats 2000000 in
set_option maxRecDepth 100000 in
theorem all_any (x : EC) (bv vv dv ev : Value) (w : World) (hb : IntSl w bv x.bal) (hv : Rd w vv x.vals.length 8 (vrow x.vals)) (hd : ∃ a n c, dv = .slice a n c) (he : ∃ a n c, ev = .slice a n c) (ok : Fine x) :
    Calls Tryz.prog 44 #[.agg #[.int .i64 x.height, bv, .int .i64 x.fees, .int .i64 x.pool, .int .i64 (bondedN x.vals), .int .i64 (looseV x.vals + sumE x.ents), vv, dv, ev]] w fun e w' => e = .returned (.int .i64 x.tot) ∧ Below w.heap.size w w' := by
  have okx : Ok x.height x := ok
  obtain ⟨p1, p2, p3, p4⟩ := okx.parts
  obtain ⟨da, dn, dc, rfl⟩ := hd
  obtain ⟨ea, en, ec, rfl⟩ := he
  obtain ⟨va, vc, rfl⟩ := hv.form
  obtain ⟨ba, bc, rfl, _⟩ := id hb
  have ht := okx.tot
  have hf := okx.fees
  have hp := okx.pool
  have b6 := okx.b6
  have v5 := okx.v5
  have htq := tot_eq x
  have hB := bondedN_bd okx.feeOk.vb x.vals.length (Nat.le_refl _)
  rw [List.take_length] at hB
  have hLo := looseV_bd okx.feeOk.vb x.vals.length (Nat.le_refl _)
  rw [List.take_length] at hLo
  have hE : 0 ≤ sumE x.ents := by have := sumE_eq x.ents 0; unfold sumE; omega
  have HI : Hid (∀ k, k ≤ x.bal.length → 0 ≤ sumI (x.bal.take k) ∧ sumI (x.bal.take k) ≤ sumI x.bal) := fun k hk => sumI_tk okx.bal k hk
  have HV : Hid (∀ k, k ≤ x.vals.length → 0 ≤ sumV (·.outs) (x.vals.take k) ∧ sumV (·.outs) (x.vals.take k) ≤ sumV (·.outs) x.vals) := fun k hk => sumV_tk (fun k hk => by rw [x.val_eq hk]; exact Int.le_trans (okx.val k hk).k0 (okx.val k hk).ko) k hk
  have HTot : Hid (x.tot = x.fees + x.pool + bondedN x.vals + (looseV x.vals + sumE x.ents) + sumI x.bal + sumV (·.outs) x.vals) := htq
  have hA : ∀ o, Below w.heap.size w (w.alloc o) := fun o => (Below.refl _ _).alloc (Nat.le_refl _) _
  have hX : Has (w.alloc (.cells #[.int .i64 x.height, .slice ba x.bal.length bc, .int .i64 x.fees, .int .i64 x.pool, .int .i64 (bondedN x.vals), .int .i64 (looseV x.vals + sumE x.ents), .slice va x.vals.length vc, .slice da dn dc, .slice ea en ec] 41)) w.heap.size 41 [.int .i64 x.height, .slice ba x.bal.length bc, .int .i64 x.fees, .int .i64 x.pool, .int .i64 (bondedN x.vals), .int .i64 (looseV x.vals + sumE x.ents), .slice va x.vals.length vc, .slice da dn dc, .slice ea en ec] := Has.newA w _ _
  have hb1 := hb.below (hA (.cells #[.int .i64 x.height, .slice ba x.bal.length bc, .int .i64 x.fees, .int .i64 x.pool, .int .i64 (bondedN x.vals), .int .i64 (looseV x.vals + sumE x.ents), .slice va x.vals.length vc, .slice da dn dc, .slice ea en ec] 41)) (Nat.le_refl _)
  have hv1 := hv.below (hA (.cells #[.int .i64 x.height, .slice ba x.bal.length bc, .int .i64 x.fees, .int .i64 x.pool, .int .i64 (bondedN x.vals), .int .i64 (looseV x.vals + sumE x.ents), .slice va x.vals.length vc, .slice da dn dc, .slice ea en ec] 41)) (Nat.le_refl _)
  have hwA := hA (.cells #[.int .i64 x.height, .slice ba x.bal.length bc, .int .i64 x.fees, .int .i64 x.pool, .int .i64 (bondedN x.vals), .int .i64 (looseV x.vals + sumE x.ents), .slice va x.vals.length vc, .slice da dn dc, .slice ea en ec] 41)
  generalize hB0 : bondedN x.vals = B at *
  generalize hL0 : looseV x.vals + sumE x.ents = L at *
  have hL1 : 0 ≤ L := by omega
  have htl : x.fees + x.pool + B + L + sumI x.bal + sumV (·.outs) x.vals ≤ 1000000 := by omega
  clear okx ok hB0 hL0 hLo hE htq ht
  go_enter Tryz.func44, Tryz.ntmps44
  go_wp2
  generalize w.alloc (.cells #[.int .i64 x.height, .slice ba x.bal.length bc, .int .i64 x.fees, .int .i64 x.pool, .int .i64 B, .int .i64 L, .slice va x.vals.length vc, .slice da dn dc, .slice ea en ec] 41) = wA at hX hb1 hv1 hwA ⊢
  clear hb hv hA
  have HX : Hid (∀ wr, Below wA.heap.size wA wr → Has wr w.heap.size 41 [.int .i64 x.height, .slice ba x.bal.length bc, .int .i64 x.fees, .int .i64 x.pool, .int .i64 B, .int .i64 L, .slice va x.vals.length vc, .slice da dn dc, .slice ea en ec]) := fun wr hb => hX.below hb hX.lt
  go_loopw [3, 4] (fun n i wr => ∃ k : Nat, k ≤ x.bal.length ∧ i = .int .i64 k ∧ n = .int .i64 (x.fees + x.pool + B + L + sumI (x.bal.take k)) ∧ Below wA.heap.size wA wr) (fun _ i _ => x.bal.length - (intOf i).toNat)
  case atStart => exact ⟨0, Nat.zero_le _, rfl, by simp [sumI], Below.refl _ _⟩
  case round =>
    obtain ⟨k, hk, rfl, rfl, hbw⟩ := hrel
    obtain ⟨q1, q2⟩ := HI.out k hk
    have c1 : wr.cell? ⟨w.heap.size, 1, none⟩ = some (.slice ba x.bal.length bc) := (HX.out wr hbw).cell 1
    have c6 : wr.cell? ⟨w.heap.size, 6, none⟩ = some (.slice va x.vals.length vc) := (HX.out wr hbw).cell 6
    have HBw : Hid (Below wA.heap.size wA wr) := hbw
    by_cases hlt : k < x.bal.length
    · obtain ⟨a', c', he', hcell⟩ := (hb1.below hbw (Nat.le_refl _))
      simp only [Value.slice.injEq] at he'
      obtain ⟨rfl, _, rfl⟩ := he'
      obtain ⟨gb, rfl, hc⟩ := hcell (by omega)
      have y : wr.cell? ⟨gb, k, none⟩ = some (.int .i64 (x.bal.getD k 0)) := hc k _ (by simp [List.getD, hlt])
      have HS : Hid (sumI (x.bal.take (k + 1)) = sumI (x.bal.take k) + x.bal.getD k 0) := sumI_take x.bal k hlt
      obtain ⟨q3, q4⟩ := HI.out (k + 1) (by omega)
      rw [sumI_take x.bal k hlt] at q3 q4
      clear hcell hc hbw hb1 hv1 hX
      generalize x.bal.getD k 0 = z at *
      go_wp2
      refine And.intro ?_ ?_
      · first | exact ⟨k + 1, by omega, by go_num, by rw [HS.out]; go_num, HBw.out⟩ | ((repeat apply Exists.intro); exact ⟨⟨k + 1, by omega, by go_num, by rw [HS.out]; go_num, HBw.out⟩, rfl⟩)
      · simp [intOf]; omega
    · have HSb : Hid (sumI (x.bal.take k) = sumI x.bal) := by
        have h1 : sumI (x.bal.take k) = sumI x.bal := by rw [List.take_of_length_le (by omega)]
        exact h1
      generalize sumI (x.bal.take k) = sb at *
      clear hbw hX
      go_wp2
      obtain ⟨wo, rfl⟩ : ∃ wo : World, wo = wr := ⟨_, rfl⟩
      go_loopw [3, 5] (fun n i wr => ∃ k2 : Nat, k2 ≤ x.vals.length ∧ i = .int .i64 k2 ∧ n = .int .i64 (x.fees + x.pool + B + L + sb + sumV (·.outs) (x.vals.take k2)) ∧ Below wA.heap.size wA wr) (fun _ i _ => x.vals.length - (intOf i).toNat)
      case atStart => exact ⟨0, Nat.zero_le _, rfl, by simp [sumV, sumI], HBw.out⟩
      case round =>
        clear HBw c1 c6
        obtain ⟨k2, hk2, rfl, rfl, hbw⟩ := hrel
        obtain ⟨s1, s2⟩ := HV.out k2 hk2
        have c6 : wr.cell? ⟨w.heap.size, 6, none⟩ = some (.slice va x.vals.length vc) := (HX.out wr hbw).cell 6
        have HBw : Hid (Below wA.heap.size wA wr) := hbw
        by_cases hlt2 : k2 < x.vals.length
        · obtain ⟨gv, rfl, hc⟩ := (hv1.below hbw (Nat.le_refl _)).get (by omega)
          have y5 := hc _ _ (vrow_at x.vals k2 hlt2 5 (by omega))
          have HS : Hid (sumV (·.outs) (x.vals.take (k2 + 1)) = sumV (·.outs) (x.vals.take k2) + x.vals[k2].outs) := sumV_take _ x.vals k2 hlt2
          obtain ⟨s3, s4⟩ := HV.out (k2 + 1) (by omega)
          rw [sumV_take _ x.vals k2 hlt2] at s3 s4
          clear hc hbw hb1 hv1
          generalize x.vals[k2].outs = z at *
          go_wp2
          refine And.intro ?_ ?_
          · first | exact ⟨k2 + 1, by omega, by go_num, by rw [HS.out]; go_num, HBw.out⟩ | ((repeat apply Exists.intro); exact ⟨⟨k2 + 1, by omega, by go_num, by rw [HS.out]; go_num, HBw.out⟩, rfl⟩)
          · simp [intOf]; omega
        · have HSv : Hid (x.fees + x.pool + B + L + sb + sumV (·.outs) (x.vals.take k2) = x.tot) := by
            have h1 : x.fees + x.pool + B + L + sb + sumV (·.outs) (x.vals.take k2) = x.tot := by rw [List.take_of_length_le (by omega), HTot.out, HSb.out]
            exact h1
          have HFin : Hid (Below w.heap.size w wr) := hwA.trans (hbw.mono hwA.size)
          clear hbw hb1 hv1 hwA
          go_wp2
          go_ret
          exact ⟨ret_int HSv.out, HFin.out⟩
end Go.Proofs.YtohjjgefklhmaabGreatDoor

namespace Go.Proofs.YtohjjgefklhmaabGreatDoor
open Go.ChangeShapes Go.WideShapes Go.ChangeAt Go.RowKit
set_option linter.unusedVariables false

/-- a new engine -/
def xN (bs os rs : List Int) (top mature fee : Int) : EC := { top := top, mature := mature, fee := fee, height := 0, fees := 0, pool := 0, bal := bs, tab := List.replicate 65 0, vals := vs0 os rs, ents := [] }
theorem sumL_sumI (l : List Int) : sumL l = sumI l := by
  have key : ∀ (l : List Int) (a : Int), l.foldl (· + ·) a = a + sumI l := by
    intro l
    induction l with
    | nil => intro a; simp [sumI]
    | cons b l ih => intro a; simp only [List.foldl_cons, ih, sumI]; omega
  unfold sumL; rw [key]; omega
theorem vs0_at (os rs : List Int) (j : Nat) (h : rs.length = os.length) (hj : j < os.length) : (vs0 os rs).getD j v0 = ⟨os.getD j 0, rs.getD j 0, 0, 0, 0, 0, false, false⟩ := by
  simp [vs0, List.getD, hj, h]
theorem vs0_sum (os rs : List Int) (f : VS → Int) (hf : ∀ o r, f ⟨o, r, 0, 0, 0, 0, false, false⟩ = 0) : sumV f (vs0 os rs) = 0 := by
  unfold sumV vs0
  induction os generalizing rs with
  | nil => simp [sumI]
  | cons o os ih =>
    cases rs with
    | nil => simp [sumI]
    | cons r rs => simp only [List.zipWith_cons_cons, List.map_cons, sumI, hf, ih rs]; rfl
theorem rep_getD (n i : Nat) : (List.replicate n (0 : Int)).getD i 0 = 0 := by
  simp only [List.getD, List.getElem?_replicate]
  split <;> rfl
theorem xN_fine {bs os rs : List Int} {top mature fee : Int} (h : GoodGen bs os rs top mature fee) : Fine (xN bs os rs top mature fee) ∧ (xN bs os rs top mature fee).tot = sumI bs ∧ (xN bs os rs top mature fee).vals.length = os.length := by
  obtain ⟨⟨g1, g2, g3, g4⟩, ⟨g5, g6, g7, g8, g9⟩, ⟨g10, g11, g12, g13, g14, g15⟩⟩ := h
  have hl : (vs0 os rs).length = os.length := vs0_length os rs g7
  have ht : (xN bs os rs top mature fee).tot = sumI bs := by
    show sumI bs + 0 + 0 + sumV (·.tokens) (vs0 os rs) + sumV (·.outs) (vs0 os rs) + sumI (List.map (·.amount) ([] : List ES)) = sumI bs
    rw [vs0_sum _ _ _ (fun _ _ => rfl), vs0_sum _ _ _ (fun _ _ => rfl)]
    simp [sumI]
  have hsh : ∀ k j, (xN bs os rs top mature fee).sh k j = 0 := fun k j => rep_getD 65 _
  have hpr : ∀ j, (xN bs os rs top mature fee).per j = 0 := fun j => rep_getD 65 _
  have hup : ∀ k j, (xN bs os rs top mature fee).upto k j = 0 := fun k j => rep_getD 65 _
  have hv : ∀ j, j < os.length → (xN bs os rs top mature fee).val j = ⟨os.getD j 0, rs.getD j 0, 0, 0, 0, 0, false, false⟩ := fun j hj => vs0_at os rs j g7 hj
  refine ⟨⟨g2, by show (vs0 os rs).length ≤ 5; omega, by simp [xN], g14, g15, g10, g11, g12, g13, Int.le_refl _, by show (0 : Int) ≤ 1000; omega, Int.le_refl _, by show (0 : Int) ≤ 1001; omega, fun k hk => ?_, Int.le_refl _, Int.le_refl _, fun j hj => ?_, fun e he => by simp [xN] at he, by rw [ht, ← sumL_sumI]; exact g4, fun k j _ _ => by rw [hsh]; exact Int.le_refl _, fun j hj => ?_, fun j _ => by rw [hpr]; exact ⟨Int.le_refl _, by show (0 : Int) ≤ 0 * _; simp⟩, fun k j _ _ => by rw [hup, hpr]; exact ⟨by decide, Int.le_refl _⟩, fun j hj => ?_⟩, ht, hl⟩
  · have hk' : k < bs.length := hk
    have := g3 k bs[k] hk' (List.getElem?_eq_getElem hk')
    have e : (xN bs os rs top mature fee).balAt k = bs[k] := by simp [xN, EC.balAt, hk']
    rw [e]; exact this.1
  · have hj' : j < os.length := by rw [← hl]; exact hj
    rw [hv j hj']
    have hr : j < rs.length := by omega
    have h9 := g9 j rs[j] hr (List.getElem?_eq_getElem hr)
    have e : rs.getD j 0 = rs[j] := by simp [hr]
    rw [e]
    exact ⟨Int.le_refl _, Int.le_refl _, by show (0 : Int) ≤ 1000000; decide, h9.1, h9.2, Int.le_refl _, Int.le_refl _, fun h => by simp at h, fun _ => rfl, fun _ => rfl⟩
  · have hj' : j < os.length := by rw [← hl]; exact hj
    rw [hv j hj']
    simp only [hsh]
    rfl
  · have hj' : j < os.length := by rw [← hl]; exact hj
    rw [hv j hj']
    simp only [hsh, Int.zero_mul]
    show (0 : Int) + 0 + 0 + 0 + 0 + 0 ≤ _
    decide
theorem begun_pe {w w' : World} {e : Ending} {bs os rs : List Int} {top mature fee : Int} (h : Begun w w' e bs os rs top mature fee) (hg : GoodGen bs os rs top mature fee) : ∃ g bv vv, e = .returned (.tuple #[.pointer (some ⟨g, 0, none⟩), .int .i64 0]) ∧ PE (fun k => w.heap.size ≤ k) w w' g (xN bs os rs top mature fee) bv vv (.slice none 0 0) := by
  obtain ⟨g, bv, vv, rfl, hge, hL, hb, hv, hb4⟩ := h
  have hl : (vs0 os rs).length = os.length := vs0_length os rs hg.2.1.2.2.1
  refine ⟨g, bv, vv, rfl, ⟨Kp.of_below hb4 _, fun k hk => hk, hge, hL, by simp [xN], ownsRow_base hb (Nat.zero_le _), ?_, World.ownsRow_nil _ _ _ _, fun k hk => (hb.lt k hk).1, fun k hk => (hv.lt k hk).1, fun k hk => by simp [Value.ownBlock] at hk⟩⟩
  show w'.ownsRow 0 76 8 vv (vs0 os rs).length (vrow (vs0 os rs))
  rw [hl]; exact ownsRow_base hv (Nat.zero_le _)

set_option maxHeartbeats 2000000 in
set_option maxRecDepth 100000 in
theorem total_any {S : Nat → Prop} {W0 : World} {g : Nat} {x : EC} {bv vv : Value} {w : World} (h : Eng S W0 w g x bv vv) (ok : Fine x) (hel : x.ents.length ≤ 1000) :
    Calls Tryz.prog 14 #[.pointer (some ⟨g, 0, none⟩)] w fun e w' => e = .returned (.int .i64 x.tot) ∧ Below w.heap.size w w' := by
  obtain ⟨ev, hP⟩ := h
  have okx : Ok x.height x := ok
  have hEB : EB x.ents := fun k hk => ⟨(okx.ent _ (List.getElem_mem hk)).a0, okx.bds.2.2.2.2 k hk⟩
  have HS : Hid (Calls Tryz.prog 11 #[.pointer (some ⟨g, 0, none⟩)] w fun e w' => SeeQ w w' e x) := kseeQ g x bv vv ev w hP okx.feeOk.vb hEB okx.b6 okx.v5 hel
  have HO : Hid (Fine x) := ok
  clear hP okx hEB ok
  go_enter Tryz.func14, Tryz.ntmps14
  go_wp2_with fail
  refine HS.out.mono ?_
  rintro e w1 ⟨sb, sv, sd, se, rfl, hsb, hsv, hse, ⟨da, dn, dc, rfl⟩, hb1⟩
  obtain ⟨ba, bc, rfl⟩ := ownsRow_slice hsb
  obtain ⟨va, vc, rfl⟩ := ownsRow_slice hsv
  obtain ⟨ea, ec, rfl⟩ := ownsRow_slice hse
  have hA : ∀ o, Below w1.heap.size w1 (w1.alloc o) := fun o => (Below.refl _ _).alloc (Nat.le_refl _) _
  have HA : Hid (∀ o, Calls Tryz.prog 44 #[.agg #[.int .i64 x.height, .slice ba x.bal.length bc, .int .i64 x.fees, .int .i64 x.pool, .int .i64 (bondedN x.vals), .int .i64 (looseV x.vals + sumE x.ents), .slice va x.vals.length vc, .slice da dn dc, .slice ea x.ents.length ec]] (w1.alloc o) fun e w' => e = .returned (.int .i64 x.tot) ∧ Below (w1.alloc o).heap.size (w1.alloc o) w') := fun o => all_any x _ _ _ _ _ ((Rd.of_owns hsb).ints.below (hA o) (Nat.le_refl _)) ((Rd.of_owns hsv).below (hA o) (Nat.le_refl _)) ⟨_, _, _, rfl⟩ ⟨_, _, _, rfl⟩ HO.out
  have HB : Hid (∀ o, Below w.heap.size w (w1.alloc o)) := fun o => hb1.alloc hb1.size o
  clear hsb hsv hse hb1 hA HS
  go_wp2_with fail
  refine (HA.out _).mono ?_
  rintro e w2 ⟨rfl, hb2⟩
  have HF : Hid (Below w.heap.size w w2) := (HB.out _).trans (hb2.mono (HB.out _).size)
  clear hb2 HA
  go_wp2
  go_ret
  exact ⟨rfl, HF.out⟩
end Go.Proofs.YtohjjgefklhmaabGreatDoor
