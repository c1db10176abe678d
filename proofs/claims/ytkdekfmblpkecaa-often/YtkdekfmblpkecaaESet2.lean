import Derived.Test.YtkdekfmblpkecaaESet
namespace Go.Proofs.Ytkdekfmblpkecaa
open Go.ChangeShapes Go.WideShapes Go.ChangeAt Go.RowKit
set_option linter.unusedVariables false

set_option maxHeartbeats 2000000 in
set_option maxRecDepth 100000 in
theorem echoose {S : Nat → Prop} {W0 : World} (g : Nat) (x : EC) (bv vv ev : Value) (w : World) (h : PE S W0 w g x bv vv ev) (l2 : x.vals.length ≤ 1000) (ht0 : 0 ≤ x.top) (ht1 : x.top ≤ 1000) :
    Calls Try.prog 43 #[.pointer (some ⟨g, 0, none⟩)] w fun e w' => e = .returned (.tuple #[]) ∧ PE S W0 w' g { x with vals := chooseF x.vals x.top } bv vv ev := by
  obtain ⟨va, vc, rfl⟩ := ownsRow_slice h.v
  have c7 : w.cell? ⟨g, 7, none⟩ = some (.slice va x.vals.length vc) := h.L.cell 7
  have HC : Hid (PE S W0 w g x bv (.slice va x.vals.length vc) ev) := h
  clear h
  go_enter Try.func43, Try.ntmps43
  go_wp2
  go_loopw [10] (fun i wr => ∃ k : Nat, k ≤ x.vals.length ∧ i = .int .i64 k ∧ PE S W0 wr g { x with vals := offL x.vals k } bv (.slice va x.vals.length vc) ev) (fun i _ => x.vals.length - (intOf i).toNat)
  case atStart => exact ⟨0, Nat.zero_le _, rfl, HC.out⟩
  case round =>
    clear HC
    obtain ⟨k, hk, rfl, hP⟩ := hrel
    have hln := offL_len x.vals k
    have c7' : wr.cell? ⟨g, 7, none⟩ = some (.slice va x.vals.length vc) := hP.L.cell 7
    by_cases hlt : k < x.vals.length
    · have hlt' : k < (offL x.vals k).length := by omega
      obtain ⟨gv, rfl, hcell, hfr⟩ := hP.val8 hln.symm hlt'
      have y7 := hcell 7 (by omega)
      simp only [VS.cells, List.getElem?_cons_succ, List.getElem?_cons_zero] at y7
      have f7 := hfr (k * 8 + 7)
      have HP1 : Hid (PE S W0 (wr.setCell ⟨gv, k * 8 + 7, none⟩ (.bool false)) g { x with vals := offL x.vals (k + 1) } bv (.slice (some ⟨gv, 0, none⟩) x.vals.length vc) ev) :=
        hP.setVal hln.symm (k * 8 + 7) (.bool false) (vrow_inset (offL x.vals k) k hlt' (fun _ => false)) (by simp only [offL_len])
      clear hP hcell hfr hln
      generalize (offL x.vals k)[k] = xx at *
      go_wp2
      refine And.intro ?_ ?_
      · first | exact ⟨k + 1, by omega, by go_num, HP1.out⟩ | ((repeat apply Exists.intro); exact ⟨⟨k + 1, by omega, by go_num, HP1.out⟩, rfl⟩)
      · simp [intOf]; omega
    · have ek : k = x.vals.length := by omega
      have HP0 : Hid (PE S W0 wr g { x with vals := offL x.vals x.vals.length } bv (.slice va x.vals.length vc) ev) := by rw [ek] at hP; exact hP
      have Hl : Hid ((offL x.vals x.vals.length).length = x.vals.length) := by rw [ek] at hln; exact hln
      clear hP hln c7' c7 ek
      go_wp2
      obtain ⟨wo, rfl⟩ : ∃ wo : World, wo = wr := ⟨_, rfl⟩
      go_loopw [3] (fun n wr => ∃ q : Nat, (q : Int) ≤ x.top ∧ n = .int .i64 q ∧ ∃ l, l.length = x.vals.length ∧ chooseL (x.top.toNat - q) l = chooseF x.vals x.top ∧ PE S W0 wr g { x with vals := l } bv (.slice va x.vals.length vc) ev) (fun n _ => x.top.toNat - (intOf n).toNat)
      case atStart => exact ⟨0, by omega, rfl, _, Hl.out, rfl, HP0.out⟩
      case round =>
        clear HP0 Hl
        obtain ⟨q, hq, rfl, l, hln, hch, hP⟩ := hrel
        have c0 : wr.cell? ⟨g, 0, none⟩ = some (.int .i64 x.top) := hP.L.cell 0
        have c7 : wr.cell? ⟨g, 7, none⟩ = some (.slice va x.vals.length vc) := hP.L.cell 7
        by_cases hqt : (q : Int) < x.top
        · have HB : Hid (Calls Try.prog 62 #[.pointer (some ⟨g, 0, none⟩)] wr fun e w' => e = .returned (.int .i64 (bestL l l.length).1) ∧ Below wr.heap.size wr w') := ebest g l _ wr c7 (Rd.of_owns hP.v) (by omega)
          have HP1 : Hid (PE S W0 wr g { x with vals := l } bv (.slice va x.vals.length vc) ev) := hP
          have HC : Hid (chooseF x.vals x.top = if (bestL l l.length).1 < 0 then l else chooseL (x.top.toNat - (q + 1)) (l.modify (bestL l l.length).1.toNat (fun v => { v with inset := true }))) := by
            rw [← hch, show x.top.toNat - q = (x.top.toNat - (q + 1)) + 1 by omega]; rfl
          have hr := bestL_range l l.length
          clear hP hch
          generalize (bestL l l.length).1 = r at *
          go_wp2_with fail
          refine HB.out.mono ?_
          rintro e w2 ⟨rfl, hb2⟩
          have hP2 := HP1.out.below hb2
          clear HB hb2 c0 c7 HP1
          rcases hr with rfl | ⟨hr0, hr1⟩
          · have HF : Hid (PE S W0 w2 g { x with vals := chooseF x.vals x.top } bv (.slice va x.vals.length vc) ev) := by rw [HC.out, if_pos (by decide)]; exact hP2
            clear hP2 hln HC
            go_wp2
            (try simp only [Exit.inBlock, Exit.then])
            refine bodyPost_ret (results_none rfl _ _ _) rfl ?_
            exact ⟨rfl, HF.out⟩
          · obtain ⟨r2, rfl⟩ := Int.eq_ofNat_of_zero_le hr0
            have hr2 : r2 < l.length := by omega
            have hr3 : r2 < x.vals.length := by omega
            have c7 : w2.cell? ⟨g, 7, none⟩ = some (.slice va x.vals.length vc) := hP2.L.cell 7
            obtain ⟨gv, rfl, hcell, hfr⟩ := hP2.val8 hln.symm hr2
            have y7 := hcell 7 (by omega)
            simp only [VS.cells, List.getElem?_cons_succ, List.getElem?_cons_zero] at y7
            have f7 := hfr (r2 * 8 + 7)
            have HP3 : Hid (PE S W0 (w2.setCell ⟨gv, r2 * 8 + 7, none⟩ (.bool true)) g { x with vals := l.modify r2 (fun v => { v with inset := true }) } bv (.slice (some ⟨gv, 0, none⟩) x.vals.length vc) ev) :=
              hP2.setVal hln.symm (r2 * 8 + 7) (.bool true) (vrow_inset l r2 hr2 (fun _ => true)) (by simp)
            have HC2 : Hid (chooseL (x.top.toNat - (q + 1)) (l.modify r2 (fun v => { v with inset := true })) = chooseF x.vals x.top) := by rw [HC.out, if_neg (by omega)]; rfl
            have hL2 : (l.modify r2 (fun v => { v with inset := true })).length = x.vals.length := by simpa using hln
            have HL2 : Hid ((l.modify r2 (fun v => { v with inset := true })).length = x.vals.length) := hL2
            clear hL2
            clear hP2 hcell hfr hln HC
            generalize l[r2] = xx at *
            clear hr2 hr1
            go_wp2
            refine And.intro ?_ ?_
            · first | exact ⟨q + 1, by omega, by go_num, _, HL2.out, HC2.out, HP3.out⟩ | ((repeat apply Exists.intro); exact ⟨⟨q + 1, by omega, by go_num, _, HL2.out, HC2.out, HP3.out⟩, rfl⟩)
            · simp [intOf]; omega
        · have HF : Hid (PE S W0 wr g { x with vals := chooseF x.vals x.top } bv (.slice va x.vals.length vc) ev) := by
            rw [show x.top.toNat - q = 0 by omega] at hch
            rw [← hch]; exact hP
          clear hP hch hln c7
          go_wp2
          go_end0
          exact ⟨rfl, HF.out⟩
end Go.Proofs.Ytkdekfmblpkecaa
