import Derived.Test.YtohjjgefklhmaabGreatDoorXExpM
namespace Go.Proofs.YtohjjgefklhmaabGreatDoor
open Go.ChangeShapes Go.WideShapes Go.ChangeAt Go.RowKit
set_option linter.unusedVariables false

theorem nx_p (s : List UInt8) (most : Int) (st : RS) (h : st.p ≤ s.length) : (nx s most st).2.p ≤ s.length := by
  have h1 := rdN_len most (s.drop st.p) 0
  rw [List.length_drop] at h1
  simp only [nx]
  split
  · rename_i he
    unfold endAt at he
    have : st.p + (rdN most (s.drop st.p) 0).2 < s.length := by
      by_cases hl : st.p + (rdN most (s.drop st.p) 0).2 < s.length
      · exact hl
      · rw [List.getElem?_eq_none (by omega)] at he; cases he
    omega
  · omega
/-- a reader, in its place -/
structure RDS (w : World) (gr : Nat) (s : ByteArray) (st : RS) : Prop where
  rd : RD w gr s st
  p : st.p ≤ s.size
  sz : s.size ≤ 8192
theorem RDS.kp {w w' : World} {gr : Nat} {s : ByteArray} {st : RS} {S : Nat → Prop} (h : RDS w gr s st) (k : Kp S w w') (hs : ¬ S gr) : RDS w' gr s st := ⟨Has.kp h.rd k hs, h.p, h.sz⟩
theorem RDS.below {w w' : World} {gr : Nat} {s : ByteArray} {st : RS} (h : RDS w gr s st) (hb : Below w.heap.size w w') : RDS w' gr s st := ⟨h.rd.below hb h.rd.lt, h.p, h.sz⟩
theorem RDS.alloc {w : World} {gr : Nat} {s : ByteArray} {st : RS} (h : RDS w gr s st) (o : Obj) : RDS (w.alloc o) gr s st := h.below ((Below.refl _ _).alloc (Nat.le_refl _) o)
theorem RDS.lt {w : World} {gr : Nat} {s : ByteArray} {st : RS} (h : RDS w gr s st) : gr < w.heap.size := Has.lt h.rd
theorem next_any (w : World) (gr : Nat) (s : ByteArray) (st : RS) (most : Int) (h : RDS w gr s st) (m0 : 0 ≤ most) (m1 : most ≤ 1073741824000000) :
    Calls Tryz.prog 76 #[.pointer (some ⟨gr, 0, none⟩), .int .i64 most] w fun e w' => e = .returned (.int .i64 (nx s.data.toList most st).1) ∧ RDS w' gr s (nx s.data.toList most st).2 ∧ Kp (fun b => b = gr) w w' := by
  refine (rnext w gr s st most h.rd h.sz h.p m0 m1).mono ?_
  rintro e w' ⟨rfl, h1, h2⟩
  have hl : s.data.toList.length = s.size := by rw [Array.length_toList]; rfl
  exact ⟨rfl, ⟨h1, by have := nx_p s.data.toList most st (by rw [hl]; exact h.p); omega, h.sz⟩, h2⟩

set_option maxHeartbeats 4000000 in
set_option maxRecDepth 100000 in
theorem nextL_any (w : World) (gr : Nat) (s : ByteArray) (st : RS) (longest most : Int) (h : RDS w gr s st) (l0 : 0 ≤ longest) (l1 : longest ≤ 1000) (m0 : 0 ≤ most) (m1 : most ≤ 1073741824000000) :
    Calls Tryz.prog 93 #[.pointer (some ⟨gr, 0, none⟩), .int .i64 longest, .int .i64 most] w fun e w' => ∃ lv, e = .returned lv ∧ w'.ownsRow w.heap.size 3 1 lv (nxL s.data.toList longest most st).1.length (ints (nxL s.data.toList longest most st).1) ∧ RDS w' gr s (nxL s.data.toList longest most st).2 ∧ Kp (fun b => b = gr) w w' := by
  have HN : Hid (∀ (w' : World) (st : RS) (m : Int), RDS w' gr s st → 0 ≤ m → m ≤ 1073741824000000 → Calls Tryz.prog 76 #[.pointer (some ⟨gr, 0, none⟩), .int .i64 m] w' fun e w'' => e = .returned (.int .i64 (nx s.data.toList m st).1) ∧ RDS w'' gr s (nx s.data.toList m st).2 ∧ Kp (fun b => b = gr) w' w'') := fun w' st m a b c => next_any w' gr s st m a b c
  obtain ⟨i5, hi5, hz50, hz51, hz52⟩ := info_parts info_int
  have hcb := nx_bd s.data.toList longest st l0
  have HR : Hid (RDS w gr s st) := h
  have hgr := h.lt
  obtain ⟨n, hn⟩ : ∃ n : Nat, (nx s.data.toList longest st).1 = (n : Int) := ⟨(nx s.data.toList longest st).1.toNat, by omega⟩
  have HX : Hid (nxL s.data.toList longest most st = rdL s.data.toList most n (nx s.data.toList longest st).2) := by
    show nxL s.data.toList longest most st = _
    unfold nxL; rw [hn, Int.toNat_natCast]
  have HNn : Hid ((nx s.data.toList longest st).1 = (n : Int)) := hn
  have hn1 : n ≤ 1000 := by omega
  clear h hn hcb
  go_enter Tryz.func93, Tryz.ntmps93
  go_wp2_with fail
  refine (HN.out w st longest HR.out l0 (by omega)).mono ?_
  rintro e w1 ⟨rfl, hr1, hk1⟩
  rw [HNn.out]
  have HR1 : Hid (RDS w1 gr s (nx s.data.toList longest st).2) := hr1
  have HK1 : Hid (Kp (fun b => b = gr) w w1) := hk1
  clear hr1 hk1 HR
  obtain ⟨st1, hst1⟩ : ∃ st1, st1 = (nx s.data.toList longest st).2 := ⟨_, rfl⟩
  rw [← hst1] at HR1 HX
  clear hst1
  go_wp2
  go_loopw [7, 9] (fun l i wr => ∃ k : Nat, k ≤ n ∧ i = .int .i64 k ∧ wr.ownsRow w.heap.size 3 1 l k (ints (rdL s.data.toList most k st1).1) ∧ RDS wr gr s (rdL s.data.toList most k st1).2 ∧ Kp (fun b => b = gr) w wr) (fun _ i _ => n - (intOf i).toNat)
  case atStart => exact ⟨0, Nat.zero_le _, rfl, World.ownsRow_nil _ _ _ _, HR1.out, HK1.out⟩
  case round =>
    obtain ⟨k, hk, rfl, hrow, hrd, hkp⟩ := hrel
    obtain ⟨la, lc, rfl⟩ := ownsRow_slice hrow
    by_cases hlt : k < n
    · have HROW : Hid (wr.ownsRow w.heap.size 3 1 (.slice la k lc) k (ints (rdL s.data.toList most k st1).1)) := hrow
      have HRD : Hid (RDS wr gr s (rdL s.data.toList most k st1).2) := hrd
      have HKP : Hid (Kp (fun b => b = gr) w wr) := hkp
      have HL : Hid (rdL s.data.toList most (k + 1) st1 = ((rdL s.data.toList most k st1).1 ++ [(nx s.data.toList most (rdL s.data.toList most k st1).2).1], (nx s.data.toList most (rdL s.data.toList most k st1).2).2)) := rfl
      generalize rdL s.data.toList most k st1 = q at *
      clear hrow hrd hkp HR1 HK1
      go_wp2_with fail
      refine (HN.out wr q.2 most HRD.out m0 m1).mono ?_
      rintro e w2 ⟨rfl, hr2, hk2⟩
      have HROW2 : Hid (w2.ownsRow w.heap.size 3 1 (.slice la k lc) k (ints q.1)) := ownsRow_kp HROW.out hk2 (fun b hb e => by have := (HROW.out.lt b hb).1; omega)
      have HR2 : Hid (RDS w2 gr s (nx s.data.toList most q.2).2) := hr2
      have HK2 : Hid (Kp (fun b => b = gr) w w2) := HKP.out.trans hk2
      have hsz : w.heap.size ≤ w2.heap.size := HK2.out.size
      clear hr2 hk2 HROW HRD HKP
      generalize (nx s.data.toList most q.2).1 = nv at *
      generalize (nx s.data.toList most q.2).2 = st2 at *
      go_wp2_with (at_builtin; go_loud (refine wpList_append_sl2 rfl (.tmp 22) (.tmp 24) 23 rfl 3 i5 _ 1 8 Tryz.underlying23 hi5 hz50 hz51 hz52 rfl (by decide) w.heap.size _ k (ints q.1) rfl (HROW2.out.alloc _) (by simp; omega) ⟨_, 0, none⟩ 1 1 [.int .i64 nv] rfl (by rfl) (cell_newAt _ [.int .i64 nv] _ _ (by simp)) (by simp [Value.oneCell']) (by decide) (by simp [maxLen]; omega) (by omega) ?_))
      intro g5 cap5 v5 hown5 hgrow5 hor5 hold5
      have hk5 : Kp (fun b => b = gr) w v5 := by
        have hk6 := HK2.out.alloc (.cells #[.int .i64 nv] 3)
        exact ⟨hgrow5.os.trans hk6.os, hgrow5.tape.trans hk6.tape, hgrow5.output.trans hk6.output, Nat.le_trans hk6.size hgrow5.size, fun b hb hs => (hgrow5.block b (Nat.lt_of_lt_of_le hb hk6.size) (fun e => by have := (HROW2.out.lt b e.symm).1; omega)).trans (hk6.block b hb hs)⟩
      have HK5 : Hid (Kp (fun b => b = gr) w v5) := hk5
      have HR5 : Hid (RDS v5 gr s st2) := ⟨grown_has hgrow5 ((HR2.out.alloc _).rd) (fun e => by have := (HROW2.out.lt gr e.symm).1; omega), HR2.out.p, HR2.out.sz⟩
      have HO5 : Hid (v5.ownsRow w.heap.size 3 1 (.slice (some ⟨g5, 0, none⟩) (k + 1) cap5) (k + 1) (ints (rdL s.data.toList most (k + 1) st1).1)) := by
        rw [HL.out]
        have e : ints (q.1 ++ [nv]) = ints q.1 ++ [.int .i64 nv] := by simp [ints]
        show World.ownsRow _ _ _ _ _ _ (ints (q.1 ++ [nv]))
        rw [e]; exact hown5
      have HR6 : Hid (RDS v5 gr s (rdL s.data.toList most (k + 1) st1).2) := by rw [HL.out]; exact HR5.out
      clear hk5 hown5 hgrow5 hor5 hold5 HR5 HR2 HROW2 HK2 HL
      go_wp2
      refine And.intro ?_ ?_
      · first | exact ⟨k + 1, by omega, by go_num, HO5.out, HR6.out, HK5.out⟩ | ((repeat apply Exists.intro); exact ⟨⟨k + 1, by omega, by go_num, HO5.out, HR6.out, HK5.out⟩, rfl⟩)
      · simp [intOf]; omega
    · have ek : k = n := by omega
      subst ek
      have HROW : Hid (wr.ownsRow w.heap.size 3 1 (.slice la k lc) (nxL s.data.toList longest most st).1.length (ints (nxL s.data.toList longest most st).1)) := by
        rw [HX.out, rdL_len]; exact hrow
      have HRD : Hid (RDS wr gr s (nxL s.data.toList longest most st).2) := by rw [HX.out]; exact hrd
      have HKP : Hid (Kp (fun b => b = gr) w wr) := hkp
      clear hrow hrd hkp HX
      go_wp2
      go_ret
      exact ⟨_, rfl, HROW.out, HRD.out, HKP.out⟩

theorem Kp.setNew {S : Nat → Prop} {a w : World} (h : Kp S a w) {p : Addr} (hp : a.heap.size ≤ p.block) (u : Value) : Kp S a (w.setCell p u) :=
  ⟨h.os, h.tape, h.output, by show a.heap.size ≤ (w.setCell p u).heap.size; simp [World.setCell]; exact h.size, fun k hk hs => (Below.heap_setCell _ _ _ _ (fun e => by omega)).trans (h.block k hk hs)⟩
/-- while a beginning is read: its block, and the reader -/
structure GS (w wk : World) (gr : Nat) (s : ByteArray) (st : RS) (L : List Value) : Prop where
  g : Has wk (w.heap.size + 1) 25 L
  z : Has wk w.heap.size 25 [.slice none 0 0, .slice none 0 0, .slice none 0 0, .int .i64 0, .int .i64 0, .int .i64 0]
  r : RDS wk gr s st
  k : Kp (fun b => b = gr) w wk
  l : gr < w.heap.size
theorem GS.put {w wk : World} {gr : Nat} {s : ByteArray} {st : RS} {L : List Value} (h : GS w wk gr s st L) (i : Nat) (v : Value) : GS w (wk.setCell ⟨w.heap.size + 1, i, none⟩ v) gr s st (L.set i v) :=
  ⟨h.g.set i v, h.z.other _ _ (by show w.heap.size ≠ w.heap.size + 1; omega), ⟨Has.other h.r.rd _ _ (by have := h.l; show gr ≠ w.heap.size + 1; omega), h.r.p, h.r.sz⟩, h.k.setNew (by show w.heap.size ≤ w.heap.size + 1; omega) _, h.l⟩
theorem GS.call {w wk w2 : World} {gr : Nat} {s : ByteArray} {st st' : RS} {L : List Value} (h : GS w wk gr s st L) (hr : RDS w2 gr s st') (hk : Kp (fun b => b = gr) wk w2) : GS w w2 gr s st' L := by
  have hl := h.l
  exact ⟨Has.kp h.g hk (by omega), Has.kp h.z hk (by omega), hr, h.k.trans (hk.mono (fun _ _ h => h)), h.l⟩
/-- a row that is one's own stays while a beginning is read -/
theorem GS.row {w wk w2 : World} {gr : Nat} {s : ByteArray} {st : RS} {L : List Value} {v : Value} {n : Nat} {xs : List Value} (h : GS w wk gr s st L) (ho : wk.ownsRow w.heap.size 3 1 v n xs) (i : Nat) (u : Value) (hk : Kp (fun b => b = gr) (wk.setCell ⟨w.heap.size + 1, i, none⟩ u) w2) : w2.ownsRow w.heap.size 3 1 v n xs := by
  have hl := h.l
  have h1 := ownsRow_setCell ho ⟨w.heap.size + 1, i, none⟩ u (fun e => Has.apart h.g ho (by decide) e.symm)
  exact ownsRow_kp h1 hk (fun b hb e => by have := (h1.lt b hb).1; omega)
/-- the world behind the last stores -/
def finW (w w7 : World) (f a0 a1 a2 a3 a4 a5 : Value) : World := ((((((w7.setCell ⟨w.heap.size + 1, 5, none⟩ f).setCell ⟨w.heap.size, 0, none⟩ a0).setCell ⟨w.heap.size, 1, none⟩ a1).setCell ⟨w.heap.size, 2, none⟩ a2).setCell ⟨w.heap.size, 3, none⟩ a3).setCell ⟨w.heap.size, 4, none⟩ a4).setCell ⟨w.heap.size, 5, none⟩ a5
theorem GS.fin {w w7 : World} {gr : Nat} {s : ByteArray} {st : RS} {L : List Value} (h : GS w w7 gr s st L) (f a0 a1 a2 a3 a4 a5 : Value) :
    Has (finW w w7 f a0 a1 a2 a3 a4 a5) w.heap.size 25 [a0, a1, a2, a3, a4, a5] ∧ RDS (finW w w7 f a0 a1 a2 a3 a4 a5) gr s st ∧ Kp (fun b => b = gr) w (finW w w7 f a0 a1 a2 a3 a4 a5) ∧ (∀ v n xs, w7.ownsRow w.heap.size 3 1 v n xs → (finW w w7 f a0 a1 a2 a3 a4 a5).ownsRow w.heap.size 3 1 v n xs) := by
  have hp := h.put 5 f
  have hl := h.l
  have hk : Kp (fun b => b = w.heap.size ∨ b = w.heap.size + 1) w7 (finW w w7 f a0 a1 a2 a3 a4 a5) := by
    unfold finW
    exact (((((((Kp.refl _ _).setCell (p := ⟨w.heap.size + 1, 5, none⟩) (.inr rfl) _).setCell (p := ⟨w.heap.size, 0, none⟩) (.inl rfl) _).setCell (p := ⟨w.heap.size, 1, none⟩) (.inl rfl) _).setCell (p := ⟨w.heap.size, 2, none⟩) (.inl rfl) _).setCell (p := ⟨w.heap.size, 3, none⟩) (.inl rfl) _).setCell (p := ⟨w.heap.size, 4, none⟩) (.inl rfl) _).setCell (p := ⟨w.heap.size, 5, none⟩) (.inl rfl) _
  refine ⟨?_, h.r.kp hk (by omega), ?_, fun v n xs ho => ownsRow_kp ho hk (fun b hb e => ?_)⟩
  · have := (((((hp.z.set 0 a0).set 1 a1).set 2 a2).set 3 a3).set 4 a4).set 5 a5
    exact this
  · unfold finW
    exact ((((((hp.k.setNew (p := ⟨w.heap.size, 0, none⟩) (Nat.le_refl _) _).setNew (p := ⟨w.heap.size, 1, none⟩) (Nat.le_refl _) _).setNew (p := ⟨w.heap.size, 2, none⟩) (Nat.le_refl _) _).setNew (p := ⟨w.heap.size, 3, none⟩) (Nat.le_refl _) _).setNew (p := ⟨w.heap.size, 4, none⟩) (Nat.le_refl _) _).setNew (p := ⟨w.heap.size, 5, none⟩) (Nat.le_refl _) _)
  · rcases e with e | e
    · exact Has.apart h.z ho (by decide) (by rw [← e, hb])
    · exact Has.apart h.g ho (by decide) (by rw [← e, hb])
/-- the beginning that is read, as it lies -/
structure GnV (w w' : World) (gn : Gn) (vb vo vr : Value) : Prop where
  b : w'.ownsRow w.heap.size 3 1 vb gn.bs.length (ints gn.bs)
  o : w'.ownsRow w.heap.size 3 1 vo gn.os.length (ints gn.os)
  r : w'.ownsRow w.heap.size 3 1 vr gn.rs.length (ints gn.rs)
set_option maxHeartbeats 4000000 in
set_option maxRecDepth 100000 in
theorem nextG_any (w : World) (gr : Nat) (s : ByteArray) (st : RS) (h : RDS w gr s st) :
    Calls Tryz.prog 75 #[.pointer (some ⟨gr, 0, none⟩)] w fun e w' => ∃ vb vo vr, e = .returned (genV vb vo vr (rdG s.data.toList st).1.top (rdG s.data.toList st).1.mat (rdG s.data.toList st).1.fee) ∧ GnV w w' (rdG s.data.toList st).1 vb vo vr ∧ RDS w' gr s (rdG s.data.toList st).2 ∧ Kp (fun b => b = gr) w w' := by
  have HN : Hid (∀ (w' : World) (st : RS) (m : Int), RDS w' gr s st → 0 ≤ m → m ≤ 1073741824000000 → Calls Tryz.prog 76 #[.pointer (some ⟨gr, 0, none⟩), .int .i64 m] w' fun e w'' => e = .returned (.int .i64 (nx s.data.toList m st).1) ∧ RDS w'' gr s (nx s.data.toList m st).2 ∧ Kp (fun b => b = gr) w' w'') := fun w' st m a b c => next_any w' gr s st m a b c
  have HL : Hid (∀ (w' : World) (st : RS) (l m : Int), RDS w' gr s st → 0 ≤ l → l ≤ 1000 → 0 ≤ m → m ≤ 1073741824000000 → Calls Tryz.prog 93 #[.pointer (some ⟨gr, 0, none⟩), .int .i64 l, .int .i64 m] w' fun e w'' => ∃ lv, e = .returned lv ∧ w''.ownsRow w'.heap.size 3 1 lv (nxL s.data.toList l m st).1.length (ints (nxL s.data.toList l m st).1) ∧ RDS w'' gr s (nxL s.data.toList l m st).2 ∧ Kp (fun b => b = gr) w' w'') := fun w' st l m a b c d e => nextL_any w' gr s st l m a b c d e
  have HR : Hid (RDS w gr s st) := h
  clear h
  go_enter Tryz.func75, Tryz.ntmps75
  go_wp2_with fail
  have h1 : GS w ((w.alloc (.cells #[.slice none 0 0, .slice none 0 0, .slice none 0 0, .int .i64 0, .int .i64 0, .int .i64 0] 25)).alloc (.cells #[.slice none 0 0, .slice none 0 0, .slice none 0 0, .int .i64 0, .int .i64 0, .int .i64 0] 25)) gr s st [.slice none 0 0, .slice none 0 0, .slice none 0 0, .int .i64 0, .int .i64 0, .int .i64 0] := by
    refine ⟨?_, (Has.new w _ [.slice none 0 0, .slice none 0 0, .slice none 0 0, .int .i64 0, .int .i64 0, .int .i64 0]).alloc _, (HR.out.alloc _).alloc _, ((Kp.refl _ _).alloc _).alloc _, HR.out.lt⟩
    have := Has.new (w.alloc (.cells #[.slice none 0 0, .slice none 0 0, .slice none 0 0, .int .i64 0, .int .i64 0, .int .i64 0] 25)) 25 [.slice none 0 0, .slice none 0 0, .slice none 0 0, .int .i64 0, .int .i64 0, .int .i64 0]
    simpa using this
  have H1 : Hid _ := h1
  clear h1
  refine (HL.out _ st 6 1000000 H1.out.r (by decide) (by decide) (by decide) (by decide)).mono ?_
  rintro e w2 ⟨vb, rfl, ho, hr, hk⟩
  have hs2 := H1.out.call hr hk
  have HB2 : Hid (w2.ownsRow w.heap.size 3 1 vb (nxL s.data.toList 6 1000000 st).1.length (ints (nxL s.data.toList 6 1000000 st).1)) := ownsRow_base ho (by simp; omega)
  have cb : w2.cell? ⟨w.heap.size + 1, 0, none⟩ = some (.slice none 0 0) := hs2.g.cell 0
  have fb := hs2.g.frozen 0
  have lb := hs2.g.lt
  obtain ⟨va, vc, rfl⟩ := ownsRow_slice HB2.out
  have H2 : Hid _ := hs2
  clear ho hr hk hs2 H1 HR
  go_wp2_with fail
  refine (HL.out _ (nxL s.data.toList 6 1000000 st).2 5 6 (H2.out.put 0 _).r (by decide) (by decide) (by decide) (by decide)).mono ?_
  rintro e w3 ⟨vo, rfl, ho, hr, hk⟩
  have hs3 := (H2.out.put 0 _).call hr hk
  have HB3 : Hid (w3.ownsRow w.heap.size 3 1 (.slice va (nxL s.data.toList 6 1000000 st).1.length vc) (nxL s.data.toList 6 1000000 st).1.length (ints (nxL s.data.toList 6 1000000 st).1)) := H2.out.row HB2.out 0 _ hk
  have HO3 : Hid (w3.ownsRow w.heap.size 3 1 vo (nxL s.data.toList 5 6 (nxL s.data.toList 6 1000000 st).2).1.length (ints (nxL s.data.toList 5 6 (nxL s.data.toList 6 1000000 st).2).1)) := ownsRow_base ho (by have := H2.out.k.size; simpa [World.setCell] using this)
  have cb3 : w3.cell? ⟨w.heap.size + 1, 1, none⟩ = some (.slice none 0 0) := hs3.g.cell 1
  have fb3 := hs3.g.frozen 1
  have lb3 := hs3.g.lt
  obtain ⟨oa, oc, rfl⟩ := ownsRow_slice HO3.out
  have H3 : Hid _ := hs3
  clear ho hr hk hs3 H2 HB2 cb fb lb
  go_wp2_with fail
  refine (HL.out _ (nxL s.data.toList 5 6 (nxL s.data.toList 6 1000000 st).2).2 5 100 (H3.out.put 1 _).r (by decide) (by decide) (by decide) (by decide)).mono ?_
  rintro e w4 ⟨vr, rfl, ho, hr, hk⟩
  have hs4 := (H3.out.put 1 _).call hr hk
  have HB4 : Hid (w4.ownsRow w.heap.size 3 1 (.slice va (nxL s.data.toList 6 1000000 st).1.length vc) (nxL s.data.toList 6 1000000 st).1.length (ints (nxL s.data.toList 6 1000000 st).1)) := H3.out.row HB3.out 1 _ hk
  have HO4 : Hid (w4.ownsRow w.heap.size 3 1 (.slice oa (nxL s.data.toList 5 6 (nxL s.data.toList 6 1000000 st).2).1.length oc) (nxL s.data.toList 5 6 (nxL s.data.toList 6 1000000 st).2).1.length (ints (nxL s.data.toList 5 6 (nxL s.data.toList 6 1000000 st).2).1)) := H3.out.row HO3.out 1 _ hk
  have HR4 : Hid (w4.ownsRow w.heap.size 3 1 vr (nxL s.data.toList 5 100 (nxL s.data.toList 5 6 (nxL s.data.toList 6 1000000 st).2).2).1.length (ints (nxL s.data.toList 5 100 (nxL s.data.toList 5 6 (nxL s.data.toList 6 1000000 st).2).2).1)) := ownsRow_base ho (by have := H3.out.k.size; simpa [World.setCell] using this)
  have cb4 : w4.cell? ⟨w.heap.size + 1, 2, none⟩ = some (.slice none 0 0) := hs4.g.cell 2
  have fb4 := hs4.g.frozen 2
  have lb4 := hs4.g.lt
  obtain ⟨ra, rc, rfl⟩ := ownsRow_slice HR4.out
  have H4 : Hid _ := hs4
  clear ho hr hk hs4 H3 HB3 HO3 cb3 fb3 lb3
  go_wp2_with fail
  refine (HN.out _ (nxL s.data.toList 5 100 (nxL s.data.toList 5 6 (nxL s.data.toList 6 1000000 st).2).2).2 5 (H4.out.put 2 _).r (by decide) (by decide)).mono ?_
  rintro e w5 ⟨rfl, hr, hk⟩
  have hs5 := (H4.out.put 2 _).call hr hk
  have HB5 : Hid (w5.ownsRow w.heap.size 3 1 (.slice va (nxL s.data.toList 6 1000000 st).1.length vc) (nxL s.data.toList 6 1000000 st).1.length (ints (nxL s.data.toList 6 1000000 st).1)) := H4.out.row HB4.out 2 _ hk
  have HO5 : Hid (w5.ownsRow w.heap.size 3 1 (.slice oa (nxL s.data.toList 5 6 (nxL s.data.toList 6 1000000 st).2).1.length oc) (nxL s.data.toList 5 6 (nxL s.data.toList 6 1000000 st).2).1.length (ints (nxL s.data.toList 5 6 (nxL s.data.toList 6 1000000 st).2).1)) := H4.out.row HO4.out 2 _ hk
  have HR5 : Hid (w5.ownsRow w.heap.size 3 1 (.slice ra (nxL s.data.toList 5 100 (nxL s.data.toList 5 6 (nxL s.data.toList 6 1000000 st).2).2).1.length rc) (nxL s.data.toList 5 100 (nxL s.data.toList 5 6 (nxL s.data.toList 6 1000000 st).2).2).1.length (ints (nxL s.data.toList 5 100 (nxL s.data.toList 5 6 (nxL s.data.toList 6 1000000 st).2).2).1)) := H4.out.row HR4.out 2 _ hk
  have cb5 : w5.cell? ⟨w.heap.size + 1, 3, none⟩ = some (.int .i64 0) := hs5.g.cell 3
  have fb5 := hs5.g.frozen 3
  have lb5 := hs5.g.lt
  have H5 : Hid _ := hs5
  clear hr hk hs5 H4 HB4 HO4 HR4 cb4 fb4 lb4
  go_wp2_with fail
  refine (HN.out _ (nx s.data.toList 5 (nxL s.data.toList 5 100 (nxL s.data.toList 5 6 (nxL s.data.toList 6 1000000 st).2).2).2).2 20 (H5.out.put 3 _).r (by decide) (by decide)).mono ?_
  rintro e w6 ⟨rfl, hr, hk⟩
  have hs6 := (H5.out.put 3 _).call hr hk
  have HB6 : Hid (w6.ownsRow w.heap.size 3 1 (.slice va (nxL s.data.toList 6 1000000 st).1.length vc) (nxL s.data.toList 6 1000000 st).1.length (ints (nxL s.data.toList 6 1000000 st).1)) := H5.out.row HB5.out 3 _ hk
  have HO6 : Hid (w6.ownsRow w.heap.size 3 1 (.slice oa (nxL s.data.toList 5 6 (nxL s.data.toList 6 1000000 st).2).1.length oc) (nxL s.data.toList 5 6 (nxL s.data.toList 6 1000000 st).2).1.length (ints (nxL s.data.toList 5 6 (nxL s.data.toList 6 1000000 st).2).1)) := H5.out.row HO5.out 3 _ hk
  have HR6 : Hid (w6.ownsRow w.heap.size 3 1 (.slice ra (nxL s.data.toList 5 100 (nxL s.data.toList 5 6 (nxL s.data.toList 6 1000000 st).2).2).1.length rc) (nxL s.data.toList 5 100 (nxL s.data.toList 5 6 (nxL s.data.toList 6 1000000 st).2).2).1.length (ints (nxL s.data.toList 5 100 (nxL s.data.toList 5 6 (nxL s.data.toList 6 1000000 st).2).2).1)) := H5.out.row HR5.out 3 _ hk
  have cb6 : w6.cell? ⟨w.heap.size + 1, 4, none⟩ = some (.int .i64 0) := hs6.g.cell 4
  have fb6 := hs6.g.frozen 4
  have lb6 := hs6.g.lt
  have H6 : Hid _ := hs6
  clear hr hk hs6 H5 HB5 HO5 HR5 cb5 fb5 lb5
  go_wp2_with fail
  refine (HN.out _ (nx s.data.toList 20 (nx s.data.toList 5 (nxL s.data.toList 5 100 (nxL s.data.toList 5 6 (nxL s.data.toList 6 1000000 st).2).2).2).2).2 100 (H6.out.put 4 _).r (by decide) (by decide)).mono ?_
  rintro e w7 ⟨rfl, hr, hk⟩
  have hs7 := (H6.out.put 4 _).call hr hk
  have HB7 : Hid (w7.ownsRow w.heap.size 3 1 (.slice va (nxL s.data.toList 6 1000000 st).1.length vc) (nxL s.data.toList 6 1000000 st).1.length (ints (nxL s.data.toList 6 1000000 st).1)) := H6.out.row HB6.out 4 _ hk
  have HO7 : Hid (w7.ownsRow w.heap.size 3 1 (.slice oa (nxL s.data.toList 5 6 (nxL s.data.toList 6 1000000 st).2).1.length oc) (nxL s.data.toList 5 6 (nxL s.data.toList 6 1000000 st).2).1.length (ints (nxL s.data.toList 5 6 (nxL s.data.toList 6 1000000 st).2).1)) := H6.out.row HO6.out 4 _ hk
  have HR7 : Hid (w7.ownsRow w.heap.size 3 1 (.slice ra (nxL s.data.toList 5 100 (nxL s.data.toList 5 6 (nxL s.data.toList 6 1000000 st).2).2).1.length rc) (nxL s.data.toList 5 100 (nxL s.data.toList 5 6 (nxL s.data.toList 6 1000000 st).2).2).1.length (ints (nxL s.data.toList 5 100 (nxL s.data.toList 5 6 (nxL s.data.toList 6 1000000 st).2).2).1)) := H6.out.row HR6.out 4 _ hk
  have cb0 : w7.cell? ⟨w.heap.size + 1, 0, none⟩ = some (.slice va (nxL s.data.toList 6 1000000 st).1.length vc) := hs7.g.cell 0
  have cb1 : w7.cell? ⟨w.heap.size + 1, 1, none⟩ = some (.slice oa (nxL s.data.toList 5 6 (nxL s.data.toList 6 1000000 st).2).1.length oc) := hs7.g.cell 1
  have cb2 : w7.cell? ⟨w.heap.size + 1, 2, none⟩ = some (.slice ra (nxL s.data.toList 5 100 (nxL s.data.toList 5 6 (nxL s.data.toList 6 1000000 st).2).2).1.length rc) := hs7.g.cell 2
  have cb3 : w7.cell? ⟨w.heap.size + 1, 3, none⟩ = some (.int .i64 (nx s.data.toList 5 (nxL s.data.toList 5 100 (nxL s.data.toList 5 6 (nxL s.data.toList 6 1000000 st).2).2).2).1) := hs7.g.cell 3
  have cb4 : w7.cell? ⟨w.heap.size + 1, 4, none⟩ = some (.int .i64 (nx s.data.toList 20 (nx s.data.toList 5 (nxL s.data.toList 5 100 (nxL s.data.toList 5 6 (nxL s.data.toList 6 1000000 st).2).2).2).2).1) := hs7.g.cell 4
  have cb5 : w7.cell? ⟨w.heap.size + 1, 5, none⟩ = some (.int .i64 0) := hs7.g.cell 5
  have fb5 := hs7.g.frozen 5
  have lb7 := hs7.g.lt
  have z0 : w7.cell? ⟨w.heap.size, 0, none⟩ = some (.slice none 0 0) := hs7.z.cell 0
  have z1 : w7.cell? ⟨w.heap.size, 1, none⟩ = some (.slice none 0 0) := hs7.z.cell 1
  have z2 : w7.cell? ⟨w.heap.size, 2, none⟩ = some (.slice none 0 0) := hs7.z.cell 2
  have z3 : w7.cell? ⟨w.heap.size, 3, none⟩ = some (.int .i64 0) := hs7.z.cell 3
  have z4 : w7.cell? ⟨w.heap.size, 4, none⟩ = some (.int .i64 0) := hs7.z.cell 4
  have z5 : w7.cell? ⟨w.heap.size, 5, none⟩ = some (.int .i64 0) := hs7.z.cell 5
  have y0 := hs7.z.frozen 0
  have y1 := hs7.z.frozen 1
  have y2 := hs7.z.frozen 2
  have y3 := hs7.z.frozen 3
  have y4 := hs7.z.frozen 4
  have y5 := hs7.z.frozen 5
  have H7 : Hid _ := hs7
  clear hr hk hs7 H6 HB6 HO6 HR6 cb6 fb6 lb6
  have n1 : w.heap.size ≠ w.heap.size + 1 := by omega
  have n2 : w.heap.size + 1 ≠ w.heap.size := by omega
  obtain ⟨q1, q2, q3, q4⟩ := H7.out.fin (.int .i64 (nx s.data.toList 100 (nx s.data.toList 20 (nx s.data.toList 5 (nxL s.data.toList 5 100 (nxL s.data.toList 5 6 (nxL s.data.toList 6 1000000 st).2).2).2).2).2).1) (.slice va (nxL s.data.toList 6 1000000 st).1.length vc) (.slice oa (nxL s.data.toList 5 6 (nxL s.data.toList 6 1000000 st).2).1.length oc) (.slice ra (nxL s.data.toList 5 100 (nxL s.data.toList 5 6 (nxL s.data.toList 6 1000000 st).2).2).1.length rc) (.int .i64 (nx s.data.toList 5 (nxL s.data.toList 5 100 (nxL s.data.toList 5 6 (nxL s.data.toList 6 1000000 st).2).2).2).1) (.int .i64 (nx s.data.toList 20 (nx s.data.toList 5 (nxL s.data.toList 5 100 (nxL s.data.toList 5 6 (nxL s.data.toList 6 1000000 st).2).2).2).2).1) (.int .i64 (nx s.data.toList 100 (nx s.data.toList 20 (nx s.data.toList 5 (nxL s.data.toList 5 100 (nxL s.data.toList 5 6 (nxL s.data.toList 6 1000000 st).2).2).2).2).2).1)
  have p0 := q1.cell 0
  have p1 := q1.cell 1
  have p2 := q1.cell 2
  have p3 := q1.cell 3
  have p4 := q1.cell 4
  have p5 := q1.cell 5
  simp only [List.getElem?_cons_zero, List.getElem?_cons_succ] at p0 p1 p2 p3 p4 p5
  have HQ : Hid (GnV w (finW w w7 (.int .i64 (nx s.data.toList 100 (nx s.data.toList 20 (nx s.data.toList 5 (nxL s.data.toList 5 100 (nxL s.data.toList 5 6 (nxL s.data.toList 6 1000000 st).2).2).2).2).2).1) (.slice va (nxL s.data.toList 6 1000000 st).1.length vc) (.slice oa (nxL s.data.toList 5 6 (nxL s.data.toList 6 1000000 st).2).1.length oc) (.slice ra (nxL s.data.toList 5 100 (nxL s.data.toList 5 6 (nxL s.data.toList 6 1000000 st).2).2).1.length rc) (.int .i64 (nx s.data.toList 5 (nxL s.data.toList 5 100 (nxL s.data.toList 5 6 (nxL s.data.toList 6 1000000 st).2).2).2).1) (.int .i64 (nx s.data.toList 20 (nx s.data.toList 5 (nxL s.data.toList 5 100 (nxL s.data.toList 5 6 (nxL s.data.toList 6 1000000 st).2).2).2).2).1) (.int .i64 (nx s.data.toList 100 (nx s.data.toList 20 (nx s.data.toList 5 (nxL s.data.toList 5 100 (nxL s.data.toList 5 6 (nxL s.data.toList 6 1000000 st).2).2).2).2).2).1)) (rdG s.data.toList st).1 (.slice va (nxL s.data.toList 6 1000000 st).1.length vc) (.slice oa (nxL s.data.toList 5 6 (nxL s.data.toList 6 1000000 st).2).1.length oc) (.slice ra (nxL s.data.toList 5 100 (nxL s.data.toList 5 6 (nxL s.data.toList 6 1000000 st).2).2).1.length rc)) := ⟨q4 _ _ _ HB7.out, q4 _ _ _ HO7.out, q4 _ _ _ HR7.out⟩
  have HQ2 : Hid (RDS (finW w w7 (.int .i64 (nx s.data.toList 100 (nx s.data.toList 20 (nx s.data.toList 5 (nxL s.data.toList 5 100 (nxL s.data.toList 5 6 (nxL s.data.toList 6 1000000 st).2).2).2).2).2).1) (.slice va (nxL s.data.toList 6 1000000 st).1.length vc) (.slice oa (nxL s.data.toList 5 6 (nxL s.data.toList 6 1000000 st).2).1.length oc) (.slice ra (nxL s.data.toList 5 100 (nxL s.data.toList 5 6 (nxL s.data.toList 6 1000000 st).2).2).1.length rc) (.int .i64 (nx s.data.toList 5 (nxL s.data.toList 5 100 (nxL s.data.toList 5 6 (nxL s.data.toList 6 1000000 st).2).2).2).1) (.int .i64 (nx s.data.toList 20 (nx s.data.toList 5 (nxL s.data.toList 5 100 (nxL s.data.toList 5 6 (nxL s.data.toList 6 1000000 st).2).2).2).2).1) (.int .i64 (nx s.data.toList 100 (nx s.data.toList 20 (nx s.data.toList 5 (nxL s.data.toList 5 100 (nxL s.data.toList 5 6 (nxL s.data.toList 6 1000000 st).2).2).2).2).2).1)) gr s (rdG s.data.toList st).2) := q2
  have HQ3 : Hid (Kp (fun b => b = gr) w (finW w w7 (.int .i64 (nx s.data.toList 100 (nx s.data.toList 20 (nx s.data.toList 5 (nxL s.data.toList 5 100 (nxL s.data.toList 5 6 (nxL s.data.toList 6 1000000 st).2).2).2).2).2).1) (.slice va (nxL s.data.toList 6 1000000 st).1.length vc) (.slice oa (nxL s.data.toList 5 6 (nxL s.data.toList 6 1000000 st).2).1.length oc) (.slice ra (nxL s.data.toList 5 100 (nxL s.data.toList 5 6 (nxL s.data.toList 6 1000000 st).2).2).1.length rc) (.int .i64 (nx s.data.toList 5 (nxL s.data.toList 5 100 (nxL s.data.toList 5 6 (nxL s.data.toList 6 1000000 st).2).2).2).1) (.int .i64 (nx s.data.toList 20 (nx s.data.toList 5 (nxL s.data.toList 5 100 (nxL s.data.toList 5 6 (nxL s.data.toList 6 1000000 st).2).2).2).2).1) (.int .i64 (nx s.data.toList 100 (nx s.data.toList 20 (nx s.data.toList 5 (nxL s.data.toList 5 100 (nxL s.data.toList 5 6 (nxL s.data.toList 6 1000000 st).2).2).2).2).2).1))) := q3
  have HP0 : Hid _ := p0
  have HP1 : Hid _ := p1
  have HP2 : Hid _ := p2
  have HP3 : Hid _ := p3
  have HP4 : Hid _ := p4
  have HP5 : Hid _ := p5
  clear q1 q2 q3 q4 p0 p1 p2 p3 p4 p5 HB7 HO7 HR7 H7
  go_wp2
  have p0 := HP0.out
  have p1 := HP1.out
  have p2 := HP2.out
  have p3 := HP3.out
  have p4 := HP4.out
  have p5 := HP5.out
  refine bodyPost_ret (v := .agg #[.slice va (nxL s.data.toList 6 1000000 st).1.length vc, .slice oa (nxL s.data.toList 5 6 (nxL s.data.toList 6 1000000 st).2).1.length oc, .slice ra (nxL s.data.toList 5 100 (nxL s.data.toList 5 6 (nxL s.data.toList 6 1000000 st).2).2).1.length rc, .int .i64 (nx s.data.toList 5 (nxL s.data.toList 5 100 (nxL s.data.toList 5 6 (nxL s.data.toList 6 1000000 st).2).2).2).1, .int .i64 (nx s.data.toList 20 (nx s.data.toList 5 (nxL s.data.toList 5 100 (nxL s.data.toList 5 6 (nxL s.data.toList 6 1000000 st).2).2).2).2).1, .int .i64 (nx s.data.toList 100 (nx s.data.toList 20 (nx s.data.toList 5 (nxL s.data.toList 5 100 (nxL s.data.toList 5 6 (nxL s.data.toList 6 1000000 st).2).2).2).2).2).1]) (by unfold finW at p0 p1 p2 p3 p4 p5; simp [results, Tryz.results75, go_sem, p0, p1, p2, p3, p4, p5]) rfl ?_
  exact ⟨_, _, _, rfl, HQ.out, HQ2.out, HQ3.out⟩
end Go.Proofs.YtohjjgefklhmaabGreatDoor
