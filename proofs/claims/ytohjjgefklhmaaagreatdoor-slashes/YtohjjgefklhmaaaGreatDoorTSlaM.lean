import Derived.Test.YtohjjgefklhmaaaGreatDoorTOpsM
namespace Go.Proofs.YtohjjgefklhmaaaGreatDoor
open Go.ChangeShapes Go.WideShapes Go.ChangeAt Go.RowKit
set_option linter.unusedVariables false
set_option linter.unusedSimpArgs false

theorem LF.setEnt {F0 : Nat → Prop} {W0 w : World} {g : Nat} {c : LC} {bv vv dv : Value} {vals : List VS} {ds : List (DA × Value)} {ents : List ES} {ge n cap : Nat} {ents' : List ES} (h : LF F0 W0 w g c bv vv dv (.slice (some ⟨ge, 0, none⟩) n cap) vals ds ents) (hn : n = ents.length) (i : Nat) (u : Value) (he : (erow ents).set i u = erow ents') (hl : ents'.length = ents.length) : LF F0 W0 (w.setCell ⟨ge, i, none⟩ u) g c bv vv dv (.slice (some ⟨ge, 0, none⟩) n cap) vals ds ents' := by
  subst hn
  have hne : g ≠ ge := fun e => Has.apart h.C.L h.e (by decide) (by rw [e]; rfl)
  have hrow : (w.setCell ⟨ge, i, none⟩ u).ownsRow 0 131 4 (.slice (some ⟨ge, 0, none⟩) ents.length cap) ents.length (erow ents') := by
    have := (h.e.stored i u).1
    rwa [he] at this
  exact ⟨h.fr.setCell (p := ⟨ge, i, none⟩) (h.fe ge rfl) u, h.fg, h.fb, h.fv, h.fd, h.fe, h.fp, ⟨h.C.L.other _ _ hne, ownsRow_setCell h.C.b _ _ (row_ne h.C.b h.e (by decide))⟩, ownsRow_setCell h.v _ _ (row_ne h.v h.e (by decide)), ownsRow_setCell h.d _ _ (row_ne h.d h.e (by decide)), fun j hj => ownsRow_setCell (h.p j hj) _ _ (row_ne (h.p j hj) h.e (by decide)), by rw [hl]; exact hrow⟩
theorem LF.setPool {F0 : Nat → Prop} {W0 w : World} {g : Nat} {c : LC} {bv vv dv ev : Value} {vals : List VS} {ds : List (DA × Value)} {ents : List ES} (h : LF F0 W0 w g c bv vv dv ev vals ds ents) (x : Int) : LF F0 W0 (w.setCell ⟨g, 6, none⟩ (.int .i64 x)) g { c with pool := x } bv vv dv ev vals ds ents := h.setHead 6 _ (h.C.setPool x)

set_option maxHeartbeats 8000000 in
set_option maxRecDepth 100000 in
theorem lslash_ok {F0 : Nat → Prop} {W0 : World} (g : Nat) (x : EC) (bv vv dv ev : Value) (ds : List (DA × Value)) (w : World) (h : LF F0 W0 w g (lcOf x) bv vv dv ev x.vals ds x.ents) (okx : Ok x.height x) (hel : x.ents.length ≤ 100000) (j : Nat) (hgt p : Int) (hj : j < x.vals.length) (hg0 : 0 ≤ hgt) (hg1 : hgt ≤ x.height) (p0 : 1 ≤ p) (p1 : p ≤ 100) :
    Calls Tryz.prog 71 #[.pointer (some ⟨g, 0, none⟩), .int .i64 j, .int .i64 hgt, .int .i64 p] w fun e w' => e = .returned (.int .i64 0) ∧ LF F0 W0 w' g (lcOf (slashF x j hgt p)) bv vv dv ev (slashF x j hgt p).vals ds (slashF x j hgt p).ents := by
  have v5 := okx.v5
  obtain ⟨b1, b2, b3, b4, b5⟩ := okx.bds
  have t0 := (okx.val j hj).t0
  have t1 := (b4 j hj).1
  have q0 := okx.pool
  have q1 := b3
  have hsl := okx.slOk (hgt := hgt) hj p0 p1 hel
  have HV : Hid (Calls Tryz.prog 100 #[.pointer (some ⟨g, 0, none⟩), .int .i64 j] w fun e w' => e = .returned (.bool true) ∧ w = w') := by
    have := lval_any g vv x.vals j w (h.lvals (by omega))
    rwa [show inN (j : Int) 0 ((x.vals.length : Int) - 1) = true by rw [inN_inB0]; unfold inB; simp [hj]] at this
  obtain ⟨va, vc, rfl⟩ := ownsRow_slice h.v
  obtain ⟨gv, rfl, _⟩ := ownsRow_some h.v (by omega)
  obtain ⟨ea, ec, rfl⟩ := ownsRow_slice h.e
  have c3 : w.cell? ⟨g, 3, none⟩ = some (.int .i64 x.height) := h.C.L.cell 3
  have c6 : w.cell? ⟨g, 6, none⟩ = some (.int .i64 x.pool) := h.C.L.cell 6
  have f6 := h.C.L.frozen 6
  have c7 : w.cell? ⟨g, 7, none⟩ = some (.slice (some ⟨gv, 0, none⟩) x.vals.length vc) := h.C.L.cell 7
  have y2 : w.cell? ⟨gv, j * 8 + 2, none⟩ = some (.int .i64 (x.val j).tokens) := by
    have := (h.v.cellAt (j * 8 + 2) (by omega)).trans (vrow_at x.vals j hj 2 (by omega))
    rw [x.val_eq hj] at this
    simpa [VS.cells] using this
  have f2 := h.v.frozenAt (j * 8 + 2)
  have n3 : g ≠ gv := fun e => Has.apart h.C.L h.v (by decide) (by rw [e]; rfl)
  have n4 : gv ≠ g := fun e => n3 e.symm
  obtain ⟨l0, l1⟩ := lostF_bd t0 (show 0 ≤ p by omega) p1
  have m0 : 0 ≤ (x.val j).tokens * p := Int.mul_nonneg t0 (by omega)
  have m1 : (x.val j).tokens * p ≤ (x.val j).tokens * 100 := Int.mul_le_mul_of_nonneg_left p1 t0
  have m2 : (x.val j).tokens * p ≤ 100000000 := by omega
  have HP : Hid (∀ u : World, u.heap = ((w.setCell ⟨gv, j * 8 + 2, none⟩ (.int .i64 ((x.val j).tokens - lostF (x.val j).tokens p))).setCell ⟨g, 6, none⟩ (.int .i64 (x.pool + lostF (x.val j).tokens p))).heap → u.os = w.os → u.tape = w.tape → u.output = w.output → LF F0 W0 u g (lcOf (slTokF x j p)) bv (.slice (some ⟨gv, 0, none⟩) x.vals.length vc) dv (.slice ea x.ents.length ec) (slTokF x j p).vals ds x.ents) := by
    intro u e1 e2 e3 e4
    have hP1 := h.setVal rfl (j * 8 + 2) (.int .i64 ((x.val j).tokens - lostF (x.val j).tokens p)) (vals' := x.vals.modify j (fun v => { v with tokens := v.tokens - lostF (x.val j).tokens p })) (vrow_mod x.vals j hj 2 _ _ (by rw [x.val_eq hj]; rfl) (by omega)) (by simp)
    exact (hP1.setPool (x.pool + lostF (x.val j).tokens p)).eta e1 e2 e3 e4
  -- the rest, behind the tokens
  have HQ : Hid (slashF x j hgt p = jailF { slTokF x j p with pool := (slLoop (slTokF x j p) j hgt p x.ents.length).1, ents := (slLoop (slTokF x j p) j hgt p x.ents.length).2 } j) := rfl
  have hye : (slTokF x j p).ents = x.ents := rfl
  have hyv : (slTokF x j p).vals.length = x.vals.length := by simp [slTokF]
  have HK : Hid (SlOk (slTokF x j p) j hgt p) := hsl
  have HX : Hid (lcOf (slTokF x j p) = lcOf (slTokF x j p)) := rfl
  clear hsl h okx b1 b2 b3 b4 b5
  generalize hY : slTokF x j p = y at *
  clear hY
  go_enter Tryz.func71, Tryz.ntmps71
  go_wp2_with fail
  refine HV.out.mono ?_
  rintro e w' ⟨rfl, rfl⟩
  clear HV
  unfold lostF at *
  generalize (x.val j).tokens = tk at *
  generalize x.pool = po at *
  go_wp2_with fail
  go_region
  go_wp2
  have HP1 : Hid (LF F0 W0 ((w.setCell ⟨gv, j * 8 + 2, none⟩ (.int .i64 (tk - tk * p / 100))).setCell ⟨g, 6, none⟩ (.int .i64 (po + tk * p / 100))).drew g (lcOf y) bv (.slice (some ⟨gv, 0, none⟩) x.vals.length vc) dv (.slice ea x.ents.length ec) y.vals ds x.ents) := HP.out _ rfl rfl rfl rfl
  clear HP
  generalize ((w.setCell ⟨gv, j * 8 + 2, none⟩ (.int .i64 (tk - tk * p / 100))).setCell ⟨g, 6, none⟩ (.int .i64 (po + tk * p / 100))).drew = w1 at *
  clear c3 c6 f6 c7 y2 f2 l0 l1 m0 m1 m2 t0 t1 q0 q1
  go_loopw [11] (fun i wr => ∃ k : Nat, k ≤ x.ents.length ∧ i = .int .i64 k ∧ LF F0 W0 wr g { lcOf y with pool := (slLoop y j hgt p k).1 } bv (.slice (some ⟨gv, 0, none⟩) x.vals.length vc) dv (.slice ea x.ents.length ec) y.vals ds (slLoop y j hgt p k).2) (fun i _ => x.ents.length - (intOf i).toNat)
  case atStart => exact ⟨0, Nat.zero_le _, rfl, by show LF F0 W0 w1 g _ _ _ _ _ _ _ y.ents; rw [hye]; exact HP1.out⟩
  case round =>
    clear HP1
    obtain ⟨k, hk, rfl, hP⟩ := hrel
    by_cases hlt : k < x.ents.length
    · have hlty : k < y.ents.length := by rw [hye]; exact hlt
      have hE' := HK.out.e k hlty
      obtain ⟨q0, q1⟩ := HK.out.q k (by omega)
      have hln := slLoop_len y j hgt p k
      rw [hye] at hln
      have egd : y.ents.getD k e0 = x.ents[k] := by rw [hye]; simp [hlt]
      have hkl : k < (slLoop y j hgt p k).2.length := by omega
      have hat : (slLoop y j hgt p k).2[k] = x.ents[k] := by
        have := slLoop_at y j hgt p k k (Nat.le_refl _)
        rw [egd] at this
        rw [← this]
        simp [hkl]
      have hEq : y.ents[k] = x.ents[k] := by simp [hye]
      rw [hEq] at hE'
      obtain ⟨am0, am1⟩ := hE'
      have hE : wr.ownsRow 0 131 4 (.slice ea x.ents.length ec) (slLoop y j hgt p k).2.length (erow (slLoop y j hgt p k).2) := hP.e
      rw [hln] at hE
      obtain ⟨ge, rfl, _⟩ := ownsRow_some hE (by omega)
      have c6 : wr.cell? ⟨g, 6, none⟩ = some (.int .i64 (slLoop y j hgt p k).1) := hP.C.L.cell 6
      have f6 := hP.C.L.frozen 6
      have c9 : wr.cell? ⟨g, 9, none⟩ = some (.slice (some ⟨ge, 0, none⟩) x.ents.length ec) := hP.C.L.cell 9
      have z1 : wr.cell? ⟨ge, k * 4 + 1, none⟩ = some (.int .i64 x.ents[k].val) := by rw [← hat]; exact (hE.cellAt (k * 4 + 1) (by omega)).trans (erow_at _ k hkl 1 (by omega))
      have z2 : wr.cell? ⟨ge, k * 4 + 2, none⟩ = some (.int .i64 x.ents[k].made) := by rw [← hat]; exact (hE.cellAt (k * 4 + 2) (by omega)).trans (erow_at _ k hkl 2 (by omega))
      have z3 : wr.cell? ⟨ge, k * 4 + 3, none⟩ = some (.int .i64 x.ents[k].amount) := by rw [← hat]; exact (hE.cellAt (k * 4 + 3) (by omega)).trans (erow_at _ k hkl 3 (by omega))
      have f3 := hE.frozenAt (k * 4 + 3)
      have n1 : g ≠ ge := fun e => Has.apart hP.C.L hP.e (by decide) (by rw [e]; rfl)
      have n2 : ge ≠ g := fun e => n1 e.symm
      by_cases hm : x.ents[k].val = j ∧ hgt ≤ x.ents[k].made
      · have HL : Hid (slLoop y j hgt p (k + 1) = ((slLoop y j hgt p k).1 + lostF x.ents[k].amount p, (slLoop y j hgt p k).2.set k (cutE p x.ents[k]))) := by
          show (if (y.ents.getD k e0).val = j ∧ hgt ≤ (y.ents.getD k e0).made then _ else _) = _
          rw [egd, if_pos hm]
        obtain ⟨hm1, hm2⟩ := hm
        obtain ⟨l0, l1⟩ := lostF_bd am0 (show 0 ≤ p by omega) p1
        have m0 : 0 ≤ x.ents[k].amount * p := Int.mul_nonneg am0 (by omega)
        have m1 : x.ents[k].amount * p ≤ x.ents[k].amount * 100 := Int.mul_le_mul_of_nonneg_left p1 am0
        have m2 : x.ents[k].amount * p ≤ 100000000 := by omega
        have hPs := (hP.setEnt hln.symm (k * 4 + 3) (.int .i64 (x.ents[k].amount - lostF x.ents[k].amount p)) (ents' := (slLoop y j hgt p k).2.set k (cutE p x.ents[k])) (erow_set _ k hkl 3 _ _ (by rw [hat]; rfl) (by omega)) (by simp)).setPool ((slLoop y j hgt p k).1 + lostF x.ents[k].amount p)
        have HPs : Hid (LF F0 W0 ((wr.setCell ⟨ge, k * 4 + 3, none⟩ (.int .i64 (x.ents[k].amount - lostF x.ents[k].amount p))).setCell ⟨g, 6, none⟩ (.int .i64 ((slLoop y j hgt p k).1 + lostF x.ents[k].amount p))) g { lcOf y with pool := (slLoop y j hgt p (k + 1)).1 } bv (.slice (some ⟨gv, 0, none⟩) x.vals.length vc) dv (.slice (some ⟨ge, 0, none⟩) x.ents.length ec) y.vals ds (slLoop y j hgt p (k + 1)).2) := by
          rw [HL.out]; exact hPs
        rw [hm1] at z1
        clear hP hPs HQ HK hE egd hat HL hln hkl hm1 hEq
        generalize (slLoop y j hgt p k).1 = po at *
        unfold lostF at *
        generalize x.ents[k].made = emd at *
        generalize x.ents[k].amount = eam at *
        go_wp2
        all_goals
          try go_region
          try go_wp2
          try go_region
          try go_wp2
        refine And.intro ?_ ?_
        · first
            | exact ⟨k + 1, by omega, by go_num, HPs.out.eta rfl rfl rfl rfl⟩
            | ((repeat apply Exists.intro); exact ⟨⟨k + 1, by omega, by go_num, HPs.out.eta rfl rfl rfl rfl⟩, rfl⟩)
        · simp [intOf]; omega
      · have HL : Hid (slLoop y j hgt p (k + 1) = slLoop y j hgt p k) := by
          show (if (y.ents.getD k e0).val = j ∧ hgt ≤ (y.ents.getD k e0).made then _ else _) = _
          rw [egd, if_neg hm]
        have HPs : Hid (LF F0 W0 wr g { lcOf y with pool := (slLoop y j hgt p (k + 1)).1 } bv (.slice (some ⟨gv, 0, none⟩) x.vals.length vc) dv (.slice (some ⟨ge, 0, none⟩) x.ents.length ec) y.vals ds (slLoop y j hgt p (k + 1)).2) := by
          rw [HL.out]; exact hP
        clear hP HQ HK hE egd hat HL hln hkl hEq
        generalize x.ents[k].made = emd at *
        generalize x.ents[k].val = evl at *
        by_cases hv : evl = j
        · have hm2 : emd < hgt := by
            have : ¬ hgt ≤ emd := fun hh => hm ⟨hv, hh⟩
            omega
          rw [hv] at z1
          clear hm hv
          go_wp2
          refine And.intro ?_ ?_
          · first
              | exact ⟨k + 1, by omega, by go_num, HPs.out.eta rfl rfl rfl rfl⟩
              | ((repeat apply Exists.intro); exact ⟨⟨k + 1, by omega, by go_num, HPs.out.eta rfl rfl rfl rfl⟩, rfl⟩)
          · simp [intOf]; omega
        · have hv' : (evl == (j : Int)) = false := by simp [hv]
          clear hm hv
          go_wp2
          refine And.intro ?_ ?_
          · first
              | exact ⟨k + 1, by omega, by go_num, HPs.out.eta rfl rfl rfl rfl⟩
              | ((repeat apply Exists.intro); exact ⟨⟨k + 1, by omega, by go_num, HPs.out.eta rfl rfl rfl rfl⟩, rfl⟩)
          · simp [intOf]; omega
    · have hke : k = x.ents.length := by omega
      subst hke
      have hjy : j < y.vals.length := by omega
      have c7 : wr.cell? ⟨g, 7, none⟩ = some (.slice (some ⟨gv, 0, none⟩) x.vals.length vc) := hP.C.L.cell 7
      have c9 : wr.cell? ⟨g, 9, none⟩ = some (.slice ea x.ents.length ec) := hP.C.L.cell 9
      have hV : wr.ownsRow 0 114 8 (.slice (some ⟨gv, 0, none⟩) x.vals.length vc) y.vals.length (vrow y.vals) := hP.v
      rw [hyv] at hV
      obtain ⟨u6, z6⟩ : ∃ u, wr.cell? ⟨gv, j * 8 + 6, none⟩ = some u := ⟨_, (hV.cellAt (j * 8 + 6) (by omega)).trans ((vrow_at y.vals j hjy 6 (by omega)).trans rfl)⟩
      obtain ⟨u7, z7⟩ : ∃ u, wr.cell? ⟨gv, j * 8 + 7, none⟩ = some u := ⟨_, (hV.cellAt (j * 8 + 7) (by omega)).trans ((vrow_at y.vals j hjy 7 (by omega)).trans rfl)⟩
      have f6 := hV.frozenAt (j * 8 + 6)
      have f7 := hV.frozenAt (j * 8 + 7)
      have hP1 := hP.setVal hyv.symm (j * 8 + 6) (.bool true) (vals' := y.vals.modify j (fun v => { v with jailed := true })) (vrow_mod y.vals j hjy 6 _ _ (by simp [VS.cells]) (by omega)) (by simp)
      have hP2 := hP1.setVal (by simpa using hyv.symm) (j * 8 + 7) (.bool false) (vals' := (y.vals.modify j (fun v => { v with jailed := true })).modify j (fun v => { v with inset := false })) (vrow_mod _ j (by simpa using hjy) 7 _ _ (by simp [VS.cells]) (by omega)) (by simp)
      have HF : Hid (LF F0 W0 ((wr.setCell ⟨gv, j * 8 + 6, none⟩ (.bool true)).setCell ⟨gv, j * 8 + 7, none⟩ (.bool false)) g (lcOf (slashF x j hgt p)) bv (.slice (some ⟨gv, 0, none⟩) x.vals.length vc) dv (.slice ea x.ents.length ec) (slashF x j hgt p).vals ds (slashF x j hgt p).ents) := by
        rw [HQ.out]; exact hP2
      clear hP hP1 hP2 hV HQ HK
      go_wp2
      try go_region
      try go_wp2
      try go_region
      try go_wp2
      go_ret
      exact ⟨rfl, HF.out.eta rfl rfl rfl rfl⟩

set_option maxHeartbeats 4000000 in
set_option maxRecDepth 100000 in
/-- Slash (P15) -/
theorem lslash {F0 : Nat → Prop} {W0 : World} (g : Nat) (x : EC) (bv vv dv ev : Value) (ds : List (DA × Value)) (w : World) (h : LF F0 W0 w g (lcOf x) bv vv dv ev x.vals ds x.ents) (ok : Fine x) (hel : x.ents.length ≤ 100000) (val hgt p : Int) :
    Calls Tryz.prog 71 #[.pointer (some ⟨g, 0, none⟩), .int .i64 val, .int .i64 hgt, .int .i64 p] w fun e w' => e = .returned (.int .i64 (slashR x val hgt p).1) ∧ LF F0 W0 w' g (lcOf (slashR x val hgt p).2) bv vv dv ev (slashR x val hgt p).2.vals ds (slashR x val hgt p).2.ents := by
  have okx : Ok x.height x := ok
  have v5 := okx.v5
  unfold slashR
  by_cases he : slErrF x val hgt p = 0
  · rw [if_neg (by simpa using he)]
    obtain ⟨j, rfl, hj, g0, g1, p0, p1⟩ := slErrF_ok he
    rw [Int.toNat_natCast]
    exact lslash_ok g x bv vv dv ev ds w h okx hel j hgt p hj g0 g1 p0 p1
  · rw [if_pos he]
    have HR : Hid (LF F0 W0 w g (lcOf x) bv vv dv ev x.vals ds x.ents) := h
    have HV : Hid (Calls Tryz.prog 100 #[.pointer (some ⟨g, 0, none⟩), .int .i64 val] w fun e w' => e = .returned (.bool (inB val x.vals.length)) ∧ w = w') := by
      have := lval_any g vv x.vals val w (h.lvals (by omega))
      rwa [inN_inB0] at this
    have c3 : w.cell? ⟨g, 3, none⟩ = some (.int .i64 x.height) := h.C.L.cell 3
    obtain ⟨R, hR⟩ : ∃ R, slErrF x val hgt p = R := ⟨_, rfl⟩
    rw [hR] at he ⊢
    unfold slErrF at hR
    simp only
    clear h
    generalize x.height = xh at *
    cases hb : inB val x.vals.length with
    | false =>
      rw [hb] at HV hR
      rw [if_pos rfl] at hR
      have HE : Hid ((3 : Int) = R) := hR
      clear hR he
      go_enter Tryz.func71, Tryz.ntmps71
      go_wp2_with fail
      refine HV.out.mono ?_
      rintro e w' ⟨rfl, rfl⟩
      clear HV
      go_wp2
      go_ret
      rw [← HE.out]; exact ⟨rfl, HR.out⟩
    | true =>
      rw [hb] at HV hR
      rw [if_neg (by decide)] at hR
      clear hb
      by_cases h2 : hgt < 0 ∨ xh < hgt
      · rw [if_pos h2] at hR
        have HE : Hid ((12 : Int) = R) := hR
        clear hR he
        by_cases h3 : hgt < 0
        · clear h2
          go_enter Tryz.func71, Tryz.ntmps71
          go_wp2_with fail
          refine HV.out.mono ?_
          rintro e w' ⟨rfl, rfl⟩
          clear HV
          go_wp2
          go_ret
          rw [← HE.out]; exact ⟨rfl, HR.out⟩
        · have h4 : xh < hgt := by omega
          clear h2
          go_enter Tryz.func71, Tryz.ntmps71
          go_wp2_with fail
          refine HV.out.mono ?_
          rintro e w' ⟨rfl, rfl⟩
          clear HV
          go_wp2
          go_ret
          rw [← HE.out]; exact ⟨rfl, HR.out⟩
      · rw [if_neg h2] at hR
        have h3 : ¬ hgt < 0 := fun h => h2 (.inl h)
        have h4 : ¬ xh < hgt := fun h => h2 (.inr h)
        clear h2
        by_cases h5 : p < 1 ∨ 100 < p
        · rw [if_pos h5] at hR
          have HE : Hid ((13 : Int) = R) := hR
          clear hR he
          by_cases h6 : p < 1
          · clear h5
            go_enter Tryz.func71, Tryz.ntmps71
            go_wp2_with fail
            refine HV.out.mono ?_
            rintro e w' ⟨rfl, rfl⟩
            clear HV
            go_wp2
            go_ret
            rw [← HE.out]; exact ⟨rfl, HR.out⟩
          · have h7 : 100 < p := by omega
            clear h5
            go_enter Tryz.func71, Tryz.ntmps71
            go_wp2_with fail
            refine HV.out.mono ?_
            rintro e w' ⟨rfl, rfl⟩
            clear HV
            go_wp2
            go_ret
            rw [← HE.out]; exact ⟨rfl, HR.out⟩
        · rw [if_neg h5] at hR
          exact absurd hR.symm he
theorem slash_tie {x : EC} {ds : List (DA × Value)} (t : DTie x ds) (val hgt p : Int) : DTie (slashR x val hgt p).2 ds := by
  unfold slashR
  split
  · exact t
  · exact t.same rfl (by simp [slashF, jailF, slEntF, slTokF]) rfl rfl
end Go.Proofs.YtohjjgefklhmaaaGreatDoor

namespace Go.Proofs.YtohjjgefklhmaaaGreatDoor
open Go.ChangeShapes Go.WideShapes Go.ChangeAt Go.RowKit
set_option linter.unusedVariables false
set_option linter.unusedSimpArgs false

theorem lbnd_of {H : Int} {x : EC} (ok : Ok H x) {ds : List (DA × Value)} (t : DTie x ds) : LBnd (lcOf x) x.vals ds := by
  obtain ⟨b1, b2, b3, b4, b5⟩ := ok.bds
  have b6 := ok.b6
  have v5 := ok.v5
  have hbal : ∀ k (h : k < x.bal.length), x.bal[k] = x.balAt k := fun k h => by unfold EC.balAt; simp [h]
  refine ⟨⟨by show x.bal.length ≤ _; omega, ok.fee0, by have := ok.fee1; show x.fee ≤ _; omega, ok.fees, by show x.fees ≤ _; omega, ok.pool, by show x.pool ≤ _; omega, fun k h => ?_⟩, fun k h => ?_, by omega, by have := t.len b6 v5; omega, fun k h => ?_, fun d hd => ?_⟩
  · have h' : k < x.bal.length := h
    have e := hbal k h'
    have h1 := ok.bal k h'
    have h2 := b1 k h'
    show 0 ≤ x.bal[k] ∧ x.bal[k] ≤ _
    omega
  · have h' : k < x.bal.length := h
    have e := hbal k h'
    have h2 := b1 k h'
    show x.bal[k] ≤ _
    omega
  · have e := x.val_eq h
    rw [e]
    have hv := ok.val k h
    have h4 := b4 k h
    have := hv.t0
    have := hv.s0
    have := hv.s1
    have := hv.k0
    have := hv.ko
    omega
  · obtain ⟨k, j, _, _, q3, q4, q5, q6, _⟩ := t.rng d hd
    have hshs := ok.shs j q4
    have hle : x.sh k j ≤ (x.val j).shares := by
      rw [← hshs]
      exact sum6_ge (f := fun k => x.sh k j) (fun i hi => ok.sh0 i j hi (by omega)) (by omega)
    have := (ok.val j q4).s1
    omega
theorem llok_of {H : Int} {x : EC} (ok : Ok H x) {ds : List (DA × Value)} (t : DTie x ds) : LLOk (lcOf x) x.vals ds := by
  obtain ⟨b1, b2, b3, b4, b5⟩ := ok.bds
  have b6 := ok.b6
  have v5 := ok.v5
  refine ⟨lbnd_of ok t, fun k h => ?_, fun d hd k h hv => ?_⟩
  · rw [x.val_eq h]
    have hv := ok.val k h
    have h4 := b4 k h
    have := hv.k0
    have := hv.ko
    omega
  · obtain ⟨k', j, _, q2, q3, q4, q5, q6, _⟩ := t.rng d hd
    have e : j = k := by omega
    subst e
    rw [x.val_eq h, q5]
    rw [← ok.shs j q4]
    exact sum6_ge (f := fun k => x.sh k j) (fun i hi => ok.sh0 i j hi (by omega)) (by omega)
theorem leave_due {H : Int} {y : EC} (ok : Ok H y) {k j t : Nat} (hk : k < y.bal.length) (hj : j < y.vals.length) (ht : t < y.vals.length) (hne : t ≠ j) (n : Int) : (leaveF y k j n).due k t = y.due k t := by
  have b6 := ok.b6
  have v5 := ok.v5
  have u := goneF_upd ok hk hj n (tokensForF (y.val j) n)
  have e : (leaveF y k j n).tab = (goneF (payF y k j) k j n (tokensForF (y.val j) n)).tab := by unfold leaveF; split <;> rfl
  have e2 : (leaveF y k j n).due k t = (goneF (payF y k j) k j n (tokensForF (y.val j) n)).due k t := by unfold EC.due EC.sh EC.per EC.upto; rw [e]
  rw [e2]
  unfold EC.due
  rw [u.sh k t (by omega) (by omega) (fun h => hne h.2), u.per t (by omega), u.upt k t (by omega) (by omega) (fun h => hne h.2)]
section
variable {x : EC} (ok : Fine x) {ds : List (DA × Value)} (t : DTie x ds)
include ok t
/-- what leave leaves is small -/
theorem mov_lbnd (who v n q : Int) (hq : dueQ x who v q) : ∀ kw k : Nat, who = kw → v = k → kw < (lcOf x).bal.length → k < x.vals.length → (chargeF (lcOf x) who).1 = 0 → hasF ds who v n = true → LBnd (lvF (chargeF (lcOf x) who).2 x.vals ds kw k n q).2.1 (lvF (chargeF (lcOf x) who).2 x.vals ds kw k n q).2.2.1 (lvF (chargeF (lcOf x) who).2 x.vals ds kw k n q).2.2.2 ∧ (lvF (chargeF (lcOf x) who).2 x.vals ds kw k n q).2.1.bal.length = (lcOf x).bal.length ∧ (lvF (chargeF (lcOf x) who).2 x.vals ds kw k n q).2.2.1.length = x.vals.length := by
  rintro k j rfl rfl hk' hj hc hh
  have hk : k < x.bal.length := hk'
  rw [charge_lc] at hc ⊢
  simp only at hc ⊢
  have hcy := ok.chg hc
  have ty := t.charge k
  have okx' : Ok (chargeFE x k).height (chargeFE x k) := hcy
  have b6 := okx'.b6
  have v5 := okx'.v5
  have hly : (chargeFE x k).bal.length = x.bal.length := by simp [chargeFE]
  have hlv : (chargeFE x k).vals.length = x.vals.length := rfl
  have e : chgX x k = chargeFE x k := by unfold chgX; rw [if_pos hc, Int.toNat_natCast]
  rw [e]
  have s0 : 0 ≤ x.sh k j := okx'.sh0 k j (by omega) (by omega)
  have hh' := (has_lc t hk hj s0 n).1 hh
  have hd : q = (chargeFE x k).due k j := hq k j rfl rfl hk hj
  have n2 : n ≤ (chargeFE x k).sh k j := by show n ≤ x.sh k j; omega
  obtain ⟨ds', e1, e2⟩ := leave_tie okx' ty (k := k) (j := j) (by omega) hj n q (by omega) n2 hd
  have e1' : lvF (lcOf (chargeFE x k)) x.vals ds k j n q = _ := e1
  rw [e1']
  obtain ⟨l1, l2, l3, l4, l5, l6, l7⟩ := okx'.leave (k := k) (j := j) (by omega) hj n (by omega) n2
  exact ⟨lbnd_of l1 e2, by show (leaveF (chargeFE x k) k j n).bal.length = x.bal.length; omega, by show (leaveF (chargeFE x k) k j n).vals.length = x.vals.length; omega⟩
theorem mov_tie (who v tw n q z : Int) (hq : dueQ x who v q) (hz : v ≠ tw → dueQ x who tw z) : ∃ ds', moveF (lcOf x) x.vals ds who v tw n q z = ((movR x who v tw n).1, lcOf (movR x who v tw n).2, (movR x who v tw n).2.vals, ds') ∧ DTie (movR x who v tw n).2 ds' ∧ (movR x who v tw n).2.ents = x.ents := by
  unfold moveF movR
  rw [charge_lc]
  rcases chg_cases x who with ⟨hc, e⟩ | ⟨k, rfl, hk, hc, hf, e⟩
  · rw [msgR_fail hc, e]
    simp only
    rw [if_neg hc]
    exact ⟨ds, rfl, t, by first | rfl | trivial⟩
  · rw [e]
    simp only
    rw [if_pos hc]
    have hcy := ok.chg hc
    have ty := t.charge k
    have okx' : Ok (chargeFE x k).height (chargeFE x k) := hcy
    have b6 := okx'.b6
    have v5 := okx'.v5
    have hly : (chargeFE x k).bal.length = x.bal.length := by simp [chargeFE]
    have hlv : (chargeFE x k).vals.length = x.vals.length := rfl
    rw [inN_inB0, inN_inB0]
    by_cases hb : inB v x.vals.length = true
    · by_cases hb2 : inB tw x.vals.length = true ∧ v ≠ tw
      · obtain ⟨j, rfl, hj⟩ := inB_tt hb
        obtain ⟨hb2, hne⟩ := hb2
        obtain ⟨j2, rfl, hj2⟩ := inB_tt hb2
        have hne' : j2 ≠ j := fun e => hne (by rw [e])
        rw [if_pos ⟨hb, hb2, hne⟩]
        have s0 : 0 ≤ x.sh k j := okx'.sh0 k j (by omega) (by omega)
        have hbz : ¬ inB (j : Int) (chargeFE x k).vals.length = false := by rw [hlv]; simp [hb]
        have hbz2 : ¬ (inB (j2 : Int) (chargeFE x k).vals.length = false ∨ (j2 : Int) = j) := by
          rw [hlv]; simp [hb2]; omega
        have hue : movErrF (chargeFE x k) k j j2 n = if n < 1 ∨ x.sh k j < n then 6 else if tokensForF ((chargeFE x k).val j) n < 1 then 8 else joinErrF ((chargeFE x k).val j2) (tokensForF ((chargeFE x k).val j) n) := by
          unfold movErrF; rw [if_neg hbz, if_neg hbz2, Int.toNat_natCast, Int.toNat_natCast]; rfl
        simp only [Int.toNat_natCast]
        have hvj : x.vals.getD j ⟨0, 0, 0, 0, 0, 0, false, false⟩ = (chargeFE x k).val j := rfl
        have hvj2 : x.vals.getD j2 ⟨0, 0, 0, 0, 0, 0, false, false⟩ = (chargeFE x k).val j2 := rfl
        rw [hvj, hvj2]
        by_cases hh : hasF ds k j n = true
        · have hh' := (has_lc t hk hj s0 n).1 hh
          rw [if_pos hh]
          have hle : x.sh k j ≤ ((chargeFE x k).val j).shares := by
            rw [← okx'.shs j hj]
            exact sum6_ge (f := fun k' => (chargeFE x k).sh k' j) (fun i hi => okx'.sh0 i j hi (by omega)) (by omega)
          have hwt : worthF ((chargeFE x k).val j) n = tokensForF ((chargeFE x k).val j) n := by unfold worthF tokensForF; rw [if_neg (by omega)]
          have hw0 := worth_bd (x := (chargeFE x k).val j) (n := n) (by omega) (okx'.val j hj).t0 (by omega) (by omega)
          rw [hwt] at hw0 ⊢
          by_cases ht0 : tokensForF ((chargeFE x k).val j) n = 0
          · have he : movErrF (chargeFE x k) k j j2 n = 8 := by rw [hue, if_neg hh', if_pos (by omega)]
            rw [if_pos ht0, msgR_err hc (by rw [he]; decide), he]
            exact ⟨ds, rfl, ty, by first | rfl | trivial⟩
          · rw [if_neg ht0]
            have hue2 : movErrF (chargeFE x k) k j j2 n = joinErrF ((chargeFE x k).val j2) (tokensForF ((chargeFE x k).val j) n) := by rw [hue, if_neg hh', if_neg (by omega)]
            obtain ⟨be1, be2⟩ := buy_err ((chargeFE x k).val j2) (tokensForF ((chargeFE x k).val j) n) (by omega) (okx'.val j2 hj2)
            rw [be1]
            by_cases he0 : joinErrF ((chargeFE x k).val j2) (tokensForF ((chargeFE x k).val j) n) = 0
            · have he : movErrF (chargeFE x k) k j j2 n = 0 := by rw [hue2, he0]
              rw [if_pos he0, msgR_ok hc he]
              obtain ⟨n1, n2⟩ := joinErr_ok he0
              have hd : q = (chargeFE x k).due k j := hq k j rfl rfl hk hj
              have nn : n ≤ (chargeFE x k).sh k j := by show n ≤ x.sh k j; omega
              obtain ⟨ds1, e1, e2⟩ := leave_tie okx' ty (k := k) (j := j) (by omega) hj n q (by omega) nn hd
              have e1' : lvF (lcOf (chargeFE x k)) x.vals ds k j n q = _ := e1
              obtain ⟨l1, l2, l3, l4, l5, l6, l7⟩ := okx'.leave (k := k) (j := j) (by omega) hj n (by omega) nn
              have hv2 : (leaveF (chargeFE x k) k j n).val j2 = (chargeFE x k).val j2 := l3 j2 hne'
              have hd2 : z = (leaveF (chargeFE x k) k j n).due k j2 := by
                rw [leave_due okx' (by omega) hj hj2 hne']
                exact hz hne k j2 rfl rfl hk hj2
              obtain ⟨ds2, e3, e4⟩ := enter_tie l1 e2 (k := k) (j := j2) (by omega) (by omega) (tokensForF ((chargeFE x k).val j) n) (buyF ((chargeFE x k).val j2) (tokensForF ((chargeFE x k).val j) n)).1 z (by rw [hv2]; exact be2 he0) (by rw [be2 he0]; exact n1) hd2
              rw [e1']
              simp only
              refine ⟨ds2, ?_, e4, ?_⟩
              · rw [e3]; rfl
              · show (leaveF (chargeFE x k) k j n).ents = x.ents
                exact l6
            · have he : ¬ movErrF (chargeFE x k) k j j2 n = 0 := by rw [hue2]; exact he0
              rw [if_neg he0, msgR_err hc he, hue2]
              exact ⟨ds, rfl, ty, by first | rfl | trivial⟩
        · have hh' : n < 1 ∨ x.sh k j < n := Classical.byContradiction (fun h => hh ((has_lc t hk hj s0 n).2 h))
          have he : movErrF (chargeFE x k) k j j2 n = 6 := by rw [hue, if_pos hh']
          rw [if_neg hh, msgR_err hc (by rw [he]; decide), he]
          exact ⟨ds, rfl, ty, by first | rfl | trivial⟩
      · have he : movErrF (chargeFE x k) k v tw n = 3 := by
          unfold movErrF
          rw [if_neg (by rw [hlv]; simp [hb]), if_pos]
          rw [hlv]
          by_cases h3 : inB tw x.vals.length = true
          · exact .inr (Classical.byContradiction (fun h => hb2 ⟨h3, fun e => h e.symm⟩))
          · exact .inl (by simpa using h3)
        rw [if_neg (fun h => hb2 ⟨h.2.1, h.2.2⟩), msgR_err hc (by rw [he]; decide), he]
        exact ⟨ds, rfl, ty, by first | rfl | trivial⟩
    · have he : movErrF (chargeFE x k) k v tw n = 3 := by unfold movErrF; rw [if_pos (by rw [hlv]; simpa using hb)]
      rw [if_neg (fun h => hb h.1), msgR_err hc (by rw [he]; decide), he]
      exact ⟨ds, rfl, ty, by first | rfl | trivial⟩
end
end Go.Proofs.YtohjjgefklhmaaaGreatDoor
