import Derived.Test.YtohjjgefklhmaabGreatDoorXImpM
namespace Go.Proofs.YtohjjgefklhmaabGreatDoor
open Go.ChangeShapes Go.WideShapes Go.ChangeAt Go.RowKit
set_option linter.unusedVariables false

section
variable {W0 w w2 : World} {g gr : Nat} {s : ByteArray} {x x' : EC} {st st' : RS} {bv vv ev ev' : Value}
theorem XR.cellS {gv n cap : Nat} (h : XR W0 w g gr s x st bv (.slice (some ⟨gv, 0, none⟩) n cap) ev) (hn : x.vals.length = n) {j k : Nat} (hj : j < n) (hk : k < 6) (h5 : n ≤ 5) :
    w.cell? ⟨g, 7, none⟩ = some (.slice (some ⟨gv, 0, none⟩) n cap) ∧ w.cell? ⟨gv, j * 8 + 3, none⟩ = some (.int .i64 (x.val j).shares) ∧ w.frozen? ⟨gv, j * 8 + 3, none⟩ = false ∧ w.cell? ⟨g, 8 + k * 5 + j, none⟩ = some (.int .i64 (x.sh k j)) ∧ w.frozen? ⟨g, 8 + k * 5 + j, none⟩ = false ∧ w.cell? ⟨g, 38 + j, none⟩ = some (.int .i64 (x.per j)) ∧ w.cell? ⟨g, 43 + k * 5 + j, none⟩ = some (.int .i64 (x.upto k j)) ∧ w.frozen? ⟨g, 43 + k * 5 + j, none⟩ = false ∧ g ≠ gv ∧ g < w.heap.size ∧ gv < w.heap.size := by
  obtain ⟨gv', e, h1, h2⟩ := h.e.val8 hn.symm (k := j) (by omega)
  simp only [Option.some.injEq, Addr.mk.injEq, and_true] at e
  subst e
  have h3 := h1 3 (by omega)
  rw [EC.val_eq x (by omega)] at h3
  exact ⟨h.e.L.cell 7, h3, h2 _, h.e.shAt hk (by omega), h.e.L.frozen _, h.e.perAt (by omega), h.e.uptoAt hk (by omega), h.e.L.frozen _, fun e => Has.apart h.e.L h.e.v (by decide) (by rw [e]; rfl), h.e.L.lt, (h.e.v.lt gv rfl).2⟩
end
theorem sumN_bd (f : Nat → Int) (c : Int) (n : Nat) (h : ∀ k, k < n → 0 ≤ f k ∧ f k ≤ c) : 0 ≤ sumN f n ∧ sumN f n ≤ c * n := by
  induction n with
  | zero => simp [sumN]
  | succ n ih =>
    have h1 := ih (fun k hk => h k (by omega))
    have h2 := h n (by omega)
    simp only [sumN, Int.natCast_add, Int.mul_add]; omega
theorem DM.shares {x0 x : EC} {k j i : Nat} (d : DM GBd x0 k j x) (hk : k ≤ 6) (hi : i < x0.vals.length) (hv : x0.vals.length ≤ 5) (h0 : (x0.val i).shares = 0) (hij : ¬ i < j) : 0 ≤ (x.val i).shares ∧ (x.val i).shares ≤ 6000000 := by
  have h1 := d.val i hi
  rw [if_neg hij, h0] at h1
  have h2 := sumN_bd (fun r => x.sh r i) 1000000 k (fun r hr => by have := d.lo r i (by omega) hi (.inl hr); exact ⟨this.1, this.2.1⟩)
  rw [h1]
  simp only; omega

set_option maxHeartbeats 4000000 in
set_option maxRecDepth 100000 in
theorem readD_any (W0 w : World) (g gr : Nat) (s : ByteArray) (x : EC) (st : RS) (bv vv ev : Value) (h : XR W0 w g gr s x st bv vv ev) (b6 : x.bal.length ≤ 6) (v5 : x.vals.length ≤ 5) (ht : x.tab = List.replicate 65 0) (hz : ∀ i, i < x.vals.length → (x.val i).shares = 0) :
    Calls Tryz.prog 78 #[.pointer (some ⟨g, 0, none⟩), .pointer (some ⟨gr, 0, none⟩)] w fun e w' => e = .returned (.tuple #[]) ∧ XR W0 w' g gr s (rdDa s.data.toList (x, st) x.vals.length x.bal.length).1 (rdDa s.data.toList (x, st) x.vals.length x.bal.length).2 bv vv ev := by
  have HN : Hid (∀ (w' : World) (st : RS) (m : Int), RDS w' gr s st → 0 ≤ m → m ≤ 1073741824000000 → Calls Tryz.prog 76 #[.pointer (some ⟨gr, 0, none⟩), .int .i64 m] w' fun e w'' => e = .returned (.int .i64 (nx s.data.toList m st).1) ∧ RDS w'' gr s (nx s.data.toList m st).2 ∧ Kp (fun b => b = gr) w' w'') := fun w' st m a b c => next_any w' gr s st m a b c
  have HDM : Hid (∀ k j, k < x.bal.length → j ≤ x.vals.length → DM GBd x k j (rdDr s.data.toList k (rdDa s.data.toList (x, st) x.vals.length k) j).1) := fun k j hk hj => rdDr_bd (rdDa_bd (q := (x, st)) ht v5 k (by omega)) (by omega) v5 j hj
  have HDA : Hid (∀ k, k ≤ x.bal.length → DM GBd x k 0 (rdDa s.data.toList (x, st) x.vals.length k).1) := fun k hk => rdDa_bd (q := (x, st)) ht v5 k (by omega)
  obtain ⟨ba, bc, rfl⟩ := ownsRow_slice h.e.b
  obtain ⟨va, vc, rfl⟩ := ownsRow_slice h.e.v
  have c4 : w.cell? ⟨g, 4, none⟩ = some (.slice ba x.bal.length bc) := h.e.L.cell 4
  have HR : Hid (XR W0 w g gr s x st (.slice ba x.bal.length bc) (.slice va x.vals.length vc) ev) := h
  clear h ht
  go_enter Tryz.func78, Tryz.ntmps78
  go_wp2
  go_loopw [13] (fun i wr => ∃ k : Nat, k ≤ x.bal.length ∧ i = .int .i64 k ∧ XR W0 wr g gr s (rdDa s.data.toList (x, st) x.vals.length k).1 (rdDa s.data.toList (x, st) x.vals.length k).2 (.slice ba x.bal.length bc) (.slice va x.vals.length vc) ev) (fun i _ => x.bal.length - (intOf i).toNat)
  case atStart => exact ⟨0, Nat.zero_le _, rfl, HR.out⟩
  case round =>
    obtain ⟨k, hk, rfl, hx⟩ := hrel
    have d7 : wr.cell? ⟨g, 7, none⟩ = some (.slice va x.vals.length vc) := hx.e.L.cell 7
    have HX : Hid (XR W0 wr g gr s (rdDa s.data.toList (x, st) x.vals.length k).1 (rdDa s.data.toList (x, st) x.vals.length k).2 (.slice ba x.bal.length bc) (.slice va x.vals.length vc) ev) := hx
    by_cases hk1 : k < x.bal.length
    · clear hx HR
      go_wp2
      obtain ⟨wo, rfl⟩ : ∃ wo : World, wo = wr := ⟨_, rfl⟩
      go_loopw [21] (fun i wr => ∃ j : Nat, j ≤ x.vals.length ∧ i = .int .i64 j ∧ XR W0 wr g gr s (rdDr s.data.toList k (rdDa s.data.toList (x, st) x.vals.length k) j).1 (rdDr s.data.toList k (rdDa s.data.toList (x, st) x.vals.length k) j).2 (.slice ba x.bal.length bc) (.slice va x.vals.length vc) ev) (fun i _ => x.vals.length - (intOf i).toNat)
      case atStart => exact ⟨0, Nat.zero_le _, rfl, HX.out⟩
      case round =>
        clear HX
        obtain ⟨j, hj, rfl, hx⟩ := hrel
        have hdm := HDM.out k j hk1 hj
        have HL : Hid (rdDr s.data.toList k (rdDa s.data.toList (x, st) x.vals.length k) (j + 1) = rdD1 s.data.toList k j (rdDr s.data.toList k (rdDa s.data.toList (x, st) x.vals.length k) j)) := rfl
        by_cases hj1 : j < x.vals.length
        · have hl : (rdDr s.data.toList k (rdDa s.data.toList (x, st) x.vals.length k) j).1.vals.length = x.vals.length := hdm.vl
          obtain ⟨gv, hgv, _⟩ := ownsRow_some (a := va) (n := x.vals.length) (c := vc) (by have := hx.e.v; rw [hl] at this; exact this) (by omega)
          subst hgv
          have hsb := hdm.shares (i := j) (by omega) hj1 v5 (hz j hj1) (by omega)
          have hpb := hdm.per j (by omega)
          have htl := hdm.tl
          generalize rdDr s.data.toList k (rdDa s.data.toList (x, st) x.vals.length k) j = q at *
          obtain ⟨y, st0⟩ := q
          dsimp only at hx hl hsb hpb htl hdm
          have hab := nx_bd s.data.toList 1000000 st0 (by decide)
          have HX : Hid (XR W0 wr g gr s y st0 (.slice ba x.bal.length bc) (.slice (some ⟨gv, 0, none⟩) x.vals.length vc) ev) := hx
          clear hx hdm
          go_wp2_with fail
          refine (HN.out _ st0 1000000 HX.out.r (by decide) (by decide)).mono ?_
          rintro e w2 ⟨rfl, hr2, hk2⟩
          have hx2 := HX.out.next hr2 hk2
          obtain ⟨e7, e3, k3, eS, kS, eP, eU, kU, ng, lg, lv⟩ := hx2.cellS hl (j := j) (k := k) hj1 (by omega) v5
          have hx3 := hx2.tab (k * 5 + j) (nx s.data.toList 1000000 st0).1 (by omega)
          rw [← Nat.add_assoc] at hx3
          have hx4 := hx3.mod (by exact hl.symm) j (by show j < y.vals.length; omega) 3 (by omega) (.int .i64 ((y.val j).shares + (nx s.data.toList 1000000 st0).1)) (fun v => { v with shares := v.shares + (nx s.data.toList 1000000 st0).1 }) (by show _ = VS.cells _; rw [show y.vals[j] = y.val j from EC.val_eq y (by omega)]; rfl)
          have HX4 : Hid (XR W0 ((w2.setCell ⟨g, 8 + k * 5 + j, none⟩ (.int .i64 (nx s.data.toList 1000000 st0).1)).setCell ⟨gv, j * 8 + 3, none⟩ (.int .i64 ((y.val j).shares + (nx s.data.toList 1000000 st0).1))) g gr s (rdD0 s.data.toList k j (y, st0)) (nx s.data.toList 1000000 st0).2 (.slice ba x.bal.length bc) (.slice (some ⟨gv, 0, none⟩) x.vals.length vc) ev) := hx4
          have ng' : gv ≠ g := fun e => ng e.symm
          clear hr2 hk2 hx2 hx3 hx4 HX
          have hpr : (rdD0 s.data.toList k j (y, st0)).per j = 0 := by
            show (y.tab.set (k * 5 + j) _).getD (30 + j) 0 = 0
            rw [gd_ne (by omega)]; exact hpb
          have hul : (rdD0 s.data.toList k j (y, st0)).tab.length = 65 := by simp only [rdD0, List.length_set]; exact htl
          have hvl : (rdD0 s.data.toList k j (y, st0)).vals.length = x.vals.length := by simp only [rdD0, List.length_modify]; exact hl
          by_cases hs : 0 < (nx s.data.toList 1000000 st0).1
          · have HD : Hid (rdD1 s.data.toList k j (y, st0) = ({ rdD0 s.data.toList k j (y, st0) with tab := (rdD0 s.data.toList k j (y, st0)).tab.set (35 + (k * 5 + j)) ((rdD0 s.data.toList k j (y, st0)).per j - (nx s.data.toList 1073741824000000 (nx s.data.toList 1000000 st0).2).1) }, (nx s.data.toList 1073741824000000 (nx s.data.toList 1000000 st0).2).2)) := by
              show rdD1 s.data.toList k j (y, st0) = _
              unfold rdD1; rw [if_pos hs]
            have hpb2 := nx_bd s.data.toList 1073741824000000 (nx s.data.toList 1000000 st0).2 (by decide)
            rw [hpr] at HD
            have HPR : Hid ((rdD0 s.data.toList k j (y, st0)).per j = 0) := hpr
            have HVL : Hid ((rdD0 s.data.toList k j (y, st0)).vals.length = x.vals.length) := hvl
            generalize rdD0 s.data.toList k j (y, st0) = z at *
            generalize (nx s.data.toList 1000000 st0).2 = st1 at *
            generalize (nx s.data.toList 1000000 st0).1 = a at *
            generalize (y.val j).shares = sj at *
            clear hpr hvl hl
            go_wp2_with fail
            refine (HN.out _ st1 1073741824000000 HX4.out.r (by decide) (by decide)).mono ?_
            rintro e w5 ⟨rfl, hr5, hk5⟩
            have hx5 := HX4.out.next hr5 hk5
            obtain ⟨_, _, _, _, _, eP5, eU5, kU5, _, lg5, _⟩ := hx5.cellS HVL.out (j := j) (k := k) hj1 (by omega) v5
            rw [HPR.out] at eP5
            have hx6 := hx5.tab (35 + (k * 5 + j)) (0 - (nx s.data.toList 1073741824000000 st1).1) (by omega)
            rw [← Nat.add_assoc, ← Nat.add_assoc] at hx6
            have HF : Hid (XR W0 (w5.setCell ⟨g, 43 + k * 5 + j, none⟩ (.int .i64 (- (nx s.data.toList 1073741824000000 st1).1))) g gr s (rdDr s.data.toList k (rdDa s.data.toList (x, st) x.vals.length k) (j + 1)).1 (rdDr s.data.toList k (rdDa s.data.toList (x, st) x.vals.length k) (j + 1)).2 (.slice ba x.bal.length bc) (.slice (some ⟨gv, 0, none⟩) x.vals.length vc) ev) := by
              rw [HL.out, HD.out, ← Int.zero_sub (nx s.data.toList 1073741824000000 st1).1]; exact hx6
            generalize (nx s.data.toList 1073741824000000 st1).1 = pv at *
            generalize z.upto k j = uv at *
            clear hr5 hk5 hx5 hx6 HX4 HD HL e7 e3 k3 eS kS eP eU kU
            go_wp2
            go_region
            go_wp2
            refine And.intro ?_ ?_
            · first | exact ⟨j + 1, by omega, by go_num, HF.out.drew⟩ | ((repeat apply Exists.intro); exact ⟨⟨j + 1, by omega, by go_num, HF.out.drew⟩, rfl⟩)
            · simp [intOf]; omega
          · have HD : Hid (rdD1 s.data.toList k j (y, st0) = (rdD0 s.data.toList k j (y, st0), (nx s.data.toList 1000000 st0).2)) := by
              show rdD1 s.data.toList k j (y, st0) = _
              unfold rdD1; rw [if_neg hs]
            generalize rdD0 s.data.toList k j (y, st0) = z at *
            generalize (nx s.data.toList 1000000 st0).2 = st1 at *
            generalize (nx s.data.toList 1000000 st0).1 = a at *
            generalize (y.val j).shares = sj at *
            clear hpr hvl hl
            have HF : Hid (XR W0 ((w2.setCell ⟨g, 8 + k * 5 + j, none⟩ (.int .i64 a)).setCell ⟨gv, j * 8 + 3, none⟩ (.int .i64 (sj + a))) g gr s (rdDr s.data.toList k (rdDa s.data.toList (x, st) x.vals.length k) (j + 1)).1 (rdDr s.data.toList k (rdDa s.data.toList (x, st) x.vals.length k) (j + 1)).2 (.slice ba x.bal.length bc) (.slice (some ⟨gv, 0, none⟩) x.vals.length vc) ev) := by
              rw [HL.out, HD.out]; exact HX4.out
            clear HX4 HD HL
            go_wp2
            refine And.intro ?_ ?_
            · first | exact ⟨j + 1, by omega, by go_num, HF.out⟩ | ((repeat apply Exists.intro); exact ⟨⟨j + 1, by omega, by go_num, HF.out⟩, rfl⟩)
            · simp [intOf]; omega
        · have ek : j = x.vals.length := by omega
          rw [ek] at hx
          have HX : Hid (XR W0 wr g gr s (rdDa s.data.toList (x, st) x.vals.length (k + 1)).1 (rdDa s.data.toList (x, st) x.vals.length (k + 1)).2 (.slice ba x.bal.length bc) (.slice va x.vals.length vc) ev) := hx
          clear hx hdm ek
          go_wp2
          refine And.intro ?_ ?_
          · first | exact ⟨k + 1, by omega, by go_num, HX.out⟩ | ((repeat apply Exists.intro); exact ⟨⟨k + 1, by omega, by go_num, HX.out⟩, rfl⟩)
          · simp [intOf]; omega
    · have ek : k = x.bal.length := by omega
      rw [ek] at hx
      have HX : Hid (XR W0 wr g gr s (rdDa s.data.toList (x, st) x.vals.length x.bal.length).1 (rdDa s.data.toList (x, st) x.vals.length x.bal.length).2 (.slice ba x.bal.length bc) (.slice va x.vals.length vc) ev) := hx
      clear hx ek
      go_wp2
      go_end0
      exact ⟨rfl, HX.out⟩

/-- an entry that is being read, beside the engine -/
structure XE (W0 w : World) (g gr : Nat) (s : ByteArray) (x : EC) (st : RS) (bv vv ev : Value) (ge : Nat) (L : List Value) : Prop where
  x : XR W0 w g gr s x st bv vv ev
  e : Has w ge 80 L
  ne : ∀ b, Own g bv vv ev b → b ≠ ge
  nr : ge ≠ gr
  l : W0.heap.size ≤ ge
section
variable {W0 w w2 : World} {g gr : Nat} {s : ByteArray} {x x' : EC} {st st' : RS} {bv vv ev ev' : Value} {ge : Nat} {L : List Value}
theorem XR.alloc (h : XR W0 w g gr s x st bv vv ev) (o : Obj) : XR W0 (w.alloc o) g gr s x st bv vv ev := ⟨h.e.alloc o, h.r.alloc o, h.l⟩
theorem XE.new (h : XR W0 w g gr s x st bv vv ev) (L : List Value) : XE W0 (w.alloc (.cells L.toArray 80)) g gr s x st bv vv ev w.heap.size L :=
  ⟨h.alloc _, Has.new _ _ _, fun b hb e => by have := h.e.ownlt b hb; omega, fun e => by have := h.r.lt; omega, h.e.fr.size⟩
theorem XE.next (h : XE W0 w g gr s x st bv vv ev ge L) (hr : RDS w2 gr s st') (hk : Kp (fun b => b = gr) w w2) : XE W0 w2 g gr s x st' bv vv ev ge L :=
  ⟨h.x.next hr hk, Has.kp h.e hk h.nr, h.ne, h.nr, h.l⟩
theorem XE.put (h : XE W0 w g gr s x st bv vv ev ge L) (i : Nat) (u : Value) : XE W0 (w.setCell ⟨ge, i, none⟩ u) g gr s x st bv vv ev ge (L.set i u) := by
  have hk : Kp (fun b => b = ge) w (w.setCell ⟨ge, i, none⟩ u) := (Kp.refl (fun b => b = ge) w).setCell (p := ⟨ge, i, none⟩) rfl _
  exact ⟨⟨h.x.e.kp hk (fun b _ ho e => h.ne b ho e) (fun b _ e => by rw [e]; exact h.l), h.x.r.kp hk (fun e => h.nr e.symm), h.x.l⟩, h.e.set i u, h.ne, h.nr, h.l⟩
/-- an entry is put behind the others -/
theorem XR.push {v5 : World} {o : ES} (h : XR W0 w g gr s x st bv vv ev) (hg : w.grownBy v5 ev.ownBlock) (hown : v5.ownsRow 0 80 4 ev' (x.ents.length + 1) (erow x.ents ++ o.cells)) (hev : ∀ k, ev'.ownBlock = some k → ev.ownBlock = some k ∨ w.heap.size ≤ k) :
    Has v5 g 59 (eL x bv vv ev) ∧ XR W0 (v5.setCell ⟨g, 73, none⟩ ev') g gr s { x with ents := x.ents ++ [o] } st bv vv ev' := by
  obtain ⟨h1, h2⟩ := h.e.push hg hown hev
  have hr : Has w gr 96 _ := h.r.rd
  exact ⟨h1, h2, ⟨Has.other (grown_has hg hr (Has.apart hr h.e.e (by decide))) _ _ (fun e => h.apart g (.inl rfl) e.symm), h.r.p, h.r.sz⟩, h.l⟩
end
set_option maxHeartbeats 4000000 in
set_option maxRecDepth 100000 in
theorem readE_any (W0 w : World) (g gr : Nat) (s : ByteArray) (x : EC) (st : RS) (bv vv ev : Value) (h : XR W0 w g gr s x st bv vv ev) (b1 : 1 ≤ x.bal.length) (b6 : x.bal.length ≤ 6) (v1 : 1 ≤ x.vals.length) (v5 : x.vals.length ≤ 5) (h0 : 0 ≤ x.height) (h1 : x.height ≤ 1000) (he : x.ents = []) :
    Calls Tryz.prog 79 #[.pointer (some ⟨g, 0, none⟩), .pointer (some ⟨gr, 0, none⟩)] w fun e w' => e = .returned (.tuple #[]) ∧ ∃ ev', XR W0 w' g gr s (rdX4 s.data.toList (x, st)).1 (rdX4 s.data.toList (x, st)).2 bv vv ev' := by
  have HN : Hid (∀ (w' : World) (st : RS) (m : Int), RDS w' gr s st → 0 ≤ m → m ≤ 1073741824000000 → Calls Tryz.prog 76 #[.pointer (some ⟨gr, 0, none⟩), .int .i64 m] w' fun e w'' => e = .returned (.int .i64 (nx s.data.toList m st).1) ∧ RDS w'' gr s (nx s.data.toList m st).2 ∧ Kp (fun b => b = gr) w' w'') := fun w' st m a b c => next_any w' gr s st m a b c
  obtain ⟨i5, hi5, hz50, hz51, hz52⟩ := info_parts info_entP
  have hcb := nx_bd s.data.toList 120 st (by decide)
  obtain ⟨n, hn⟩ : ∃ n : Nat, (nx s.data.toList 120 st).1 = (n : Int) := ⟨(nx s.data.toList 120 st).1.toNat, by omega⟩
  have hX : rdX4 s.data.toList (x, st) = ({ x with ents := (rdE s.data.toList x.bal.length x.vals.length x.height (nx s.data.toList 120 st).2 n).1 }, (rdE s.data.toList x.bal.length x.vals.length x.height (nx s.data.toList 120 st).2 n).2) := by
    unfold rdX4; rw [hn, Int.toNat_natCast]
  have HX4 : Hid (rdX4 s.data.toList (x, st) = ({ x with ents := (rdE s.data.toList x.bal.length x.vals.length x.height (nx s.data.toList 120 st).2 n).1 }, (rdE s.data.toList x.bal.length x.vals.length x.height (nx s.data.toList 120 st).2 n).2)) := hX
  have HNn : Hid ((nx s.data.toList 120 st).1 = (n : Int)) := hn
  have hn1 : n ≤ 120 := by omega
  obtain ⟨ba, bc, rfl⟩ := ownsRow_slice h.e.b
  obtain ⟨va, vc, rfl⟩ := ownsRow_slice h.e.v
  have HR : Hid (XR W0 w g gr s x st (.slice ba x.bal.length bc) (.slice va x.vals.length vc) ev) := h
  clear h hn hcb hX
  go_enter Tryz.func79, Tryz.ntmps79
  go_wp2_with fail
  refine (HN.out w st 120 HR.out.r (by decide) (by decide)).mono ?_
  rintro e w1 ⟨rfl, hr1, hk1⟩
  rw [HNn.out]
  have HR1 : Hid (XR W0 w1 g gr s x (nx s.data.toList 120 st).2 (.slice ba x.bal.length bc) (.slice va x.vals.length vc) ev) := HR.out.next hr1 hk1
  clear hr1 hk1 HR
  obtain ⟨st1, hst1⟩ : ∃ st1, st1 = (nx s.data.toList 120 st).2 := ⟨_, rfl⟩
  rw [← hst1] at HR1 HX4
  clear hst1
  go_wp2
  go_loopw [5] (fun i wr => ∃ (k : Nat) (ev' : Value), k ≤ n ∧ i = .int .i64 k ∧ XR W0 wr g gr s { x with ents := (rdE s.data.toList x.bal.length x.vals.length x.height st1 k).1 } (rdE s.data.toList x.bal.length x.vals.length x.height st1 k).2 (.slice ba x.bal.length bc) (.slice va x.vals.length vc) ev') (fun i _ => n - (intOf i).toNat)
  case atStart => exact ⟨0, ev, Nat.zero_le _, rfl, by have := HR1.out; simp only [rdE]; rw [← he]; exact this⟩
  case round =>
    obtain ⟨k, ev1, hk, rfl, hx⟩ := hrel
    by_cases hlt : k < n
    · have hel : (rdE s.data.toList x.bal.length x.vals.length x.height st1 k).1.length = k := (rdE_bd s.data.toList x.bal.length x.vals.length x.height st1 (by omega) (by omega) h0 k).1
      have HL : Hid (rdE s.data.toList x.bal.length x.vals.length x.height st1 (k + 1) = ((rdE s.data.toList x.bal.length x.vals.length x.height st1 k).1 ++ [(rdE1 s.data.toList x.bal.length x.vals.length x.height (rdE s.data.toList x.bal.length x.vals.length x.height st1 k).2).1], (rdE1 s.data.toList x.bal.length x.vals.length x.height (rdE s.data.toList x.bal.length x.vals.length x.height st1 k).2).2)) := rfl
      generalize rdE s.data.toList x.bal.length x.vals.length x.height st1 k = q at *
      obtain ⟨l, st0⟩ := q
      dsimp only at hx hel HL
      have hl120 : l.length ≤ 120 := by omega
      clear hel
      have HX : Hid (XE W0 (wr.alloc (.cells #[.int .i64 0, .int .i64 0, .int .i64 0, .int .i64 0] 80)) g gr s { x with ents := l } st0 (.slice ba x.bal.length bc) (.slice va x.vals.length vc) ev1 wr.heap.size [.int .i64 0, .int .i64 0, .int .i64 0, .int .i64 0]) := XE.new hx _
      have c4 : wr.cell? ⟨g, 4, none⟩ = some (.slice ba x.bal.length bc) := hx.e.L.cell 4
      have lg := hx.e.L.lt
      clear hx HR1
      have le0 : wr.heap.size < wr.heap.size + 1 := Nat.lt_succ_self _
      go_wp2_with fail
      refine (HN.out _ st0 ((x.bal.length : Int) - 1) HX.out.x.r (by omega) (by omega)).mono ?_
      rintro e w2 ⟨rfl, hr2, hk2⟩
      have hx2 := HX.out.next hr2 hk2
      have c2 : w2.cell? ⟨wr.heap.size, 0, none⟩ = some (.int .i64 0) := hx2.e.cell 0
      have f2 := hx2.e.frozen 0
      have l2 := hx2.e.lt
      have d7 : w2.cell? ⟨g, 7, none⟩ = some (.slice va x.vals.length vc) := hx2.x.e.L.cell 7
      have n2 : g ≠ wr.heap.size := hx2.ne g (.inl rfl)
      have n2' : wr.heap.size ≠ g := fun e => n2 e.symm
      have HX2 : Hid (XE W0 (w2.setCell ⟨wr.heap.size, 0, none⟩ (.int .i64 (nx s.data.toList ((x.bal.length : Int) - 1) st0).1)) g gr s { x with ents := l } (nx s.data.toList ((x.bal.length : Int) - 1) st0).2 (.slice ba x.bal.length bc) (.slice va x.vals.length vc) ev1 wr.heap.size [.int .i64 (nx s.data.toList ((x.bal.length : Int) - 1) st0).1, .int .i64 0, .int .i64 0, .int .i64 0]) := hx2.put 0 _
      clear hr2 hk2 hx2 HX c4
      go_wp2_with fail
      refine (HN.out _ _ ((x.vals.length : Int) - 1) HX2.out.x.r (by omega) (by omega)).mono ?_
      rintro e w3 ⟨rfl, hr3, hk3⟩
      have hx3 := HX2.out.next hr3 hk3
      have c3 : w3.cell? ⟨wr.heap.size, 1, none⟩ = some (.int .i64 0) := hx3.e.cell 1
      have f3 := hx3.e.frozen 1
      have l3 := hx3.e.lt
      have d3 : w3.cell? ⟨g, 3, none⟩ = some (.int .i64 x.height) := hx3.x.e.L.cell 3
      have HX3 : Hid (XE W0 (w3.setCell ⟨wr.heap.size, 1, none⟩ (.int .i64 (nx s.data.toList ((x.vals.length : Int) - 1) (nx s.data.toList ((x.bal.length : Int) - 1) st0).2).1)) g gr s { x with ents := l } (nx s.data.toList ((x.vals.length : Int) - 1) (nx s.data.toList ((x.bal.length : Int) - 1) st0).2).2 (.slice ba x.bal.length bc) (.slice va x.vals.length vc) ev1 wr.heap.size [.int .i64 (nx s.data.toList ((x.bal.length : Int) - 1) st0).1, .int .i64 (nx s.data.toList ((x.vals.length : Int) - 1) (nx s.data.toList ((x.bal.length : Int) - 1) st0).2).1, .int .i64 0, .int .i64 0]) := hx3.put 1 _
      clear hr3 hk3 hx3 HX2 c2 f2 l2 d7
      go_wp2_with fail
      refine (HN.out _ _ x.height HX3.out.x.r h0 (by omega)).mono ?_
      rintro e w4 ⟨rfl, hr4, hk4⟩
      have hx4 := HX3.out.next hr4 hk4
      have c4 : w4.cell? ⟨wr.heap.size, 2, none⟩ = some (.int .i64 0) := hx4.e.cell 2
      have f4 := hx4.e.frozen 2
      have l4 := hx4.e.lt
      have HX4' : Hid (XE W0 (w4.setCell ⟨wr.heap.size, 2, none⟩ (.int .i64 (nx s.data.toList x.height (nx s.data.toList ((x.vals.length : Int) - 1) (nx s.data.toList ((x.bal.length : Int) - 1) st0).2).2).1)) g gr s { x with ents := l } (nx s.data.toList x.height (nx s.data.toList ((x.vals.length : Int) - 1) (nx s.data.toList ((x.bal.length : Int) - 1) st0).2).2).2 (.slice ba x.bal.length bc) (.slice va x.vals.length vc) ev1 wr.heap.size [.int .i64 (nx s.data.toList ((x.bal.length : Int) - 1) st0).1, .int .i64 (nx s.data.toList ((x.vals.length : Int) - 1) (nx s.data.toList ((x.bal.length : Int) - 1) st0).2).1, .int .i64 (nx s.data.toList x.height (nx s.data.toList ((x.vals.length : Int) - 1) (nx s.data.toList ((x.bal.length : Int) - 1) st0).2).2).1, .int .i64 0]) := hx4.put 2 _
      clear hr4 hk4 hx4 HX3 c3 f3 l3 d3
      go_wp2_with fail
      refine (HN.out _ _ 1000000 HX4'.out.x.r (by decide) (by decide)).mono ?_
      rintro e w5 ⟨rfl, hr5, hk5⟩
      have hx5 := HX4'.out.next hr5 hk5
      have c5 : w5.cell? ⟨wr.heap.size, 3, none⟩ = some (.int .i64 0) := hx5.e.cell 3
      have f5 := hx5.e.frozen 3
      have l5 := hx5.e.lt
      have hx6 := hx5.put 3 (.int .i64 (nx s.data.toList 1000000 (nx s.data.toList x.height (nx s.data.toList ((x.vals.length : Int) - 1) (nx s.data.toList ((x.bal.length : Int) - 1) st0).2).2).2).1)
      obtain ⟨ea, ec, rfl⟩ := ownsRow_slice hx5.x.e.e
      have HX6 : Hid (XE W0 (w5.setCell ⟨wr.heap.size, 3, none⟩ (.int .i64 (nx s.data.toList 1000000 (nx s.data.toList x.height (nx s.data.toList ((x.vals.length : Int) - 1) (nx s.data.toList ((x.bal.length : Int) - 1) st0).2).2).2).1)) g gr s { x with ents := l } (nx s.data.toList 1000000 (nx s.data.toList x.height (nx s.data.toList ((x.vals.length : Int) - 1) (nx s.data.toList ((x.bal.length : Int) - 1) st0).2).2).2).2 (.slice ba x.bal.length bc) (.slice va x.vals.length vc) (.slice ea l.length ec) wr.heap.size [.int .i64 (nx s.data.toList ((x.bal.length : Int) - 1) st0).1, .int .i64 (nx s.data.toList ((x.vals.length : Int) - 1) (nx s.data.toList ((x.bal.length : Int) - 1) st0).2).1, .int .i64 (nx s.data.toList x.height (nx s.data.toList ((x.vals.length : Int) - 1) (nx s.data.toList ((x.bal.length : Int) - 1) st0).2).2).1, .int .i64 (nx s.data.toList 1000000 (nx s.data.toList x.height (nx s.data.toList ((x.vals.length : Int) - 1) (nx s.data.toList ((x.bal.length : Int) - 1) st0).2).2).2).1]) := hx6
      have HF : Hid (∀ w', ∀ ev', XR W0 w' g gr s { x with ents := l ++ [⟨(nx s.data.toList ((x.bal.length : Int) - 1) st0).1, (nx s.data.toList ((x.vals.length : Int) - 1) (nx s.data.toList ((x.bal.length : Int) - 1) st0).2).1, (nx s.data.toList x.height (nx s.data.toList ((x.vals.length : Int) - 1) (nx s.data.toList ((x.bal.length : Int) - 1) st0).2).2).1, (nx s.data.toList 1000000 (nx s.data.toList x.height (nx s.data.toList ((x.vals.length : Int) - 1) (nx s.data.toList ((x.bal.length : Int) - 1) st0).2).2).2).1⟩] } (nx s.data.toList 1000000 (nx s.data.toList x.height (nx s.data.toList ((x.vals.length : Int) - 1) (nx s.data.toList ((x.bal.length : Int) - 1) st0).2).2).2).2 (.slice ba x.bal.length bc) (.slice va x.vals.length vc) ev' → XR W0 w' g gr s { x with ents := (rdE s.data.toList x.bal.length x.vals.length x.height st1 (k + 1)).1 } (rdE s.data.toList x.bal.length x.vals.length x.height st1 (k + 1)).2 (.slice ba x.bal.length bc) (.slice va x.vals.length vc) ev') := fun w' ev' h => by rw [HL.out]; exact h
      clear hr5 hk5 hx5 hx6 HX4' c4 f4 l4 HL
      generalize (nx s.data.toList 1000000 (nx s.data.toList x.height (nx s.data.toList ((x.vals.length : Int) - 1) (nx s.data.toList ((x.bal.length : Int) - 1) st0).2).2).2).1 = A4 at *
      generalize (nx s.data.toList 1000000 (nx s.data.toList x.height (nx s.data.toList ((x.vals.length : Int) - 1) (nx s.data.toList ((x.bal.length : Int) - 1) st0).2).2).2).2 = st5 at *
      generalize (nx s.data.toList x.height (nx s.data.toList ((x.vals.length : Int) - 1) (nx s.data.toList ((x.bal.length : Int) - 1) st0).2).2).1 = A3 at *
      generalize (nx s.data.toList ((x.vals.length : Int) - 1) (nx s.data.toList ((x.bal.length : Int) - 1) st0).2).1 = A2 at *
      generalize (nx s.data.toList ((x.bal.length : Int) - 1) st0).1 = A1 at *
      go_wp2_with fail
      obtain ⟨wy, hwy⟩ : ∃ wy, wy = w5.setCell ⟨wr.heap.size, 3, none⟩ (.int .i64 A4) := ⟨_, rfl⟩
      rw [← hwy] at HX6 ⊢
      clear hwy c5 f5 l5
      have y0 : wy.cell? ⟨wr.heap.size, 0, none⟩ = some (.int .i64 A1) := HX6.out.e.cell 0
      have y1 : wy.cell? ⟨wr.heap.size, 1, none⟩ = some (.int .i64 A2) := HX6.out.e.cell 1
      have y2 : wy.cell? ⟨wr.heap.size, 2, none⟩ = some (.int .i64 A3) := HX6.out.e.cell 2
      have y3 : wy.cell? ⟨wr.heap.size, 3, none⟩ = some (.int .i64 A4) := HX6.out.e.cell 3
      have d73 : wy.cell? ⟨g, 73, none⟩ = some (.slice ea l.length ec) := HX6.out.x.e.evAt
      have lg5 := HX6.out.x.e.L.lt
      have lg6 : g < wy.heap.size + 1 := by omega
      have le5 := HX6.out.e.lt
      have le6 : wr.heap.size < wy.heap.size + 1 := by omega
      go_region_law (refine step_append_sl2 rfl (.tmp 46) (.tmp 48) 39 rfl 80 i5 _ 4 32 Tryz.underlying39 hi5 hz50 hz51 hz52 rfl (by decide) 0 (.slice ea l.length ec) l.length (erow l) (by first | rfl | simp [Act.eval]) (HX6.out.x.e.alloc _).e (Nat.zero_le _) ⟨_, 0, none⟩ 1 1 [.int .i64 A1, .int .i64 A2, .int .i64 A3, .int .i64 A4] (by first | rfl | simp [Act.eval]) (by rfl) (cell_newAt _ [.int .i64 A1, .int .i64 A2, .int .i64 A3, .int .i64 A4] _ _ (by simp)) (by simp [Value.oneCell']) (by decide) (by simp [maxLen]; omega) (by omega) ?_; intro g5 cap5 v5 hown5 hgrow5 hor5 hold5; obtain ⟨hL5, hP5⟩ := ((HX6.out.x.alloc _).drew).push (o := ⟨A1, A2, A3, A4⟩) hgrow5 hown5 (fun q hq => by simp only [Value.ownBlock, Option.some.injEq] at hq; rw [← hq]; exact hor5); have c73' : v5.cell? ⟨g, 73, none⟩ = some (.slice ea l.length ec) := (hL5.cell 73).trans (eL_ev _ _ _ _ HX6.out.x.e.ht); have f73' := hL5.frozen 73; have HP5 : Hid _ := hP5; clear hP5 hown5 hgrow5 hor5 hold5 hL5)
      all_goals
        go_wp2
        refine And.intro ?_ ?_
        · first | exact ⟨k + 1, _, by omega, by go_num, HF.out _ _ HP5.out⟩ | ((repeat apply Exists.intro); exact ⟨⟨k + 1, _, by omega, by go_num, HF.out _ _ HP5.out⟩, rfl⟩)
        · simp [intOf]; omega
    · have ek : k = n := by omega
      subst ek
      have HF : Hid (XR W0 wr g gr s (rdX4 s.data.toList (x, st)).1 (rdX4 s.data.toList (x, st)).2 (.slice ba x.bal.length bc) (.slice va x.vals.length vc) ev1) := by rw [HX4.out]; exact hx
      clear hx HX4
      go_wp2
      go_end0
      exact ⟨rfl, _, HF.out⟩
end Go.Proofs.YtohjjgefklhmaabGreatDoor
