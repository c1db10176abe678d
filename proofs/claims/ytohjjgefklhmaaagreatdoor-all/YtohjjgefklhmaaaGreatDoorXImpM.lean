import Derived.Test.YtohjjgefklhmaaaGreatDoorXNextM
import Derived.Deep.RegionWith
import Derived.Deep.DeepCutAuto
namespace Go.Proofs.YtohjjgefklhmaaaGreatDoor
open Go.ChangeShapes Go.WideShapes Go.ChangeAt Go.RowKit
set_option linter.unusedVariables false
set_option maxHeartbeats 40000000
set_option maxRecDepth 100000
variable {gv n cap : Nat}
structure XR (W0 w : World) (g gr : Nat) (s : ByteArray) (x : EC) (st : RSE) (bv vv ev : Value) : Prop where
 e : PE (fun k => W0.heap.size <= k) W0 w g x bv vv ev
 r : RDS w gr s st
 l : W0.heap.size <= gr
section
variable {W0 w w2 : World} {g gr : Nat} {s : ByteArray} {x x' : EC} {st st' : RSE} {bv vv ev ev' : Value}
theorem XR.apart (h : XR W0 w g gr s x st bv vv ev) : ∀ b, Own g bv vv ev b -> b ≠ gr := by
 have hr : Has w gr 117 _ := h.r.rd
 rintro b (rfl | hb | hb | hb) e
 ·subst e
  have h1 := h.e.L
  unfold Has at h1 hr
  rw [h1] at hr
  simp only [Option.some.injEq, Obj.cells.injEq] at hr
  exact absurd hr.2.1 (by decide)
 ·subst e; exact Has.apart hr h.e.b (by decide) hb.symm
 ·subst e; exact Has.apart hr h.e.v (by decide) hb.symm
 ·subst e; exact Has.apart hr h.e.e (by decide) hb.symm
theorem XR.next (h : XR W0 w g gr s x st bv vv ev) (hr : RDS w2 gr s st') (hk : Kp (fun b => b = gr) w w2) : XR W0 w2 g gr s x st' bv vv ev :=
 ⟨h.e.kp hk (fun b _ ho e => h.apart b ho e) (fun b _ e => by rw [e]; exact h.l), hr, h.l⟩
theorem XR.drew (h : XR W0 w g gr s x st bv vv ev) : XR W0 w.drew g gr s x st bv vv ev := ⟨h.e.drew, ⟨h.r.rd, h.r.p, h.r.sz⟩, h.l⟩
theorem XR.head (h : XR W0 w g gr s x st bv vv ev) (i : Nat) (u : Value) (he : (eL x bv vv ev).set i u = eL x' bv vv ev) (hb : x'.bal = x.bal) (hv : x'.vals = x.vals) (hE : x'.ents = x.ents) (ht : x'.tab = x.tab) : XR W0 (w.setCell ⟨g, i, none⟩ u) g gr s x' st bv vv ev :=
 ⟨h.e.setHead i u he hb hv hE ht, ⟨Has.other h.r.rd _ _ (fun e => h.apart g (.inl rfl) e.symm), h.r.p, h.r.sz⟩, h.l⟩
theorem XR.tab (h : XR W0 w g gr s x st bv vv ev) (j : Nat) (y : Int) (hj : j < 65) : XR W0 (w.setCell ⟨g, 8 + j, none⟩ (.int .i64 y)) g gr s { x with tab := x.tab.set j y } st bv vv ev :=
 ⟨h.e.setTab j y hj, ⟨Has.other h.r.rd _ _ (fun e => h.apart g (.inl rfl) e.symm), h.r.p, h.r.sz⟩, h.l⟩
theorem XR.val {vals' : List VS} (h : XR W0 w g gr s x st bv (.slice (some ⟨gv, 0, none⟩) n cap) ev) (hn : n = x.vals.length) (i : Nat) (u : Value) (he : (A5 x.vals).set i u = A5 vals') (hl : vals'.length = x.vals.length) : XR W0 (w.setCell ⟨gv, i, none⟩ u) g gr s { x with vals := vals' } st bv (.slice (some ⟨gv, 0, none⟩) n cap) ev :=
 ⟨h.e.setVal hn i u he hl, ⟨Has.other h.r.rd _ _ (fun e => h.apart gv (.inr (.inr (.inl rfl))) e.symm), h.r.p, h.r.sz⟩, h.l⟩
theorem XR.mod (h : XR W0 w g gr s x st bv (.slice (some ⟨gv, 0, none⟩) n cap) ev) (hn : n = x.vals.length) (k : Nat) (hk : k < x.vals.length) (i : Nat) (hi : i < 8) (u : Value) (f : VS -> VS) (hx : x.vals[k].cells.set i u = (f x.vals[k]).cells) : XR W0 (w.setCell ⟨gv, k * 8 + i, none⟩ u) g gr s { x with vals := x.vals.modify k f } st bv (.slice (some ⟨gv, 0, none⟩) n cap) ev :=
 h.val hn _ _ (Bk x.vals k hk i u f hx hi) (by simp)
def CV (w : World) (gv k : Nat) : Prop := (∃ a, w.cell? ⟨gv, k * 8 + 2, none⟩ = some (.int .i64 a)) ∧ (∃ a, w.cell? ⟨gv, k * 8 + 4, none⟩ = some (.int .i64 a)) ∧ (∃ a, w.cell? ⟨gv, k * 8 + 5, none⟩ = some (.int .i64 a)) ∧ (∃ b, w.cell? ⟨gv, k * 8 + 6, none⟩ = some (.bool b)) ∧ (∃ b, w.cell? ⟨gv, k * 8 + 7, none⟩ = some (.bool b))
theorem XR.cellV (h : XR W0 w g gr s x st bv (.slice (some ⟨gv, 0, none⟩) n cap) ev) (hn : x.vals.length = n) {k : Nat} (hk : k < n) : w.cell? ⟨g, 7, none⟩ = some (.slice (some ⟨gv, 0, none⟩) n cap) ∧ CV w gv k ∧ (∀ j, w.frozen? ⟨gv, j, none⟩ = false) := by
 obtain ⟨gv', e, h1, h2⟩ := h.e.val8 hn.symm (k := k) (by omega)
 simp only [Option.some.injEq, Addr.mk.injEq, and_true] at e
 subst e
 exact ⟨h.e.L.cell 7, ⟨⟨_, h1 2 (by omega)⟩, ⟨_, h1 4 (by omega)⟩, ⟨_, h1 5 (by omega)⟩, ⟨_, h1 6 (by omega)⟩, ⟨_, h1 7 (by omega)⟩⟩, h2⟩
end
theorem NW (W0 w : World) (g gr : Nat) (s : ByteArray) (x : EC) (st : RSE) (bv vv ev : Value) (h : XR W0 w g gr s x st bv vv ev) (v5 : x.vals.length <= 5) :
  Calls Tryz.prog 79 #[.pointer (some ⟨g, 0, none⟩), .pointer (some ⟨gr, 0, none⟩)] w fun e w' => e = .returned (.tuple #[]) ∧ XR W0 w' g gr s (rdV s.data.toList (x, st) x.vals.length).1 (rdV s.data.toList (x, st) x.vals.length).2 bv vv ev := by
 have HN : Hid (∀ (w' : World) (st : RSE) (m : Int), RDS w' gr s st -> 0 <= m -> m <= 1073741824000000 -> Calls Tryz.prog 78 #[.pointer (some ⟨gr, 0, none⟩), .int .i64 m] w' fun e w'' => e = .returned (.int .i64 (nx s.data.toList m st).1) ∧ RDS w'' gr s (nx s.data.toList m st).2 ∧ Kp (fun b => b = gr) w' w'') := fun w' st m a b c => Ew w' gr s st m a b c
 obtain ⟨va, vc, rfl⟩ := Ac h.e.v
 have c7 : w.cell? ⟨g, 7, none⟩ = some (.slice va x.vals.length vc) := h.e.L.cell 7
 have HR := Hd h
 clear h
 go_enter Tryz.func79, Tryz.ntmps79
 go_wp2
 go_loopw [11] (fun i wr => ∃ k : Nat, k <= x.vals.length ∧ i = .int .i64 k ∧ XR W0 wr g gr s (rdV s.data.toList (x, st) k).1 (rdV s.data.toList (x, st) k).2 bv (.slice va x.vals.length vc) ev ∧ (rdV s.data.toList (x, st) k).1.vals.length = x.vals.length) (fun i _ => x.vals.length - (intOf i).toNat)
 case atStart => exact ⟨0, Nat.zero_le _, rfl, HR.out, rfl⟩
 case round =>
  obtain ⟨k, hk, rfl, hx, hl⟩ := hrel
  by_cases hlt : k < x.vals.length
  ·obtain ⟨gv, hgv, _⟩ := Ag (a := va) (n := x.vals.length) (c := vc) (by have := hx.e.v; rw [hl] at this; exact this) (by omega)
   subst hgv
   have HL : Hid (rdV s.data.toList (x, st) (k + 1) = L9 s.data.toList k (rdV s.data.toList (x, st) k)) := rfl
   generalize rdV s.data.toList (x, st) k = q at *
   obtain ⟨y, st0⟩ := q
   dsimp only at hx hl
   have HX := Hd hx
   have HLn := Hd hl
   clear hx hl HR
   obtain ⟨d7, ⟨⟨ca, cy⟩, _⟩, hf⟩ := HX.out.cellV HLn.out (k := k) hlt
   have fc := hf (k * 8 + 2)
   clear hf
   go_wp2_with fail
   go_cut [] (fun wx => XR W0 wx g gr s { y with vals := y.vals.modify k (fun v => { v with tokens := (nx s.data.toList 1000000 st0).1 }) } (nx s.data.toList 1000000 st0).2 bv (.slice (some ⟨gv, 0, none⟩) x.vals.length vc) ev)
   case first =>
    go_region_with (go_at_call 78; refine (HN.out _ st0 1000000 HX.out.drew.r (by decide) (by decide)).mono ?_; rintro e w2 ⟨rfl, hr2, hk2⟩; have hx2 := HX.out.drew.next hr2 hk2; obtain ⟨d7', ⟨⟨ca2, cy2⟩, _⟩, hf'⟩ := hx2.cellV HLn.out (k := k) hlt; have fc2 := hf' (k * 8 + 2); have HX2 := Hd hx2; clear hx2 hr2 hk2 hf')
    all_goals (go_wp2_with fail; go_meet; exact HX2.out.mod HLn.out.symm k (by have := HLn.out; omega) 2 (by omega) _ _ rfl)
   case rest =>
    obtain ⟨y1, hy1⟩ : ∃ z : EC, z = { y with vals := y.vals.modify k (fun v => { v with tokens := (nx s.data.toList 1000000 st0).1 }) } := ⟨_, rfl⟩
    rw [<- hy1] at hcut
    have HY1 := Hd hy1
    have hl1 : y1.vals.length = x.vals.length := by rw [hy1]; simp only [List.length_modify]; exact HLn.out
    clear HLn hy1 d7 cy fc HX
    have HLn := Hd hl1
    have HX1 := Hd hcut
    clear hcut hl1
    obtain ⟨w1x, hw1x⟩ : ∃ w', w' = wc := ⟨_, rfl⟩
    rw [<- hw1x] at HX1 ⊢
    clear hw1x
    obtain ⟨d7, ⟨_, ⟨ca, cy⟩, _⟩, hf⟩ := HX1.out.cellV HLn.out (k := k) hlt
    have fc := hf (k * 8 + 4)
    clear hf
    go_wp2_with fail
    go_cut [] (fun wx => XR W0 wx g gr s { y1 with vals := y1.vals.modify k (fun v => { v with comm := (nx s.data.toList 1000000 (nx s.data.toList 1000000 st0).2).1 }) } (nx s.data.toList 1000000 (nx s.data.toList 1000000 st0).2).2 bv (.slice (some ⟨gv, 0, none⟩) x.vals.length vc) ev)
    case first =>
     go_region_with (go_at_call 78; refine (HN.out _ (nx s.data.toList 1000000 st0).2 1000000 HX1.out.drew.r (by decide) (by decide)).mono ?_; rintro e w2 ⟨rfl, hr2, hk2⟩; have hx2 := HX1.out.drew.next hr2 hk2; obtain ⟨d7', ⟨_, ⟨ca2, cy2⟩, _⟩, hf'⟩ := hx2.cellV HLn.out (k := k) hlt; have fc2 := hf' (k * 8 + 4); have HX2 := Hd hx2; clear hx2 hr2 hk2 hf')
     all_goals (go_wp2_with fail; go_meet; exact HX2.out.mod HLn.out.symm k (by have := HLn.out; omega) 4 (by omega) _ _ rfl)
    case rest =>
     obtain ⟨y2, hy2⟩ : ∃ z : EC, z = { y1 with vals := y1.vals.modify k (fun v => { v with comm := (nx s.data.toList 1000000 (nx s.data.toList 1000000 st0).2).1 }) } := ⟨_, rfl⟩
     rw [<- hy2] at hcut
     have HY2 := Hd hy2
     have hl2 : y2.vals.length = x.vals.length := by rw [hy2]; simp only [List.length_modify]; exact HLn.out
     clear HLn hy2 d7 cy fc HX1
     have HLn := Hd hl2
     have HX2 := Hd hcut
     clear hcut hl2
     obtain ⟨w2x, hw2x⟩ : ∃ w', w' = wc := ⟨_, rfl⟩
     rw [<- hw2x] at HX2 ⊢
     clear hw2x
     obtain ⟨d7, ⟨_, _, ⟨ca, cy⟩, _⟩, hf⟩ := HX2.out.cellV HLn.out (k := k) hlt
     have fc := hf (k * 8 + 5)
     clear hf
     go_wp2_with fail
     go_cut [] (fun wx => XR W0 wx g gr s { y2 with vals := y2.vals.modify k (fun v => { v with outs := (nx s.data.toList 1000000 (nx s.data.toList 1000000 (nx s.data.toList 1000000 st0).2).2).1 }) } (nx s.data.toList 1000000 (nx s.data.toList 1000000 (nx s.data.toList 1000000 st0).2).2).2 bv (.slice (some ⟨gv, 0, none⟩) x.vals.length vc) ev)
     case first =>
      go_region_with (go_at_call 78; refine (HN.out _ (nx s.data.toList 1000000 (nx s.data.toList 1000000 st0).2).2 1000000 HX2.out.drew.r (by decide) (by decide)).mono ?_; rintro e w2 ⟨rfl, hr2, hk2⟩; have hx2 := HX2.out.drew.next hr2 hk2; obtain ⟨d7', ⟨_, _, ⟨ca2, cy2⟩, _⟩, hf'⟩ := hx2.cellV HLn.out (k := k) hlt; have fc2 := hf' (k * 8 + 5); have HX2 := Hd hx2; clear hx2 hr2 hk2 hf')
      all_goals (go_wp2_with fail; go_meet; exact HX2.out.mod HLn.out.symm k (by have := HLn.out; omega) 5 (by omega) _ _ rfl)
     case rest =>
      obtain ⟨y3, hy3⟩ : ∃ z : EC, z = { y2 with vals := y2.vals.modify k (fun v => { v with outs := (nx s.data.toList 1000000 (nx s.data.toList 1000000 (nx s.data.toList 1000000 st0).2).2).1 }) } := ⟨_, rfl⟩
      rw [<- hy3] at hcut
      have HY3 := Hd hy3
      have hl3 : y3.vals.length = x.vals.length := by rw [hy3]; simp only [List.length_modify]; exact HLn.out
      clear HLn hy3 d7 cy fc HX2
      have HLn := Hd hl3
      have HX3 := Hd hcut
      clear hcut hl3
      obtain ⟨w3x, hw3x⟩ : ∃ w', w' = wc := ⟨_, rfl⟩
      rw [<- hw3x] at HX3 ⊢
      clear hw3x
      go_wp2_with fail
      refine (HN.out _ (nx s.data.toList 1000000 (nx s.data.toList 1000000 (nx s.data.toList 1000000 st0).2).2).2 2 HX3.out.r (by decide) (by decide)).mono ?_
      rintro e w4 ⟨rfl, hr4, hk4⟩
      have hx4 := HX3.out.next hr4 hk4
      obtain ⟨d7, ⟨_, _, _, ⟨b6, y6⟩, ⟨b7, y7⟩⟩, hf⟩ := hx4.cellV HLn.out (k := k) hlt
      have f6 := hf (k * 8 + 6)
      have f7 := hf (k * 8 + 7)
      have HX4 : Hid (XR W0 w4 g gr s y3 (nx s.data.toList 2 (nx s.data.toList 1000000 (nx s.data.toList 1000000 (nx s.data.toList 1000000 st0).2).2).2).2 bv (.slice (some ⟨gv, 0, none⟩) x.vals.length vc) ev) := hx4
      clear hr4 hk4 hx4 hf HX3
      have hm1 := HX4.out.mod HLn.out.symm k (by have := HLn.out; omega) 6 (by omega) (.bool ((nx s.data.toList 2 (nx s.data.toList 1000000 (nx s.data.toList 1000000 (nx s.data.toList 1000000 st0).2).2).2).1 == 2)) (fun v => { v with jailed := decide ((nx s.data.toList 2 (nx s.data.toList 1000000 (nx s.data.toList 1000000 (nx s.data.toList 1000000 st0).2).2).2).1 = 2) }) rfl
      have hm2 := hm1.mod (by simp only [List.length_modify]; exact HLn.out.symm) k (by simp only [List.length_modify]; have := HLn.out; omega) 7 (by omega) (.bool ((nx s.data.toList 2 (nx s.data.toList 1000000 (nx s.data.toList 1000000 (nx s.data.toList 1000000 st0).2).2).2).1 == 1)) (fun v => { v with inset := decide ((nx s.data.toList 2 (nx s.data.toList 1000000 (nx s.data.toList 1000000 (nx s.data.toList 1000000 st0).2).2).2).1 = 1) }) rfl
      have hfl : (rdV s.data.toList (x, st) (k + 1)).1.vals.length = x.vals.length := by
       rw [HL.out]
       have h3 := HLn.out
       rw [HY3.out, HY2.out, HY1.out] at h3
       simp only [List.length_modify] at h3
       simp only [L9, List.length_modify]; exact h3
      rw [HY3.out, HY2.out, HY1.out] at hm2
      have hfx : XR W0 ((w4.setCell ⟨gv, k * 8 + 6, none⟩ (.bool ((nx s.data.toList 2 (nx s.data.toList 1000000 (nx s.data.toList 1000000 (nx s.data.toList 1000000 st0).2).2).2).1 == 2))).setCell ⟨gv, k * 8 + 7, none⟩ (.bool ((nx s.data.toList 2 (nx s.data.toList 1000000 (nx s.data.toList 1000000 (nx s.data.toList 1000000 st0).2).2).2).1 == 1))) g gr s (rdV s.data.toList (x, st) (k + 1)).1 (rdV s.data.toList (x, st) (k + 1)).2 bv (.slice (some ⟨gv, 0, none⟩) x.vals.length vc) ev := by
       rw [HL.out]; exact hm2
      have HFL := Hd hfl
      have HFX := Hd hfx
      clear hm1 hm2 hfl hfx HX4
      go_wp2
      refine And.intro ?_ ?_
      ·first | exact ⟨k + 1, by omega, by go_num, HFX.out, HFL.out⟩ | ((repeat apply Exists.intro); exact ⟨⟨k + 1, by omega, by go_num, HFX.out, HFL.out⟩, rfl⟩)
      ·simp [intOf]; omega
  ·have ek : k = x.vals.length := by omega
   subst ek
   have HX := Hd hx
   clear hx hl
   go_wp2
   go_end0
   exact ⟨rfl, HX.out⟩
section
variable {W0 w w2 : World} {g gr : Nat} {s : ByteArray} {x x' : EC} {st st' : RSE} {bv vv ev ev' : Value}
theorem XR.cellS (h : XR W0 w g gr s x st bv (.slice (some ⟨gv, 0, none⟩) n cap) ev) (hn : x.vals.length = n) {j k : Nat} (hj : j < n) (hk : k < 6) (h5 : n <= 5) :
  w.cell? ⟨g, 7, none⟩ = some (.slice (some ⟨gv, 0, none⟩) n cap) ∧ w.cell? ⟨gv, j * 8 + 3, none⟩ = some (.int .i64 (x.val j).shares) ∧ w.frozen? ⟨gv, j * 8 + 3, none⟩ = false ∧ w.cell? ⟨g, 8 + k * 5 + j, none⟩ = some (.int .i64 (x.sh k j)) ∧ w.frozen? ⟨g, 8 + k * 5 + j, none⟩ = false ∧ w.cell? ⟨g, 38 + j, none⟩ = some (.int .i64 (x.per j)) ∧ w.cell? ⟨g, 43 + k * 5 + j, none⟩ = some (.int .i64 (x.upto k j)) ∧ w.frozen? ⟨g, 43 + k * 5 + j, none⟩ = false ∧ g ≠ gv ∧ g < w.heap.size ∧ gv < w.heap.size := by
 obtain ⟨gv', e, h1, h2⟩ := h.e.val8 hn.symm (k := j) (by omega)
 simp only [Option.some.injEq, Addr.mk.injEq, and_true] at e
 subst e
 have h3 := h1 3 (by omega)
 rw [EC.val_eq x (by omega)] at h3
 exact ⟨h.e.L.cell 7, h3, h2 _, h.e.shAt hk (by omega), h.e.L.frozen _, h.e.perAt (by omega), h.e.uptoAt hk (by omega), h.e.L.frozen _, fun e => Has.apart h.e.L h.e.v (by decide) (by rw [e]; rfl), h.e.L.lt, (h.e.v.lt gv rfl).2⟩
end
theorem MD (f : Nat -> Int) (c : Int) (n : Nat) (h : ∀ k, k < n -> 0 <= f k ∧ f k <= c) : 0 <= BJ f n ∧ BJ f n <= c * n := by
 induction n with
 | zero => simp [BJ]
 | succ n ih =>
  have h1 := ih (fun k hk => h k (by omega))
  have h2 := h n (by omega)
  simp only [BJ, Int.natCast_add, Int.mul_add]; omega
theorem DM.shares {x0 x : EC} {k j i : Nat} (d : DM GBd x0 k j x) (hk : k <= 6) (hi : i < x0.vals.length) (hv : x0.vals.length <= 5) (h0 : (x0.val i).shares = 0) (hij : ¬ i < j) : 0 <= (x.val i).shares ∧ (x.val i).shares <= 6000000 := by
 have h1 := d.val i hi
 rw [if_neg hij, h0] at h1
 have h2 := MD (fun r => x.sh r i) 1000000 k (fun r hr => by have := d.lo r i (by omega) hi (.inl hr); exact ⟨this.1, this.2.1⟩)
 rw [h1]
 simp only; omega
theorem NC (W0 w : World) (g gr : Nat) (s : ByteArray) (x : EC) (st : RSE) (bv vv ev : Value) (h : XR W0 w g gr s x st bv vv ev) (b6 : x.bal.length <= 6) (v5 : x.vals.length <= 5) (ht : x.tab = List.replicate 65 0) (hz : ∀ i, i < x.vals.length -> (x.val i).shares = 0) :
  Calls Tryz.prog 80 #[.pointer (some ⟨g, 0, none⟩), .pointer (some ⟨gr, 0, none⟩)] w fun e w' => e = .returned (.tuple #[]) ∧ XR W0 w' g gr s (C6 s.data.toList (x, st) x.vals.length x.bal.length).1 (C6 s.data.toList (x, st) x.vals.length x.bal.length).2 bv vv ev := by
 have HN : Hid (∀ (w' : World) (st : RSE) (m : Int), RDS w' gr s st -> 0 <= m -> m <= 1073741824000000 -> Calls Tryz.prog 78 #[.pointer (some ⟨gr, 0, none⟩), .int .i64 m] w' fun e w'' => e = .returned (.int .i64 (nx s.data.toList m st).1) ∧ RDS w'' gr s (nx s.data.toList m st).2 ∧ Kp (fun b => b = gr) w' w'') := fun w' st m a b c => Ew w' gr s st m a b c
 have HDM : Hid (∀ k j, k < x.bal.length -> j <= x.vals.length -> DM GBd x k j (Fd s.data.toList k (C6 s.data.toList (x, st) x.vals.length k) j).1) := fun k j hk hj => Mt (Ht (q := (x, st)) ht v5 k (by omega)) (by omega) v5 j hj
 have HDA : Hid (∀ k, k <= x.bal.length -> DM GBd x k 0 (C6 s.data.toList (x, st) x.vals.length k).1) := fun k hk => Ht (q := (x, st)) ht v5 k (by omega)
 obtain ⟨ba, bc, rfl⟩ := Ac h.e.b
 obtain ⟨va, vc, rfl⟩ := Ac h.e.v
 have c4 : w.cell? ⟨g, 4, none⟩ = some (.slice ba x.bal.length bc) := h.e.L.cell 4
 have HR := Hd h
 clear h ht
 go_enter Tryz.func80, Tryz.ntmps80
 go_wp2
 go_loopw [13] (fun i wr => ∃ k : Nat, k <= x.bal.length ∧ i = .int .i64 k ∧ XR W0 wr g gr s (C6 s.data.toList (x, st) x.vals.length k).1 (C6 s.data.toList (x, st) x.vals.length k).2 (.slice ba x.bal.length bc) (.slice va x.vals.length vc) ev) (fun i _ => x.bal.length - (intOf i).toNat)
 case atStart => exact ⟨0, Nat.zero_le _, rfl, HR.out⟩
 case round =>
  obtain ⟨k, hk, rfl, hx⟩ := hrel
  have d7 : wr.cell? ⟨g, 7, none⟩ = some (.slice va x.vals.length vc) := hx.e.L.cell 7
  have HX := Hd hx
  by_cases hk1 : k < x.bal.length
  ·clear hx HR
   go_wp2
   obtain ⟨wo, rfl⟩ : ∃ wo : World, wo = wr := ⟨_, rfl⟩
   go_loopw [21] (fun i wr => ∃ j : Nat, j <= x.vals.length ∧ i = .int .i64 j ∧ XR W0 wr g gr s (Fd s.data.toList k (C6 s.data.toList (x, st) x.vals.length k) j).1 (Fd s.data.toList k (C6 s.data.toList (x, st) x.vals.length k) j).2 (.slice ba x.bal.length bc) (.slice va x.vals.length vc) ev) (fun i _ => x.vals.length - (intOf i).toNat)
   case atStart => exact ⟨0, Nat.zero_le _, rfl, HX.out⟩
   case round =>
    clear HX
    obtain ⟨j, hj, rfl, hx⟩ := hrel
    have hdm := HDM.out k j hk1 hj
    have HL : Hid (Fd s.data.toList k (C6 s.data.toList (x, st) x.vals.length k) (j + 1) = FX s.data.toList k j (Fd s.data.toList k (C6 s.data.toList (x, st) x.vals.length k) j)) := rfl
    by_cases hj1 : j < x.vals.length
    ·have hl : (Fd s.data.toList k (C6 s.data.toList (x, st) x.vals.length k) j).1.vals.length = x.vals.length := hdm.vl
     obtain ⟨gv, hgv, _⟩ := Ag (a := va) (n := x.vals.length) (c := vc) (by have := hx.e.v; rw [hl] at this; exact this) (by omega)
     subst hgv
     have hsb := hdm.shares (i := j) (by omega) hj1 v5 (hz j hj1) (by omega)
     have hpb := hdm.per j (by omega)
     have htl := hdm.tl
     generalize Fd s.data.toList k (C6 s.data.toList (x, st) x.vals.length k) j = q at *
     obtain ⟨y, st0⟩ := q
     dsimp only at hx hl hsb hpb htl hdm
     have hab := Cg s.data.toList 1000000 st0 (by decide)
     have HX := Hd hx
     clear hx hdm
     go_wp2_with fail
     refine (HN.out _ st0 1000000 HX.out.r (by decide) (by decide)).mono ?_
     rintro e w2 ⟨rfl, hr2, hk2⟩
     have hx2 := HX.out.next hr2 hk2
     obtain ⟨e7, e3, k3, eS, kS, eP, eU, kU, ng, lg, lv⟩ := hx2.cellS hl (j := j) (k := k) hj1 (by omega) v5
     have hx3 := hx2.tab (k * 5 + j) (nx s.data.toList 1000000 st0).1 (by omega)
     rw [<- Nat.add_assoc] at hx3
     have hx4 := hx3.mod (by exact hl.symm) j (by show j < y.vals.length; omega) 3 (by omega) (.int .i64 ((y.val j).shares + (nx s.data.toList 1000000 st0).1)) (fun v => { v with shares := v.shares + (nx s.data.toList 1000000 st0).1 }) (by show _ = VS.cells _; rw [show y.vals[j] = y.val j from EC.val_eq y (by omega)]; rfl)
     have HX4 : Hid (XR W0 ((w2.setCell ⟨g, 8 + k * 5 + j, none⟩ (.int .i64 (nx s.data.toList 1000000 st0).1)).setCell ⟨gv, j * 8 + 3, none⟩ (.int .i64 ((y.val j).shares + (nx s.data.toList 1000000 st0).1))) g gr s (ED s.data.toList k j (y, st0)) (nx s.data.toList 1000000 st0).2 (.slice ba x.bal.length bc) (.slice (some ⟨gv, 0, none⟩) x.vals.length vc) ev) := hx4
     have ng' : gv ≠ g := fun e => ng e.symm
     clear hr2 hk2 hx2 hx3 hx4 HX
     have hpr : (ED s.data.toList k j (y, st0)).per j = 0 := by
      show (y.tab.set (k * 5 + j) _).getD (30 + j) 0 = 0
      rw [La (by omega)]; exact hpb
     have hul : (ED s.data.toList k j (y, st0)).tab.length = 65 := by simp only [ED, List.length_set]; exact htl
     have hvl : (ED s.data.toList k j (y, st0)).vals.length = x.vals.length := by simp only [ED, List.length_modify]; exact hl
     by_cases hs : 0 < (nx s.data.toList 1000000 st0).1
     ·have HD : Hid (FX s.data.toList k j (y, st0) = ({ ED s.data.toList k j (y, st0) with tab := (ED s.data.toList k j (y, st0)).tab.set (35 + (k * 5 + j)) ((ED s.data.toList k j (y, st0)).per j - (nx s.data.toList 1073741824000000 (nx s.data.toList 1000000 st0).2).1) }, (nx s.data.toList 1073741824000000 (nx s.data.toList 1000000 st0).2).2)) := by
       show FX s.data.toList k j (y, st0) = _
       unfold FX; rw [if_pos hs]
      have hpb2 := Cg s.data.toList 1073741824000000 (nx s.data.toList 1000000 st0).2 (by decide)
      rw [hpr] at HD
      have HPR := Hd hpr
      have HVL := Hd hvl
      generalize ED s.data.toList k j (y, st0) = z at *
      generalize (nx s.data.toList 1000000 st0).2 = st1 at *
      generalize (nx s.data.toList 1000000 st0).1 = a at *
      generalize (y.val j).shares = sj at *
      clear hpr hvl hl
      go_wp2_with fail
      refine (HN.out _ st1 1073741824000000 HX4.out.r (by decide) (by decide)).mono ?_
      rintro e w5 ⟨rfl, hr5, hk5⟩
      have hx5 := HX4.out.next hr5 hk5
      obtain ⟨_, _, _, _, _, eP5, eU5, kU5, _, lg5, _⟩ := hx5.cellS HVL.out (j := j) (k := k) hj1 (by omega) v5
      rw [HPR.out] at eP5
      have hx6 := hx5.tab (35 + (k * 5 + j)) (0 - (nx s.data.toList 1073741824000000 st1).1) (by omega)
      rw [<- Nat.add_assoc, <- Nat.add_assoc] at hx6
      have HF : Hid (XR W0 (w5.setCell ⟨g, 43 + k * 5 + j, none⟩ (.int .i64 (- (nx s.data.toList 1073741824000000 st1).1))) g gr s (Fd s.data.toList k (C6 s.data.toList (x, st) x.vals.length k) (j + 1)).1 (Fd s.data.toList k (C6 s.data.toList (x, st) x.vals.length k) (j + 1)).2 (.slice ba x.bal.length bc) (.slice (some ⟨gv, 0, none⟩) x.vals.length vc) ev) := by
       rw [HL.out, HD.out, <- Int.zero_sub (nx s.data.toList 1073741824000000 st1).1]; exact hx6
      generalize (nx s.data.toList 1073741824000000 st1).1 = pv at *
      generalize z.upto k j = uv at *
      clear hr5 hk5 hx5 hx6 HX4 HD HL e7 e3 k3 eS kS eP eU kU
      go_wp2
      go_region
      go_wp2
      refine And.intro ?_ ?_
      ·first | exact ⟨j + 1, by omega, by go_num, HF.out.drew⟩ | ((repeat apply Exists.intro); exact ⟨⟨j + 1, by omega, by go_num, HF.out.drew⟩, rfl⟩)
      ·simp [intOf]; omega
     ·have HD : Hid (FX s.data.toList k j (y, st0) = (ED s.data.toList k j (y, st0), (nx s.data.toList 1000000 st0).2)) := by
       show FX s.data.toList k j (y, st0) = _
       unfold FX; rw [if_neg hs]
      generalize ED s.data.toList k j (y, st0) = z at *
      generalize (nx s.data.toList 1000000 st0).2 = st1 at *
      generalize (nx s.data.toList 1000000 st0).1 = a at *
      generalize (y.val j).shares = sj at *
      clear hpr hvl hl
      have HF : Hid (XR W0 ((w2.setCell ⟨g, 8 + k * 5 + j, none⟩ (.int .i64 a)).setCell ⟨gv, j * 8 + 3, none⟩ (.int .i64 (sj + a))) g gr s (Fd s.data.toList k (C6 s.data.toList (x, st) x.vals.length k) (j + 1)).1 (Fd s.data.toList k (C6 s.data.toList (x, st) x.vals.length k) (j + 1)).2 (.slice ba x.bal.length bc) (.slice (some ⟨gv, 0, none⟩) x.vals.length vc) ev) := by
       rw [HL.out, HD.out]; exact HX4.out
      clear HX4 HD HL
      go_wp2
      refine And.intro ?_ ?_
      ·first | exact ⟨j + 1, by omega, by go_num, HF.out⟩ | ((repeat apply Exists.intro); exact ⟨⟨j + 1, by omega, by go_num, HF.out⟩, rfl⟩)
      ·simp [intOf]; omega
    ·have ek : j = x.vals.length := by omega
     rw [ek] at hx
     have HX := Hd hx
     clear hx hdm ek
     go_wp2
     refine And.intro ?_ ?_
     ·first | exact ⟨k + 1, by omega, by go_num, HX.out⟩ | ((repeat apply Exists.intro); exact ⟨⟨k + 1, by omega, by go_num, HX.out⟩, rfl⟩)
     ·simp [intOf]; omega
  ·have ek : k = x.bal.length := by omega
   rw [ek] at hx
   have HX := Hd hx
   clear hx ek
   go_wp2
   go_end0
   exact ⟨rfl, HX.out⟩
structure XE (W0 w : World) (g gr : Nat) (s : ByteArray) (x : EC) (st : RSE) (bv vv ev : Value) (ge : Nat) (L : List Value) : Prop where
 x : XR W0 w g gr s x st bv vv ev
 e : Has w ge 125 L
 ne : ∀ b, Own g bv vv ev b -> b ≠ ge
 nr : ge ≠ gr
 l : W0.heap.size <= ge
section
variable {W0 w w2 : World} {g gr : Nat} {s : ByteArray} {x x' : EC} {st st' : RSE} {bv vv ev ev' : Value} {ge : Nat} {L : List Value}
theorem XR.alloc (h : XR W0 w g gr s x st bv vv ev) (o : Obj) : XR W0 (w.alloc o) g gr s x st bv vv ev := ⟨h.e.alloc o, h.r.alloc o, h.l⟩
theorem XE.new (h : XR W0 w g gr s x st bv vv ev) (L : List Value) : XE W0 (w.alloc (.cells L.toArray 125)) g gr s x st bv vv ev w.heap.size L :=
 ⟨h.alloc _, Has.new _ _ _, fun b hb e => by have := h.e.ownlt b hb; omega, fun e => by have := h.r.lt; omega, h.e.fr.size⟩
theorem XE.next (h : XE W0 w g gr s x st bv vv ev ge L) (hr : RDS w2 gr s st') (hk : Kp (fun b => b = gr) w w2) : XE W0 w2 g gr s x st' bv vv ev ge L :=
 ⟨h.x.next hr hk, Has.kp h.e hk h.nr, h.ne, h.nr, h.l⟩
theorem XE.put (h : XE W0 w g gr s x st bv vv ev ge L) (i : Nat) (u : Value) : XE W0 (w.setCell ⟨ge, i, none⟩ u) g gr s x st bv vv ev ge (L.set i u) := by
 have hk : Kp (fun b => b = ge) w (w.setCell ⟨ge, i, none⟩ u) := (Kp.refl (fun b => b = ge) w).setCell (p := ⟨ge, i, none⟩) rfl _
 exact ⟨⟨h.x.e.kp hk (fun b _ ho e => h.ne b ho e) (fun b _ e => by rw [e]; exact h.l), h.x.r.kp hk (fun e => h.nr e.symm), h.x.l⟩, h.e.set i u, h.ne, h.nr, h.l⟩
theorem XR.push {v5 : World} {o : ES} (h : XR W0 w g gr s x st bv vv ev) (hg : w.grownBy v5 ev.ownBlock) (hown : v5.ownsRow 0 125 4 ev' (x.ents.length + 1) (Bi x.ents ++ o.cells)) (hev : ∀ k, ev'.ownBlock = some k -> ev.ownBlock = some k ∨ w.heap.size <= k) :
  Has v5 g 111 (eL x bv vv ev) ∧ XR W0 (v5.setCell ⟨g, 73, none⟩ ev') g gr s { x with ents := x.ents ++ [o] } st bv vv ev' := by
 obtain ⟨h1, h2⟩ := h.e.push hg hown hev
 have hr : Has w gr 117 _ := h.r.rd
 exact ⟨h1, h2, ⟨Has.other (Ao hg hr (Has.apart hr h.e.e (by decide))) _ _ (fun e => h.apart g (.inl rfl) e.symm), h.r.p, h.r.sz⟩, h.l⟩
end
theorem MU (W0 w : World) (g gr : Nat) (s : ByteArray) (x : EC) (st : RSE) (bv vv ev : Value) (h : XR W0 w g gr s x st bv vv ev) (b1 : 1 <= x.bal.length) (b6 : x.bal.length <= 6) (v1 : 1 <= x.vals.length) (v5 : x.vals.length <= 5) (h0 : 0 <= x.height) (h1 : x.height <= 1000) (he : x.ents = []) :
  Calls Tryz.prog 81 #[.pointer (some ⟨g, 0, none⟩), .pointer (some ⟨gr, 0, none⟩)] w fun e w' => e = .returned (.tuple #[]) ∧ ∃ ev', XR W0 w' g gr s (Kj s.data.toList (x, st)).1 (Kj s.data.toList (x, st)).2 bv vv ev' := by
 have HN : Hid (∀ (w' : World) (st : RSE) (m : Int), RDS w' gr s st -> 0 <= m -> m <= 1073741824000000 -> Calls Tryz.prog 78 #[.pointer (some ⟨gr, 0, none⟩), .int .i64 m] w' fun e w'' => e = .returned (.int .i64 (nx s.data.toList m st).1) ∧ RDS w'' gr s (nx s.data.toList m st).2 ∧ Kp (fun b => b = gr) w' w'') := fun w' st m a b c => Ew w' gr s st m a b c
 obtain ⟨i5, hi5, hz50, hz51, hz52⟩ := info_parts EG
 have hcb := Cg s.data.toList 120 st (by decide)
 obtain ⟨n, hn⟩ : ∃ n : Nat, (nx s.data.toList 120 st).1 = (n : Int) := ⟨(nx s.data.toList 120 st).1.toNat, by omega⟩
 have hX : Kj s.data.toList (x, st) = ({ x with ents := (rdE s.data.toList x.bal.length x.vals.length x.height (nx s.data.toList 120 st).2 n).1 }, (rdE s.data.toList x.bal.length x.vals.length x.height (nx s.data.toList 120 st).2 n).2) := by
  unfold Kj; rw [hn, Int.toNat_natCast]
 have HX4 : Hid (Kj s.data.toList (x, st) = ({ x with ents := (rdE s.data.toList x.bal.length x.vals.length x.height (nx s.data.toList 120 st).2 n).1 }, (rdE s.data.toList x.bal.length x.vals.length x.height (nx s.data.toList 120 st).2 n).2)) := hX
 have HNn := Hd hn
 have hn1 : n <= 120 := by omega
 obtain ⟨ba, bc, rfl⟩ := Ac h.e.b
 obtain ⟨va, vc, rfl⟩ := Ac h.e.v
 have HR := Hd h
 clear h hn hcb hX
 go_enter Tryz.func81, Tryz.ntmps81
 go_wp2_with fail
 refine (HN.out w st 120 HR.out.r (by decide) (by decide)).mono ?_
 rintro e w1 ⟨rfl, hr1, hk1⟩
 rw [HNn.out]
 have HR1 : Hid (XR W0 w1 g gr s x (nx s.data.toList 120 st).2 (.slice ba x.bal.length bc) (.slice va x.vals.length vc) ev) := HR.out.next hr1 hk1
 clear hr1 hk1 HR
 obtain ⟨st1, hst1⟩ : ∃ st1, st1 = (nx s.data.toList 120 st).2 := ⟨_, rfl⟩
 rw [<- hst1] at HR1 HX4
 clear hst1
 go_wp2
 go_loopw [5] (fun i wr => ∃ (k : Nat) (ev' : Value), k <= n ∧ i = .int .i64 k ∧ XR W0 wr g gr s { x with ents := (rdE s.data.toList x.bal.length x.vals.length x.height st1 k).1 } (rdE s.data.toList x.bal.length x.vals.length x.height st1 k).2 (.slice ba x.bal.length bc) (.slice va x.vals.length vc) ev') (fun i _ => n - (intOf i).toNat)
 case atStart => exact ⟨0, ev, Nat.zero_le _, rfl, by have := HR1.out; simp only [rdE]; rw [<- he]; exact this⟩
 case round =>
  obtain ⟨k, ev1, hk, rfl, hx⟩ := hrel
  by_cases hlt : k < n
  ·have hel : (rdE s.data.toList x.bal.length x.vals.length x.height st1 k).1.length = k := (PV s.data.toList x.bal.length x.vals.length x.height st1 (by omega) (by omega) h0 k).1
   have HL : Hid (rdE s.data.toList x.bal.length x.vals.length x.height st1 (k + 1) = ((rdE s.data.toList x.bal.length x.vals.length x.height st1 k).1 ++ [(LD s.data.toList x.bal.length x.vals.length x.height (rdE s.data.toList x.bal.length x.vals.length x.height st1 k).2).1], (LD s.data.toList x.bal.length x.vals.length x.height (rdE s.data.toList x.bal.length x.vals.length x.height st1 k).2).2)) := rfl
   generalize rdE s.data.toList x.bal.length x.vals.length x.height st1 k = q at *
   obtain ⟨l, st0⟩ := q
   dsimp only at hx hel HL
   have hl120 : l.length <= 120 := by omega
   clear hel
   have HX : Hid (XE W0 (wr.alloc (.cells #[.int .i64 0, .int .i64 0, .int .i64 0, .int .i64 0] 125)) g gr s { x with ents := l } st0 (.slice ba x.bal.length bc) (.slice va x.vals.length vc) ev1 wr.heap.size [.int .i64 0, .int .i64 0, .int .i64 0, .int .i64 0]) := XE.new hx _
   have c4 : wr.cell? ⟨g, 4, none⟩ = some (.slice ba x.bal.length bc) := hx.e.L.cell 4
   have lg := hx.e.L.lt
   clear hx HR1
   have le0 : wr.heap.size < wr.heap.size + 1 := Nat.lt_succ_self _
   go_wp2_with fail
   refine (HN.out _ st0 ((x.bal.length : Int) - 1) HX.out.x.r (by omega) (by omega)).mono ?_
   rintro e w2 ⟨rfl, hr2, hk2⟩
   have hx2 := HX.out.next hr2 hk2
   have c2 : w2.cell? ⟨wr.heap.size, 0, none⟩ = some (.int .i64 0) := hx2.e.cell 0
   have f2 := hx2.e.frozen 0
   have l2 := hx2.e.lt
   have d7 : w2.cell? ⟨g, 7, none⟩ = some (.slice va x.vals.length vc) := hx2.x.e.L.cell 7
   have n2 : g ≠ wr.heap.size := hx2.ne g (.inl rfl)
   have n2' : wr.heap.size ≠ g := fun e => n2 e.symm
   have HX2 : Hid (XE W0 (w2.setCell ⟨wr.heap.size, 0, none⟩ (.int .i64 (nx s.data.toList ((x.bal.length : Int) - 1) st0).1)) g gr s { x with ents := l } (nx s.data.toList ((x.bal.length : Int) - 1) st0).2 (.slice ba x.bal.length bc) (.slice va x.vals.length vc) ev1 wr.heap.size [.int .i64 (nx s.data.toList ((x.bal.length : Int) - 1) st0).1, .int .i64 0, .int .i64 0, .int .i64 0]) := hx2.put 0 _
   clear hr2 hk2 hx2 HX c4
   go_wp2_with fail
   refine (HN.out _ _ ((x.vals.length : Int) - 1) HX2.out.x.r (by omega) (by omega)).mono ?_
   rintro e w3 ⟨rfl, hr3, hk3⟩
   have hx3 := HX2.out.next hr3 hk3
   have c3 : w3.cell? ⟨wr.heap.size, 1, none⟩ = some (.int .i64 0) := hx3.e.cell 1
   have f3 := hx3.e.frozen 1
   have l3 := hx3.e.lt
   have d3 : w3.cell? ⟨g, 3, none⟩ = some (.int .i64 x.height) := hx3.x.e.L.cell 3
   have HX3 : Hid (XE W0 (w3.setCell ⟨wr.heap.size, 1, none⟩ (.int .i64 (nx s.data.toList ((x.vals.length : Int) - 1) (nx s.data.toList ((x.bal.length : Int) - 1) st0).2).1)) g gr s { x with ents := l } (nx s.data.toList ((x.vals.length : Int) - 1) (nx s.data.toList ((x.bal.length : Int) - 1) st0).2).2 (.slice ba x.bal.length bc) (.slice va x.vals.length vc) ev1 wr.heap.size [.int .i64 (nx s.data.toList ((x.bal.length : Int) - 1) st0).1, .int .i64 (nx s.data.toList ((x.vals.length : Int) - 1) (nx s.data.toList ((x.bal.length : Int) - 1) st0).2).1, .int .i64 0, .int .i64 0]) := hx3.put 1 _
   clear hr3 hk3 hx3 HX2 c2 f2 l2 d7
   go_wp2_with fail
   refine (HN.out _ _ x.height HX3.out.x.r h0 (by omega)).mono ?_
   rintro e w4 ⟨rfl, hr4, hk4⟩
   have hx4 := HX3.out.next hr4 hk4
   have c4 : w4.cell? ⟨wr.heap.size, 2, none⟩ = some (.int .i64 0) := hx4.e.cell 2
   have f4 := hx4.e.frozen 2
   have l4 := hx4.e.lt
   have HX4' : Hid (XE W0 (w4.setCell ⟨wr.heap.size, 2, none⟩ (.int .i64 (nx s.data.toList x.height (nx s.data.toList ((x.vals.length : Int) - 1) (nx s.data.toList ((x.bal.length : Int) - 1) st0).2).2).1)) g gr s { x with ents := l } (nx s.data.toList x.height (nx s.data.toList ((x.vals.length : Int) - 1) (nx s.data.toList ((x.bal.length : Int) - 1) st0).2).2).2 (.slice ba x.bal.length bc) (.slice va x.vals.length vc) ev1 wr.heap.size [.int .i64 (nx s.data.toList ((x.bal.length : Int) - 1) st0).1, .int .i64 (nx s.data.toList ((x.vals.length : Int) - 1) (nx s.data.toList ((x.bal.length : Int) - 1) st0).2).1, .int .i64 (nx s.data.toList x.height (nx s.data.toList ((x.vals.length : Int) - 1) (nx s.data.toList ((x.bal.length : Int) - 1) st0).2).2).1, .int .i64 0]) := hx4.put 2 _
   clear hr4 hk4 hx4 HX3 c3 f3 l3 d3
   go_wp2_with fail
   refine (HN.out _ _ 1000000 HX4'.out.x.r (by decide) (by decide)).mono ?_
   rintro e w5 ⟨rfl, hr5, hk5⟩
   have hx5 := HX4'.out.next hr5 hk5
   have c5 : w5.cell? ⟨wr.heap.size, 3, none⟩ = some (.int .i64 0) := hx5.e.cell 3
   have f5 := hx5.e.frozen 3
   have l5 := hx5.e.lt
   have hx6 := hx5.put 3 (.int .i64 (nx s.data.toList 1000000 (nx s.data.toList x.height (nx s.data.toList ((x.vals.length : Int) - 1) (nx s.data.toList ((x.bal.length : Int) - 1) st0).2).2).2).1)
   obtain ⟨ea, ec, rfl⟩ := Ac hx5.x.e.e
   have HX6 := Hd hx6
   have HF : Hid (∀ w', ∀ ev', XR W0 w' g gr s { x with ents := l ++ [⟨(nx s.data.toList ((x.bal.length : Int) - 1) st0).1, (nx s.data.toList ((x.vals.length : Int) - 1) (nx s.data.toList ((x.bal.length : Int) - 1) st0).2).1, (nx s.data.toList x.height (nx s.data.toList ((x.vals.length : Int) - 1) (nx s.data.toList ((x.bal.length : Int) - 1) st0).2).2).1, (nx s.data.toList 1000000 (nx s.data.toList x.height (nx s.data.toList ((x.vals.length : Int) - 1) (nx s.data.toList ((x.bal.length : Int) - 1) st0).2).2).2).1⟩] } (nx s.data.toList 1000000 (nx s.data.toList x.height (nx s.data.toList ((x.vals.length : Int) - 1) (nx s.data.toList ((x.bal.length : Int) - 1) st0).2).2).2).2 (.slice ba x.bal.length bc) (.slice va x.vals.length vc) ev' -> XR W0 w' g gr s { x with ents := (rdE s.data.toList x.bal.length x.vals.length x.height st1 (k + 1)).1 } (rdE s.data.toList x.bal.length x.vals.length x.height st1 (k + 1)).2 (.slice ba x.bal.length bc) (.slice va x.vals.length vc) ev') := fun w' ev' h => by rw [HL.out]; exact h
   clear hr5 hk5 hx5 hx6 HX4' c4 f4 l4 HL
   generalize (nx s.data.toList 1000000 (nx s.data.toList x.height (nx s.data.toList ((x.vals.length : Int) - 1) (nx s.data.toList ((x.bal.length : Int) - 1) st0).2).2).2).1 = A4 at *
   generalize (nx s.data.toList 1000000 (nx s.data.toList x.height (nx s.data.toList ((x.vals.length : Int) - 1) (nx s.data.toList ((x.bal.length : Int) - 1) st0).2).2).2).2 = st5 at *
   generalize (nx s.data.toList x.height (nx s.data.toList ((x.vals.length : Int) - 1) (nx s.data.toList ((x.bal.length : Int) - 1) st0).2).2).1 = A3 at *
   generalize (nx s.data.toList ((x.vals.length : Int) - 1) (nx s.data.toList ((x.bal.length : Int) - 1) st0).2).1 = A2 at *
   generalize (nx s.data.toList ((x.bal.length : Int) - 1) st0).1 = A1 at *
   go_wp2_with fail
   obtain ⟨wy, hwy⟩ : ∃ wy, wy = w5.setCell ⟨wr.heap.size, 3, none⟩ (.int .i64 A4) := ⟨_, rfl⟩
   rw [<- hwy] at HX6 ⊢
   clear hwy c5 f5 l5
   have y0 : wy.cell? ⟨wr.heap.size, 0, none⟩ = some (.int .i64 A1) := HX6.out.e.cell 0
   have y1 : wy.cell? ⟨wr.heap.size, 1, none⟩ = some (.int .i64 A2) := HX6.out.e.cell 1
   have y2 : wy.cell? ⟨wr.heap.size, 2, none⟩ = some (.int .i64 A3) := HX6.out.e.cell 2
   have y3 : wy.cell? ⟨wr.heap.size, 3, none⟩ = some (.int .i64 A4) := HX6.out.e.cell 3
   have d73 : wy.cell? ⟨g, 73, none⟩ = some (.slice ea l.length ec) := HX6.out.x.e.evAt
   have lg5 := HX6.out.x.e.L.lt
   have lg6 : g < wy.heap.size + 1 := by omega
   have le5 := HX6.out.e.lt
   have le6 : wr.heap.size < wy.heap.size + 1 := by omega
   go_region_law (refine AU rfl (.tmp 46) (.tmp 48) 87 rfl 125 i5 _ 4 32 Tryz.underlying87 hi5 hz50 hz51 hz52 rfl (by decide) 0 (.slice ea l.length ec) l.length (Bi l) (by first | rfl | simp [Act.eval]) (HX6.out.x.e.alloc _).e (Nat.zero_le _) ⟨_, 0, none⟩ 1 1 [.int .i64 A1, .int .i64 A2, .int .i64 A3, .int .i64 A4] (by first | rfl | simp [Act.eval]) (by rfl) (Ap _ [.int .i64 A1, .int .i64 A2, .int .i64 A3, .int .i64 A4] _ _ (by simp)) (by simp [Value.oneCell']) (by decide) (by simp [maxLen]; omega) (by omega) ?_; intro g5 cap5 v5 hown5 hgrow5 hor5 hold5; obtain ⟨hL5, hP5⟩ := ((HX6.out.x.alloc _).drew).push (o := ⟨A1, A2, A3, A4⟩) hgrow5 hown5 (fun q hq => by simp only [Value.ownBlock, Option.some.injEq] at hq; rw [<- hq]; exact hor5); have c73' : v5.cell? ⟨g, 73, none⟩ = some (.slice ea l.length ec) := (hL5.cell 73).trans (Pv _ _ _ _ HX6.out.x.e.ht); have f73' := hL5.frozen 73; have HP5 : Hid _ := hP5; clear hP5 hown5 hgrow5 hor5 hold5 hL5)
   all_goals
    go_wp2
    refine And.intro ?_ ?_
    ·first | exact ⟨k + 1, _, by omega, by go_num, HF.out _ _ HP5.out⟩ | ((repeat apply Exists.intro); exact ⟨⟨k + 1, _, by omega, by go_num, HF.out _ _ HP5.out⟩, rfl⟩)
    ·simp [intOf]; omega
  ·have ek : k = n := by omega
   subst ek
   have HF : Hid (XR W0 wr g gr s (Kj s.data.toList (x, st)).1 (Kj s.data.toList (x, st)).2 (.slice ba x.bal.length bc) (.slice va x.vals.length vc) ev1) := by rw [HX4.out]; exact hx
   clear hx HX4
   go_wp2
   go_end0
   exact ⟨rfl, _, HF.out⟩
def Ps (gn : Gn) : Prop := Bm gn.bs gn.os gn.rs gn.top gn.mat gn.fee
def OH (s : ByteArray) (w w' : World) (e : Ending) : Prop :=
 (e = .returned (.tuple #[.pointer none, .bool false]) ∧ Below w.heap.size w w' ∧ (¬ Ps (rdG s.data.toList ⟨0, false⟩).1 ∨ (rdX s.data.toList).2.bad = true)) ∨
 (∃ g bv vv ev, e = .returned (.tuple #[.pointer (some ⟨g, 0, none⟩), .bool true]) ∧ PE (fun k => w.heap.size <= k) w w' g (rdX s.data.toList).1 bv vv ev ∧ Ps (rdG s.data.toList ⟨0, false⟩).1 ∧ (rdX s.data.toList).2.bad = false)
theorem Q4 (os rs : List Int) (i : Nat) (h : rs.length = os.length) (hi : i < os.length) : ((vs0 os rs).getD i v0).shares = 0 := by
 rw [Hs os rs i h hi]
theorem N0 (w : World) (s : ByteArray) (hs : s.size <= 8192) :
  Calls Tryz.prog 35 #[.string s] w fun e w' => OH s w w' e := by
 have HN : Hid (∀ (w' : World) (gr : Nat) (st : RSE) (m : Int), RDS w' gr s st -> 0 <= m -> m <= 1073741824000000 -> Calls Tryz.prog 78 #[.pointer (some ⟨gr, 0, none⟩), .int .i64 m] w' fun e w'' => e = .returned (.int .i64 (nx s.data.toList m st).1) ∧ RDS w'' gr s (nx s.data.toList m st).2 ∧ Kp (fun b => b = gr) w' w'') := fun w' gr st m a b c => Ew w' gr s st m a b c
 have HG : Hid (∀ (w' : World) (gr : Nat) (st : RSE), RDS w' gr s st -> Calls Tryz.prog 77 #[.pointer (some ⟨gr, 0, none⟩)] w' fun e w'' => ∃ vb vo vr, e = .returned (RV vb vo vr (rdG s.data.toList st).1.top (rdG s.data.toList st).1.mat (rdG s.data.toList st).1.fee) ∧ GnV w' w'' (rdG s.data.toList st).1 vb vo vr ∧ RDS w'' gr s (rdG s.data.toList st).2 ∧ Kp (fun b => b = gr) w' w'') := fun w' gr st a => Nn w' gr s st a
 have HR : Hid (RDS (w.alloc (.cells #[.string s, .int .i64 0, .bool false] 117)) w.heap.size s ⟨0, false⟩) := ⟨Has.new _ _ [.string s, .int .i64 0, .bool false], Nat.zero_le _, hs⟩
 have hgb := Qj s.data.toList ⟨0, false⟩
 have HGB : Hid _ := hgb
 clear hgb
 go_enter Tryz.func35, Tryz.ntmps35
 go_wp2_with fail
 refine (HG.out _ _ _ HR.out).mono ?_
 rintro e w1 ⟨vb, vo, vr, rfl, hgv, hr1, hk1⟩
 have hb1 : Below w.heap.size w w1 := ((Below.refl _ w).alloc (Nat.le_refl _) _).trans (hk1.toBelow (by simp) (fun k hk e => by omega))
 obtain ⟨ba, bc, rfl⟩ := Ac hgv.b
 obtain ⟨oa, oc, rfl⟩ := Ac hgv.o
 obtain ⟨ra, rc, rfl⟩ := Ac hgv.r
 unfold RV
 have HB1 := Hd hb1
 have HGV := Hd hgv
 have HR1 := Hd hr1
 clear hb1 hgv hr1 hk1 HR HG
 go_wp2_with fail
 have hA : Below w1.heap.size w1 (w1.alloc (.cells #[.slice ba (rdG s.data.toList ⟨0, false⟩).1.bs.length bc, .slice oa (rdG s.data.toList ⟨0, false⟩).1.os.length oc, .slice ra (rdG s.data.toList ⟨0, false⟩).1.rs.length rc, .int .i64 (rdG s.data.toList ⟨0, false⟩).1.top, .int .i64 (rdG s.data.toList ⟨0, false⟩).1.mat, .int .i64 (rdG s.data.toList ⟨0, false⟩).1.fee] 67)) := (Below.refl _ _).alloc (Nat.le_refl _) _
 have hib := (Rd.of_owns HGV.out.b).ints.below hA (Nat.le_refl _)
 have hio := (Rd.of_owns HGV.out.o).ints.below hA (Nat.le_refl _)
 have hir := (Rd.of_owns HGV.out.r).ints.below hA (Nat.le_refl _)
 obtain ⟨q1, q2, q3, q4, q5, q6, q7, q8, q9⟩ := HGB.out
 have hbA : Below w.heap.size w (w1.alloc (.cells #[.slice ba (rdG s.data.toList ⟨0, false⟩).1.bs.length bc, .slice oa (rdG s.data.toList ⟨0, false⟩).1.os.length oc, .slice ra (rdG s.data.toList ⟨0, false⟩).1.rs.length rc, .int .i64 (rdG s.data.toList ⟨0, false⟩).1.top, .int .i64 (rdG s.data.toList ⟨0, false⟩).1.mat, .int .i64 (rdG s.data.toList ⟨0, false⟩).1.fee] 67)) := HB1.out.alloc HB1.out.size _
 by_cases hg : Ps (rdG s.data.toList ⟨0, false⟩).1
 ·refine (IC _ _ _ _ _ _ _ _ _ _ hib hio hir (by omega) (by omega) (by omega) hg).mono ?_
  rintro e w2 hbeg
  obtain ⟨g, bv, vv, rfl, hpe⟩ := OI hbeg hg
  have hfr : Below w.heap.size w w2 := hbA.trans ((hpe.fr.toBelow (B := (w1.alloc (.cells #[.slice ba (rdG s.data.toList ⟨0, false⟩).1.bs.length bc, .slice oa (rdG s.data.toList ⟨0, false⟩).1.os.length oc, .slice ra (rdG s.data.toList ⟨0, false⟩).1.rs.length rc, .int .i64 (rdG s.data.toList ⟨0, false⟩).1.top, .int .i64 (rdG s.data.toList ⟨0, false⟩).1.mat, .int .i64 (rdG s.data.toList ⟨0, false⟩).1.fee] 67)).heap.size) (Nat.le_refl _) (fun k hk h => by omega)).mono hbA.size)
  have hx : XR w w2 g w.heap.size s (xN' (rdG s.data.toList ⟨0, false⟩).1) (rdG s.data.toList ⟨0, false⟩).2 bv vv (.slice none 0 0) := ⟨hpe.rebase (Kp.of_below hfr _) (fun k hk => hk) (fun k hk => Nat.le_trans hbA.size (hpe.own k hk)), (HR1.out.alloc _).below (hpe.fr.toBelow (Nat.le_refl _) (fun k hk h => by omega)), Nat.le_refl _⟩
  have HX := Hd hx
  have HGD := Hd hg
  have hvl : (xN' (rdG s.data.toList ⟨0, false⟩).1).vals.length = (rdG s.data.toList ⟨0, false⟩).1.os.length := F8 _ _ hg.2.1.2.2.1
  have HVL := Hd hvl
  have hz : ∀ i, i < (xN' (rdG s.data.toList ⟨0, false⟩).1).vals.length -> ((xN' (rdG s.data.toList ⟨0, false⟩).1).val i).shares = 0 := fun i hi => Q4 _ _ i hg.2.1.2.2.1 (by rw [hvl] at hi; exact hi)
  have HZ := Hd hz
  have o1 : 1 <= (rdG s.data.toList ⟨0, false⟩).1.os.length := hg.2.1.1
  have b1 : 1 <= (rdG s.data.toList ⟨0, false⟩).1.bs.length := hg.1.1
  have HXX : Hid (rdX s.data.toList = Kj s.data.toList (PL s.data.toList (xN' (rdG s.data.toList ⟨0, false⟩).1, (rdG s.data.toList ⟨0, false⟩).2))) := rfl
  have cg3 : w2.cell? ⟨g, 3, none⟩ = some (.int .i64 0) := hx.e.L.cell 3
  have fg3 := hx.e.L.frozen 3
  clear hpe hfr hx hg hvl hz hib hio hir hA hbeg q7 q8 q9 q4 q5 q6 HGV HGB HR1 HB1 hbA
  obtain ⟨y0, hy0⟩ : ∃ y0, y0 = xN' (rdG s.data.toList ⟨0, false⟩).1 := ⟨_, rfl⟩
  obtain ⟨st0, hst0⟩ : ∃ st0, st0 = (rdG s.data.toList ⟨0, false⟩).2 := ⟨_, rfl⟩
  rw [<- hy0] at HX HVL HZ HXX
  rw [<- hst0] at HX HXX
  have HY0 := Hd hy0
  have yb : y0.bal.length = (rdG s.data.toList ⟨0, false⟩).1.bs.length := by rw [hy0]; rfl
  clear hy0 hst0
  go_wp2_with fail
  refine (HN.out _ _ st0 1000 HX.out.r (by decide) (by decide)).mono ?_
  rintro e w3 ⟨rfl, hr3, hk3⟩
  have hx3 := HX.out.next hr3 hk3
  have d3 : w3.cell? ⟨g, 3, none⟩ = some (.int .i64 y0.height) := hx3.e.L.cell 3
  have f3 := hx3.e.L.frozen 3
  have lg3 := hx3.e.L.lt
  have HX3 : Hid _ := hx3.head (x' := { y0 with height := (nx s.data.toList 1000 st0).1 }) 3 (.int .i64 (nx s.data.toList 1000 st0).1) rfl rfl rfl rfl rfl
  clear hr3 hk3 hx3 HX cg3 fg3
  go_wp2_with fail
  refine (HN.out _ _ _ 1000000 HX3.out.r (by decide) (by decide)).mono ?_
  rintro e w4 ⟨rfl, hr4, hk4⟩
  have hx4 := HX3.out.next hr4 hk4
  have d5 : w4.cell? ⟨g, 5, none⟩ = some (.int .i64 y0.fees) := hx4.e.L.cell 5
  have f5 := hx4.e.L.frozen 5
  have lg4 := hx4.e.L.lt
  have HX4 : Hid _ := hx4.head (x' := { y0 with height := (nx s.data.toList 1000 st0).1, fees := (nx s.data.toList 1000000 (nx s.data.toList 1000 st0).2).1 }) 5 (.int .i64 (nx s.data.toList 1000000 (nx s.data.toList 1000 st0).2).1) rfl rfl rfl rfl rfl
  clear hr4 hk4 hx4 HX3 d3 f3 lg3
  go_wp2_with fail
  refine (HN.out _ _ _ 1000000 HX4.out.r (by decide) (by decide)).mono ?_
  rintro e w5 ⟨rfl, hr5, hk5⟩
  have hx5 := HX4.out.next hr5 hk5
  have d6 : w5.cell? ⟨g, 6, none⟩ = some (.int .i64 y0.pool) := hx5.e.L.cell 6
  have f6 := hx5.e.L.frozen 6
  have lg5 := hx5.e.L.lt
  have HX5 : Hid (XR w (w5.setCell ⟨g, 6, none⟩ (.int .i64 (nx s.data.toList 1000000 (nx s.data.toList 1000000 (nx s.data.toList 1000 st0).2).2).1)) g w.heap.size s (EW s.data.toList (y0, st0)).1 (EW s.data.toList (y0, st0)).2 bv vv (.slice none 0 0)) := hx5.head (x' := (EW s.data.toList (y0, st0)).1) 6 (.int .i64 (nx s.data.toList 1000000 (nx s.data.toList 1000000 (nx s.data.toList 1000 st0).2).2).1) rfl rfl rfl rfl rfl
  clear hr5 hk5 hx5 HX4 d5 f5 lg4
  have hhb := Cg s.data.toList 1000 st0 (by decide)
  have hh1 : (EW s.data.toList (y0, st0)).1.height = (nx s.data.toList 1000 st0).1 := rfl
  have hv1 : (EW s.data.toList (y0, st0)).1.vals = y0.vals := rfl
  have hb1 : (EW s.data.toList (y0, st0)).1.bal = y0.bal := rfl
  have ht1 : (EW s.data.toList (y0, st0)).1.tab = List.replicate 65 0 := by show y0.tab = _; rw [HY0.out]; rfl
  have he1 : (EW s.data.toList (y0, st0)).1.ents = [] := by show y0.ents = _; rw [HY0.out]; rfl
  have hz1 : ∀ i, i < (EW s.data.toList (y0, st0)).1.vals.length -> ((EW s.data.toList (y0, st0)).1.val i).shares = 0 := HZ.out
  have HXX2 := Hd HXX.out
  obtain ⟨q, hq⟩ : ∃ q, q = EW s.data.toList (y0, st0) := ⟨_, rfl⟩
  have hX3 : PL s.data.toList (y0, st0) = C6 s.data.toList (rdV s.data.toList q q.1.vals.length) (rdV s.data.toList q q.1.vals.length).1.vals.length (rdV s.data.toList q q.1.vals.length).1.bal.length := by rw [hq]; rfl
  rw [<- hq] at HX5 hh1 hv1 hb1 ht1 he1 hz1
  rw [hX3] at HXX2
  have hvl1 : q.1.vals.length = (rdG s.data.toList ⟨0, false⟩).1.os.length := by rw [hv1]; exact HVL.out
  have hbl1 : q.1.bal.length = (rdG s.data.toList ⟨0, false⟩).1.bs.length := by rw [hb1]; exact yb
  have vm := O7 s.data.toList q q.1.vals.length (Nat.le_refl _)
  obtain ⟨q', hq'⟩ : ∃ q', q' = rdV s.data.toList q q.1.vals.length := ⟨_, rfl⟩
  rw [<- hq'] at vm HXX2
  have HV : Hid (∀ w', XR w w' g w.heap.size s q.1 q.2 bv vv (.slice none 0 0) -> Calls Tryz.prog 79 #[.pointer (some ⟨g, 0, none⟩), .pointer (some ⟨w.heap.size, 0, none⟩)] w' fun e w'' => e = .returned (.tuple #[]) ∧ XR w w'' g w.heap.size s q'.1 q'.2 bv vv (.slice none 0 0)) := fun w' hxr => by rw [hq']; exact NW w w' g w.heap.size s q.1 q.2 bv vv (.slice none 0 0) hxr (by omega)
  have hvl2 : q'.1.vals.length = (rdG s.data.toList ⟨0, false⟩).1.os.length := vm.vl.trans hvl1
  have hbl2 : q'.1.bal.length = (rdG s.data.toList ⟨0, false⟩).1.bs.length := by rw [vm.eq]; exact hbl1
  have ht2 : q'.1.tab = List.replicate 65 0 := by rw [vm.eq]; exact ht1
  have he2 : q'.1.ents = [] := by rw [vm.eq]; exact he1
  have hh2 : q'.1.height = (nx s.data.toList 1000 st0).1 := by rw [vm.eq]; exact hh1
  have hz2 : ∀ i, i < q'.1.vals.length -> (q'.1.val i).shares = 0 := fun i hi => by
   have h1 := vm.lo i (by omega) (by omega)
   rw [h1.2.2.2]; exact hz1 i (by omega)
  have HD : Hid (∀ w', XR w w' g w.heap.size s q'.1 q'.2 bv vv (.slice none 0 0) -> Calls Tryz.prog 80 #[.pointer (some ⟨g, 0, none⟩), .pointer (some ⟨w.heap.size, 0, none⟩)] w' fun e w'' => e = .returned (.tuple #[]) ∧ XR w w'' g w.heap.size s (C6 s.data.toList q' q'.1.vals.length q'.1.bal.length).1 (C6 s.data.toList q' q'.1.vals.length q'.1.bal.length).2 bv vv (.slice none 0 0)) := fun w' hxr => NC w w' g w.heap.size s q'.1 q'.2 bv vv (.slice none 0 0) hxr (by omega) (by omega) ht2 hz2
  have dm := Ht (s := s.data.toList) (q := q') ht2 (by omega) q'.1.bal.length (by omega)
  obtain ⟨q3, hq3⟩ : ∃ q3, q3 = C6 s.data.toList q' q'.1.vals.length q'.1.bal.length := ⟨_, rfl⟩
  rw [<- hq3] at dm HD HXX2
  have HE : Hid (∀ w', XR w w' g w.heap.size s q3.1 q3.2 bv vv (.slice none 0 0) -> Calls Tryz.prog 81 #[.pointer (some ⟨g, 0, none⟩), .pointer (some ⟨w.heap.size, 0, none⟩)] w' fun e w'' => e = .returned (.tuple #[]) ∧ ∃ ev', XR w w'' g w.heap.size s (rdX s.data.toList).1 (rdX s.data.toList).2 bv vv ev') := fun w' hxr => by
   rw [HXX2.out]
   exact MU w w' g w.heap.size s q3.1 q3.2 bv vv (.slice none 0 0) hxr (by rw [dm.eq]; show 1 <= q'.1.bal.length; omega) (by rw [dm.eq]; show q'.1.bal.length <= 6; omega) (by rw [dm.vl]; omega) (by rw [dm.vl]; omega) (by rw [dm.eq]; show 0 <= q'.1.height; omega) (by rw [dm.eq]; show q'.1.height <= 1000; omega) (by rw [dm.eq]; exact he2)
  clear hq hX3 hh1 hv1 hb1 ht1 he1 hz1 hvl1 hbl1 vm hq' hvl2 hbl2 ht2 he2 hh2 hz2 dm hq3 HXX HXX2 HVL HZ yb hhb q1 q2 o1 b1
  go_wp2_with fail
  refine (HV.out _ HX5.out).mono ?_
  rintro e w6 ⟨rfl, hx6⟩
  have HX6 := Hd hx6
  clear hx6 HX5 HV d6 f6
  go_wp2_with fail
  refine (HD.out _ HX6.out).mono ?_
  rintro e w7 ⟨rfl, hx7⟩
  have HX7 := Hd hx7
  clear hx7 HX6 HD
  go_wp2_with fail
  refine (HE.out _ HX7.out).mono ?_
  rintro e w8 ⟨rfl, ev', hx8⟩
  have c2 : w8.cell? ⟨w.heap.size, 2, none⟩ = some (.bool (rdX s.data.toList).2.bad) := Has.cell hx8.r.rd 2
  have HX8 := Hd hx8.e
  have HB8 : Hid (Below w.heap.size w w8) := hx8.e.fr.toBelow (Nat.le_refl _) (fun k hk h => by omega)
  obtain ⟨bad, hbad⟩ : ∃ b, (rdX s.data.toList).2.bad = b := ⟨_, rfl⟩
  rw [hbad] at c2
  have HBD := Hd hbad
  clear hx8 HX7 HE hbad
  cases bad
  ·go_wp2
   go_ret2
   exact .inr ⟨g, bv, vv, ev', rfl, HX8.out, HGD.out, HBD.out⟩
  ·go_wp2
   go_ret2
   exact .inl ⟨rfl, HB8.out, .inr HBD.out⟩
 ·refine (MC _ _ _ _ _ _ _ _ _ _ hib hio hir (by omega) (by omega) (by omega) hg).mono ?_
  rintro e w2 ⟨rfl, hb2⟩
  have HB2 : Hid (Below w.heap.size w w2) := hbA.trans (hb2.mono hbA.size)
  have HG2 := Hd hg
  clear hb2 hbA hg hib hio hir hA HGV HGB HR1 HB1 q1 q2 q3 q4 q5 q6 q7 q8 q9
  go_wp2
  go_ret2
  exact .inl ⟨rfl, HB2.out, .inl HG2.out⟩
end Go.Proofs.YtohjjgefklhmaaaGreatDoor
