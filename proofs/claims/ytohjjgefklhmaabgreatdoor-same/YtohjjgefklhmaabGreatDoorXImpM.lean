import Derived.Test.YtohjjgefklhmaabGreatDoorXListM
import Derived.Deep.RegionWith
import Derived.Deep.DeepCutAuto
namespace Go.Proofs.YtohjjgefklhmaabGreatDoor
open Go.ChangeShapes Go.WideShapes Go.ChangeAt Go.RowKit
set_option linter.unusedVariables false

/-! ### an engine that is being read -/
structure XR (W0 w : World) (g gr : Nat) (s : ByteArray) (x : EC) (st : RS) (bv vv ev : Value) : Prop where
  e : PE (fun k => W0.heap.size ≤ k) W0 w g x bv vv ev
  r : RDS w gr s st
  l : W0.heap.size ≤ gr
section
variable {W0 w w2 : World} {g gr : Nat} {s : ByteArray} {x x' : EC} {st st' : RS} {bv vv ev ev' : Value}
theorem XR.apart (h : XR W0 w g gr s x st bv vv ev) : ∀ b, Own g bv vv ev b → b ≠ gr := by
  have hr : Has w gr 96 _ := h.r.rd
  rintro b (rfl | hb | hb | hb) e
  · subst e
    have h1 := h.e.L
    unfold Has at h1 hr
    rw [h1] at hr
    simp only [Option.some.injEq, Obj.cells.injEq] at hr
    exact absurd hr.2.1 (by decide)
  · subst e; exact Has.apart hr h.e.b (by decide) hb.symm
  · subst e; exact Has.apart hr h.e.v (by decide) hb.symm
  · subst e; exact Has.apart hr h.e.e (by decide) hb.symm
theorem XR.next (h : XR W0 w g gr s x st bv vv ev) (hr : RDS w2 gr s st') (hk : Kp (fun b => b = gr) w w2) : XR W0 w2 g gr s x st' bv vv ev :=
  ⟨h.e.kp hk (fun b _ ho e => h.apart b ho e) (fun b _ e => by rw [e]; exact h.l), hr, h.l⟩
theorem XR.drew (h : XR W0 w g gr s x st bv vv ev) : XR W0 w.drew g gr s x st bv vv ev := ⟨h.e.drew, ⟨h.r.rd, h.r.p, h.r.sz⟩, h.l⟩
theorem XR.eta (h : XR W0 w g gr s x st bv vv ev) (e1 : w2.heap = w.heap) (e2 : w2.os = w.os) (e3 : w2.tape = w.tape) (e4 : w2.output = w.output) : XR W0 w2 g gr s x st bv vv ev := ⟨h.e.eta e1 e2 e3 e4, ⟨by have := h.r.rd; unfold RD Has at *; rw [e1]; exact this, h.r.p, h.r.sz⟩, h.l⟩
theorem XR.head (h : XR W0 w g gr s x st bv vv ev) (i : Nat) (u : Value) (he : (eL x bv vv ev).set i u = eL x' bv vv ev) (hb : x'.bal = x.bal) (hv : x'.vals = x.vals) (hE : x'.ents = x.ents) (ht : x'.tab = x.tab) : XR W0 (w.setCell ⟨g, i, none⟩ u) g gr s x' st bv vv ev :=
  ⟨h.e.setHead i u he hb hv hE ht, ⟨Has.other h.r.rd _ _ (fun e => h.apart g (.inl rfl) e.symm), h.r.p, h.r.sz⟩, h.l⟩
theorem XR.tab (h : XR W0 w g gr s x st bv vv ev) (j : Nat) (y : Int) (hj : j < 65) : XR W0 (w.setCell ⟨g, 8 + j, none⟩ (.int .i64 y)) g gr s { x with tab := x.tab.set j y } st bv vv ev :=
  ⟨h.e.setTab j y hj, ⟨Has.other h.r.rd _ _ (fun e => h.apart g (.inl rfl) e.symm), h.r.p, h.r.sz⟩, h.l⟩
theorem XR.val {gv n cap : Nat} {vals' : List VS} (h : XR W0 w g gr s x st bv (.slice (some ⟨gv, 0, none⟩) n cap) ev) (hn : n = x.vals.length) (i : Nat) (u : Value) (he : (vrow x.vals).set i u = vrow vals') (hl : vals'.length = x.vals.length) : XR W0 (w.setCell ⟨gv, i, none⟩ u) g gr s { x with vals := vals' } st bv (.slice (some ⟨gv, 0, none⟩) n cap) ev :=
  ⟨h.e.setVal hn i u he hl, ⟨Has.other h.r.rd _ _ (fun e => h.apart gv (.inr (.inr (.inl rfl))) e.symm), h.r.p, h.r.sz⟩, h.l⟩
theorem XR.mod {gv n cap : Nat} (h : XR W0 w g gr s x st bv (.slice (some ⟨gv, 0, none⟩) n cap) ev) (hn : n = x.vals.length) (k : Nat) (hk : k < x.vals.length) (i : Nat) (hi : i < 8) (u : Value) (f : VS → VS) (hx : x.vals[k].cells.set i u = (f x.vals[k]).cells) : XR W0 (w.setCell ⟨gv, k * 8 + i, none⟩ u) g gr s { x with vals := x.vals.modify k f } st bv (.slice (some ⟨gv, 0, none⟩) n cap) ev :=
  h.val hn _ _ (vrow_mod x.vals k hk i u f hx hi) (by simp)
/-- what the walk asks of a validator's cells -/
def CV (w : World) (gv k : Nat) : Prop := (∃ a, w.cell? ⟨gv, k * 8 + 2, none⟩ = some (.int .i64 a)) ∧ (∃ a, w.cell? ⟨gv, k * 8 + 4, none⟩ = some (.int .i64 a)) ∧ (∃ a, w.cell? ⟨gv, k * 8 + 5, none⟩ = some (.int .i64 a)) ∧ (∃ b, w.cell? ⟨gv, k * 8 + 6, none⟩ = some (.bool b)) ∧ (∃ b, w.cell? ⟨gv, k * 8 + 7, none⟩ = some (.bool b))
theorem XR.cellV {gv n cap : Nat} (h : XR W0 w g gr s x st bv (.slice (some ⟨gv, 0, none⟩) n cap) ev) (hn : x.vals.length = n) {k : Nat} (hk : k < n) : w.cell? ⟨g, 7, none⟩ = some (.slice (some ⟨gv, 0, none⟩) n cap) ∧ CV w gv k ∧ (∀ j, w.frozen? ⟨gv, j, none⟩ = false) := by
  obtain ⟨gv', e, h1, h2⟩ := h.e.val8 hn.symm (k := k) (by omega)
  simp only [Option.some.injEq, Addr.mk.injEq, and_true] at e
  subst e
  exact ⟨h.e.L.cell 7, ⟨⟨_, h1 2 (by omega)⟩, ⟨_, h1 4 (by omega)⟩, ⟨_, h1 5 (by omega)⟩, ⟨_, h1 6 (by omega)⟩, ⟨_, h1 7 (by omega)⟩⟩, h2⟩
end

set_option maxHeartbeats 4000000 in
set_option maxRecDepth 100000 in
theorem readV_any (W0 w : World) (g gr : Nat) (s : ByteArray) (x : EC) (st : RS) (bv vv ev : Value) (h : XR W0 w g gr s x st bv vv ev) (v5 : x.vals.length ≤ 5) :
    Calls Tryz.prog 77 #[.pointer (some ⟨g, 0, none⟩), .pointer (some ⟨gr, 0, none⟩)] w fun e w' => e = .returned (.tuple #[]) ∧ XR W0 w' g gr s (rdV s.data.toList (x, st) x.vals.length).1 (rdV s.data.toList (x, st) x.vals.length).2 bv vv ev := by
  have HN : Hid (∀ (w' : World) (st : RS) (m : Int), RDS w' gr s st → 0 ≤ m → m ≤ 1073741824000000 → Calls Tryz.prog 76 #[.pointer (some ⟨gr, 0, none⟩), .int .i64 m] w' fun e w'' => e = .returned (.int .i64 (nx s.data.toList m st).1) ∧ RDS w'' gr s (nx s.data.toList m st).2 ∧ Kp (fun b => b = gr) w' w'') := fun w' st m a b c => next_any w' gr s st m a b c
  obtain ⟨va, vc, rfl⟩ := ownsRow_slice h.e.v
  have c7 : w.cell? ⟨g, 7, none⟩ = some (.slice va x.vals.length vc) := h.e.L.cell 7
  have HR : Hid (XR W0 w g gr s x st bv (.slice va x.vals.length vc) ev) := h
  clear h
  go_enter Tryz.func77, Tryz.ntmps77
  go_wp2
  go_loopw [11] (fun i wr => ∃ k : Nat, k ≤ x.vals.length ∧ i = .int .i64 k ∧ XR W0 wr g gr s (rdV s.data.toList (x, st) k).1 (rdV s.data.toList (x, st) k).2 bv (.slice va x.vals.length vc) ev ∧ (rdV s.data.toList (x, st) k).1.vals.length = x.vals.length) (fun i _ => x.vals.length - (intOf i).toNat)
  case atStart => exact ⟨0, Nat.zero_le _, rfl, HR.out, rfl⟩
  case round =>
    obtain ⟨k, hk, rfl, hx, hl⟩ := hrel
    by_cases hlt : k < x.vals.length
    · obtain ⟨gv, hgv, _⟩ := ownsRow_some (a := va) (n := x.vals.length) (c := vc) (by have := hx.e.v; rw [hl] at this; exact this) (by omega)
      subst hgv
      have HL : Hid (rdV s.data.toList (x, st) (k + 1) = rdV1 s.data.toList k (rdV s.data.toList (x, st) k)) := rfl
      generalize rdV s.data.toList (x, st) k = q at *
      obtain ⟨y, st0⟩ := q
      dsimp only at hx hl
      have HX : Hid (XR W0 wr g gr s y st0 bv (.slice (some ⟨gv, 0, none⟩) x.vals.length vc) ev) := hx
      have HLn : Hid (y.vals.length = x.vals.length) := hl
      clear hx hl HR
      obtain ⟨d7, ⟨⟨ca, cy⟩, _⟩, hf⟩ := HX.out.cellV HLn.out (k := k) hlt
      have fc := hf (k * 8 + 2)
      clear hf
      go_wp2_with fail
      go_cut [] (fun wx => XR W0 wx g gr s { y with vals := y.vals.modify k (fun v => { v with tokens := (nx s.data.toList 1000000 st0).1 }) } (nx s.data.toList 1000000 st0).2 bv (.slice (some ⟨gv, 0, none⟩) x.vals.length vc) ev)
      case first =>
        go_region_with (go_at_call 76; refine (HN.out _ st0 1000000 HX.out.drew.r (by decide) (by decide)).mono ?_; rintro e w2 ⟨rfl, hr2, hk2⟩; have hx2 := HX.out.drew.next hr2 hk2; obtain ⟨d7', ⟨⟨ca2, cy2⟩, _⟩, hf'⟩ := hx2.cellV HLn.out (k := k) hlt; have fc2 := hf' (k * 8 + 2); have HX2 : Hid (XR W0 w2 g gr s y (nx s.data.toList 1000000 st0).2 bv (.slice (some ⟨gv, 0, none⟩) x.vals.length vc) ev) := hx2; clear hx2 hr2 hk2 hf')
        all_goals (go_wp2_with fail; go_meet; exact HX2.out.mod HLn.out.symm k (by have := HLn.out; omega) 2 (by omega) _ _ rfl)
      case rest =>
        obtain ⟨y1, hy1⟩ : ∃ z : EC, z = { y with vals := y.vals.modify k (fun v => { v with tokens := (nx s.data.toList 1000000 st0).1 }) } := ⟨_, rfl⟩
        rw [← hy1] at hcut
        have HY1 : Hid (y1 = { y with vals := y.vals.modify k (fun v => { v with tokens := (nx s.data.toList 1000000 st0).1 }) }) := hy1
        have hl1 : y1.vals.length = x.vals.length := by rw [hy1]; simp only [List.length_modify]; exact HLn.out
        clear HLn hy1 d7 cy fc HX
        have HLn : Hid (y1.vals.length = x.vals.length) := hl1
        have HX1 : Hid (XR W0 wc g gr s y1 (nx s.data.toList 1000000 st0).2 bv (.slice (some ⟨gv, 0, none⟩) x.vals.length vc) ev) := hcut
        clear hcut hl1
        obtain ⟨w1x, hw1x⟩ : ∃ w', w' = wc := ⟨_, rfl⟩
        rw [← hw1x] at HX1 ⊢
        clear hw1x
        obtain ⟨d7, ⟨_, ⟨ca, cy⟩, _⟩, hf⟩ := HX1.out.cellV HLn.out (k := k) hlt
        have fc := hf (k * 8 + 4)
        clear hf
        go_wp2_with fail
        go_cut [] (fun wx => XR W0 wx g gr s { y1 with vals := y1.vals.modify k (fun v => { v with comm := (nx s.data.toList 1000000 (nx s.data.toList 1000000 st0).2).1 }) } (nx s.data.toList 1000000 (nx s.data.toList 1000000 st0).2).2 bv (.slice (some ⟨gv, 0, none⟩) x.vals.length vc) ev)
        case first =>
          go_region_with (go_at_call 76; refine (HN.out _ (nx s.data.toList 1000000 st0).2 1000000 HX1.out.drew.r (by decide) (by decide)).mono ?_; rintro e w2 ⟨rfl, hr2, hk2⟩; have hx2 := HX1.out.drew.next hr2 hk2; obtain ⟨d7', ⟨_, ⟨ca2, cy2⟩, _⟩, hf'⟩ := hx2.cellV HLn.out (k := k) hlt; have fc2 := hf' (k * 8 + 4); have HX2 : Hid (XR W0 w2 g gr s y1 (nx s.data.toList 1000000 (nx s.data.toList 1000000 st0).2).2 bv (.slice (some ⟨gv, 0, none⟩) x.vals.length vc) ev) := hx2; clear hx2 hr2 hk2 hf')
          all_goals (go_wp2_with fail; go_meet; exact HX2.out.mod HLn.out.symm k (by have := HLn.out; omega) 4 (by omega) _ _ rfl)
        case rest =>
          obtain ⟨y2, hy2⟩ : ∃ z : EC, z = { y1 with vals := y1.vals.modify k (fun v => { v with comm := (nx s.data.toList 1000000 (nx s.data.toList 1000000 st0).2).1 }) } := ⟨_, rfl⟩
          rw [← hy2] at hcut
          have HY2 : Hid (y2 = { y1 with vals := y1.vals.modify k (fun v => { v with comm := (nx s.data.toList 1000000 (nx s.data.toList 1000000 st0).2).1 }) }) := hy2
          have hl2 : y2.vals.length = x.vals.length := by rw [hy2]; simp only [List.length_modify]; exact HLn.out
          clear HLn hy2 d7 cy fc HX1
          have HLn : Hid (y2.vals.length = x.vals.length) := hl2
          have HX2 : Hid (XR W0 wc g gr s y2 (nx s.data.toList 1000000 (nx s.data.toList 1000000 st0).2).2 bv (.slice (some ⟨gv, 0, none⟩) x.vals.length vc) ev) := hcut
          clear hcut hl2
          obtain ⟨w2x, hw2x⟩ : ∃ w', w' = wc := ⟨_, rfl⟩
          rw [← hw2x] at HX2 ⊢
          clear hw2x
          obtain ⟨d7, ⟨_, _, ⟨ca, cy⟩, _⟩, hf⟩ := HX2.out.cellV HLn.out (k := k) hlt
          have fc := hf (k * 8 + 5)
          clear hf
          go_wp2_with fail
          go_cut [] (fun wx => XR W0 wx g gr s { y2 with vals := y2.vals.modify k (fun v => { v with outs := (nx s.data.toList 1000000 (nx s.data.toList 1000000 (nx s.data.toList 1000000 st0).2).2).1 }) } (nx s.data.toList 1000000 (nx s.data.toList 1000000 (nx s.data.toList 1000000 st0).2).2).2 bv (.slice (some ⟨gv, 0, none⟩) x.vals.length vc) ev)
          case first =>
            go_region_with (go_at_call 76; refine (HN.out _ (nx s.data.toList 1000000 (nx s.data.toList 1000000 st0).2).2 1000000 HX2.out.drew.r (by decide) (by decide)).mono ?_; rintro e w2 ⟨rfl, hr2, hk2⟩; have hx2 := HX2.out.drew.next hr2 hk2; obtain ⟨d7', ⟨_, _, ⟨ca2, cy2⟩, _⟩, hf'⟩ := hx2.cellV HLn.out (k := k) hlt; have fc2 := hf' (k * 8 + 5); have HX2 : Hid (XR W0 w2 g gr s y2 (nx s.data.toList 1000000 (nx s.data.toList 1000000 (nx s.data.toList 1000000 st0).2).2).2 bv (.slice (some ⟨gv, 0, none⟩) x.vals.length vc) ev) := hx2; clear hx2 hr2 hk2 hf')
            all_goals (go_wp2_with fail; go_meet; exact HX2.out.mod HLn.out.symm k (by have := HLn.out; omega) 5 (by omega) _ _ rfl)
          case rest =>
            obtain ⟨y3, hy3⟩ : ∃ z : EC, z = { y2 with vals := y2.vals.modify k (fun v => { v with outs := (nx s.data.toList 1000000 (nx s.data.toList 1000000 (nx s.data.toList 1000000 st0).2).2).1 }) } := ⟨_, rfl⟩
            rw [← hy3] at hcut
            have HY3 : Hid (y3 = { y2 with vals := y2.vals.modify k (fun v => { v with outs := (nx s.data.toList 1000000 (nx s.data.toList 1000000 (nx s.data.toList 1000000 st0).2).2).1 }) }) := hy3
            have hl3 : y3.vals.length = x.vals.length := by rw [hy3]; simp only [List.length_modify]; exact HLn.out
            clear HLn hy3 d7 cy fc HX2
            have HLn : Hid (y3.vals.length = x.vals.length) := hl3
            have HX3 : Hid (XR W0 wc g gr s y3 (nx s.data.toList 1000000 (nx s.data.toList 1000000 (nx s.data.toList 1000000 st0).2).2).2 bv (.slice (some ⟨gv, 0, none⟩) x.vals.length vc) ev) := hcut
            clear hcut hl3
            obtain ⟨w3x, hw3x⟩ : ∃ w', w' = wc := ⟨_, rfl⟩
            rw [← hw3x] at HX3 ⊢
            clear hw3x
            go_wp2_with fail
            refine (HN.out _ (nx s.data.toList 1000000 (nx s.data.toList 1000000 (nx s.data.toList 1000000 st0).2).2).2 2 HX3.out.r (by decide) (by decide)).mono ?_
            rintro e w4 ⟨rfl, hr4, hk4⟩
            have hx4 := HX3.out.next hr4 hk4
            obtain ⟨d7, ⟨_, _, _, ⟨b6, y6⟩, ⟨b7, y7⟩⟩, hf⟩ := hx4.cellV HLn.out (k := k) hlt
            have f6 := hf (k * 8 + 6)
            have f7 := hf (k * 8 + 7)
            have HX4 : Hid (XR W0 w4 g gr s y3 (nx s.data.toList 2 (nx s.data.toList 1000000 (nx s.data.toList 1000000 (nx s.data.toList 1000000 st0).2).2).2).2 bv (.slice (some ⟨gv, 0, none⟩) x.vals.length vc) ev) := hx4
            clear hr4 hk4 hx4 hf HX3
            have hm1 := HX4.out.mod HLn.out.symm k (by have := HLn.out; omega) 6 (by omega) (.bool ((nx s.data.toList 2 (nx s.data.toList 1000000 (nx s.data.toList 1000000 (nx s.data.toList 1000000 st0).2).2).2).1 == 2)) (fun v => { v with jailed := decide ((nx s.data.toList 2 (nx s.data.toList 1000000 (nx s.data.toList 1000000 (nx s.data.toList 1000000 st0).2).2).2).1 = 2) }) rfl
            have hm2 := hm1.mod (by simp only [List.length_modify]; exact HLn.out.symm) k (by simp only [List.length_modify]; have := HLn.out; omega) 7 (by omega) (.bool ((nx s.data.toList 2 (nx s.data.toList 1000000 (nx s.data.toList 1000000 (nx s.data.toList 1000000 st0).2).2).2).1 == 1)) (fun v => { v with inset := decide ((nx s.data.toList 2 (nx s.data.toList 1000000 (nx s.data.toList 1000000 (nx s.data.toList 1000000 st0).2).2).2).1 = 1) }) rfl
            have hfl : (rdV s.data.toList (x, st) (k + 1)).1.vals.length = x.vals.length := by
              rw [HL.out]
              have h3 := HLn.out
              rw [HY3.out, HY2.out, HY1.out] at h3
              simp only [List.length_modify] at h3
              simp only [rdV1, List.length_modify]; exact h3
            rw [HY3.out, HY2.out, HY1.out] at hm2
            have hfx : XR W0 ((w4.setCell ⟨gv, k * 8 + 6, none⟩ (.bool ((nx s.data.toList 2 (nx s.data.toList 1000000 (nx s.data.toList 1000000 (nx s.data.toList 1000000 st0).2).2).2).1 == 2))).setCell ⟨gv, k * 8 + 7, none⟩ (.bool ((nx s.data.toList 2 (nx s.data.toList 1000000 (nx s.data.toList 1000000 (nx s.data.toList 1000000 st0).2).2).2).1 == 1))) g gr s (rdV s.data.toList (x, st) (k + 1)).1 (rdV s.data.toList (x, st) (k + 1)).2 bv (.slice (some ⟨gv, 0, none⟩) x.vals.length vc) ev := by
              rw [HL.out]; exact hm2
            have HFL : Hid ((rdV s.data.toList (x, st) (k + 1)).1.vals.length = x.vals.length) := hfl
            have HFX : Hid (XR W0 ((w4.setCell ⟨gv, k * 8 + 6, none⟩ (.bool ((nx s.data.toList 2 (nx s.data.toList 1000000 (nx s.data.toList 1000000 (nx s.data.toList 1000000 st0).2).2).2).1 == 2))).setCell ⟨gv, k * 8 + 7, none⟩ (.bool ((nx s.data.toList 2 (nx s.data.toList 1000000 (nx s.data.toList 1000000 (nx s.data.toList 1000000 st0).2).2).2).1 == 1))) g gr s (rdV s.data.toList (x, st) (k + 1)).1 (rdV s.data.toList (x, st) (k + 1)).2 bv (.slice (some ⟨gv, 0, none⟩) x.vals.length vc) ev) := hfx
            clear hm1 hm2 hfl hfx HX4
            go_wp2
            refine And.intro ?_ ?_
            · first | exact ⟨k + 1, by omega, by go_num, HFX.out, HFL.out⟩ | ((repeat apply Exists.intro); exact ⟨⟨k + 1, by omega, by go_num, HFX.out, HFL.out⟩, rfl⟩)
            · simp [intOf]; omega
    · have ek : k = x.vals.length := by omega
      subst ek
      have HX : Hid (XR W0 wr g gr s (rdV s.data.toList (x, st) x.vals.length).1 (rdV s.data.toList (x, st) x.vals.length).2 bv (.slice va x.vals.length vc) ev) := hx
      clear hx hl
      go_wp2
      go_end0
      exact ⟨rfl, HX.out⟩
end Go.Proofs.YtohjjgefklhmaabGreatDoor
