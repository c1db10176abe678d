import Derived.Test.YtohjjgefklhmaaaGreatDoorXImpM
import Derived.Deep.RegionWith
import Derived.Deep.DeepCutAuto
namespace Go.Proofs.YtohjjgefklhmaaaGreatDoor
open Go.ChangeShapes Go.WideShapes Go.ChangeAt Go.RowKit
set_option linter.unusedVariables false
set_option maxHeartbeats 40000000
set_option maxRecDepth 100000
variable {x y : EC}
theorem D3 (l : List Int) (k : Nat) (h : k < l.length) : AE (l.take (k + 1)) = AE (l.take k) + l[k] := by
 rw [List.take_succ_eq_append_getElem h, C2]; simp [AE]
theorem DU (l : List Int) (c : Int) (h : ∀ n, n ∈ l -> 0 <= n ∧ n <= c) (k : Nat) (hk : k <= l.length) : 0 <= AE (l.take k) ∧ AE (l.take k) <= c * k := by
 induction k with
 | zero => simp [AE]
 | succ k ih =>
  have h1 := ih (by omega)
  have h2 := h l[k] (List.getElem_mem (by omega))
  rw [D3 l k (by omega), Int.natCast_add, Int.mul_add]; omega
theorem Qb (l : List VS) : AE (l.map (fun v => v.tokens + v.outs)) = AT (·.tokens) l + AT (·.outs) l := by
 unfold AT
 induction l with
 | nil => rfl
 | cons a l ih => simp only [List.map_cons, AE, ih]; omega
section
variable {S : Nat -> Prop} {W0 : World} (g : Nat) (x : EC) (bv vv ev : Value) (w : World) (h : PE S W0 w g x bv vv ev) (wb : WBd x)
include h wb
theorem QH : Calls Tryz.prog 82 #[.pointer (some ⟨g, 0, none⟩)] w fun e w' => e = .returned (.int .i64 x.tot) ∧ Below w.heap.size w w' := by
 have b6 := wb.b6
 have v5 := wb.v5
 have el := wb.el
 obtain ⟨ff0, ff1⟩ := wb.ff
 obtain ⟨pp0, pp1⟩ := wb.pp
 have HB1 : Hid (∀ k, k <= x.bal.length -> 0 <= AE (x.bal.take k) ∧ AE (x.bal.take k) <= 1073741824000000 * k) := fun k hk => DU x.bal _ wb.bb k hk
 have hvb : ∀ n, n ∈ x.vals.map (fun v => v.tokens + v.outs) -> 0 <= n ∧ n <= 2000000 := fun n hn => by
  obtain ⟨v, hv, rfl⟩ := List.mem_map.1 hn
  obtain ⟨t0, t1, _, _, o0, o1, _⟩ := wb.vb v hv
  exact ⟨by omega, by omega⟩
 have HB2 : Hid (∀ k, k <= x.vals.length -> 0 <= AE ((x.vals.map (fun v => v.tokens + v.outs)).take k) ∧ AE ((x.vals.map (fun v => v.tokens + v.outs)).take k) <= 2000000 * k) := fun k hk => DU _ _ hvb k (by simpa using hk)
 have heb : ∀ n, n ∈ x.ents.map (·.amount) -> 0 <= n ∧ n <= 1073741824000000 := fun n hn => by
  obtain ⟨e, he, rfl⟩ := List.mem_map.1 hn
  exact wb.eb e he e.amount (by simp [entNs])
 have HB3 : Hid (∀ k, k <= x.ents.length -> 0 <= AE ((x.ents.map (·.amount)).take k) ∧ AE ((x.ents.map (·.amount)).take k) <= 1073741824000000 * k) := fun k hk => DU _ _ heb k (by simpa using hk)
 have HT : Hid (x.tot = x.fees + x.pool + AE x.bal + AE (x.vals.map (fun v => v.tokens + v.outs)) + AE (x.ents.map (·.amount))) := by
  show x.tot = _
  unfold EC.tot; rw [Qb]; omega
 obtain ⟨ba, bc, rfl⟩ := Ac h.b
 obtain ⟨va, vc, rfl⟩ := Ac h.v
 obtain ⟨ea, ec, rfl⟩ := Ac h.e
 have c5 : w.cell? ⟨g, 5, none⟩ = some (.int .i64 x.fees) := h.L.cell 5
 have c6 : w.cell? ⟨g, 6, none⟩ = some (.int .i64 x.pool) := h.L.cell 6
 have c4 : w.cell? ⟨g, 4, none⟩ = some (.slice ba x.bal.length bc) := h.L.cell 4
 have HP := Hd h
 have hvb2 := wb.vb
 clear h wb hvb heb
 go_enter Tryz.func82, Tryz.ntmps82
 go_wp2
 go_region
 go_wp2
 go_loopw [3, 24] (fun n i wr => ∃ k : Nat, k <= x.bal.length ∧ i = .int .i64 k ∧ n = .int .i64 (x.fees + x.pool + AE (x.bal.take k)) ∧ Below w.heap.size w wr) (fun _ i _ => x.bal.length - (intOf i).toNat)
 case atStart => exact ⟨0, Nat.zero_le _, rfl, by simp [AE], (Below.refl _ _).drew⟩
 case round =>
  obtain ⟨k, hk, rfl, rfl, hbw⟩ := hrel
  obtain ⟨q1, q2⟩ := HB1.out k hk
  have hP := HP.out.below hbw
  by_cases hlt : k < x.bal.length
  ·obtain ⟨gb, rfl, _⟩ := Ag hP.b (by omega)
   have cb := hP.balAt' hlt
   obtain ⟨q3, q4⟩ := HB1.out (k + 1) hlt
   have e1 : AE (x.bal.take (k + 1)) = AE (x.bal.take k) + x.balAt k := by rw [D3 x.bal k hlt]; simp [EC.balAt, hlt]
   rw [e1] at q3 q4
   have HS := Hd e1
   have HB := Hd hbw
   clear hP hbw e1 HP
   generalize x.balAt k = bk at *
   generalize hA : AE (x.bal.take k) = A at *
   go_wp2
   refine And.intro ?_ ?_
   ·first | exact ⟨k + 1, by omega, by go_num, by rw [HS.out, Int.add_assoc], HB.out⟩ | ((repeat apply Exists.intro); exact ⟨⟨k + 1, by omega, by go_num, by rw [HS.out, Int.add_assoc], HB.out⟩, rfl⟩)
   ·simp [intOf]; omega
  ·have ek : k = x.bal.length := by omega
   subst ek
   rw [List.take_length] at *
   have d7 : wr.cell? ⟨g, 7, none⟩ = some (.slice va x.vals.length vc) := hP.L.cell 7
   have HB := Hd hbw
   clear hP hbw HB1
   generalize hA1 : x.fees + x.pool + AE x.bal = A1 at *
   have a0 : 0 <= A1 := by omega
   have a1 : A1 <= 6442450946000000 := by omega
   clear q1 q2
   go_wp2
   go_loopw [3, 37] (fun n i wr => ∃ k : Nat, k <= x.vals.length ∧ i = .int .i64 k ∧ n = .int .i64 (A1 + AE ((x.vals.map (fun v => v.tokens + v.outs)).take k)) ∧ Below w.heap.size w wr) (fun _ i _ => x.vals.length - (intOf i).toNat)
   case atStart => exact ⟨0, Nat.zero_le _, rfl, by simp [AE], HB.out⟩
   case round =>
    obtain ⟨k, hk, rfl, rfl, hbw⟩ := hrel
    obtain ⟨q1, q2⟩ := HB2.out k hk
    have hP := HP.out.below hbw
    by_cases hlt : k < x.vals.length
    ·obtain ⟨gv, rfl, hcell, hfr⟩ := hP.val8 rfl hlt
     have y0 := hcell 0 (by omega)
     have y1 := hcell 1 (by omega)
     have y2 := hcell 2 (by omega)
     have y3 := hcell 3 (by omega)
     have y4 := hcell 4 (by omega)
     have y5 := hcell 5 (by omega)
     have y6 := hcell 6 (by omega)
     have y7 := hcell 7 (by omega)
     rw [Nat.add_zero] at y0
     have hvk := hvb2 x.vals[k] (List.getElem_mem hlt)
     have e1 : AE ((x.vals.map (fun v => v.tokens + v.outs)).take (k + 1)) = AE ((x.vals.map (fun v => v.tokens + v.outs)).take k) + (x.vals[k].tokens + x.vals[k].outs) := by rw [D3 _ k (by simpa using hlt)]; simp
     have HS := Hd e1
     have HBX : Hid (∀ o, Below w.heap.size w (wr.alloc o)) := fun o => hbw.alloc hbw.size o
     clear hP hbw e1 HP hcell hfr
     generalize x.vals[k] = vk at *
     obtain ⟨v1, v2, v3, v4, v5', v6, v7, v8⟩ := vk
     obtain ⟨t0, t1, _, _, o0, o1, _⟩ := hvk
     simp only [VS.cells, List.getElem?_cons_zero, List.getElem?_cons_succ] at y0 y1 y2 y3 y4 y5 y6 y7
     dsimp only at t0 t1 o0 o1 HS
     generalize hA : AE ((x.vals.map (fun v => v.tokens + v.outs)).take k) = A at *
     go_wp2
     refine And.intro ?_ ?_
     ·first | exact ⟨k + 1, by omega, by go_num, by rw [HS.out, Int.add_assoc], HBX.out _⟩ | ((repeat apply Exists.intro); exact ⟨⟨k + 1, by omega, by go_num, by rw [HS.out, Int.add_assoc], HBX.out _⟩, rfl⟩)
     ·simp [intOf]; omega
    ·have ek : k = x.vals.length := by omega
     subst ek
     rw [List.take_of_length_le (by simp)] at *
     have d73 : wr.cell? ⟨g, 73, none⟩ = some (.slice ea x.ents.length ec) := hP.evAt
     have HBY := Hd hbw
     clear hP hbw HB2 HB
     generalize hA2 : A1 + AE (x.vals.map (fun v => v.tokens + v.outs)) = A2 at *
     have b0 : 0 <= A2 := by omega
     have b1 : A2 <= 6442450956000000 := by omega
     clear q1 q2
     go_wp2
     go_loopw [3, 54] (fun n i wr => ∃ k : Nat, k <= x.ents.length ∧ i = .int .i64 k ∧ n = .int .i64 (A2 + AE ((x.ents.map (·.amount)).take k)) ∧ Below w.heap.size w wr) (fun _ i _ => x.ents.length - (intOf i).toNat)
     case atStart => exact ⟨0, Nat.zero_le _, rfl, by simp [AE], HBY.out⟩
     case round =>
      obtain ⟨k, hk, rfl, rfl, hbw⟩ := hrel
      obtain ⟨q1, q2⟩ := HB3.out k hk
      have hP := HP.out.below hbw
      by_cases hlt : k < x.ents.length
      ·obtain ⟨ge, rfl, hc⟩ := (Rd.of_owns hP.e).get (by omega)
       have y0 := hc _ _ (AC x.ents k hlt 0 (by omega))
       have y1 := hc _ _ (AC x.ents k hlt 1 (by omega))
       have y2 := hc _ _ (AC x.ents k hlt 2 (by omega))
       have y3 := hc _ _ (AC x.ents k hlt 3 (by omega))
       rw [Nat.add_zero] at y0
       obtain ⟨q3, q4⟩ := HB3.out (k + 1) hlt
       have e1 : AE ((x.ents.map (·.amount)).take (k + 1)) = AE ((x.ents.map (·.amount)).take k) + x.ents[k].amount := by rw [D3 _ k (by simpa using hlt)]; simp
       rw [e1] at q3 q4
       have HS := Hd e1
       have HBX : Hid (∀ o, Below w.heap.size w (wr.alloc o)) := fun o => hbw.alloc hbw.size o
       clear hP hbw e1 HP hc
       generalize x.ents[k] = en at *
       obtain ⟨ew, evl, em, ea2⟩ := en
       dsimp only at y0 y1 y2 y3 HS q3 q4
       generalize hA : AE ((x.ents.map (·.amount)).take k) = A at *
       go_wp2
       refine And.intro ?_ ?_
       ·first | exact ⟨k + 1, by omega, by go_num, by rw [HS.out, Int.add_assoc], HBX.out _⟩ | ((repeat apply Exists.intro); exact ⟨⟨k + 1, by omega, by go_num, by rw [HS.out, Int.add_assoc], HBX.out _⟩, rfl⟩)
       ·simp [intOf]; omega
      ·have ek : k = x.ents.length := by omega
       subst ek
       rw [List.take_of_length_le (by simp)] at *
       have HBZ := Hd hbw
       have HT2 : Hid (A2 + AE (x.ents.map (·.amount)) = x.tot) := by
        show A2 + AE (x.ents.map (·.amount)) = x.tot
        rw [HT.out, <- hA2, <- hA1]
       clear hP hbw HT hA2 hA1
       go_wp2
       go_ret
       exact ⟨As HT2.out, HBZ.out⟩
end
section
variable {S : Nat -> Prop} {W0 : World} (g : Nat) (x : EC) (bv vv ev : Value) (w : World) (h : PE S W0 w g x bv vv ev) (wb : WBd x)
include h wb
theorem PG : Calls Tryz.prog 83 #[.pointer (some ⟨g, 0, none⟩)] w fun e w' => e = .returned (.int .i64 (AT inI x.vals)) ∧ Below w.heap.size w w' := by
 have v5 := wb.v5
 have HB2 : Hid (∀ k, k <= x.vals.length -> 0 <= AE ((x.vals.map inI).take k) ∧ AE ((x.vals.map inI).take k) <= 1 * k) := fun k hk => DU _ 1 (fun n hn => by
  obtain ⟨v, hv, rfl⟩ := List.mem_map.1 hn
  have := PT v; omega) k (by simpa using hk)
 obtain ⟨va, vc, rfl⟩ := Ac h.v
 have c7 : w.cell? ⟨g, 7, none⟩ = some (.slice va x.vals.length vc) := h.L.cell 7
 have HP := Hd h
 clear h wb
 go_enter Tryz.func83, Tryz.ntmps83
 go_wp2
 go_loopw [3, 11] (fun n i wr => ∃ k : Nat, k <= x.vals.length ∧ i = .int .i64 k ∧ n = .int .i64 (AE ((x.vals.map inI).take k)) ∧ Below w.heap.size w wr) (fun _ i _ => x.vals.length - (intOf i).toNat)
 case atStart => exact ⟨0, Nat.zero_le _, rfl, by simp [AE], Below.refl _ _⟩
 case round =>
  obtain ⟨k, hk, rfl, rfl, hbw⟩ := hrel
  obtain ⟨q1, q2⟩ := HB2.out k hk
  have hP := HP.out.below hbw
  by_cases hlt : k < x.vals.length
  ·obtain ⟨gv, rfl, hcell, hfr⟩ := hP.val8 rfl hlt
   have y0 := hcell 0 (by omega)
   have y1 := hcell 1 (by omega)
   have y2 := hcell 2 (by omega)
   have y3 := hcell 3 (by omega)
   have y4 := hcell 4 (by omega)
   have y5 := hcell 5 (by omega)
   have y6 := hcell 6 (by omega)
   have y7 := hcell 7 (by omega)
   rw [Nat.add_zero] at y0
   have e1 : AE ((x.vals.map inI).take (k + 1)) = AE ((x.vals.map inI).take k) + inI x.vals[k] := by rw [D3 _ k (by simpa using hlt)]; simp
   have HS := Hd e1
   have HBX : Hid (∀ o, Below w.heap.size w (wr.alloc o)) := fun o => hbw.alloc hbw.size o
   clear hP hbw e1 HP hcell hfr
   generalize x.vals[k] = vk at *
   obtain ⟨v1, v2, v3, v4, v5', v6, v7, v8⟩ := vk
   simp only [VS.cells, List.getElem?_cons_zero, List.getElem?_cons_succ] at y0 y1 y2 y3 y4 y5 y6 y7
   generalize hA : AE ((x.vals.map inI).take k) = A at *
   cases v8
   ·have HS2 : Hid (AE ((x.vals.map inI).take (k + 1)) = A) := by rw [HS.out]; show A + 0 = A; omega
    clear HS
    go_wp2
    refine And.intro ?_ ?_
    ·first | exact ⟨k + 1, by omega, by go_num, by rw [HS2.out], HBX.out _⟩ | ((repeat apply Exists.intro); exact ⟨⟨k + 1, by omega, by go_num, by rw [HS2.out], HBX.out _⟩, rfl⟩)
    ·simp [intOf]; omega
   ·have HS2 : Hid (AE ((x.vals.map inI).take (k + 1)) = A + 1) := by rw [HS.out]; rfl
    clear HS
    go_wp2
    refine And.intro ?_ ?_
    ·first | exact ⟨k + 1, by omega, by go_num, by rw [HS2.out], HBX.out _⟩ | ((repeat apply Exists.intro); exact ⟨⟨k + 1, by omega, by go_num, by rw [HS2.out], HBX.out _⟩, rfl⟩)
    ·simp [intOf]; omega
  ·have ek : k = x.vals.length := by omega
   subst ek
   rw [List.take_of_length_le (by simp)] at *
   have HBY := Hd hbw
   clear hP hbw HB2
   go_wp2
   go_ret
   exact ⟨rfl, HBY.out⟩
def B3 (x : EC) (j k : Nat) : Int := BJ (fun r => x.sh r j * (x.per j - x.upto r j)) k
theorem Qz (j : Nat) (hj : j < x.vals.length) (hco : (x.val j).comm <= (x.val j).outs) :
  Calls Tryz.prog 141 #[.pointer (some ⟨g, 0, none⟩), .int .i64 j] w fun e w' => e = .returned (.bool (decide (B3 x j x.bal.length <= ((x.val j).outs - (x.val j).comm) * 1073741824))) ∧ Below w.heap.size w w' := by
 have b6 := wb.b6
 have v5 := wb.v5
 have hvk := wb.vb (x.val j) (by rw [<- EC.val_eq x hj]; exact List.getElem_mem hj)
 have htm : ∀ r, r < 6 -> 0 <= x.sh r j * (x.per j - x.upto r j) := fun r hr => Int.mul_nonneg (wb.db.s0 r j hr (by omega)).1 (by have := wb.hu r j hr (by omega); omega)
 have HM : Hid (∀ k n, k <= n -> n <= 6 -> B3 x j k <= B3 x j n) := fun k n hk hn => by
  have := NQ (f := fun r => x.sh r j * (x.per j - x.upto r j)) k (n - k) (fun i h1 h2 => htm i (by omega))
  rw [show k + (n - k) = n by omega] at this
  exact this
 have HNN : Hid (∀ k, k <= 6 -> 0 <= B3 x j k) := fun k hk => by have := HM.out 0 k (by omega) hk; simpa [B3, BJ] using this
 have HST : Hid (∀ k, B3 x j (k + 1) = B3 x j k + x.sh k j * (x.per j - x.upto k j)) := fun k => rfl
 obtain ⟨ba, bc, rfl⟩ := Ac h.b
 obtain ⟨va, vc, rfl⟩ := Ac h.v
 obtain ⟨gv, hgv, hcell, hfr⟩ := h.val8 rfl hj
 subst hgv
 have y4 : w.cell? ⟨gv, j * 8 + 4, none⟩ = some (.int .i64 (x.val j).comm) := by have := hcell 4 (by omega); rw [EC.val_eq x hj] at this; exact this
 have y5 : w.cell? ⟨gv, j * 8 + 5, none⟩ = some (.int .i64 (x.val j).outs) := by have := hcell 5 (by omega); rw [EC.val_eq x hj] at this; exact this
 have c7 : w.cell? ⟨g, 7, none⟩ = some (.slice (some ⟨gv, 0, none⟩) x.vals.length vc) := h.L.cell 7
 have c4 : w.cell? ⟨g, 4, none⟩ = some (.slice ba x.bal.length bc) := h.L.cell 4
 have HP := Hd h
 have HDB := Hd wb.db
 have HU := Hd wb.hu
 obtain ⟨_, _, k0, k1, o0, o1, _⟩ := hvk
 obtain ⟨L, hL⟩ : ∃ L, L = ((x.val j).outs - (x.val j).comm) * 1073741824 := ⟨_, rfl⟩
 rw [<- hL]
 have l0 : 0 <= L := by rw [hL]; omega
 have l1 : L <= 1073741824000000 := by rw [hL]; omega
 have HLL := Hd hL
 clear h wb htm hcell hfr hL
 generalize (x.val j).comm = cm at *
 generalize (x.val j).outs = ot at *
 go_enter Tryz.func141, Tryz.ntmps141
 go_wp2
 go_region
 rw [<- HLL.out]
 go_wp2
 go_loopw [5, 32] (fun n i wr => ∃ k : Nat, k <= x.bal.length ∧ i = .int .i64 k ∧ n = .int .i64 (L - B3 x j k) ∧ B3 x j k <= L ∧ Below w.heap.size w wr) (fun _ i _ => x.bal.length - (intOf i).toNat)
 case atStart => exact ⟨0, Nat.zero_le _, rfl, by simp [B3, BJ], by simpa [B3, BJ] using l0, (Below.refl _ _).drew⟩
 case round =>
  obtain ⟨k, hk, rfl, rfl, hle, hbw⟩ := hrel
  have q0 := HNN.out k (by omega)
  have hP := HP.out.below hbw
  by_cases hlt : k < x.bal.length
  ·have cs := hP.shAt (k := k) (j := j) (by omega) (by omega)
   have hs := HDB.out.s0 k j (by omega) (by omega)
   have hu := HU.out k j (by omega) (by omega)
   have hst := HST.out k
   have HPN : Hid (Calls Tryz.prog 88 #[.pointer (some ⟨g, 0, none⟩), .int .i64 k, .int .i64 j] wr fun e w'' => e = .returned (.int .i64 (x.per j - x.upto k j)) ∧ w'' = wr.drew) := IU g x _ _ _ wr hP k j (by omega) (by omega) hu.1 hu.2.1 hu.2.2
   have HB := Hd hbw
   have hpd : 0 < x.sh k j -> 0 <= x.per j - x.upto k j ∧ x.per j - x.upto k j <= 1073741824000000 := fun h0 => HDB.out.p0 k j (by omega) (by omega) h0
   clear hP hbw
   by_cases h0 : 0 < x.sh k j
   ·have hpb := hpd h0
    clear hpd hu
    obtain ⟨lf, hlf⟩ : ∃ lf, lf = L - B3 x j k := ⟨_, rfl⟩
    have f0 : 0 <= lf := by omega
    have f1 : lf <= 1073741824000000 := by omega
    rw [<- hlf]
    by_cases hc : x.sh k j * (x.per j - x.upto k j) <= lf
    ·have hq : x.per j - x.upto k j <= lf / x.sh k j := (Int.le_ediv_iff_mul_le h0).2 (by rw [Int.mul_comm]; exact hc)
     have hm0 : 0 <= x.sh k j * (x.per j - x.upto k j) := Int.mul_nonneg (by omega) (by omega)
     have HF1 : Hid (lf - x.sh k j * (x.per j - x.upto k j) = L - B3 x j (k + 1)) := by show _ = _; rw [hst, hlf]; omega
     have HF2 : Hid (B3 x j (k + 1) <= L) := by show B3 x j (k + 1) <= L; rw [hst]; omega
     have ht : lf.tdiv (x.sh k j) = lf / x.sh k j := Int.tdiv_eq_ediv_of_nonneg f0
     have qb0 : 0 <= lf / x.sh k j := Int.ediv_nonneg f0 (by omega)
     have qb1 : lf / x.sh k j <= lf := Int.ediv_le_self _ f0
     clear hst hlf hle q0
     generalize x.per j - x.upto k j = pv at *
     generalize x.sh k j = sv at *
     generalize hmul : sv * pv = mv at *
     generalize hqv : lf / sv = qv at *
     have qb2 : qv <= 1073741824000000 := by omega
     have hq0 : ¬ qv < pv := by omega
     have hsv : ¬ sv = 0 := by omega
     go_wp2_with fail
     refine HPN.out.mono ?_
     rintro e w' ⟨rfl, rfl⟩
     go_wp2
     refine And.intro ?_ ?_
     ·first | exact ⟨k + 1, by omega, by go_num, by rw [HF1.out], HF2.out, HB.out.drew⟩ | ((repeat apply Exists.intro); exact ⟨⟨k + 1, by omega, by go_num, by rw [HF1.out], HF2.out, HB.out.drew⟩, rfl⟩)
     ·simp [intOf]; omega
    ·have hq : lf / x.sh k j < x.per j - x.upto k j := by
      have h2 : ¬ (x.per j - x.upto k j <= lf / x.sh k j) := fun h3 => hc (by have := (Int.le_ediv_iff_mul_le h0).1 h3; rw [Int.mul_comm]; exact this)
      omega
     have ht : lf.tdiv (x.sh k j) = lf / x.sh k j := Int.tdiv_eq_ediv_of_nonneg f0
     have qb0 : 0 <= lf / x.sh k j := Int.ediv_nonneg f0 (by omega)
     have qb1 : lf / x.sh k j <= lf := Int.ediv_le_self _ f0
     have HD : Hid (decide (B3 x j x.bal.length <= L) = false) := by
      refine decide_eq_false (fun h3 => ?_)
      have := HM.out (k + 1) x.bal.length (by omega) (by omega)
      rw [hst] at this
      omega
     clear hst hlf hle q0 hc
     generalize x.per j - x.upto k j = pv at *
     generalize x.sh k j = sv at *
     generalize hqv : lf / sv = qv at *
     have qb2 : qv <= 1073741824000000 := by omega
     have hsv : ¬ sv = 0 := by omega
     go_wp2_with fail
     refine HPN.out.mono ?_
     rintro e w' ⟨rfl, rfl⟩
     go_wp2
     go_ret
     rw [HD.out]
     exact ⟨rfl, HB.out.drew⟩
   ·have e0 : x.sh k j = 0 := by omega
    have HF1 : Hid (L - B3 x j k = L - B3 x j (k + 1)) := by show _ = _; rw [hst, e0, Int.zero_mul, Int.add_zero]
    have HF2 : Hid (B3 x j (k + 1) <= L) := by show B3 x j (k + 1) <= L; rw [hst, e0, Int.zero_mul, Int.add_zero]; exact hle
    rw [e0] at cs
    clear hst hpd hu HPN h0 e0 hs
    generalize L - B3 x j k = lf at *
    go_wp2
    refine And.intro ?_ ?_
    ·first | exact ⟨k + 1, by omega, by go_num, by rw [HF1.out], HF2.out, HB.out⟩ | ((repeat apply Exists.intro); exact ⟨⟨k + 1, by omega, by go_num, by rw [HF1.out], HF2.out, HB.out⟩, rfl⟩)
    ·simp [intOf]; omega
  ·have ek : k = x.bal.length := by omega
   subst ek
   have HD : Hid (decide (B3 x j x.bal.length <= L) = true) := decide_eq_true hle
   have HB := Hd hbw
   clear hP hbw hle
   go_wp2
   go_ret
   rw [HD.out]
   exact ⟨rfl, HB.out⟩
end
structure IX (x : EC) (j : Nat) : Prop where
 s1 : (x.val j).shares <= 1000000
 ko : (x.val j).comm <= (x.val j).outs
 z : (x.val j).shares = 0 -> (x.val j).tokens <= 0 ∧ (x.val j).outs <= (x.val j).comm
 d : B3 x j x.bal.length <= ((x.val j).outs - (x.val j).comm) * 1073741824
section
variable {S : Nat -> Prop} {W0 : World} (g : Nat) (x : EC) (bv vv ev : Value) (w : World) (h : PE S W0 w g x bv vv ev) (wb : WBd x)
include h wb
theorem RL (j : Nat) (hj : j < x.vals.length) :
  Calls Tryz.prog 84 #[.pointer (some ⟨g, 0, none⟩), .int .i64 j] w fun e w' => Ax e (IX x j) ∧ Below w.heap.size w w' := by
 have v5 := wb.v5
 have HC : Hid (∀ o, (x.val j).comm <= (x.val j).outs -> Calls Tryz.prog 141 #[.pointer (some ⟨g, 0, none⟩), .int .i64 j] (w.alloc o) fun e w' => e = .returned (.bool (decide (B3 x j x.bal.length <= ((x.val j).outs - (x.val j).comm) * 1073741824))) ∧ Below (w.alloc o).heap.size (w.alloc o) w') := fun o hco => Qz g x bv vv ev (w.alloc o) (h.alloc o) wb j hj hco
 obtain ⟨va, vc, rfl⟩ := Ac h.v
 obtain ⟨gv, hgv, hcell, hfr⟩ := h.val8 rfl hj
 subst hgv
 have c7 : w.cell? ⟨g, 7, none⟩ = some (.slice (some ⟨gv, 0, none⟩) x.vals.length vc) := h.L.cell 7
 have y0 := hcell 0 (by omega)
 have y1 := hcell 1 (by omega)
 have y2 := hcell 2 (by omega)
 have y3 := hcell 3 (by omega)
 have y4 := hcell 4 (by omega)
 have y5 := hcell 5 (by omega)
 have y6 := hcell 6 (by omega)
 have y7 := hcell 7 (by omega)
 rw [Nat.add_zero] at y0
 rw [EC.val_eq x hj] at y0 y1 y2 y3 y4 y5 y6 y7
 have HV : Hid (IX x j ↔ ((x.val j).shares <= 1000000 ∧ (x.val j).comm <= (x.val j).outs ∧ ((x.val j).shares = 0 -> (x.val j).tokens <= 0 ∧ (x.val j).outs <= (x.val j).comm) ∧ B3 x j x.bal.length <= ((x.val j).outs - (x.val j).comm) * 1073741824)) := ⟨fun h => ⟨h.s1, h.ko, h.z, h.d⟩, fun h => ⟨h.1, h.2.1, h.2.2.1, h.2.2.2⟩⟩
 have HA : Hid (∀ o, Below w.heap.size w (w.alloc o)) := fun o => (Below.refl _ _).alloc (Nat.le_refl _) o
 clear h wb hcell hfr
 generalize B3 x j x.bal.length = OW at *
 generalize x.val j = vj at *
 obtain ⟨v1, v2, v3, v4, v5', v6, v7, v8⟩ := vj
 simp only [VS.cells, List.getElem?_cons_zero, List.getElem?_cons_succ] at y0 y1 y2 y3 y4 y5 y6 y7
 dsimp only at HV HC
 by_cases h1 : 1000000 < v4
 ·have HN : Hid (¬ IX x j) := fun hv => by have := HV.out.1 hv; omega
  go_enter Tryz.func84, Tryz.ntmps84
  go_wp2
  go_ret
  exact ⟨Ax.ff HN.out, HA.out _⟩
 ·by_cases h2 : v6 < v5'
  ·have HN : Hid (¬ IX x j) := fun hv => by have := HV.out.1 hv; omega
   go_enter Tryz.func84, Tryz.ntmps84
   go_wp2
   go_ret
   exact ⟨Ax.ff HN.out, HA.out _⟩
  ·by_cases h3 : v4 = 0 ∧ (0 < v3 ∨ v5' < v6)
   ·have HN : Hid (¬ IX x j) := fun hv => by have := HV.out.1 hv; omega
    obtain ⟨rfl, h4⟩ := h3
    by_cases h5 : 0 < v3
    ·go_enter Tryz.func84, Tryz.ntmps84
     go_wp2
     go_ret
     exact ⟨Ax.ff HN.out, HA.out _⟩
    ·have h6 : v5' < v6 := by omega
     go_enter Tryz.func84, Tryz.ntmps84
     go_wp2
     go_ret
     exact ⟨Ax.ff HN.out, HA.out _⟩
   ·have HN : Hid (IX x j ↔ OW <= (v6 - v5') * 1073741824) := by
     show IX x j ↔ OW <= (v6 - v5') * 1073741824
     rw [HV.out]
     constructor
     ·intro hv; exact hv.2.2.2
     ·intro hv
      refine ⟨by omega, by omega, fun h7 => ?_, hv⟩
      omega
    have HK : Hid (v5' <= v6) := by show v5' <= v6; omega
    by_cases h7 : v4 = 0
    ·subst h7
     have h8 : ¬ 0 < v3 := by omega
     have h9 : ¬ v5' < v6 := by omega
     clear h3 HV
     go_enter Tryz.func84, Tryz.ntmps84
     go_wp2_with fail
     refine (HC.out _ HK.out).mono ?_
     rintro e w1 ⟨rfl, hb1⟩
     have HB1 : Hid (Below w.heap.size w w1) := (HA.out _).trans (hb1.mono (by simp))
     clear hb1 HC
     by_cases h10 : OW <= (v6 - v5') * 1073741824
     ·rw [decide_eq_true h10]
      go_wp2
      go_ret
      exact ⟨Ax.tt (HN.out.2 h10), HB1.out⟩
     ·rw [decide_eq_false h10]
      go_wp2
      go_ret
      exact ⟨Ax.ff (fun hv => by have := HN.out.1 hv; omega), HB1.out⟩
    ·have h7' : (v4 == 0) = false := by simp [h7]
     clear h3 HV
     go_enter Tryz.func84, Tryz.ntmps84
     go_wp2_with fail
     refine (HC.out _ HK.out).mono ?_
     rintro e w1 ⟨rfl, hb1⟩
     have HB1 : Hid (Below w.heap.size w w1) := (HA.out _).trans (hb1.mono (by simp))
     clear hb1 HC
     by_cases h10 : OW <= (v6 - v5') * 1073741824
     ·rw [decide_eq_true h10]
      go_wp2
      go_ret
      exact ⟨Ax.tt (HN.out.2 h10), HB1.out⟩
     ·rw [decide_eq_false h10]
      go_wp2
      go_ret
      exact ⟨Ax.ff (fun hv => by have := HN.out.1 hv; omega), HB1.out⟩
def Il (l : List ES) : Int := l.foldl (fun _ e => e.made) 0
def IH (x : EC) : Prop := FS x.vals.length x.height x.mature x.ents ∧ ∀ e, e ∈ x.ents -> 0 <= e.made
theorem OZ : Calls Tryz.prog 85 #[.pointer (some ⟨g, 0, none⟩)] w fun e w' => (∃ b, e = .returned (.bool b) ∧ (IH x -> b = true)) ∧ Below w.heap.size w w' := by
 have el := wb.el
 have hm := wb.m
 have hh := wb.hh
 have HCT : Hid (∀ w' who val, Below w.heap.size w w' -> Calls Tryz.prog 142 #[.pointer (some ⟨g, 0, none⟩), .int .i64 who, .int .i64 val] w' fun e w'' => e = .returned (.int .i64 (AD x.ents who val)) ∧ Below w'.heap.size w' w'') := fun w' who val hb => ON g x bv vv ev w' (h.below hb) who val (by omega)
 have HCB : Hid (∀ a b, 0 <= AD x.ents a b ∧ AD x.ents a b <= x.ents.length) := fun a b => by have := Jz x.ents a b x.ents.length (Nat.le_refl _); rwa [List.take_length] at this
 have HNB : Hid (∀ e, e ∈ x.ents -> 0 <= e.made ∧ e.made <= 1073741824000000) := fun e he => wb.eb e he e.made (by simp [entNs])
 have HSN : Hid (∀ k (hk : k < x.ents.length), Il (x.ents.take (k + 1)) = x.ents[k].made) := fun k hk => by unfold Il; rw [Cv _ _ _ _ hk]
 have HLE : Hid (IH x -> ∀ k (hk : k < x.ents.length), Il (x.ents.take k) <= x.ents[k].made) := fun hq k hk => by
  cases k with
  | zero => simp only [List.take_zero, Il, List.foldl_nil]; exact hq.2 _ (List.getElem_mem hk)
  | succ k =>
   rw [HSN.out k (by omega)]
   exact List.pairwise_iff_getElem.1 hq.1.so k (k + 1) (by omega) hk (by omega)
 obtain ⟨ea, ec, rfl⟩ := Ac h.e
 have c73 : w.cell? ⟨g, 73, none⟩ = some (.slice ea x.ents.length ec) := h.evAt
 have HP := Hd h
 clear h wb
 go_enter Tryz.func85, Tryz.ntmps85
 go_wp2
 go_loopw [3, 11] (fun n i wr => ∃ k : Nat, k <= x.ents.length ∧ i = .int .i64 k ∧ n = .int .i64 (Il (x.ents.take k)) ∧ Below w.heap.size w wr) (fun _ i _ => x.ents.length - (intOf i).toNat)
 case atStart => exact ⟨0, Nat.zero_le _, rfl, rfl, Below.refl _ _⟩
 case round =>
  obtain ⟨k, hk, rfl, rfl, hbw⟩ := hrel
  have hP := HP.out.below hbw
  by_cases hlt : k < x.ents.length
  ·obtain ⟨ge, rfl, hc⟩ := (Rd.of_owns hP.e).get (by omega)
   have y0 := hc _ _ (AC x.ents k hlt 0 (by omega))
   have y1 := hc _ _ (AC x.ents k hlt 1 (by omega))
   have y2 := hc _ _ (AC x.ents k hlt 2 (by omega))
   have y3 := hc _ _ (AC x.ents k hlt 3 (by omega))
   rw [Nat.add_zero] at y0
   have d1 : wr.cell? ⟨g, 1, none⟩ = some (.int .i64 x.mature) := hP.L.cell 1
   have d3 : wr.cell? ⟨g, 3, none⟩ = some (.int .i64 x.height) := hP.L.cell 3
   have lg := hP.L.lt
   have lg2 : g < wr.heap.size + 1 := by omega
   have hsn := HSN.out k hlt
   have hmb := HNB.out x.ents[k] (List.getElem_mem hlt)
   have HLk : Hid (IH x -> Il (x.ents.take k) <= x.ents[k].made) := fun hq => HLE.out hq k hlt
   have HLv : Hid (IH x -> x.height < x.ents[k].made + x.mature) := fun hq => hq.1.lv _ (List.getElem_mem hlt)
   have HCk : Hid (IH x -> AD x.ents x.ents[k].who x.ents[k].val <= 4) := fun hq => hq.1.ct _ _
   have hcb := HCB.out x.ents[k].who x.ents[k].val
   have HBX : Hid (∀ o, Below w.heap.size w (wr.alloc o)) := fun o => hbw.alloc hbw.size o
   have HCT2 : Hid (∀ o, Calls Tryz.prog 142 #[.pointer (some ⟨g, 0, none⟩), .int .i64 x.ents[k].who, .int .i64 x.ents[k].val] (wr.alloc o).drew fun e w'' => e = .returned (.int .i64 (AD x.ents x.ents[k].who x.ents[k].val)) ∧ Below (wr.alloc o).drew.heap.size (wr.alloc o).drew w'') := fun o => HCT.out (wr.alloc o).drew _ _ (HBX.out o).drew
   have HSN2 := Hd hsn
   clear hP hbw hc HP hsn HSN HLE HNB HCB HCT
   generalize x.ents[k] = en at *
   obtain ⟨ew, evl, em, ea2⟩ := en
   dsimp only at y0 y1 y2 y3 hmb HLk HLv HCk hcb HCT2 HSN2
   generalize hlm : Il (x.ents.take k) = lm at *
   generalize AD x.ents ew evl = cn at *
   clear hlm
   by_cases k1 : em < lm
   ·have d1' : decide (em < lm) = true := decide_eq_true k1
    have HF : Hid (IH x -> false = true) := fun hq => by have := HLk.out hq; omega
    go_wp2_with fail
    go_region
    go_wp2
    go_ret
    exact ⟨⟨false, rfl, HF.out⟩, (HBX.out _).drew⟩
   ·have d1' : decide (em < lm) = false := decide_eq_false k1
    by_cases k2 : em + x.mature <= x.height
    ·have d2' : decide (em + x.mature <= x.height) = true := decide_eq_true k2
     have HF : Hid (IH x -> false = true) := fun hq => by have := HLv.out hq; omega
     go_wp2_with fail
     go_region
     go_wp2
     go_ret
     exact ⟨⟨false, rfl, HF.out⟩, (HBX.out _).drew⟩
    ·have d2' : decide (em + x.mature <= x.height) = false := decide_eq_false k2
     by_cases k3 : 4 < cn
     ·have HF : Hid (IH x -> false = true) := fun hq => by have := HCk.out hq; omega
      go_wp2_with fail
      go_region
      go_wp2_with fail
      refine (HCT2.out _).mono ?_
      rintro e w2 ⟨rfl, hb2⟩
      have HB2 : Hid (Below w.heap.size w w2) := (HBX.out _).drew.trans (hb2.mono (HBX.out _).size)
      clear hb2
      go_wp2
      go_ret
      exact ⟨⟨false, rfl, HF.out⟩, HB2.out⟩
     ·go_wp2_with fail
      go_region
      go_wp2_with fail
      refine (HCT2.out _).mono ?_
      rintro e w2 ⟨rfl, hb2⟩
      have HB2 : Hid (Below w.heap.size w w2) := (HBX.out _).drew.trans (hb2.mono (HBX.out _).size)
      clear hb2
      go_wp2
      refine And.intro ?_ ?_
      ·first | exact ⟨k + 1, by omega, by go_num, by rw [HSN2.out], HB2.out⟩ | ((repeat apply Exists.intro); exact ⟨⟨k + 1, by omega, by go_num, by rw [HSN2.out], HB2.out⟩, rfl⟩)
      ·simp [intOf]; omega
  ·have HBY := Hd hbw
   clear hP hbw
   go_wp2
   go_ret
   exact ⟨⟨true, rfl, fun _ => rfl⟩, HBY.out⟩
structure MJ (x : EC) : Prop where
 t : x.tot <= 1000000
 n : AT inI x.vals <= x.top
 v : ∀ j, j < x.vals.length -> IX x j
def Fo (x : EC) (e : Ending) : Prop := ∃ b, e = .returned (.bool b) ∧ (b = true -> MJ x) ∧ (MJ x -> IH x -> b = true)
theorem K4 : Calls Tryz.prog 36 #[.pointer (some ⟨g, 0, none⟩)] w fun e w' => Fo x e ∧ Below w.heap.size w w' := by
 have v5 := wb.v5
 have HS1 : Hid (Calls Tryz.prog 82 #[.pointer (some ⟨g, 0, none⟩)] w fun e w' => e = .returned (.int .i64 x.tot) ∧ Below w.heap.size w w') := QH g x bv vv ev w h wb
 have HS2 : Hid (∀ w', Below w.heap.size w w' -> Calls Tryz.prog 83 #[.pointer (some ⟨g, 0, none⟩)] w' fun e w'' => e = .returned (.int .i64 (AT inI x.vals)) ∧ Below w'.heap.size w' w'') := fun w' hb => PG g x bv vv ev w' (h.below hb) wb
 have HS3 : Hid (∀ w' j, Below w.heap.size w w' -> j < x.vals.length -> Calls Tryz.prog 84 #[.pointer (some ⟨g, 0, none⟩), .int .i64 (j : Nat)] w' fun e w'' => Ax e (IX x j) ∧ Below w'.heap.size w' w'') := fun w' j hb hj => RL g x bv vv ev w' (h.below hb) wb j hj
 have HS4 : Hid (∀ w', Below w.heap.size w w' -> Calls Tryz.prog 85 #[.pointer (some ⟨g, 0, none⟩)] w' fun e w'' => (∃ b, e = .returned (.bool b) ∧ (IH x -> b = true)) ∧ Below w'.heap.size w' w'') := fun w' hb => OZ g x bv vv ev w' (h.below hb) wb
 obtain ⟨va, vc, rfl⟩ := Ac h.v
 have HC : Hid (∀ w', Below w.heap.size w w' -> w'.cell? ⟨g, 0, none⟩ = some (.int .i64 x.top) ∧ w'.cell? ⟨g, 7, none⟩ = some (.slice va x.vals.length vc) ∧ g < w'.heap.size) := fun w' hb => ⟨(h.below hb).L.cell 0, (h.below hb).L.cell 7, (h.below hb).L.lt⟩
 clear h wb
 go_enter Tryz.func36, Tryz.ntmps36
 go_wp2_with fail
 refine HS1.out.mono ?_
 rintro e w1 ⟨rfl, hb1⟩
 have HB1 := Hd hb1
 obtain ⟨c0, c7, lg⟩ := HC.out w1 hb1
 clear hb1 HS1
 by_cases k1 : 1000000 < x.tot
 ·have HF : Hid (Fo x (.returned (.bool false))) := ⟨false, rfl, (fun h => by cases h), (fun h => by have := h.t; omega)⟩
  go_wp2
  go_ret
  exact ⟨HF.out, HB1.out⟩
 ·have HT1 : Hid (x.tot <= 1000000) := by show x.tot <= 1000000; omega
  obtain ⟨tt, htt⟩ : ∃ tt, x.tot = tt := ⟨_, rfl⟩
  have HTT := Hd htt
  rw [htt] at HT1 k1 ⊢
  clear htt
  go_wp2_with fail
  go_cut [13] (fun s13 wx => s13 = .bool (decide (x.top < AT inI x.vals)) ∧ Below w.heap.size w wx)
  case first =>
   go_region_with (go_at_call 83; go_loud (refine (HS2.out _ HB1.out.drew).mono ?_); rintro e w2 ⟨rfl, hb2⟩; have hb3 : Below w.heap.size w w2 := HB1.out.drew.trans (hb2.mono HB1.out.size); obtain ⟨c0', c7', lg'⟩ := HC.out w2 hb3; have HB3 := Hd hb3; clear hb2 hb3)
   all_goals (go_wp2_with fail; go_meet; exact ⟨rfl, HB3.out⟩)
  case rest =>
   obtain ⟨hs13, hbx⟩ := hcut
   obtain ⟨d0, d7, lgx⟩ := HC.out wc hbx
   have HB4 := Hd hbx
   clear hbx HS2 c0 c7 lg HB1
   by_cases k2 : x.top < AT inI x.vals
   ·rw [decide_eq_true k2] at hs13
    subst hs13
    have HF : Hid (Fo x (.returned (.bool false))) := ⟨false, rfl, (fun h => by cases h), (fun h => by have := h.n; omega)⟩
    go_wp2
    go_ret
    exact ⟨HF.out, HB4.out⟩
   ·rw [decide_eq_false k2] at hs13
    subst hs13
    have HT2 : Hid (AT inI x.vals <= x.top) := by show AT inI x.vals <= x.top; omega
    clear k2
    go_wp2
    go_loopw [19] (fun i wr => ∃ k : Nat, k <= x.vals.length ∧ i = .int .i64 k ∧ (∀ j, j < k -> IX x j) ∧ Below w.heap.size w wr) (fun i _ => x.vals.length - (intOf i).toNat)
    case atStart => exact ⟨0, Nat.zero_le _, rfl, fun j hj => by omega, HB4.out⟩
    case round =>
     obtain ⟨k, hk, rfl, hall, hbw⟩ := hrel
     have HB5 := Hd hbw
     have HAll := Hd hall
     clear hbw hall
     by_cases hlt : k < x.vals.length
     ·go_wp2_with fail
      refine (HS3.out wr k HB5.out hlt).mono ?_
      rintro e w6 ⟨⟨b, rfl, hbv⟩, hb6⟩
      have HB6 : Hid (Below w.heap.size w w6) := HB5.out.trans (hb6.mono HB5.out.size)
      have HBV := Hd hbv
      clear hb6 hbv
      cases b
      ·have HF : Hid (Fo x (.returned (.bool false))) := ⟨false, rfl, (fun h => by cases h), (fun h => by have := HBV.out.2 (h.v k hlt); cases this)⟩
       go_wp2
       go_ret
       exact ⟨HF.out, HB6.out⟩
      ·have HAll2 : Hid (∀ j, j < k + 1 -> IX x j) := fun j hj => by
        by_cases e : j = k
        ·subst e; exact HBV.out.1 rfl
        ·exact HAll.out j (by omega)
       go_wp2
       refine And.intro ?_ ?_
       ·first | exact ⟨k + 1, by omega, by go_num, HAll2.out, HB6.out⟩ | ((repeat apply Exists.intro); exact ⟨⟨k + 1, by omega, by go_num, HAll2.out, HB6.out⟩, rfl⟩)
       ·simp [intOf]; omega
     ·have ek : k = x.vals.length := by omega
      subst ek
      go_wp2_with fail
      refine (HS4.out wr HB5.out).mono ?_
      rintro e w6 ⟨⟨b, rfl, hbv⟩, hb6⟩
      have HB6 : Hid (Below w.heap.size w w6) := HB5.out.trans (hb6.mono HB5.out.size)
      have HF : Hid (Fo x (.returned (.bool b))) := ⟨b, rfl, fun _ => ⟨HTT.out.symm ▸ HT1.out, HT2.out, HAll.out⟩, fun _ hq => hbv hq⟩
      clear hb6 hbv
      go_wp2
      go_ret
      exact ⟨HF.out, HB6.out⟩
end
structure RB (x : EC) : Prop where
 b1 : 1 <= x.bal.length
 b6 : x.bal.length <= 6
 v1 : 1 <= x.vals.length
 v5 : x.vals.length <= 5
 tl : x.tab.length = 65
 fee : 0 <= x.fee ∧ x.fee <= 100
 top : 1 <= x.top ∧ x.top <= 5
 mat : 1 <= x.mature ∧ x.mature <= 20
 hgt : 0 <= x.height ∧ x.height <= 1000
 bal : ∀ n, n ∈ x.bal -> 0 <= n ∧ n <= 1000000
 fees : 0 <= x.fees ∧ x.fees <= 1000000
 pool : 0 <= x.pool ∧ x.pool <= 1000000
 vb : ∀ j, j < x.vals.length -> VB0 (x.val j)
 rt : ∀ j, j < x.vals.length -> 0 <= (x.val j).rate ∧ (x.val j).rate <= 100
 ow : ∀ j, j < x.vals.length -> 0 <= (x.val j).owner ∧ (x.val j).owner <= 6
 shs : ∀ j, j < x.vals.length -> (x.val j).shares = BJ (fun r => x.sh r j) x.bal.length
 sh : ∀ k j, k < 6 -> j < 5 -> 0 <= x.sh k j ∧ x.sh k j <= 1000000
 shz : ∀ k j, k < 6 -> j < 5 -> x.bal.length <= k -> x.sh k j = 0
 per : ∀ j, j < 5 -> x.per j = 0
 upt : ∀ k j, k < 6 -> j < 5 -> -1073741824000000 <= x.upto k j ∧ x.upto k j <= 0
 eb : ∀ e, e ∈ x.ents -> EBd x.bal.length x.vals.length x.height e
 el : x.ents.length <= 120
theorem Hm {v : VS} (hv : v ∈ x.vals) : ∃ j, j < x.vals.length ∧ v = x.val j := by
 obtain ⟨j, hj, e⟩ := List.getElem_of_mem hv
 exact ⟨j, hj, by rw [<- e]; simp [EC.val, hj]⟩
theorem Su (s : List UInt8) (hg : Ps (rdG s ⟨0, false⟩).1) : RB (rdX s).1 := by
 have hbd := Qj s ⟨0, false⟩
 unfold rdX
 generalize rdG s ⟨0, false⟩ = G at *
 obtain ⟨gn, st0⟩ := G
 dsimp only at hbd hg ⊢
 obtain ⟨q1, q2, q3, q4, q5, q6, q7, q8, q9⟩ := hbd
 obtain ⟨⟨g1, g2, g3, g4⟩, ⟨g5, g6, g7, g8, g9⟩, ⟨g10, g11, g12, g13, g14, g15⟩⟩ := hg
 have hvl0 : (xN' gn).vals.length = gn.os.length := F8 _ _ g7
 have hv0 : ∀ i, i < gn.os.length -> (xN' gn).val i = ⟨gn.os.getD i 0, gn.rs.getD i 0, 0, 0, 0, 0, false, false⟩ := fun i hi => Hs _ _ i g7 hi
 -- the chain's numbers
 obtain ⟨a, ha⟩ : ∃ a, a = EW s (xN' gn, st0) := ⟨_, rfl⟩
 have e1 : a.1 = { xN' gn with height := (nx s 1000 st0).1, fees := (nx s 1000000 (nx s 1000 st0).2).1, pool := (nx s 1000000 (nx s 1000000 (nx s 1000 st0).2).2).1 } := by rw [ha]; rfl
 have hX3 : PL s (xN' gn, st0) = C6 s (rdV s a a.1.vals.length) (rdV s a a.1.vals.length).1.vals.length (rdV s a a.1.vals.length).1.bal.length := by rw [ha]; rfl
 rw [hX3]
 clear ha hX3
 have al : a.1.vals.length = gn.os.length := by rw [e1]; exact hvl0
 have av : ∀ i, a.1.val i = (xN' gn).val i := fun i => by rw [e1]; rfl
 have vm := O7 s a a.1.vals.length (Nat.le_refl _)
 obtain ⟨b, hb⟩ : ∃ b, b = rdV s a a.1.vals.length := ⟨_, rfl⟩
 rw [<- hb] at vm ⊢
 clear hb
 have bl : b.1.vals.length = gn.os.length := vm.vl.trans al
 have eb : b.1 = { a.1 with vals := b.1.vals } := vm.eq
 have bb : b.1.bal = gn.bs := by rw [eb, e1]; rfl
 have bt : b.1.tab = List.replicate 65 0 := by rw [eb, e1]; rfl
 have dm := Ht (s := s) (q := b) bt (by omega) b.1.bal.length (by rw [bb]; omega)
 obtain ⟨c, hc⟩ : ∃ c, c = C6 s b b.1.vals.length b.1.bal.length := ⟨_, rfl⟩
 rw [<- hc] at dm ⊢
 clear hc
 have ec : c.1 = { b.1 with vals := c.1.vals, tab := c.1.tab } := dm.eq
 have cb : c.1.bal = gn.bs := by rw [ec]; exact bb
 have cl : c.1.vals.length = gn.os.length := dm.vl.trans bl
 have ch : c.1.height = (nx s 1000 st0).1 := by rw [ec]; show b.1.height = _; rw [eb, e1]
 have hh := Cg s 1000 st0 (by decide)
 have hf := Cg s 1000000 (nx s 1000 st0).2 (by decide)
 have hp := Cg s 1000000 (nx s 1000000 (nx s 1000 st0).2).2 (by decide)
 have hn := Cg s 120 c.2 (by decide)
 have hE := PV s c.1.bal.length c.1.vals.length c.1.height (nx s 120 c.2).2 (by rw [cb]; omega) (by omega) (by rw [ch]; exact hh.1) (nx s 120 c.2).1.toNat
 have hval : ∀ j, j < gn.os.length -> c.1.val j = { b.1.val j with shares := BJ (fun r => c.1.sh r j) gn.bs.length } := fun j hj => by
  have h1 := dm.val j (by omega)
  have h2 := vm.lo j (by omega) (by omega)
  rw [if_neg (by omega), h2.2.2.2, av, hv0 j hj, bb] at h1
  simp only [Int.zero_add] at h1
  exact h1
 have hsh : ∀ k j, k < 6 -> j < 5 -> GBd k j (c.1.sh k j) (c.1.upto k j) := fun k j hk hj => by
  by_cases h1 : bef b.1.bal.length 0 k j ∧ j < b.1.vals.length
  ·exact dm.lo k j hk h1.2 h1.1
  ·have h2 := dm.hi k j hk hj (by
    by_cases h3 : bef b.1.bal.length 0 k j
    ·exact .inr (by have : ¬ j < b.1.vals.length := fun h4 => h1 ⟨h3, h4⟩; omega)
    ·exact .inl h3)
   rw [h2.1, h2.2]
   exact ⟨by decide, by decide, by decide, by decide⟩
 refine ⟨?_, ?_, ?_, ?_, ?_, ?_, ?_, ?_, ?_, ?_, ?_, ?_, ?_, ?_, ?_, ?_, ?_, ?_, ?_, ?_, ?_, ?_⟩
 ·show 1 <= c.1.bal.length; rw [cb]; exact g1
 ·show c.1.bal.length <= 6; rw [cb]; exact g2
 ·show 1 <= c.1.vals.length; omega
 ·show c.1.vals.length <= 5; omega
 ·exact dm.tl
 ·show 0 <= c.1.fee ∧ c.1.fee <= 100; rw [ec]; show 0 <= b.1.fee ∧ b.1.fee <= 100; rw [eb, e1]; exact ⟨g14, g15⟩
 ·show 1 <= c.1.top ∧ c.1.top <= 5; rw [ec]; show 1 <= b.1.top ∧ b.1.top <= 5; rw [eb, e1]; exact ⟨g10, g11⟩
 ·show 1 <= c.1.mature ∧ c.1.mature <= 20; rw [ec]; show 1 <= b.1.mature ∧ b.1.mature <= 20; rw [eb, e1]; exact ⟨g12, g13⟩
 ·show 0 <= c.1.height ∧ c.1.height <= 1000; rw [ch]; exact hh
 ·show ∀ n, n ∈ c.1.bal -> 0 <= n ∧ n <= 1000000; rw [cb]; exact q4
 ·show 0 <= c.1.fees ∧ c.1.fees <= 1000000; rw [ec]; show 0 <= b.1.fees ∧ b.1.fees <= 1000000; rw [eb, e1]; exact hf
 ·show 0 <= c.1.pool ∧ c.1.pool <= 1000000; rw [ec]; show 0 <= b.1.pool ∧ b.1.pool <= 1000000; rw [eb, e1]; exact hp
 ·intro j hj
  have hj' : j < gn.os.length := by have : j < c.1.vals.length := hj; omega
  show VB0 (c.1.val j)
  rw [hval j hj']
  have h2 := (vm.lo j (by omega) (by omega)).1
  exact ⟨h2.t0, h2.t1, h2.k0, h2.k1, h2.o0, h2.o1, h2.jl⟩
 ·intro j hj
  have hj' : j < gn.os.length := by have : j < c.1.vals.length := hj; omega
  show 0 <= (c.1.val j).rate ∧ (c.1.val j).rate <= 100
  rw [hval j hj']
  have h2 := (vm.lo j (by omega) (by omega)).2.2.1
  rw [av, hv0 j hj'] at h2
  show 0 <= (b.1.val j).rate ∧ (b.1.val j).rate <= 100
  rw [h2]
  have hr : j < gn.rs.length := by omega
  have e : gn.rs.getD j 0 = gn.rs[j] := by simp [hr]
  simp only [e]
  exact q6 _ (List.getElem_mem hr)
 ·intro j hj
  have hj' : j < gn.os.length := by have : j < c.1.vals.length := hj; omega
  show 0 <= (c.1.val j).owner ∧ (c.1.val j).owner <= 6
  rw [hval j hj']
  have h2 := (vm.lo j (by omega) (by omega)).2.1
  rw [av, hv0 j hj'] at h2
  show 0 <= (b.1.val j).owner ∧ (b.1.val j).owner <= 6
  rw [h2]
  have e : gn.os.getD j 0 = gn.os[j] := by simp [hj']
  simp only [e]
  exact q5 _ (List.getElem_mem hj')
 ·intro j hj
  have hj' : j < gn.os.length := by have : j < c.1.vals.length := hj; omega
  show (c.1.val j).shares = BJ (fun r => c.1.sh r j) c.1.bal.length
  rw [hval j hj', cb]
 ·intro k j hk hj
  have := hsh k j hk hj
  exact ⟨this.1, this.2.1⟩
 ·intro k j hk hj hk2
  exact (dm.hi k j hk hj (.inl (by unfold bef; have : c.1.bal.length <= k := hk2; rw [cb] at this; rw [bb]; omega))).1
 ·exact dm.per
 ·intro k j hk hj
  have := hsh k j hk hj
  exact ⟨this.2.2.1, this.2.2.2⟩
 ·exact hE.2
 ·show (rdE s c.1.bal.length c.1.vals.length c.1.height (nx s 120 c.2).2 (nx s 120 c.2).1.toNat).1.length <= 120
  rw [hE.1]; omega
theorem RB.wbd (r : RB x) : WBd x := by
 refine ⟨r.b6, r.v5, fun n hn => ?_, fun n hn => ?_, fun n hn => ?_, ⟨by have := r.top; omega, by have := r.top; omega⟩, ⟨by have := r.mat; omega, by have := r.mat; omega⟩, ⟨r.fee.1, by have := r.fee; omega⟩, ⟨r.hgt.1, by have := r.hgt; omega⟩, r.fees, r.pool, fun v hv => ?_, ⟨r.sh, fun k j hk hj _ => ?_⟩, fun k j hk hj => ?_, by have := r.el; omega, fun e he n hn => ?_⟩
 ·have := r.bal n hn; omega
 ·obtain ⟨v, hv, rfl⟩ := List.mem_map.1 hn
  obtain ⟨j, hj, rfl⟩ := Hm hv
  have := r.ow j hj; omega
 ·obtain ⟨v, hv, rfl⟩ := List.mem_map.1 hn
  obtain ⟨j, hj, rfl⟩ := Hm hv
  have := r.rt j hj; omega
 ·obtain ⟨j, hj, rfl⟩ := Hm hv
  exact r.vb j hj
 ·have h1 := r.per j hj; have h2 := r.upt k j hk hj; omega
 ·have h1 := r.per j hj; have h2 := r.upt k j hk hj; omega
 ·obtain ⟨w0, w1, v0, v1, m0, m1, a0, a1⟩ := r.eb e he
  have := r.hgt; have := r.b6; have := r.v5
  simp only [entNs, List.mem_cons, List.not_mem_nil, or_false] at hn
  omega
theorem Rl (hb : x.bal.length <= 6) (hz : ∀ k j, k < 6 -> j < 5 -> x.bal.length <= k -> x.sh k j = 0) {j : Nat} (hj : j < 5) : B3 x j x.bal.length = Eh (fun k => x.sh k j * (x.per j - x.upto k j)) := by
 rw [<- Oy]
 have := GI (f := fun r => x.sh r j * (x.per j - x.upto r j)) x.bal.length (6 - x.bal.length) (fun k h1 h2 => by rw [hz k j (by omega) hj h1, Int.zero_mul])
 rw [show x.bal.length + (6 - x.bal.length) = 6 by omega] at this
 exact this.symm
theorem RB.fine (r : RB x) (c : MJ x) : Bl x ∧ DK x := by
 have b6 := r.b6
 have v5 := r.v5
 have hh := r.hgt
 refine ⟨⟨b6, v5, r.tl, r.fee.1, r.fee.2, r.top.1, r.top.2, r.mat.1, r.mat.2, hh.1, hh.2, hh.1, by omega, fun k hk => ?_, r.fees.1, r.pool.1, fun j hj => ?_, fun e he => ?_, c.t, fun k j hk hj => (r.sh k j hk hj).1, fun j hj => ?_, fun j hj => ?_, fun k j hk hj => ?_, fun j hj => ?_⟩, ⟨c.n, fun k j hk h6 h5 => r.shz k j h6 h5 hk⟩⟩
 ·have e : x.balAt k = x.bal[k] := by simp [EC.balAt, hk]
  rw [e]; exact (r.bal _ (List.getElem_mem hk)).1
 ·have hv := r.vb j hj
  have hc := c.v j hj
  have hs := r.shs j hj
  have hsn := MD (fun q => x.sh q j) 1000000 x.bal.length (fun q hq => r.sh q j (by omega) (by omega))
  have hko := hc.ko
  exact ⟨hv.t0, by rw [hs]; exact hsn.1, hc.s1, (r.rt j hj).1, (r.rt j hj).2, hv.k0, hko, fun ht => by
   have h1 : 0 <= (x.val j).shares := by rw [hs]; exact hsn.1
   by_cases h0 : (x.val j).shares = 0
   ·have := (hc.z h0).1; omega
   ·omega, fun h0 => by have := (hc.z h0).2; omega, hv.jl⟩
 ·obtain ⟨w0, w1, v0, v1, m0, m1, a0, a1⟩ := r.eb e he
  exact ⟨⟨e.who.toNat, by omega, by omega⟩, m0, m1, a0⟩
 ·rw [r.shs j hj, <- Oy]
  have := GI (f := fun q => x.sh q j) x.bal.length (6 - x.bal.length) (fun k h1 h2 => r.shz k j (by omega) (by omega) h1)
  rw [show x.bal.length + (6 - x.bal.length) = 6 by omega] at this
  exact this
 ·rw [r.per j hj]; exact ⟨Int.le_refl _, by have := hh.1; omega⟩
 ·rw [r.per j hj]; exact r.upt k j hk hj
 ·have := (c.v j hj).d
  rw [Rl b6 r.shz (by omega)] at this
  rw [Int.mul_comm]; exact this
theorem Pp (ok : Bl y) (hE : CP y) : Bm y.bal (y.vals.map (fun v => v.owner)) (y.vals.map (fun v => v.rate)) y.top y.mature y.fee := by
 have okx : Ok y.height y := ok
 obtain ⟨p1, p2, p3, p4⟩ := okx.parts
 have ht := okx.tot
 have hf := okx.fees
 have hp := okx.pool
 unfold EC.tot at ht
 refine ⟨⟨hE.b1, okx.b6, fun j n hj hn => ?_, by rw [JO]; omega⟩, ⟨by simpa using hE.v1, by simpa using okx.v5, by simp, fun j n hj hn => ?_, fun j n hj hn => ?_⟩, ⟨okx.top0, okx.top1, okx.mat0, okx.mat1, okx.fee0, okx.fee1⟩⟩
 ·obtain ⟨h1, rfl⟩ := List.getElem?_eq_some_iff.1 hn
  have e : y.balAt j = y.bal[j] := by simp [EC.balAt, h1]
  have h2 := okx.bal j h1
  have h3 := okx.bds.1 j h1
  rw [e] at h2 h3
  exact ⟨h2, by omega⟩
 ·obtain ⟨i, rfl, hi⟩ := hE.ow n (List.mem_of_getElem? hn)
  omega
 ·have hm := List.mem_of_getElem? hn
  obtain ⟨v, hv, rfl⟩ := List.mem_map.1 hm
  obtain ⟨i, hi, rfl⟩ := Hm hv
  exact ⟨(okx.val i hi).r0, (okx.val i hi).r1⟩
theorem Pr (h : Sim y x) {k j : Nat} (hk : k < 6) (hj : j < 5) : FA x k j = FA y k j := by
 have e := h.sh hk hj
 obtain ⟨t, rfl, st⟩ := h
 have h2 := st.pd k j hk hj
 unfold FA
 rw [e]
 by_cases hs : 0 < y.sh k j
 ·have h3 : EC.per { y with tab := t } j - EC.upto { y with tab := t } k j = y.per j - y.upto k j := h2 (by show y.sh k j ≠ 0; omega)
  rw [if_pos hs, if_pos hs, h3]
 ·rw [if_neg hs, if_neg hs]
theorem O0 (h : Sim y x) (b6 : y.bal.length <= 6) (v5 : y.vals.length <= 5) : BO x = BO y := by
 have hR : ∀ k j, k < 6 -> j <= 5 -> De x k j = De y k j := fun k j hk hj => by
  induction j with
  | zero => rfl
  | succ j ih => simp only [De]; rw [ih (by omega), Pr h hk (by omega)]
 have hv := h.refl'.2.1
 have hA : ∀ k, k <= 6 -> Di x k = Di y k := fun k hk => by
  induction k with
  | zero => rfl
  | succ k ih => simp only [Di]; rw [ih (by omega), hv, hR k _ (by omega) v5]
 obtain ⟨eb, ev, ee, eh, ef, ep, et, em, efe⟩ := h.refl'
 have hd := hA y.bal.length b6
 unfold BO Es
 rw [eb, ev, ee, eh, ef, ep, et, em, efe, hd]
theorem Pq (h : Sim y x) (ok : Bl y) (hB : DK y) (hE : CP y) : MJ x ∧ IH x := by
 have okx : Ok y.height y := ok
 have b6 := okx.b6
 have v5 := okx.v5
 obtain ⟨eb, ev, ee, eh, ef, ep, et, em, efe⟩ := h.refl'
 have htot : x.tot = y.tot := by unfold EC.tot; rw [eb, ev, ee, ef, ep]
 refine ⟨⟨by rw [htot]; exact okx.tot, by rw [ev, et]; exact hB.ins, fun j hj => ?_⟩, ?_, ?_⟩
 ·rw [ev] at hj
  have hv := okx.val j hj
  have hj5 : j < 5 := by omega
  have e1 := h.val j
  have e2 : B3 x j x.bal.length = B3 y j y.bal.length := by
   rw [eb]
   unfold B3
   refine D6 _ (fun k hk => ?_)
   have e3 := h.sh (k := k) (by omega) hj5
   obtain ⟨t, rfl, st⟩ := h
   have h2 := st.pd k j (by omega) hj5
   rw [e3]
   by_cases hs : y.sh k j = 0
   ·rw [hs, Int.zero_mul, Int.zero_mul]
   ·have h3 : EC.per { y with tab := t } j - EC.upto { y with tab := t } k j = y.per j - y.upto k j := h2 hs
    rw [h3]
  have e4 := Rl (x := y) b6 (fun k j h1 h2 h3 => hB.sh k j h3 h1 h2) hj5
  refine ⟨by rw [e1]; exact hv.s1, by rw [e1]; exact hv.ko, fun h0 => ?_, ?_⟩
  ·rw [e1] at h0 ⊢
   have := hv.oz h0
   refine ⟨?_, by omega⟩
   by_cases ht : 0 < (y.val j).tokens
   ·have := hv.tk ht; omega
   ·omega
  ·rw [e2, e1, e4, Int.mul_comm]; exact okx.due j hj
 ·rw [ev, eh, em, ee]; exact hE.en
 ·rw [ee]; exact fun e he => (okx.ent e he).m0
def I1 (S : List UInt8) : Prop := ∃ y, Bl y ∧ DK y ∧ CP y ∧ S = txt (BO y)
theorem E2 {S : List UInt8} (ok : Bl y) (hB : DK y) (hE : CP y) (hS : S = txt (BO y)) : S.length <= 8192 ∧ Ps (rdG S ⟨0, false⟩).1 ∧ (rdX S).2.bad = false ∧ Sim y (rdX S).1 := by
 have okx : Ok y.height y := ok
 have yb := K1 ok hB hE
 have h1 := PX ok hB hE
 rw [<- hS] at h1
 refine ⟨by rw [hS]; exact Mo ok hB hE, ?_, h1.2, h1.1⟩
 have h0 : AtN S ⟨0, false⟩ (BO y) := ⟨rfl, by rw [hS]; rfl⟩
 unfold BO at h0
 simp only [List.append_assoc] at h0
 obtain ⟨g1, _⟩ := Kt h0 okx.b6 okx.v5 yb.bb yb.ob yb.rb ⟨by have := okx.top0; omega, okx.top1⟩ ⟨by have := okx.mat0; omega, okx.mat1⟩ ⟨okx.fee0, okx.fee1⟩
 rw [g1]
 exact Pp ok hE
def Mm (s : ByteArray) (w w' : World) (e : Ending) : Prop :=
 (e = .returned (.tuple #[.pointer none, .int .i64 15]) ∧ Below w.heap.size w w' ∧ ¬ I1 s.data.toList) ∨
 (∃ g bv vv ev, e = .returned (.tuple #[.pointer (some ⟨g, 0, none⟩), .int .i64 0]) ∧ PE (fun k => w.heap.size <= k) w w' g (rdX s.data.toList).1 bv vv ev ∧ Bl (rdX s.data.toList).1 ∧ DK (rdX s.data.toList).1 ∧ RB (rdX s.data.toList).1 ∧ s.data.toList = txt (BO (rdX s.data.toList).1))
theorem Ln (w : World) (s : ByteArray) (hs : s.size <= 9223372036854775807) (B : Nat) (hI : BU B w) (hB : B <= w.heap.size) :
  Calls Tryz.prog 21 #[.string s] w fun e w' => Mm s w w' e := by
 have hlen : s.data.toList.length = s.size := by rw [Array.length_toList]; rfl
 by_cases hbig : 8192 < s.size
 ·have HF : Hid (¬ I1 s.data.toList) := fun ⟨y, h1, h2, h3, h4⟩ => by have := (E2 h1 h2 h3 h4).1; omega
  clear hI hlen
  go_enter Tryz.func21, Tryz.ntmps21
  go_wp2
  go_ret2
  exact .inl ⟨rfl, Below.refl _ _, HF.out⟩
 ·have HR : Hid (Calls Tryz.prog 35 #[.string s] w fun e w' => OH s w w' e) := N0 w s (by omega)
  have HI := Hd hI
  clear hI hlen
  go_enter Tryz.func21, Tryz.ntmps21
  go_wp2_with fail
  refine HR.out.mono ?_
  rintro e w1 hpost
  rcases hpost with ⟨rfl, hb1, hno⟩ | ⟨g, bv, vv, ev, rfl, hP, hg, hbad⟩
  ·have HF : Hid (¬ I1 s.data.toList) := fun ⟨y, h1, h2, h3, h4⟩ => by
    have h5 := E2 h1 h2 h3 h4
    rcases hno with h6 | h6
    ·exact h6 h5.2.1
    ·rw [h5.2.2.1] at h6; cases h6
   have HB1 := Hd hb1
   clear hb1 hno HR
   go_wp2
   go_ret2
   exact .inl ⟨rfl, HB1.out, HF.out⟩
  ·have hrb := Su s.data.toList hg
   have hfr : Below w.heap.size w w1 := hP.fr.toBelow (Nat.le_refl _) (fun k hk h => by omega)
   have HC : Hid (Calls Tryz.prog 36 #[.pointer (some ⟨g, 0, none⟩)] w1 fun e w' => Fo (rdX s.data.toList).1 e ∧ Below w1.heap.size w1 w') := K4 g _ bv vv ev w1 hP hrb.wbd
   have HP := Hd hP
   have HRB := Hd hrb
   have HFR := Hd hfr
   clear hrb hfr hP hg hbad HR
   go_wp2_with fail
   refine HC.out.mono ?_
   rintro e w2 ⟨⟨b, rfl, hb1, hb2⟩, hbw⟩
   cases b
   ·have HF : Hid (¬ I1 s.data.toList) := fun ⟨y, h1, h2, h3, h4⟩ => by
     have h5 := Pq (E2 h1 h2 h3 h4).2.2.2 h1 h2 h3
     have := hb2 h5.1 h5.2
     cases this
    have HB2 : Hid (Below w.heap.size w w2) := HFR.out.trans (hbw.mono HFR.out.size)
    clear hb1 hb2 hbw HC
    go_wp2
    go_ret2
    exact .inl ⟨rfl, HB2.out, HF.out⟩
   ·have hcons := hb1 rfl
    have hfi := HRB.out.fine hcons
    have hfr2 : Below w.heap.size w w2 := HFR.out.trans (hbw.mono HFR.out.size)
    have HX : Hid (Calls Tryz.prog 22 #[.pointer (some ⟨g, 0, none⟩)] w2 fun e w' => e = .returned (.string ⟨(txt (BO (rdX s.data.toList).1)).toArray⟩) ∧ Below w2.heap.size w2 w') := F3 g _ bv vv ev (HP.out.below hbw) B (HI.out.on (hfr2.mono hB)) (Nat.le_trans hB hfr2.size) HRB.out.wbd
    have HFI := Hd hfi
    have HP2 : Hid (PE (fun k => w.heap.size <= k) w w2 g (rdX s.data.toList).1 bv vv ev) := HP.out.below hbw
    have HFR2 := Hd hfr2
    have HW : Hid (∀ y, Bl y -> DK y -> CP y -> s.data.toList = txt (BO y) -> txt (BO (rdX s.data.toList).1) = s.data.toList) := fun y h1 h2 h3 h4 => by
     have okx : Ok y.height y := h1
     rw [O0 (E2 h1 h2 h3 h4).2.2.2 okx.b6 okx.v5, <- h4]
    clear hb1 hb2 hbw hcons hfi hfr2 HC HP HFR HI
    go_wp2_with fail
    refine HX.out.mono ?_
    rintro e w3 ⟨rfl, hb3⟩
    have HP3 : Hid (PE (fun k => w.heap.size <= k) w w3 g (rdX s.data.toList).1 bv vv ev) := HP2.out.below hb3
    have HFR3 : Hid (Below w.heap.size w w3) := HFR2.out.trans (hb3.mono HFR2.out.size)
    clear hb3 HX HP2 HFR2
    by_cases heq : txt (BO (rdX s.data.toList).1) = s.data.toList
    ·have hsn : (⟨(txt (BO (rdX s.data.toList).1)).toArray⟩ : ByteArray) = s := by
      rw [heq]
     rw [hsn]
     have HQ := Hd heq.symm
     clear heq hsn HW
     go_wp2
     go_ret2
     exact .inr ⟨g, bv, vv, ev, rfl, HP3.out, HFI.out.1, HFI.out.2, HRB.out, HQ.out⟩
    ·have HF : Hid (¬ I1 s.data.toList) := fun ⟨y, h1, h2, h3, h4⟩ => heq (HW.out y h1 h2 h3 h4)
     have hne : ((txt (BO (rdX s.data.toList).1)) == s.toList) = false := by rw [ByteArray.toList_eq]; simpa using heq
     have hne2 : ((⟨(txt (BO (rdX s.data.toList).1)).toArray⟩ : ByteArray).toList == s.toList) = false := by rw [ByteArray.toList_eq, ByteArray.toList_eq]; simpa using heq
     generalize txt (BO (rdX s.data.toList).1) = T at *
     go_wp2
     go_ret2
     exact .inl ⟨rfl, HFR3.out, HF.out⟩
end Go.Proofs.YtohjjgefklhmaaaGreatDoor
