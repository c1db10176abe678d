import Derived.Test.YtohjjgefklhmaabGreatDoorESendM
namespace Go.Proofs.YtohjjgefklhmaabGreatDoor
open Go.ChangeShapes Go.WideShapes Go.ChangeAt Go.RowKit
set_option linter.unusedVariables false

section
variable {S : Nat → Prop} {W0 w : World} {g : Nat} {bv vv ev : Value} {x : EC} {h f P r t c o : Int} {ins : Bool} {p : Int}
theorem EQ.len (q : EQ x h f P r t c o ins p) : x.vals.length = 2 := by rw [q.vs]; rfl
theorem lbond (H : PE S W0 w g x bv vv ev) (q : EQ x h f P r t c o ins p) {k : Nat} (hk : k < 4) {b u : Int} (ha : acct x k = (b, 0, u)) (a : Int) (a1 : 1 ≤ a) (a2 : t + a ≤ 1000000) (t0 : 0 ≤ t) (f0 : 0 ≤ f) (f1 : f ≤ 1000000) (o0 : 0 ≤ o) (o1 : o ≤ 1000000) (b0 : a + 90 ≤ b) (b1 : b ≤ 1000000) (u0 : 0 ≤ u) (up : u ≤ p) (p1 : p ≤ 4000000000000000000) :
    Calls Tryz.prog 18 #[.pointer (some ⟨g, 0, none⟩), .int .i64 k, .int .i64 (0 : Nat), .int .i64 a] w fun e w' => e = .returned (.int .i64 0) ∧ PE S W0 w' g (bondF x k 0 a) bv vv ev := by
  obtain ⟨e1, e2, e3⟩ := acct_parts ha
  have hb := q.buys a
  refine eBond g x bv vv ev w H k 0 a (by rw [q.bl]; omega) (by rw [q.bl]; exact hk) (by rw [q.len]; omega) (by rw [q.len]; omega) ?_ ?_ (by rw [q.val0]; exact o0) (by rw [q.val0]; show o ≤ _; omega) (by rw [e2]; omega) (by rw [e2]; omega) a1 (by omega) (by rw [q.fee, e1]; omega) (by rw [e1]; omega) (by rw [q.fee]; omega) (by rw [q.ff]; exact f0) (by rw [q.ff]; omega) ?_
  · rw [q.val0]; exact ⟨t0, by show t ≤ _; omega, t0, by show t ≤ _; omega⟩
  · refine ⟨by rw [e3]; omega, by rw [e3, q.per]; exact up, by rw [q.per]; omega, ?_, ?_⟩
    · rw [e2]; omega
    · rw [e2]; omega
  · unfold joinErrF
    rw [hb, q.val0]
    simp only
    rw [if_neg (by omega), if_neg (by omega), if_neg (by omega)]
theorem lsend (H : PE S W0 w g x bv vv ev) (q : EQ x h f P r t c o ins p) {k k' : Nat} (hk : k < 4) (hk' : k' < 4) {b b' : Int} (hb : x.balAt k = b) (hb' : x.balAt k' = b') (a : Int) (a1 : 1 ≤ a) (f0 : 0 ≤ f) (f1 : f ≤ 1000000) (b0 : a + 90 ≤ b) (b1 : b ≤ 1000000) (b2 : 0 ≤ b') (b3 : b' ≤ 1000000) :
    Calls Tryz.prog 20 #[.pointer (some ⟨g, 0, none⟩), .int .i64 k, .int .i64 k', .int .i64 a] w fun e w' => e = .returned (.int .i64 0) ∧ PE S W0 w' g (sendF x k k' a) bv vv ev :=
  eSend g x bv vv ev w H k k' a (by rw [q.bl]; omega) (by rw [q.bl]; exact hk) (by rw [q.bl]; exact hk') a1 (by rw [q.fee, hb]; omega) (by rw [hb]; omega) (by rw [q.fee]; omega) (by rw [q.ff]; exact f0) (by rw [q.ff]; omega) (by rw [hb']; omega) (by rw [hb']; omega)
theorem EQ.feeOk (q : EQ x h f P r t c o ins p) (t0 : 0 ≤ t) (t1 : t ≤ 1000000) (r0 : 0 ≤ r) (r1 : r ≤ 100) (c0 : 0 ≤ c) (c1 : c ≤ 1000000) (o0 : 0 ≤ o) (o1 : o ≤ 1000000) (f0 : 0 ≤ f) (f1 : f ≤ 1000000) (P0 : 0 ≤ P) (P1 : P ≤ 1000000) (p0 : 0 ≤ p) (p1 : p ≤ 4000000000000000000) : FeeOk x := by
  have key : ∀ j, j < x.vals.length → j = 0 ∨ j = 1 := fun j hj => by rw [q.len] at hj; omega
  refine ⟨?_, ?_, ?_, ?_, ?_, by rw [q.ff]; exact f0, by rw [q.ff]; exact f1, by rw [q.pp]; exact P0, by rw [q.pp]; omega⟩ <;> intro j hj <;> rcases key j hj with rfl | rfl
  · rw [q.val0]; exact ⟨t0, t1, t0, t1⟩
  · rw [q.val1]; exact ⟨by decide, by decide, by decide, by decide⟩
  · rw [q.val0]; exact ⟨r0, r1⟩
  · rw [q.val1]; exact ⟨by decide, by decide⟩
  · rw [q.val0]; exact ⟨c0, by show c ≤ _; omega⟩
  · rw [q.val1]; exact ⟨by decide, by decide⟩
  · rw [q.val0]; exact ⟨o0, by show o ≤ _; omega⟩
  · rw [q.val1]; exact ⟨by decide, by decide⟩
  · rw [q.per]; exact ⟨p0, p1⟩
  · rw [q.per1]; exact ⟨by decide, by decide⟩
theorem EQ.up (q : EQ x h f P r t c o ins p) (ht : 1 ≤ t) : (upF x).top = 2 ∧ (upF x).vals.length = 2 ∧ (upF x).ents = [] ∧ (shareF x).height = x.height := by
  cases ins with
  | false =>
    have hs := q.share_off
    refine ⟨?_, ?_, ?_, ?_⟩ <;> simp only [upF, hs]
    · exact q.top
    · exact q.len
    · exact q.en
  | true =>
    have hs := q.share_on ht
    obtain ⟨_, _, h3, h4, h5, h6, h7, h8⟩ := takeF_head x 0 f
    refine ⟨?_, ?_, ?_, ?_⟩ <;> simp only [upF, hs]
    · exact h4.trans q.top
    · rw [takeF_len]; exact q.len
    · exact h8.trans q.en
    · exact h3
theorem lblock (H : PE S W0 w g x bv vv ev) (q : EQ x h f P r t c o ins p) (t0 : 1 ≤ t) (t1 : t ≤ 1000000) (r0 : 0 ≤ r) (r1 : r ≤ 100) (c0 : 0 ≤ c) (c1 : c ≤ 1000000) (o0 : 0 ≤ o) (o1 : o ≤ 1000000) (f0 : 0 ≤ f) (f1 : f ≤ 1000000) (P0 : 0 ≤ P) (P1 : P ≤ 1000000) (p0 : 0 ≤ p) (p1 : p ≤ 4000000000000000000) (h0 : 0 ≤ h) (h1 : h < 1000) :
    Calls Tryz.prog 19 #[.pointer (some ⟨g, 0, none⟩)] w fun e w' => e = .returned (.int .i64 0) ∧ PE S W0 w' g (blockF x) bv vv (.slice none 0 0) := by
  obtain ⟨u1, u2, u3, u4⟩ := q.up t0
  have hx : ∀ w1, PE S W0 w1 g (upF x) bv vv ev → Calls Tryz.prog 51 #[.pointer (some ⟨g, 0, none⟩)] w1 fun e w' => e = .returned (.tuple #[]) ∧ PE S W0 w' g (upF x) bv vv (.slice none 0 0) := fun w1 h1 => eents0 g (upF x) bv vv ev w1 h1 u3
  exact eBlock0 g x (upF x) bv vv ev (.slice none 0 0) w H (by rw [q.len]; omega) (q.feeOk (by omega) t1 r0 r1 c0 c1 o0 o1 f0 f1 P0 P1 p0 p1) (by rw [q.hh]; exact h0) (by rw [q.hh]; exact h1) (by rw [u1]; omega) (by rw [u1]; omega) (by rw [u2]; omega) u4 hx
theorem ldue (H : PE S W0 w g x bv vv ev) (q : EQ x h f P r t c o ins p) {k : Nat} (hk : k < 4) {b s u : Int} (ha : acct x k = (b, s, u)) (s0 : 1 ≤ s) (u0 : 0 ≤ u) (up : u ≤ p) (p1 : p ≤ 4000000000000000000) (d1 : s * (p - u) ≤ 4611686018427387904) :
    Calls Tryz.prog 21 #[.pointer (some ⟨g, 0, none⟩), .int .i64 k, .int .i64 (0 : Nat)] w fun e w' => e = .returned (.tuple #[.int .i64 (s * (p - u) / 1073741824), .int .i64 0]) ∧ PE S W0 w' g x bv vv ev := by
  obtain ⟨e1, e2, e3⟩ := acct_parts ha
  have hd : x.due k 0 = s * (p - u) / 1073741824 := by unfold EC.due; rw [e2, e3, q.per]
  refine (eDue g x bv vv ev w H k 0 (by rw [q.bl]; omega) (by rw [q.bl]; exact hk) (by rw [q.len]; omega) (by rw [q.len]; omega) (by rw [e2]; exact s0) ⟨by rw [e3]; omega, by rw [e3, q.per]; exact up, by rw [q.per]; omega, ?_, ?_⟩).mono ?_
  · rw [e2, e3, q.per]; exact Int.mul_nonneg (by omega) (by omega)
  · rw [e2, e3, q.per]; exact d1
  · rintro e w' ⟨rfl, rfl⟩
    rw [hd]
    exact ⟨rfl, H.drew⟩
end
def bs4 : List Int := [200000, 200000, 200000, 200000]
def x0 (r : Int) : EC := { top := 2, mature := 3, fee := 90, height := 0, fees := 0, pool := 0, bal := bs4, tab := List.replicate 65 0, vals := vs0 [0, 1] [r, 0], ents := [] }
theorem x0_eq (r : Int) : EQ (x0 r) 0 0 0 r 0 0 0 false 0 := ⟨rfl, rfl, rfl, rfl, rfl, rfl, rfl, rfl, rfl, rfl, rfl, rfl⟩
theorem x0_acct (r : Int) (k : Nat) (hk : k < 4) : acct (x0 r) k = (200000, 0, 0) := by
  have : k = 0 ∨ k = 1 ∨ k = 2 ∨ k = 3 := by omega
  rcases this with rfl | rfl | rfl | rfl <;> rfl
theorem good_r (r : Int) (r0 : 0 ≤ r) (r1 : r ≤ 100) : GoodGen bs4 [0, 1] [r, 0] 2 3 90 := by
  refine ⟨⟨by decide, by decide, ?_, by decide⟩, ⟨by decide, by decide, rfl, ?_, ?_⟩, ⟨by omega, by omega, by omega, by omega, by omega, by omega⟩⟩
  · intro j x hj hx
    have hj' : j < 4 := hj
    have : j = 0 ∨ j = 1 ∨ j = 2 ∨ j = 3 := by omega
    rcases this with rfl | rfl | rfl | rfl <;> (simp [bs4] at hx; omega)
  · intro j x hj hx
    have hj' : j < 2 := hj
    have : j = 0 ∨ j = 1 := by omega
    rcases this with rfl | rfl <;> (simp at hx; simp [bs4]; omega)
  · intro j x hj hx
    have hj' : j < 2 := hj
    have : j = 0 ∨ j = 1 := by omega
    rcases this with rfl | rfl <;> (simp at hx; omega)

set_option maxHeartbeats 2000000 in
set_option maxRecDepth 100000 in
theorem two_any (r : Int) (r0 : 0 ≤ r) (r1 : r ≤ 100) (w : World) :
    Calls Tryz.prog 17 #[.int .i64 r] w fun e w' => ∃ g bv vv, e = .returned (.pointer (some ⟨g, 0, none⟩)) ∧ PE (fun k => w.heap.size ≤ k) w w' g (x0 r) bv vv (.slice none 0 0) := by
  have HG : Hid (GoodGen bs4 [0, 1] [r, 0] 2 3 90) := good_r r r0 r1
  clear r0 r1
  go_enter Tryz.func17, Tryz.ntmps17
  go_wp2_with fail
  have h1 : Has (((w.alloc (.cells #[.int .i64 200000, .int .i64 200000, .int .i64 200000, .int .i64 200000] 3)).alloc (.cells #[.int .i64 0, .int .i64 1] 3)).alloc (.cells #[.int .i64 r, .int .i64 0] 3)) w.heap.size 3 (ints bs4 ++ []) := ((Has.newA w _ _).alloc _).alloc _
  have h2 : Has (((w.alloc (.cells #[.int .i64 200000, .int .i64 200000, .int .i64 200000, .int .i64 200000] 3)).alloc (.cells #[.int .i64 0, .int .i64 1] 3)).alloc (.cells #[.int .i64 r, .int .i64 0] 3)) (w.heap.size + 1) 3 (ints [0, 1] ++ []) := by
    have h := (Has.newA (w.alloc (.cells #[.int .i64 200000, .int .i64 200000, .int .i64 200000, .int .i64 200000] 3)) 3 #[.int .i64 0, .int .i64 1]).alloc (.cells #[.int .i64 r, .int .i64 0] 3)
    rw [World.size_alloc] at h
    exact h
  have h3 : Has (((w.alloc (.cells #[.int .i64 200000, .int .i64 200000, .int .i64 200000, .int .i64 200000] 3)).alloc (.cells #[.int .i64 0, .int .i64 1] 3)).alloc (.cells #[.int .i64 r, .int .i64 0] 3)) (w.heap.size + 1 + 1) 3 (ints [r, 0] ++ []) := by
    have h := Has.newA ((w.alloc (.cells #[.int .i64 200000, .int .i64 200000, .int .i64 200000, .int .i64 200000] 3)).alloc (.cells #[.int .i64 0, .int .i64 1] 3)) 3 #[.int .i64 r, .int .i64 0]
    rw [World.size_alloc, World.size_alloc] at h
    exact h
  have hw : Below w.heap.size w (((w.alloc (.cells #[.int .i64 200000, .int .i64 200000, .int .i64 200000, .int .i64 200000] 3)).alloc (.cells #[.int .i64 0, .int .i64 1] 3)).alloc (.cells #[.int .i64 r, .int .i64 0] 3)) := (((Below.refl _ _).alloc (Nat.le_refl _) _).alloc (by simp) _).alloc (by simp; omega) _
  refine (new_good _ _ _ bs4 [0, 1] [r, 0] 2 3 90 _ (IntSl.of_has h1) (IntSl.of_has h2) (IntSl.of_has h3) (by decide) (by decide) (by simp) HG.out).mono ?_
  rintro e w4 ⟨g, bv, vv, rfl, hg, hL, hb, hv, hb4⟩
  have hs := hw.size
  have hbw : Below w.heap.size w w4 := hw.trans (hb4.mono hs)
  have HF : Hid (PE (fun k => w.heap.size ≤ k) w w4 g (x0 r) bv vv (.slice none 0 0)) :=
    ⟨Kp.of_below hbw _, fun k hk => hk, Nat.le_trans hs hg, hL, rfl, ownsRow_base hb (Nat.zero_le _), ownsRow_base hv (Nat.zero_le _), World.ownsRow_nil _ _ _ _, fun k hk => Nat.le_trans hs (hb.lt k hk).1, fun k hk => Nat.le_trans hs (hv.lt k hk).1, fun k hk => by simp [Value.ownBlock] at hk⟩
  clear h1 h2 h3 hw hL hb hv hb4 hg hs hbw
  go_wp2
  go_ret
  exact ⟨g, bv, vv, rfl, HF.out⟩
end Go.Proofs.YtohjjgefklhmaabGreatDoor
