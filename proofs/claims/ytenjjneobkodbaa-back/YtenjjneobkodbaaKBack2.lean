import Derived.Test.YtenjjneobkodbaaKBack
namespace Go.Proofs.Ytenjjneobkodbaa
open Go.ChangeShapes Go.WideShapes Go.ChangeAt Go.RowKit
set_option linter.unusedVariables false

/-- the bond -/
theorem bond1 {B0 : Nat} {W0 w : World} {g : Nat} {bv vv : Value} (h : PE B0 W0 w g c0 (List.replicate 30 0) bv vv (.slice none 0 0) (vs0 [0, 1] [5, 0]) []) (m : Int) (m1 : 1 ≤ m) (m2 : m ≤ 100000) :
    Calls Try.prog 7 #[.pointer (some ⟨g, 0, none⟩), .int .i64 2, .int .i64 1, .int .i64 m] w fun e w' => e = .returned (.int .i64 0) ∧ PE B0 W0 w' g (setB { c0 with fees := 90 } 2 (199910 - m)) ((List.replicate 30 0).set 11 m) bv vv (.slice none 0 0) [⟨0, 5, 0, 0, 0, 0, false, false⟩, ⟨1, 0, m, m, 0, 0, false, false⟩] [] := by
  refine (kbond g c0 (List.replicate 30 0) bv vv _ (vs0 [0, 1] [5, 0]) [] 2 1 m w h (by decide) (by decide) 200000 rfl (by decide) (by decide) (by decide) (by decide) (by decide) (by decide) rfl rfl rfl m1 (by omega) (by simp [c0]; omega)).mono ?_
  rintro e w' ⟨rfl, hP⟩
  refine ⟨rfl, ?_⟩
  have e1 : (200000 : Int) - c0.fee - m = 199910 - m := by simp [c0]
  rw [e1] at hP
  exact hP
/-- the unbond: the state -/
theorem unb1 {B0 : Nat} {W0 w : World} {g : Nat} {bv vv : Value} {m : Int} (h : PE B0 W0 w g (setB { c0 with fees := 90 } 2 (199910 - m)) ((List.replicate 30 0).set 11 m) bv vv (.slice none 0 0) [⟨0, 5, 0, 0, 0, 0, false, false⟩, ⟨1, 0, m, m, 0, 0, false, false⟩] []) (k : Int) (m1 : 1 ≤ m) (m2 : m ≤ 100000) (k1 : 1 ≤ k) (k2 : k ≤ m) :
    Calls Try.prog 8 #[.pointer (some ⟨g, 0, none⟩), .int .i64 2, .int .i64 1, .int .i64 k] w fun e w' => e = .returned (.int .i64 0) ∧ ∃ c sh ev vals ents, St B0 W0 w' g m k 0 c sh bv vv ev vals ents := by
  refine (kunbond g (setB { c0 with fees := 90 } 2 (199910 - m)) ((List.replicate 30 0).set 11 m) bv vv _ _ 2 1 k m w h (by simp [setB, c0, bs4]) (by simp [setB, c0, bs4]) (199910 - m) (by simp [setB, c0, bs4]) (by simp [setB, c0]; omega) (by omega) (by simp [setB, c0]) (by simp [setB]) (by simp [setB]) (by simp) (by simp) rfl rfl rfl k1 k2 (by omega)).mono ?_
  rintro e w' ⟨rfl, ev', hP⟩
  refine ⟨rfl, _, _, ev', _, _, ⟨hP, by simp [setB, c0, bs4], rfl, rfl, rfl, by simp [setB, c0], by simp [setB, c0], by simp [setB, c0], by simp, fun _ => by simp, ?_, fun _ => ⟨rfl, ?_⟩, fun h => by omega⟩⟩
  · intro j hj
    have hj2 : j < 2 := by simpa using hj
    have : j = 0 ∨ j = 1 := by omega
    rcases this with rfl | rfl
    · simp
    · simp; omega
  · simp [setB, c0, bs4]; omega

theorem St.see {B0 : Nat} {W0 w : World} {g : Nat} {m k : Int} {i : Nat} {c : LC} {sh : List Int} {bv vv ev : Value} {vals : List VS} {ents : List ES} (h : St B0 W0 w g m k i c sh bv vv ev vals ents) (k1 : 1 ≤ k) (k2 : k ≤ 100000) :
    Calls Try.prog 9 #[.pointer (some ⟨g, 0, none⟩)] w fun e w' => SeeP w w' e c vals ents := by
  have hbl := h.bl
  have hvl := h.vl
  have hE : EB ents ∧ ents.length ≤ 1 := by
    by_cases hi : i < 3
    · obtain ⟨rfl, _⟩ := h.now hi
      refine ⟨fun j hj => ?_, by simp⟩
      have : j = 0 := by simp at hj; omega
      subst this
      simp; omega
    · obtain ⟨rfl, _⟩ := h.fin (by omega)
      exact ⟨fun j hj => by simp at hj, by simp⟩
  exact ksee g c sh bv vv ev vals ents w h.P h.vb hE.1 (by omega) (by omega) (by omega)

theorem St.below {B0 : Nat} {W0 w w' : World} {g : Nat} {m k : Int} {i : Nat} {c : LC} {sh : List Int} {bv vv ev : Value} {vals : List VS} {ents : List ES} (h : St B0 W0 w g m k i c sh bv vv ev vals ents) (hb : Below w.heap.size w w') : St B0 W0 w' g m k i c sh bv vv ev vals ents :=
  ⟨h.P.below hb, h.bl, h.top, h.mat, h.hh, h.f0, h.p0, h.pf, h.vl, h.tk, h.vb, h.now, h.fin⟩

set_option maxHeartbeats 4000000 in
set_option maxRecDepth 100000 in
theorem back_walk (a part : Int) (w : World) (ha1 : -9223372036854775808 ≤ a) (ha2 : a ≤ 9223372036854775807) (hp1 : -9223372036854775808 ≤ part) (hp2 : part ≤ 9223372036854775807) :
    Calls Try.prog 3 #[.int .i64 a, .int .i64 part] w fun e w' => e = .returned (.bool true) ∧ Below w.heap.size w w' := by
  obtain ⟨r1, r2⟩ := pickN_range a 100000 (by omega)
  have HT : Hid (∀ u, Calls Try.prog 5 #[.int .i64 5] u fun e w' => ∃ g bv vv, e = .returned (.pointer (some ⟨g, 0, none⟩)) ∧ PE u.heap.size u w' g c0 (List.replicate 30 0) bv vv (.slice none 0 0) (vs0 [0, 1] [5, 0]) []) := two_any
  have HPk : Hid (∀ u, Calls Try.prog 6 #[.int .i64 a, .int .i64 100000] u fun e w' => e = .returned (.int .i64 (pickN a 100000)) ∧ u = w') := fun u => pick_any a 100000 u ha1 ha2 (by omega) (by omega)
  have HPn : Hid (∀ u n, 1 ≤ n → n ≤ 100000 → Calls Try.prog 6 #[.int .i64 part, .int .i64 n] u fun e w' => e = .returned (.int .i64 (pickN part n)) ∧ u = w') := fun u n h1 h2 => pick_any part n u hp1 hp2 h1 (by omega)
  generalize pickN a 100000 = pa at *
  clear ha1 ha2 hp1 hp2
  go_enter Try.func3, Try.ntmps3
  go_wp2_with fail
  refine (HT.out _).mono ?_
  rintro e w1 ⟨g, bv, vv, rfl, hP1⟩
  have HP1 : Hid (PE w.heap.size w w1 g c0 (List.replicate 30 0) bv vv (.slice none 0 0) (vs0 [0, 1] [5, 0]) []) := hP1
  clear hP1 HT
  go_wp2_with fail
  refine (HPk.out _).mono ?_
  rintro e w' ⟨rfl, rfl⟩
  clear HPk
  go_wp2_with fail
  obtain ⟨m, hm⟩ : ∃ m, m = 1 + pa := ⟨_, rfl⟩
  have m1 : 1 ≤ m := by omega
  have m2 : m ≤ 100000 := by omega
  rw [← hm]
  clear hm r1 r2
  refine (bond1 HP1.out m m1 m2).mono ?_
  rintro e w2 ⟨rfl, hP2⟩
  have HP2 : Hid _ := hP2
  clear hP2 HP1
  go_wp2_with fail
  refine (HPn.out _ m m1 m2).mono ?_
  rintro e w' ⟨rfl, rfl⟩
  obtain ⟨q1, q2⟩ := pickN_range part m m1
  clear HPn
  generalize pickN part m = pk at *
  go_wp2_with fail
  obtain ⟨k, hk⟩ : ∃ k, k = 1 + pk := ⟨_, rfl⟩
  have k1 : 1 ≤ k := by omega
  have k2 : k ≤ m := by omega
  rw [← hk]
  clear hk q1 q2
  refine (unb1 HP2.out k m1 m2 k1 k2).mono ?_
  rintro e w3 ⟨rfl, hS⟩
  have HS : Hid (∃ c sh ev vals ents, St w.heap.size w w3 g m k 0 c sh bv vv ev vals ents) := hS
  clear hS HP2
  go_wp2_with fail
  go_loopw [10] (fun i wr => ∃ n : Nat, n ≤ 3 ∧ i = .int .i64 n ∧ ∃ c sh ev vals ents, St w.heap.size w wr g m k n c sh bv vv ev vals ents) (fun i _ => 3 - (intOf i).toNat)
  case atStart => exact ⟨0, by omega, rfl, HS.out⟩
  case round =>
    clear HS
    obtain ⟨n, hn, rfl, c, sh, ev, vals, ents, hS⟩ := hrel
    have HS : Hid (St w.heap.size w wr g m k n c sh bv vv ev vals ents) := hS
    by_cases hn3 : n < 3
    · obtain ⟨rfl, hbal⟩ := hS.now hn3
      have hbl := hS.bl
      have hvl := hS.vl
      have htk := hS.tk (by omega)
      clear hS
      go_wp2_with fail
      refine (HS.out.see k1 (by omega)).mono ?_
      rintro e w4 ⟨b, v, d, e', x, y, rfl, hb, hv, he, ⟨da, dn, dc, rfl⟩, hb4⟩
      rw [hbl] at hb
      obtain ⟨b0, bc, rfl⟩ := ownsRow_slice hb
      obtain ⟨gb, rfl, _⟩ := ownsRow_some hb (by omega)
      rw [hvl] at hv
      obtain ⟨v0, vc, rfl⟩ := ownsRow_slice hv
      obtain ⟨gv, rfl, _⟩ := ownsRow_some hv (by omega)
      have he1 : w4.ownsRow wr.heap.size 35 4 e' 1 (erow [⟨2, 1, 0, k⟩]) := he
      clear he
      obtain ⟨e0, ec, rfl⟩ := ownsRow_slice he1
      obtain ⟨ge, rfl, _⟩ := ownsRow_some he1 (by omega)
      have y1 : w4.cell? ⟨gb, 2, none⟩ = some (.int .i64 (199820 - m)) := by
        rw [hb.cellAt 2 (by omega), ← hbal]; simp [ints, hbl]
      have y2 : w4.cell? ⟨ge, 3, none⟩ = some (.int .i64 k) := he1.cellAt 3 (by omega)
      have y3 : w4.cell? ⟨gv, 10, none⟩ = some (.int .i64 (m - k)) := by
        rw [hv.cellAt 10 (by omega), ← htk]; exact vrow_at vals 1 (by omega) 2 (by omega)
      have g1 : gb < w4.heap.size := (hb.lt gb rfl).2
      have g2 : ge < w4.heap.size := (he1.lt ge rfl).2
      have g3 : gv < w4.heap.size := (hv.lt gv rfl).2
      have HB : Hid (Below wr.heap.size wr w4) := hb4
      clear hb hv he1 hb4 hbal htk hbl hvl
      go_wp2_with fail
      refine (((HS.out.below HB.out).below ((Below.refl _ _).alloc (Nat.le_refl _) _)).block hn3 m1 m2 k1 k2).mono ?_
      rintro e w5 ⟨rfl, c', ev', vals', ents', hS5⟩
      have HS5 : Hid (∃ c sh ev vals ents, St w.heap.size w w5 g m k (n + 1) c sh bv vv ev vals ents) := ⟨_, _, _, _, _, hS5⟩
      clear hS5 HB HS y1 y2 y3
      go_wp2
      refine And.intro ?_ ?_
      · first | exact ⟨n + 1, by omega, by go_num, HS5.out⟩ | ((repeat apply Exists.intro); exact ⟨⟨n + 1, by omega, by go_num, HS5.out⟩, rfl⟩)
      · simp [intOf]; omega
    · obtain ⟨rfl, hbal⟩ := hS.fin (by omega)
      have hbl := hS.bl
      clear hS
      go_wp2_with fail
      refine (HS.out.see k1 (by omega)).mono ?_
      rintro e w4 ⟨b, v, d, e', x, y, rfl, hb, hv, he, ⟨da, dn, dc, rfl⟩, hb4⟩
      rw [hbl] at hb
      obtain ⟨b0, bc, rfl⟩ := ownsRow_slice hb
      obtain ⟨gb, rfl, _⟩ := ownsRow_some hb (by omega)
      obtain ⟨v0, vc, rfl⟩ := ownsRow_slice hv
      have he1 : w4.ownsRow wr.heap.size 35 4 e' 0 [] := he
      clear he
      obtain ⟨e0, ec, rfl⟩ := ownsRow_slice he1
      have y1 : w4.cell? ⟨gb, 2, none⟩ = some (.int .i64 (199820 - m + k)) := by
        rw [hb.cellAt 2 (by omega), ← hbal]; simp [ints, hbl]
      have g1 : gb < w4.heap.size := (hb.lt gb rfl).2
      have HF : Hid (∀ o, Below w.heap.size w (w4.alloc o)) := fun o => (HS.out.below hb4).P.fr.alloc (HS.out.below hb4).P.hsz o
      clear hb hv he1 hb4 hbal hbl HS
      go_wp2
      go_ret
      refine ⟨?_, HF.out _⟩
      simp
end Go.Proofs.Ytenjjneobkodbaa
