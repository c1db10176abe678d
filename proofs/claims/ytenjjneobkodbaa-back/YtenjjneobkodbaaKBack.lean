import Derived.Test.YtenjjneobkodbaaKSee2
namespace Go.Proofs.Ytenjjneobkodbaa
open Go.ChangeShapes Go.WideShapes Go.ChangeAt Go.RowKit
set_option linter.unusedVariables false

set_option maxHeartbeats 2000000 in
set_option maxRecDepth 100000 in
theorem kblock {B0 : Nat} {W0 : World} (g : Nat) (c c3 : LC) (sh : List Int) (bv vv ev : Value) (vals : List VS) (ents ents' : List ES) (w : World) (h : PE B0 W0 w g c sh bv vv ev vals ents) (hs0 : 0 ≤ c.fees) (hs1 : c.fees ≤ 1000000000) (hp0 : 0 ≤ c.pool) (hp1 : c.pool ≤ 1000000000) (hh0 : 0 ≤ c.height) (hh1 : c.height < 1000) (l2 : vals.length ≤ 1000) (ht : c3.top = 2)
    (hpay : ∀ w1, PE B0 W0 w1 g { c with pool := c.pool + c.fees, fees := 0, height := c.height + 1 } sh bv vv ev vals ents → Calls Try.prog 28 #[.pointer (some ⟨g, 0, none⟩)] w1 fun e w' => e = .returned (.tuple #[]) ∧ ∃ ev', PE B0 W0 w' g c3 sh bv vv ev' vals ents') :
    Calls Try.prog 10 #[.pointer (some ⟨g, 0, none⟩)] w fun e w' => e = .returned (.int .i64 0) ∧ ∃ vals' ev', NoSet vals vals' ∧ PE B0 W0 w' g c3 sh bv vv ev' vals' ents' := by
  have c3' : w.cell? ⟨g, 3, none⟩ = some (.int .i64 c.height) := h.L.cell 3
  have HP : Hid (PE B0 W0 w g c sh bv vv ev vals ents) := h
  have HPay : Hid (∀ w1, PE B0 W0 w1 g { c with pool := c.pool + c.fees, fees := 0, height := c.height + 1 } sh bv vv ev vals ents → Calls Try.prog 28 #[.pointer (some ⟨g, 0, none⟩)] w1 fun e w' => e = .returned (.tuple #[]) ∧ ∃ ev', PE B0 W0 w' g c3 sh bv vv ev' vals ents') := hpay
  clear h hpay
  go_enter Try.func10, Try.ntmps10
  go_wp2_with fail
  refine (kshare g c sh bv vv ev vals ents _ HP.out hs0 hs1 hp0 hp1).mono ?_
  rintro e w1 ⟨rfl, hP1⟩
  have d3 : w1.cell? ⟨g, 3, none⟩ = some (.int .i64 c.height) := hP1.L.cell 3
  have k3 := hP1.L.frozen 3
  have HP2 : Hid (PE B0 W0 (w1.setCell ⟨g, 3, none⟩ (.int .i64 (c.height + 1))) g { c with pool := c.pool + c.fees, fees := 0, height := c.height + 1 } sh bv vv ev vals ents) := hP1.setHead (c' := { c with pool := c.pool + c.fees, fees := 0, height := c.height + 1 }) 3 (.int .i64 (c.height + 1)) rfl rfl
  clear hP1 HP
  go_wp2_with fail
  refine (HPay.out _ HP2.out).mono ?_
  rintro e w3 ⟨rfl, ev', hP3⟩
  have HP3 : Hid (PE B0 W0 w3 g c3 sh bv vv ev' vals ents') := hP3
  clear HP2 HPay hP3
  go_wp2_with fail
  refine (kchoose g c3 sh bv vv ev' vals ents' _ HP3.out l2 (by omega) (by omega)).mono ?_
  rintro e w4 ⟨rfl, vals', hN, hP4⟩
  have HF : Hid (NoSet vals vals' ∧ PE B0 W0 w4 g c3 sh bv vv ev' vals' ents') := ⟨hN, hP4⟩
  clear hN hP4 HP3
  go_wp2
  go_ret
  exact ⟨rfl, vals', ev', HF.out.1, HF.out.2⟩

def bs4 : List Int := [200000, 200000, 200000, 200000]
def c0 : LC := { top := 2, mature := 3, fee := 90, height := 0, fees := 0, pool := 0, bal := bs4 }
theorem good5 : GoodGen bs4 [0, 1] [5, 0] 2 3 90 := by
  refine ⟨⟨by decide, by decide, ?_, by decide⟩, ⟨by decide, by decide, rfl, ?_, ?_⟩, ⟨by omega, by omega, by omega, by omega, by omega, by omega⟩⟩
  · intro j x hj hx
    have hj' : j < 4 := hj
    have : j = 0 ∨ j = 1 ∨ j = 2 ∨ j = 3 := by omega
    rcases this with rfl | rfl | rfl | rfl <;> (simp [bs4] at hx; omega)
  · intro j x hj hx
    have hj' : j < 2 := hj
    have : j = 0 ∨ j = 1 := by omega
    rcases this with rfl | rfl <;> (simp at hx; simp [bs4]; omega)
  · intro j x hj hx
    have hj' : j < 2 := hj
    have : j = 0 ∨ j = 1 := by omega
    rcases this with rfl | rfl <;> (simp at hx; omega)

set_option maxHeartbeats 2000000 in
set_option maxRecDepth 100000 in
theorem two_any (w : World) :
    Calls Try.prog 5 #[.int .i64 5] w fun e w' => ∃ g bv vv, e = .returned (.pointer (some ⟨g, 0, none⟩)) ∧ PE w.heap.size w w' g c0 (List.replicate 30 0) bv vv (.slice none 0 0) (vs0 [0, 1] [5, 0]) [] := by
  go_enter Try.func5, Try.ntmps5
  go_wp2_with fail
  have h1 : Has (((w.alloc (.cells #[.int .i64 200000, .int .i64 200000, .int .i64 200000, .int .i64 200000] 3)).alloc (.cells #[.int .i64 0, .int .i64 1] 3)).alloc (.cells #[.int .i64 5, .int .i64 0] 3)) w.heap.size 3 (ints bs4 ++ []) := ((Has.newA w _ _).alloc _).alloc _
  have h2 : Has (((w.alloc (.cells #[.int .i64 200000, .int .i64 200000, .int .i64 200000, .int .i64 200000] 3)).alloc (.cells #[.int .i64 0, .int .i64 1] 3)).alloc (.cells #[.int .i64 5, .int .i64 0] 3)) (w.heap.size + 1) 3 (ints [0, 1] ++ []) := by
    have h := (Has.newA (w.alloc (.cells #[.int .i64 200000, .int .i64 200000, .int .i64 200000, .int .i64 200000] 3)) 3 #[.int .i64 0, .int .i64 1]).alloc (.cells #[.int .i64 5, .int .i64 0] 3)
    rw [World.size_alloc] at h
    exact h
  have h3 : Has (((w.alloc (.cells #[.int .i64 200000, .int .i64 200000, .int .i64 200000, .int .i64 200000] 3)).alloc (.cells #[.int .i64 0, .int .i64 1] 3)).alloc (.cells #[.int .i64 5, .int .i64 0] 3)) (w.heap.size + 1 + 1) 3 (ints [5, 0] ++ []) := by
    have h := Has.newA ((w.alloc (.cells #[.int .i64 200000, .int .i64 200000, .int .i64 200000, .int .i64 200000] 3)).alloc (.cells #[.int .i64 0, .int .i64 1] 3)) 3 #[.int .i64 5, .int .i64 0]
    rw [World.size_alloc, World.size_alloc] at h
    exact h
  have hw : Below w.heap.size w (((w.alloc (.cells #[.int .i64 200000, .int .i64 200000, .int .i64 200000, .int .i64 200000] 3)).alloc (.cells #[.int .i64 0, .int .i64 1] 3)).alloc (.cells #[.int .i64 5, .int .i64 0] 3)) := (((Below.refl _ _).alloc (Nat.le_refl _) _).alloc (by simp) _).alloc (by simp; omega) _
  refine (new_good _ _ _ bs4 [0, 1] [5, 0] 2 3 90 _ (IntSl.of_has h1) (IntSl.of_has h2) (IntSl.of_has h3) (by decide) (by decide) (by decide) good5).mono ?_
  rintro e w4 ⟨g, bv, vv, rfl, hg, hL, hb, hv, hb4⟩
  have hs := hw.size
  have HF : Hid (PE w.heap.size w w4 g c0 (List.replicate 30 0) bv vv (.slice none 0 0) (vs0 [0, 1] [5, 0]) []) :=
    ⟨hw.trans (hb4.mono hs), Nat.le_trans hs hg, hL, by simp, ownsRow_base hb hs, ownsRow_base hv hs, World.ownsRow_nil _ _ _ _⟩
  clear h1 h2 h3 hw hL hb hv hb4 hg hs
  go_wp2
  go_ret
  exact ⟨g, bv, vv, rfl, HF.out⟩

theorem NoSet.vb {l l' : List VS} (h : NoSet l l') (hb : VB l) : VB l' := fun k hk => by
  have hk' : k < l.length := by rw [← h.len]; exact hk
  rw [(h.get hk' hk).1]; exact hb k hk'

/-- the state behind i blocks -/
structure St (B0 : Nat) (W0 w : World) (g : Nat) (m k : Int) (i : Nat) (c : LC) (sh : List Int) (bv vv ev : Value) (vals : List VS) (ents : List ES) : Prop where
  P : PE B0 W0 w g c sh bv vv ev vals ents
  bl : c.bal.length = 4
  top : c.top = 2
  mat : c.mature = 3
  hh : c.height = i
  f0 : 0 ≤ c.fees
  p0 : 0 ≤ c.pool
  pf : c.pool + c.fees ≤ 1000
  vl : vals.length = 2
  tk : ∀ h : 1 < vals.length, vals[1].tokens = m - k
  vb : VB vals
  now : i < 3 → ents = [⟨2, 1, 0, k⟩] ∧ c.bal.getD 2 0 = 199820 - m
  fin : 3 ≤ i → ents = [] ∧ c.bal.getD 2 0 = 199820 - m + k

theorem St.block {B0 : Nat} {W0 w : World} {g : Nat} {m k : Int} {i : Nat} {c : LC} {sh : List Int} {bv vv ev : Value} {vals : List VS} {ents : List ES} (h : St B0 W0 w g m k i c sh bv vv ev vals ents) (hi : i < 3) (m1 : 1 ≤ m) (m2 : m ≤ 100000) (k1 : 1 ≤ k) (k2 : k ≤ m) :
    Calls Try.prog 10 #[.pointer (some ⟨g, 0, none⟩)] w fun e w' => e = .returned (.int .i64 0) ∧ ∃ c' ev' vals' ents', St B0 W0 w' g m k (i + 1) c' sh bv vv ev' vals' ents' := by
  obtain ⟨rfl, hbal⟩ := h.now hi
  have hf0 := h.f0
  have hp0 := h.p0
  have hpf := h.pf
  have hhh := h.hh
  have hmat := h.mat
  have hbl := h.bl
  have hvl := h.vl
  have htop := h.top
  by_cases hi2 : i = 2
  · refine (kblock g c (setB { c with pool := c.pool + c.fees, fees := 0, height := c.height + 1 } 2 (199820 - m + k)) sh bv vv ev vals _ [] w h.P hf0 (by omega) hp0 (by omega) (by omega) (by omega) (by omega) htop (fun w1 h1 => ?_)).mono ?_
    · exact kpay_paid g _ sh bv vv ev vals 2 1 0 k w1 h1 (by simp only; omega) (by simp only; omega) (199820 - m) hbal (by omega) (by omega) (by omega) (by omega) (by omega) (by omega) (by simp only; omega) (by simp only; omega) (by simp only; omega)
    · rintro e w' ⟨rfl, vals', ev', hN, hP⟩
      have hln := hN.len
      refine ⟨rfl, _, ev', vals', [], ⟨hP, by simp [setB]; exact hbl, htop, hmat, by simp only [setB]; omega, by simp only [setB]; omega, by simp only [setB]; omega, by simp only [setB]; omega, by omega, fun h1 => ?_, hN.vb h.vb, fun h1 => by omega, fun _ => ⟨rfl, ?_⟩⟩⟩
      · rw [(hN.get (by omega) h1).1]; exact h.tk (by omega)
      · simp [setB, hbl]
  · refine (kblock g c { c with pool := c.pool + c.fees, fees := 0, height := c.height + 1 } sh bv vv ev vals _ [⟨2, 1, 0, k⟩] w h.P hf0 (by omega) hp0 (by omega) (by omega) (by omega) (by omega) htop (fun w1 h1 => ?_)).mono ?_
    · exact kpay_stay g _ sh bv vv ev vals 2 1 0 k w1 h1 (by simp only; omega) (by simp only; omega) (199820 - m) hbal (by omega) (by omega) (by omega) (by omega) (by omega) (by omega) (by simp only; omega) (by simp only; omega) (by simp only; omega)
    · rintro e w' ⟨rfl, vals', ev', hN, hP⟩
      have hln := hN.len
      refine ⟨rfl, _, ev', vals', _, ⟨hP, hbl, htop, hmat, by simp only; omega, by simp only; omega, by simp only; omega, by simp only; omega, by omega, fun h1 => ?_, hN.vb h.vb, fun _ => ⟨rfl, hbal⟩, fun h1 => by omega⟩⟩
      rw [(hN.get (by omega) h1).1]; exact h.tk (by omega)
end Go.Proofs.Ytenjjneobkodbaa
