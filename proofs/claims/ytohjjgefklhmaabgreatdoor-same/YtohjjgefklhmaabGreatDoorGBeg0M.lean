import Derived.Test.YtohjjgefklhmaabGreatDoorGDoesM
namespace Go.Proofs.YtohjjgefklhmaabGreatDoor
open Go.ChangeShapes Go.WideShapes Go.ChangeAt Go.RowKit
set_option linter.unusedVariables false

/-- a beginning that is being made -/
structure GB (w0 w : World) (gs : Nat) (bl ol rl : Value) (bs os rs : List Int) : Prop where
  fr : Below w0.heap.size w0 w
  hg : w0.heap.size ≤ gs
  L : Has w gs 25 [bl, ol, rl, .int .i64 0, .int .i64 0, .int .i64 0]
  b : w.ownsRow w0.heap.size 3 1 bl bs.length (ints bs)
  o : w.ownsRow w0.heap.size 3 1 ol os.length (ints os)
  r : w.ownsRow w0.heap.size 3 1 rl rs.length (ints rs)
  bo : ∀ k, bl.ownBlock = some k → ol.ownBlock ≠ some k
  br : ∀ k, bl.ownBlock = some k → rl.ownBlock ≠ some k
  or : ∀ k, ol.ownBlock = some k → rl.ownBlock ≠ some k
  R : Has w w0.heap.size 25 [.slice none 0 0, .slice none 0 0, .slice none 0 0, .int .i64 0, .int .i64 0, .int .i64 0]
  ne : w0.heap.size ≠ gs
theorem off_of {a b : Value} (h : ∀ k, a.ownBlock = some k → b.ownBlock ≠ some k) : a.ownBlock = none ∨ a.ownBlock ≠ b.ownBlock := by
  cases e : a.ownBlock with
  | none => exact .inl rfl
  | some k => exact .inr (fun h2 => h k e h2.symm)
theorem off_symm {a b : Value} (h : ∀ k, a.ownBlock = some k → b.ownBlock ≠ some k) : ∀ k, b.ownBlock = some k → a.ownBlock ≠ some k := fun k h1 h2 => h k h2 h1
theorem ints_push (l : List Int) (y : Int) : ints (l ++ [y]) = ints l ++ [.int .i64 y] := by simp [ints]
section
variable {w0 w v5 : World} {gs : Nat} {bl ol rl : Value} {bs os rs : List Int}
theorem GB.alloc (h : GB w0 w gs bl ol rl bs os rs) (x : Obj) : GB w0 (w.alloc x) gs bl ol rl bs os rs := ⟨h.fr.alloc h.fr.size x, h.hg, h.L.alloc x, h.b.alloc x, h.o.alloc x, h.r.alloc x, h.bo, h.br, h.or, h.R.alloc x, h.ne⟩
theorem GB.drew (h : GB w0 w gs bl ol rl bs os rs) : GB w0 w.drew gs bl ol rl bs os rs := ⟨h.fr.drew, h.hg, h.L, h.b, h.o, h.r, h.bo, h.br, h.or, h.R, h.ne⟩
theorem GB.drewN (h : GB w0 w gs bl ol rl bs os rs) (n : Nat) : GB w0 (w.drewN n) gs bl ol rl bs os rs := ⟨below_drewN h.fr n, h.hg, h.L, h.b, h.o, h.r, h.bo, h.br, h.or, h.R, h.ne⟩
theorem GB.pushB (h : GB w0 w gs bl ol rl bs os rs) {g5 n cap : Nat} {y : Int} (hg : w.grownBy v5 bl.ownBlock) (hown : v5.ownsRow w0.heap.size 3 1 (.slice (some ⟨g5, 0, none⟩) n cap) n (ints bs ++ [.int .i64 y])) (hn : n = bs.length + 1) (hor : bl.ownBlock = some g5 ∨ w.heap.size ≤ g5) :
    Has v5 gs 25 [bl, ol, rl, .int .i64 0, .int .i64 0, .int .i64 0] ∧ GB w0 (v5.setCell ⟨gs, 0, none⟩ (.slice (some ⟨g5, 0, none⟩) n cap)) gs (.slice (some ⟨g5, 0, none⟩) n cap) ol rl (bs ++ [y]) os rs := by
  have hL := grown_has hg h.L (Has.apart h.L h.b (by decide))
  have hR := grown_has hg h.R (Has.apart h.R h.b (by decide))
  have ho := h.o.kept hg (off_of (off_symm h.bo))
  have hr := h.r.kept hg (off_of (off_symm h.br))
  have hf : Below w0.heap.size w0 v5 := h.fr.grown hg h.fr.size (fun j hj => (h.b.lt j hj).1)
  have hx : v5.ownsRow w0.heap.size 3 1 (.slice (some ⟨g5, 0, none⟩) n cap) (bs ++ [y]).length (ints (bs ++ [y])) := by
    rw [ints_push, List.length_append]; subst hn; exact hown
  have ao : ∀ k, ol.ownBlock = some k → (Value.slice (some ⟨g5, 0, none⟩) n cap).ownBlock ≠ some k := fun k hk hk2 => by
    simp only [Value.ownBlock, Option.some.injEq] at hk2
    subst hk2
    rcases hor with h1 | h1
    · exact (off_symm h.bo) g5 hk h1
    · have := (h.o.lt g5 hk).2; omega
  have ar : ∀ k, rl.ownBlock = some k → (Value.slice (some ⟨g5, 0, none⟩) n cap).ownBlock ≠ some k := fun k hk hk2 => by
    simp only [Value.ownBlock, Option.some.injEq] at hk2
    subst hk2
    rcases hor with h1 | h1
    · exact (off_symm h.br) g5 hk h1
    · have := (h.r.lt g5 hk).2; omega
  exact ⟨hL, hf.setCell h.hg _, h.hg, hL.set 0 _, ownsRow_setCell hx _ _ (fun e => Has.apart hL hx (by decide) e.symm), ownsRow_setCell ho _ _ (fun e => Has.apart hL ho (by decide) e.symm), ownsRow_setCell hr _ _ (fun e => Has.apart hL hr (by decide) e.symm), off_symm ao, off_symm ar, h.or, hR.other _ _ h.ne, h.ne⟩
theorem GB.pushO (h : GB w0 w gs bl ol rl bs os rs) {g5 n cap : Nat} {y : Int} (hg : w.grownBy v5 ol.ownBlock) (hown : v5.ownsRow w0.heap.size 3 1 (.slice (some ⟨g5, 0, none⟩) n cap) n (ints os ++ [.int .i64 y])) (hn : n = os.length + 1) (hor : ol.ownBlock = some g5 ∨ w.heap.size ≤ g5) :
    Has v5 gs 25 [bl, ol, rl, .int .i64 0, .int .i64 0, .int .i64 0] ∧ GB w0 (v5.setCell ⟨gs, 1, none⟩ (.slice (some ⟨g5, 0, none⟩) n cap)) gs bl (.slice (some ⟨g5, 0, none⟩) n cap) rl bs (os ++ [y]) rs := by
  have hL := grown_has hg h.L (Has.apart h.L h.o (by decide))
  have hR := grown_has hg h.R (Has.apart h.R h.o (by decide))
  have hb := h.b.kept hg (off_of h.bo)
  have hr := h.r.kept hg (off_of (off_symm h.or))
  have hf : Below w0.heap.size w0 v5 := h.fr.grown hg h.fr.size (fun j hj => (h.o.lt j hj).1)
  have hx : v5.ownsRow w0.heap.size 3 1 (.slice (some ⟨g5, 0, none⟩) n cap) (os ++ [y]).length (ints (os ++ [y])) := by
    rw [ints_push, List.length_append]; subst hn; exact hown
  have ab : ∀ k, bl.ownBlock = some k → (Value.slice (some ⟨g5, 0, none⟩) n cap).ownBlock ≠ some k := fun k hk hk2 => by
    simp only [Value.ownBlock, Option.some.injEq] at hk2
    subst hk2
    rcases hor with h1 | h1
    · exact h.bo g5 hk h1
    · have := (h.b.lt g5 hk).2; omega
  have ar : ∀ k, rl.ownBlock = some k → (Value.slice (some ⟨g5, 0, none⟩) n cap).ownBlock ≠ some k := fun k hk hk2 => by
    simp only [Value.ownBlock, Option.some.injEq] at hk2
    subst hk2
    rcases hor with h1 | h1
    · exact (off_symm h.or) g5 hk h1
    · have := (h.r.lt g5 hk).2; omega
  exact ⟨hL, hf.setCell h.hg _, h.hg, hL.set 1 _, ownsRow_setCell hb _ _ (fun e => Has.apart hL hb (by decide) e.symm), ownsRow_setCell hx _ _ (fun e => Has.apart hL hx (by decide) e.symm), ownsRow_setCell hr _ _ (fun e => Has.apart hL hr (by decide) e.symm), ab, h.br, off_symm ar, hR.other _ _ h.ne, h.ne⟩
theorem GB.pushR (h : GB w0 w gs bl ol rl bs os rs) {g5 n cap : Nat} {y : Int} (hg : w.grownBy v5 rl.ownBlock) (hown : v5.ownsRow w0.heap.size 3 1 (.slice (some ⟨g5, 0, none⟩) n cap) n (ints rs ++ [.int .i64 y])) (hn : n = rs.length + 1) (hor : rl.ownBlock = some g5 ∨ w.heap.size ≤ g5) :
    Has v5 gs 25 [bl, ol, rl, .int .i64 0, .int .i64 0, .int .i64 0] ∧ GB w0 (v5.setCell ⟨gs, 2, none⟩ (.slice (some ⟨g5, 0, none⟩) n cap)) gs bl ol (.slice (some ⟨g5, 0, none⟩) n cap) bs os (rs ++ [y]) := by
  have hL := grown_has hg h.L (Has.apart h.L h.r (by decide))
  have hR := grown_has hg h.R (Has.apart h.R h.r (by decide))
  have hb := h.b.kept hg (off_of h.br)
  have ho := h.o.kept hg (off_of h.or)
  have hf : Below w0.heap.size w0 v5 := h.fr.grown hg h.fr.size (fun j hj => (h.r.lt j hj).1)
  have hx : v5.ownsRow w0.heap.size 3 1 (.slice (some ⟨g5, 0, none⟩) n cap) (rs ++ [y]).length (ints (rs ++ [y])) := by
    rw [ints_push, List.length_append]; subst hn; exact hown
  have ab : ∀ k, bl.ownBlock = some k → (Value.slice (some ⟨g5, 0, none⟩) n cap).ownBlock ≠ some k := fun k hk hk2 => by
    simp only [Value.ownBlock, Option.some.injEq] at hk2
    subst hk2
    rcases hor with h1 | h1
    · exact h.br g5 hk h1
    · have := (h.b.lt g5 hk).2; omega
  have ao : ∀ k, ol.ownBlock = some k → (Value.slice (some ⟨g5, 0, none⟩) n cap).ownBlock ≠ some k := fun k hk hk2 => by
    simp only [Value.ownBlock, Option.some.injEq] at hk2
    subst hk2
    rcases hor with h1 | h1
    · exact h.or g5 hk h1
    · have := (h.o.lt g5 hk).2; omega
  exact ⟨hL, hf.setCell h.hg _, h.hg, hL.set 2 _, ownsRow_setCell hb _ _ (fun e => Has.apart hL hb (by decide) e.symm), ownsRow_setCell ho _ _ (fun e => Has.apart hL ho (by decide) e.symm), ownsRow_setCell hx _ _ (fun e => Has.apart hL hx (by decide) e.symm), h.bo, ab, ao, hR.other _ _ h.ne, h.ne⟩
end
end Go.Proofs.YtohjjgefklhmaabGreatDoor

namespace Go.Proofs.YtohjjgefklhmaabGreatDoor
open Go.ChangeShapes Go.WideShapes Go.ChangeAt Go.RowKit Go.IntWalk
set_option linter.unusedVariables false

def Rng (l : List Int) (lo hi : Int) : Prop := ∀ z, z ∈ l → lo ≤ z ∧ z ≤ hi
theorem Rng.push {l : List Int} {lo hi y : Int} (h : Rng l lo hi) (h1 : lo ≤ y) (h2 : y ≤ hi) : Rng (l ++ [y]) lo hi := by
  intro z hz
  rcases List.mem_append.1 hz with h3 | h3
  · exact h z h3
  · simp only [List.mem_singleton] at h3; subst h3; exact ⟨h1, h2⟩
theorem Rng.allIn {l : List Int} {lo hi : Int} (h : Rng l lo hi) : AllIn l l.length lo hi := fun j x _ hx => h x (List.mem_of_getElem? hx)
theorem Rng.nil (lo hi : Int) : Rng [] lo hi := fun z h => by simp at h
theorem Rng.mono {l : List Int} {lo hi hi' : Int} (h : Rng l lo hi) (hh : hi ≤ hi') : Rng l lo hi' := fun z hz => ⟨(h z hz).1, Int.le_trans (h z hz).2 hh⟩
/-- what beginning hands out -/
def BegP (w w' : World) (e : Ending) : Prop := ∃ vb vo vr bs os rs top mature fee, e = .returned (.agg #[vb, vo, vr, .int .i64 top, .int .i64 mature, .int .i64 fee]) ∧ IntSl w' vb bs ∧ IntSl w' vo os ∧ IntSl w' vr rs ∧ GoodGen bs os rs top mature fee ∧ Below w.heap.size w w'

set_option maxHeartbeats 8000000 in
set_option maxRecDepth 100000 in
theorem beginning_any (c : Int) (w : World) (hc1 : -9223372036854775808 ≤ c) (hc2 : c ≤ 9223372036854775807) :
    Calls Tryz.prog 5 #[.int .i64 c] w fun e w' => BegP w w' e := by
  obtain ⟨r1, r2⟩ := pickN_range c 1099511627776 (by omega)
  have HPk : Hid (∀ u, Calls Tryz.prog 16 #[.int .i64 c, .int .i64 1099511627776] u fun e w' => e = .returned (.int .i64 (pickN c 1099511627776)) ∧ u = w') := fun u => pick_any c 1099511627776 u hc1 hc2 (by omega) (by omega)
  generalize pickN c 1099511627776 = v at *
  clear hc1 hc2
  obtain ⟨i5, hi5, hz50, hz51, hz52⟩ := info_parts info_int
  have hN1 : Has ((w.alloc (.cells #[.slice none 0 0, .slice none 0 0, .slice none 0 0, .int .i64 0, .int .i64 0, .int .i64 0] 25)).alloc (.cells #[.slice none 0 0, .slice none 0 0, .slice none 0 0, .int .i64 0, .int .i64 0, .int .i64 0] 25)) (w.heap.size + 1) 25 [.slice none 0 0, .slice none 0 0, .slice none 0 0, .int .i64 0, .int .i64 0, .int .i64 0] := by
    have := Has.newA (w.alloc (.cells #[.slice none 0 0, .slice none 0 0, .slice none 0 0, .int .i64 0, .int .i64 0, .int .i64 0] 25)) 25 #[.slice none 0 0, .slice none 0 0, .slice none 0 0, .int .i64 0, .int .i64 0, .int .i64 0]
    rw [World.size_alloc] at this
    exact this
  have H0 : Hid (GB w ((w.alloc (.cells #[.slice none 0 0, .slice none 0 0, .slice none 0 0, .int .i64 0, .int .i64 0, .int .i64 0] 25)).alloc (.cells #[.slice none 0 0, .slice none 0 0, .slice none 0 0, .int .i64 0, .int .i64 0, .int .i64 0] 25)) (w.heap.size + 1) (.slice none 0 0) (.slice none 0 0) (.slice none 0 0) [] [] []) :=
    ⟨((Below.refl _ _).alloc (Nat.le_refl _) _).alloc (by simp) _, by omega, hN1, World.ownsRow_nil _ _ _ _, World.ownsRow_nil _ _ _ _, World.ownsRow_nil _ _ _ _, fun k h => by simp [Value.ownBlock] at h, fun k h => by simp [Value.ownBlock] at h, fun k h => by simp [Value.ownBlock] at h, (Has.newA w _ _).alloc _, by omega⟩
  clear hN1
  have m1 := Int.emod_nonneg v (show (5 : Int) ≠ 0 by decide)
  have m2 := Int.emod_lt_of_pos v (show (0 : Int) < 5 by decide)
  go_enter Tryz.func5, Tryz.ntmps5
  go_wp2_with fail
  refine (HPk.out _).mono ?_
  rintro e w' ⟨rfl, rfl⟩
  clear HPk
  go_wp2
  have q1 := Int.emod_nonneg (v / 5) (show (5 : Int) ≠ 0 by decide)
  have q2 := Int.emod_lt_of_pos (v / 5) (show (0 : Int) < 5 by decide)
  go_loopw [5] (fun i wr => ∃ (k : Nat) (bl : Value) (bs : List Int), (k : Int) ≤ 2 + v % 5 ∧ i = .int .i64 k ∧ bs.length = k ∧ Rng bs 0 160000 ∧ sumL bs ≤ 160000 * k ∧ GB w wr (w.heap.size + 1) bl (.slice none 0 0) (.slice none 0 0) bs [] []) (fun i _ => 7 - (intOf i).toNat)
  case atStart => exact ⟨0, _, [], by omega, rfl, rfl, Rng.nil _ _, by simp [sumL], H0.out⟩
  case round =>
    clear H0
    obtain ⟨k, bl, bs, hk, rfl, hbl, hall, hsum, hG⟩ := hrel
    obtain ⟨ba, bc, rfl⟩ := ownsRow_slice hG.b
    have c0 : wr.cell? ⟨w.heap.size + 1, 0, none⟩ = some (.slice ba bs.length bc) := hG.L.cell 0
    have g1 := hG.L.lt
    have g2 : w.heap.size + 1 < wr.heap.size + 1 := by omega
    have HG : Hid (GB w wr (w.heap.size + 1) (.slice ba bs.length bc) (.slice none 0 0) (.slice none 0 0) bs [] []) := hG
    have HAll : Hid (Rng bs 0 160000) := hall
    have HBl : Hid (bs.length = k) := hbl
    have HSum : Hid (sumL bs ≤ 160000 * k) := hsum
    have hb6 : bs.length ≤ 6 := by omega
    clear hG hall hbl hsum
    by_cases hlt : (k : Int) < 2 + v % 5
    · have d1 : 0 < 160000 - (k : Int) * 9000 := by omega
      have y0 := Int.emod_nonneg (v / 7) (show 160000 - (k : Int) * 9000 ≠ 0 by omega)
      have y1 := Int.emod_lt_of_pos (v / 7) d1
      have v7 : 0 ≤ v / 7 := by omega
      obtain ⟨y, hy⟩ : ∃ y, v / 7 % (160000 - (k : Int) * 9000) = y := ⟨_, rfl⟩
      rw [hy] at y0 y1
      have HY : Hid (Rng (bs ++ [y]) 0 160000) := HAll.out.push y0 (by omega)
      have HY2 : Hid (sumL (bs ++ [y]) ≤ 160000 * ((k + 1 : Nat) : Int)) := by
        have h1 := HSum.out
        have h2 : sumL (bs ++ [y]) ≤ 160000 * ((k + 1 : Nat) : Int) := by rw [sumL_snoc]; omega
        exact h2
      have HY3 : Hid ((bs ++ [y]).length = k + 1) := by
        have h1 := HBl.out
        have h2 : (bs ++ [y]).length = k + 1 := by simp [h1]
        exact h2
      have e9 : IntKind.i64.wrap ((k : Int) * 9000) = (k : Int) * 9000 := i64_in _ (by omega)
      have w0 : ¬ IntKind.i64.wrap (160000 - IntKind.i64.wrap ((k : Int) * 9000)) = 0 := by rw [e9, i64_in _ (by omega)]; omega
      have wY : (IntKind.i64.wrap (v.tdiv 7)).tmod (IntKind.i64.wrap (160000 - IntKind.i64.wrap ((k : Int) * 9000))) = y := by
        rw [e9, i64_quo v 7 (by omega), i64_in (160000 - (k : Int) * 9000) (by omega), Int.tmod_eq_emod_of_nonneg v7]; exact hy
      clear e9 hy
      go_wp2_with fail
      go_region_law (refine step_append_sl2 rfl (.tmp 17) (.tmp 24) 23 rfl 3 i5 _ 1 8 Tryz.underlying23 hi5 hz50 hz51 hz52 rfl (by decide) w.heap.size (.slice ba bs.length bc) bs.length (ints bs) (by first | rfl | simp [Act.eval]) (HG.out.alloc _).b (HG.out.alloc _).fr.size ⟨_, 0, none⟩ 1 1 [.int .i64 y] (by first | rfl | simp [Act.eval]) (by rfl) (cell_newAt _ [.int .i64 y] _ _ (by simp)) (by simp [Value.oneCell']) (by decide) (by simp [maxLen]; omega) (by omega) ?_; intro g5 cap5 v5 hown5 hgrow5 hor5 hold5; obtain ⟨hL5, hP5⟩ := ((HG.out.alloc _).drew).pushB hgrow5 hown5 rfl hor5; have c0' : v5.cell? ⟨w.heap.size + 1, 0, none⟩ = some (.slice ba bs.length bc) := hL5.cell 0; have f0' := hL5.frozen 0; have HP5 : Hid _ := hP5; clear hP5 hown5 hgrow5 hold5 hL5)
      all_goals
        clear w0 wY
        go_wp2
        refine And.intro ?_ ?_
        · first | exact ⟨k + 1, _, _, by omega, by go_num, HY3.out, HY.out, HY2.out, HP5.out⟩ | ((repeat apply Exists.intro); exact ⟨⟨k + 1, _, _, by omega, by go_num, HY3.out, HY.out, HY2.out, HP5.out⟩, rfl⟩)
        · simp [intOf]; omega
    · have hk2 : 2 ≤ bs.length := by have := HBl.out; omega
      clear HBl
      have HS6 : Hid (sumL bs ≤ 1000000) := by
        have h1 := HSum.out
        have h2 : sumL bs ≤ 1000000 := by omega
        exact h2
      clear HSum
      go_wp2
      obtain ⟨wo, rfl⟩ : ∃ wo : World, wo = wr := ⟨_, rfl⟩
      go_loopw [6] (fun i wr => ∃ (k : Nat) (ol rl : Value) (os rs : List Int), (k : Int) ≤ 1 + v / 5 % 5 ∧ i = .int .i64 k ∧ os.length = k ∧ rs.length = k ∧ Rng os 0 ((bs.length : Int) - 1) ∧ Rng rs 0 100 ∧ GB w wr (w.heap.size + 1) (.slice ba bs.length bc) ol rl bs os rs) (fun i _ => 7 - (intOf i).toNat)
      case atStart => exact ⟨0, _, _, [], [], by omega, rfl, rfl, rfl, Rng.nil _ _, Rng.nil _ _, HG.out⟩
      case round =>
        clear HG c0 g1 g2
        obtain ⟨k2, ol, rl, os, rs, hk, rfl, hol, hrl, hro, hrr, hG⟩ := hrel
        obtain ⟨oa, oc, rfl⟩ := ownsRow_slice hG.o
        obtain ⟨ra, rc, rfl⟩ := ownsRow_slice hG.r
        have c0 : wr.cell? ⟨w.heap.size + 1, 0, none⟩ = some (.slice ba bs.length bc) := hG.L.cell 0
        have c1 : wr.cell? ⟨w.heap.size + 1, 1, none⟩ = some (.slice oa os.length oc) := hG.L.cell 1
        have c2 : wr.cell? ⟨w.heap.size + 1, 2, none⟩ = some (.slice ra rs.length rc) := hG.L.cell 2
        have g1 := hG.L.lt
        have g2 : w.heap.size + 1 < wr.heap.size + 1 := by omega
        have HG : Hid (GB w wr (w.heap.size + 1) (.slice ba bs.length bc) (.slice oa os.length oc) (.slice ra rs.length rc) bs os rs) := hG
        have HOl : Hid (os.length = k2 ∧ rs.length = k2) := ⟨hol, hrl⟩
        have HRo : Hid (Rng os 0 ((bs.length : Int) - 1)) := hro
        have HRr : Hid (Rng rs 0 100) := hrr
        have ho6 : os.length ≤ 6 := by omega
        have hr6 : rs.length ≤ 6 := by omega
        clear hG hol hrl hro hrr
        by_cases hlt2 : (k2 : Int) < 1 + v / 5 % 5
        · have z0 := Int.emod_nonneg (v / 25 + k2) (show (bs.length : Int) ≠ 0 by omega)
          have z1 := Int.emod_lt_of_pos (v / 25 + k2) (show (0 : Int) < bs.length by omega)
          have x0 := Int.emod_nonneg (v / 125 + 40 * k2) (show (101 : Int) ≠ 0 by decide)
          have x1 := Int.emod_lt_of_pos (v / 125 + 40 * k2) (show (0 : Int) < 101 by decide)
          obtain ⟨yo, hyo⟩ : ∃ y, (v / 25 + k2) % (bs.length : Int) = y := ⟨_, rfl⟩
          rw [hyo] at z0 z1
          have HYo : Hid (Rng (os ++ [yo]) 0 ((bs.length : Int) - 1)) := HRo.out.push z0 (by omega)
          have HYr : Hid (Rng (rs ++ [(v / 125 + 40 * (k2 : Int)) % 101]) 0 100) := HRr.out.push x0 (by omega)
          have hl3 : (os ++ [yo]).length = k2 + 1 ∧ (rs ++ [(v / 125 + 40 * (k2 : Int)) % 101]).length = k2 + 1 := by have := HOl.out; simp [this]
          have HY3 : Hid ((os ++ [yo]).length = k2 + 1 ∧ (rs ++ [(v / 125 + 40 * (k2 : Int)) % 101]).length = k2 + 1) := hl3
          have w0 : ¬ ((bs.length : Int) = 0) := by omega
          have w0b : ¬ (bs = []) := fun e => by rw [e] at w0; simp at w0
          have wO : (IntKind.i64.wrap (IntKind.i64.wrap (v.tdiv 25) + (k2 : Int))).tmod (bs.length : Int) = yo := by
            rw [i64_quo v 25 (by omega), i64_in (v / 25 + (k2 : Int)) (by omega), Int.tmod_eq_emod_of_nonneg (by omega)]; exact hyo
          clear hyo hl3
          go_wp2_with fail
          go_region_law (refine step_append_sl2 rfl (.tmp 36) (.tmp 45) 23 rfl 3 i5 _ 1 8 Tryz.underlying23 hi5 hz50 hz51 hz52 rfl (by decide) w.heap.size (.slice oa os.length oc) os.length (ints os) (by first | rfl | simp [Act.eval]) (HG.out.alloc _).o (HG.out.alloc _).fr.size ⟨_, 0, none⟩ 1 1 [.int .i64 yo] (by first | rfl | simp [Act.eval]) (by rfl) (cell_newAt _ [.int .i64 yo] _ _ (by simp)) (by simp [Value.oneCell']) (by decide) (by simp [maxLen]; omega) (by omega) ?_; intro g5 cap5 v5 hown5 hgrow5 hor5 hold5; obtain ⟨hL5, hP5⟩ := ((HG.out.alloc _).drew).pushO hgrow5 hown5 rfl hor5; have c1' : v5.cell? ⟨w.heap.size + 1, 1, none⟩ = some (.slice oa os.length oc) := hL5.cell 1; have f1' := hL5.frozen 1; have HP5 : Hid _ := hP5; clear hP5 hown5 hgrow5 hold5 hL5)
          all_goals
            have hG6 := HP5.out
            clear w0 w0b wO c0 c1 c2 HG c1' f1' g1 g2 HP5 hor5
            generalize v5.setCell ⟨w.heap.size + 1, 1, none⟩ (.slice (some ⟨g5, 0, none⟩) (os.length + 1) cap5) = v6 at *
            have c2 : v6.cell? ⟨w.heap.size + 1, 2, none⟩ = some (.slice ra rs.length rc) := hG6.L.cell 2
            have g1 := hG6.L.lt
            have g2 : w.heap.size + 1 < v6.heap.size + 1 := by omega
            have HG : Hid (GB w v6 (w.heap.size + 1) (.slice ba bs.length bc) (.slice (some ⟨g5, 0, none⟩) (os.length + 1) cap5) (.slice ra rs.length rc) bs (os ++ [yo]) rs) := hG6
            clear hG6
            go_wp2_with (at_builtin; go_loud (refine wpList_append_sl2 rfl (.tmp 49) (.tmp 56) 23 rfl 3 i5 _ 1 8 Tryz.underlying23 hi5 hz50 hz51 hz52 rfl (by decide) w.heap.size _ rs.length (ints rs) rfl (HG.out.alloc _).r (HG.out.alloc _).fr.size ⟨_, 0, none⟩ 1 1 [.int .i64 ((v / 125 + 40 * (k2 : Int)) % 101)] rfl (by rfl) (cell_newAt _ [.int .i64 ((v / 125 + 40 * (k2 : Int)) % 101)] _ _ (by first | rfl | simp)) (by simp [Value.oneCell']) (by decide) (by simp [maxLen]; omega) (by omega) ?_))
            intro g7 cap7 v7 hown7 hgrow7 hor7 hold7
            obtain ⟨hL7, hP7⟩ := (HG.out.alloc _).pushR hgrow7 hown7 rfl (by rw [World.size_alloc]; exact hor7)
            have c2' : v7.cell? ⟨w.heap.size + 1, 2, none⟩ = some (.slice ra rs.length rc) := hL7.cell 2
            have f2' := hL7.frozen 2
            have HP7 : Hid (GB w (v7.setCell ⟨w.heap.size + 1, 2, none⟩ (.slice (some ⟨g7, 0, none⟩) (rs.length + 1) cap7)) (w.heap.size + 1) (.slice ba bs.length bc) (.slice (some ⟨g5, 0, none⟩) (os.length + 1) cap5) (.slice (some ⟨g7, 0, none⟩) (rs.length + 1) cap7) bs (os ++ [yo]) (rs ++ [(v / 125 + 40 * (k2 : Int)) % 101])) := hP7
            clear hP7 hown7 hgrow7 hold7 hL7 hor7 HG c2
            go_wp2
            refine And.intro ?_ ?_
            · first | exact ⟨k2 + 1, _, _, _, _, by omega, by go_num, HY3.out.1, HY3.out.2, HYo.out, HYr.out, HP7.out⟩ | ((repeat apply Exists.intro); exact ⟨⟨k2 + 1, _, _, _, _, by omega, by go_num, HY3.out.1, HY3.out.2, HYo.out, HYr.out, HP7.out⟩, rfl⟩)
            · simp [intOf]; omega
        · have ho1 : Hid (1 ≤ os.length ∧ os.length ≤ 5 ∧ rs.length = os.length) := by
            have h1 := HOl.out
            have h2 : 1 ≤ os.length ∧ os.length ≤ 5 ∧ rs.length = os.length := by omega
            exact h2
          have c3 : wr.cell? ⟨w.heap.size + 1, 3, none⟩ = some (.int .i64 0) := HG.out.L.cell 3
          have c4 : wr.cell? ⟨w.heap.size + 1, 4, none⟩ = some (.int .i64 0) := HG.out.L.cell 4
          have c5 : wr.cell? ⟨w.heap.size + 1, 5, none⟩ = some (.int .i64 0) := HG.out.L.cell 5
          have f3 := HG.out.L.frozen 3
          have f4 := HG.out.L.frozen 4
          have f5 := HG.out.L.frozen 5
          have r0 : wr.cell? ⟨w.heap.size, 0, none⟩ = some (.slice none 0 0) := HG.out.R.cell 0
          have r1' : wr.cell? ⟨w.heap.size, 1, none⟩ = some (.slice none 0 0) := HG.out.R.cell 1
          have r2' : wr.cell? ⟨w.heap.size, 2, none⟩ = some (.slice none 0 0) := HG.out.R.cell 2
          have r3 : wr.cell? ⟨w.heap.size, 3, none⟩ = some (.int .i64 0) := HG.out.R.cell 3
          have r4 : wr.cell? ⟨w.heap.size, 4, none⟩ = some (.int .i64 0) := HG.out.R.cell 4
          have r5 : wr.cell? ⟨w.heap.size, 5, none⟩ = some (.int .i64 0) := HG.out.R.cell 5
          have k0 := HG.out.R.frozen 0
          have k1 := HG.out.R.frozen 1
          have k2' := HG.out.R.frozen 2
          have k3 := HG.out.R.frozen 3
          have k4 := HG.out.R.frozen 4
          have k5 := HG.out.R.frozen 5
          have n1 : w.heap.size ≠ w.heap.size + 1 := by omega
          have n2 : w.heap.size + 1 ≠ w.heap.size := by omega
          have HGood : Hid (GoodGen bs os rs (1 + v / 3 % 5) (1 + v / 15 % 6) (v / 11 % 101)) := by
            have t := HS6.out
            have hg : GoodGen bs os rs (1 + v / 3 % 5) (1 + v / 15 % 6) (v / 11 % 101) := ⟨⟨by omega, hb6, (HAll.out.mono (by omega)).allIn, t⟩, ⟨ho1.out.1, ho1.out.2.1, ho1.out.2.2, HRo.out.allIn, HRr.out.allIn⟩, ⟨by omega, by omega, by omega, by omega, by omega, by omega⟩⟩
            exact hg
          go_wp2
          have zL := ((HG.out.L.set 3 (.int .i64 (1 + v / 3 % 5))).set 4 (.int .i64 (1 + v / 15 % 6))).set 5 (.int .i64 (v / 11 % 101))
          have zR : Has (((((((((wr.setCell ⟨w.heap.size + 1, 3, none⟩ (.int .i64 (1 + v / 3 % 5))).setCell ⟨w.heap.size + 1, 4, none⟩ (.int .i64 (1 + v / 15 % 6))).setCell ⟨w.heap.size + 1, 5, none⟩ (.int .i64 (v / 11 % 101))).setCell ⟨w.heap.size, 0, none⟩ (.slice ba bs.length bc)).setCell ⟨w.heap.size, 1, none⟩ (.slice oa os.length oc)).setCell ⟨w.heap.size, 2, none⟩ (.slice ra rs.length rc)).setCell ⟨w.heap.size, 3, none⟩ (.int .i64 (1 + v / 3 % 5))).setCell ⟨w.heap.size, 4, none⟩ (.int .i64 (1 + v / 15 % 6))).setCell ⟨w.heap.size, 5, none⟩ (.int .i64 (v / 11 % 101))) w.heap.size 25 [.slice ba bs.length bc, .slice oa os.length oc, .slice ra rs.length rc, .int .i64 (1 + v / 3 % 5), .int .i64 (1 + v / 15 % 6), .int .i64 (v / 11 % 101)] := ((((((((HG.out.R.other ⟨w.heap.size + 1, 3, none⟩ (.int .i64 (1 + v / 3 % 5)) n1).other ⟨w.heap.size + 1, 4, none⟩ (.int .i64 (1 + v / 15 % 6)) n1).other ⟨w.heap.size + 1, 5, none⟩ (.int .i64 (v / 11 % 101)) n1).set 0 (.slice ba bs.length bc)).set 1 (.slice oa os.length oc)).set 2 (.slice ra rs.length rc)).set 3 (.int .i64 (1 + v / 3 % 5))).set 4 (.int .i64 (1 + v / 15 % 6))).set 5 (.int .i64 (v / 11 % 101))
          have zK : Kp (fun q => q = w.heap.size ∨ q = w.heap.size + 1) wr (((((((((wr.setCell ⟨w.heap.size + 1, 3, none⟩ (.int .i64 (1 + v / 3 % 5))).setCell ⟨w.heap.size + 1, 4, none⟩ (.int .i64 (1 + v / 15 % 6))).setCell ⟨w.heap.size + 1, 5, none⟩ (.int .i64 (v / 11 % 101))).setCell ⟨w.heap.size, 0, none⟩ (.slice ba bs.length bc)).setCell ⟨w.heap.size, 1, none⟩ (.slice oa os.length oc)).setCell ⟨w.heap.size, 2, none⟩ (.slice ra rs.length rc)).setCell ⟨w.heap.size, 3, none⟩ (.int .i64 (1 + v / 3 % 5))).setCell ⟨w.heap.size, 4, none⟩ (.int .i64 (1 + v / 15 % 6))).setCell ⟨w.heap.size, 5, none⟩ (.int .i64 (v / 11 % 101))) := (((((((((Kp.refl (fun q => q = w.heap.size ∨ q = w.heap.size + 1) wr).setCell (p := ⟨w.heap.size + 1, 3, none⟩) (.inr rfl) _).setCell (p := ⟨w.heap.size + 1, 4, none⟩) (.inr rfl) _).setCell (p := ⟨w.heap.size + 1, 5, none⟩) (.inr rfl) _).setCell (p := ⟨w.heap.size, 0, none⟩) (.inl rfl) _).setCell (p := ⟨w.heap.size, 1, none⟩) (.inl rfl) _).setCell (p := ⟨w.heap.size, 2, none⟩) (.inl rfl) _).setCell (p := ⟨w.heap.size, 3, none⟩) (.inl rfl) _).setCell (p := ⟨w.heap.size, 4, none⟩) (.inl rfl) _).setCell (p := ⟨w.heap.size, 5, none⟩) (.inl rfl) _
          generalize (((((((((wr.setCell ⟨w.heap.size + 1, 3, none⟩ (.int .i64 (1 + v / 3 % 5))).setCell ⟨w.heap.size + 1, 4, none⟩ (.int .i64 (1 + v / 15 % 6))).setCell ⟨w.heap.size + 1, 5, none⟩ (.int .i64 (v / 11 % 101))).setCell ⟨w.heap.size, 0, none⟩ (.slice ba bs.length bc)).setCell ⟨w.heap.size, 1, none⟩ (.slice oa os.length oc)).setCell ⟨w.heap.size, 2, none⟩ (.slice ra rs.length rc)).setCell ⟨w.heap.size, 3, none⟩ (.int .i64 (1 + v / 3 % 5))).setCell ⟨w.heap.size, 4, none⟩ (.int .i64 (1 + v / 15 % 6))).setCell ⟨w.heap.size, 5, none⟩ (.int .i64 (v / 11 % 101))) = wF at zR zK ⊢
          have z0 : wF.cell? ⟨w.heap.size, 0, none⟩ = some (.slice ba bs.length bc) := zR.cell 0
          have z1 : wF.cell? ⟨w.heap.size, 1, none⟩ = some (.slice oa os.length oc) := zR.cell 1
          have z2 : wF.cell? ⟨w.heap.size, 2, none⟩ = some (.slice ra rs.length rc) := zR.cell 2
          have z3 : wF.cell? ⟨w.heap.size, 3, none⟩ = some (.int .i64 (1 + v / 3 % 5)) := zR.cell 3
          have z4 : wF.cell? ⟨w.heap.size, 4, none⟩ = some (.int .i64 (1 + v / 15 % 6)) := zR.cell 4
          have z5 : wF.cell? ⟨w.heap.size, 5, none⟩ = some (.int .i64 (v / 11 % 101)) := zR.cell 5
          have oB : ∀ q, (Value.slice ba bs.length bc).ownBlock = some q → ¬ (q = w.heap.size ∨ q = w.heap.size + 1) := fun q hq h => h.elim (fun e => Has.apart HG.out.R HG.out.b (by decide) (by rw [← e, hq])) (fun e => Has.apart HG.out.L HG.out.b (by decide) (by rw [← e, hq]))
          have oO : ∀ q, (Value.slice oa os.length oc).ownBlock = some q → ¬ (q = w.heap.size ∨ q = w.heap.size + 1) := fun q hq h => h.elim (fun e => Has.apart HG.out.R HG.out.o (by decide) (by rw [← e, hq])) (fun e => Has.apart HG.out.L HG.out.o (by decide) (by rw [← e, hq]))
          have oR : ∀ q, (Value.slice ra rs.length rc).ownBlock = some q → ¬ (q = w.heap.size ∨ q = w.heap.size + 1) := fun q hq h => h.elim (fun e => Has.apart HG.out.R HG.out.r (by decide) (by rw [← e, hq])) (fun e => Has.apart HG.out.L HG.out.r (by decide) (by rw [← e, hq]))
          refine bodyPost_ret (v := .agg #[.slice ba bs.length bc, .slice oa os.length oc, .slice ra rs.length rc, .int .i64 (1 + v / 3 % 5), .int .i64 (1 + v / 15 % 6), .int .i64 (v / 11 % 101)]) (by simp [results, Tryz.results5, go_sem, z0, z1, z2, z3, z4, z5]) rfl ?_
          exact ⟨_, _, _, bs, os, rs, _, _, _, rfl, (Rd.of_owns (ownsRow_kp HG.out.b zK oB)).ints, (Rd.of_owns (ownsRow_kp HG.out.o zK oO)).ints, (Rd.of_owns (ownsRow_kp HG.out.r zK oR)).ints, HGood.out, Kp.below HG.out.fr zK (Nat.le_refl _) (fun q hq => by omega)⟩
end Go.Proofs.YtohjjgefklhmaabGreatDoor
