import Derived.Test.YtenjjneobkodbaaGreatLChoose
namespace Go.Proofs.YtenjjneobkodbaaGreat
open Go.ChangeShapes Go.WideShapes Go.ChangeAt Go.RowKit
set_option linter.unusedVariables false

/-- one entry: paid, or it stays -/
def payOne (c : LC) (p : LC × List ES) (e : ES) : LC × List ES :=
  if e.made + c.mature ≤ c.height then (setB p.1 e.who.toNat (p.1.bal.getD e.who.toNat 0 + e.amount), p.2) else (p.1, p.2 ++ [e])
/-- the first k entries -/
def payTo (c : LC) (ents : List ES) (k : Nat) : LC × List ES := (ents.take k).foldl (payOne c) (c, [])
theorem payTo_snoc (c : LC) (ents : List ES) (k : Nat) (h : k < ents.length) : payTo c ents (k + 1) = payOne c (payTo c ents k) ents[k] := foldl_snoc _ _ ents k h
/-- what stays of the ledger's numbers -/
def LSame (c d : LC) : Prop := d.top = c.top ∧ d.mature = c.mature ∧ d.fee = c.fee ∧ d.height = c.height ∧ d.fees = c.fees ∧ d.pool = c.pool ∧ d.bal.length = c.bal.length
theorem payTo_same (c : LC) (ents : List ES) (k : Nat) (hk : k ≤ ents.length) : LSame c (payTo c ents k).1 ∧ (payTo c ents k).2.length ≤ k := by
  induction k with
  | zero => simp [payTo, LSame]
  | succ k ih =>
    obtain ⟨h1, h2⟩ := ih (by omega)
    rw [payTo_snoc c ents k (by omega), payOne]
    split
    · refine ⟨?_, by simp only; omega⟩
      obtain ⟨a, b, d, e, f, g, i⟩ := h1
      exact ⟨a, b, d, e, f, g, by simp [setB, i]⟩
    · exact ⟨h1, by simp; omega⟩
/-- entries that can be paid -/
structure EOk (c : LC) (ents : List ES) : Prop where
  len : ents.length ≤ 1000
  ok : ∀ k (h : k < ents.length), 0 ≤ ents[k].who ∧ ents[k].who < c.bal.length ∧ 0 ≤ ents[k].made ∧ ents[k].made ≤ 100000 ∧ 0 ≤ ents[k].amount ∧ ents[k].amount ≤ 1000000
theorem payTo_bd {c : LC} {ents : List ES} (hE : EOk c ents) (hb : ∀ k (h : k < c.bal.length), 0 ≤ c.bal[k] ∧ c.bal[k] ≤ 1000000000) (k : Nat) (hk : k ≤ ents.length) :
    ∀ j (h : j < (payTo c ents k).1.bal.length), 0 ≤ (payTo c ents k).1.bal[j] ∧ (payTo c ents k).1.bal[j] ≤ 1000000000 + 1000000 * (k : Int) := by
  induction k with
  | zero => intro j h; have := hb j h; exact ⟨this.1, Int.le_trans this.2 (by omega)⟩
  | succ k ih =>
    intro j hj
    have ih' := ih (by omega)
    have he := hE.ok k (by omega)
    have hs := (payTo_same c ents k (by omega)).1
    revert hj
    rw [payTo_snoc c ents k (by omega), payOne]
    split
    · intro hj
      have hj' : j < (payTo c ents k).1.bal.length := by simpa [setB] using hj
      have hw : ents[k].who.toNat < (payTo c ents k).1.bal.length := by rw [hs.2.2.2.2.2.2]; omega
      simp only [setB, List.getElem_set]
      split
      · have h1 := ih' _ hw
        simp only [List.getD, List.getElem?_eq_getElem hw, Option.getD_some]
        omega
      · have h1 := ih' j hj'
        omega
    · intro hj
      have h1 := ih' j hj
      simp only
      omega

theorem info_rent : (Tryz.prog.info? 117).map (fun i => (i.zero, i.size, i.bytes)) = some (some (.agg #[.int .i64 0, .int .i64 0, .int .i64 0, .int .i64 0]), 4, 32) := by kernel_rfl
theorem erow_snoc (l : List ES) (o : ES) : erow (l ++ [o]) = erow l ++ o.cells := by
  induction l with
  | nil => simp [erow]
  | cons v l ih => simp [erow, ih]
theorem Kp.grown {S : Nat → Prop} {a w w' : World} {row : Option Nat} (h : Kp S a w) (hg : w.grownBy w' row) (hr : ∀ j, row = some j → a.heap.size ≤ j) : Kp S a w' :=
  ⟨hg.os.trans h.os, hg.tape.trans h.tape, hg.output.trans h.output, Nat.le_trans h.size hg.size, fun k hk hs => (hg.block k (Nat.lt_of_lt_of_le hk h.size) (fun e => by have := hr k e.symm; omega)).trans (h.block k hk hs)⟩
/-- the state of pay's loop -/
structure PayI (w wr : World) (g : Nat) (d : LC) (bv vv dv ev st : Value) (ents sl : List ES) : Prop where
  C : LCore wr g d bv vv dv ev
  rs : wr.ownsRow w.heap.size 117 4 st sl.length (erow sl)
  re : wr.ownsRow 0 117 4 ev ents.length (erow ents)
  lo : ∀ j, ev.ownBlock = some j → j < w.heap.size
  K : Kp (LS g bv) w wr
theorem PayI.drewN {w wr : World} {g : Nat} {d : LC} {bv vv dv ev st : Value} {ents sl : List ES} (h : PayI w wr g d bv vv dv ev st ents sl) (n : Nat) : PayI w (wr.drewN n) g d bv vv dv ev st ents sl := ⟨h.C.drewN n, h.rs, h.re, h.lo, h.K.drewN n⟩
theorem PayI.drew {w wr : World} {g : Nat} {d : LC} {bv vv dv ev st : Value} {ents sl : List ES} (h : PayI w wr g d bv vv dv ev st ents sl) : PayI w wr.drew g d bv vv dv ev st ents sl := ⟨h.C.drew, h.rs, h.re, h.lo, h.K.drew⟩
theorem LCore.alloc {w : World} {g : Nat} {c : LC} {bv vv dv ev : Value} (h : LCore w g c bv vv dv ev) (o : Obj) : LCore (w.alloc o) g c bv vv dv ev := ⟨h.L.alloc o, h.b.alloc o⟩
theorem PayI.alloc {w wr : World} {g : Nat} {d : LC} {bv vv dv ev st : Value} {ents sl : List ES} (h : PayI w wr g d bv vv dv ev st ents sl) (o : Obj) : PayI w (wr.alloc o) g d bv vv dv ev st ents sl := ⟨h.C.alloc o, h.rs.alloc o, h.re.alloc o, h.lo, h.K.alloc o⟩
theorem LCore.grown {w w' : World} {g : Nat} {c : LC} {bv vv dv ev : Value} {e : TypeId} {size base n : Nat} {v : Value} {xs : List Value} (h : LCore w g c bv vv dv ev) (hg : w.grownBy w' v.ownBlock) (hv : w.ownsRow base e size v n xs) (he : 75 ≠ e) (hi : 3 ≠ e) : LCore w' g c bv vv dv ev :=
  ⟨grown_has hg h.L (Has.apart h.L hv he), h.b.kept hg (ownsRow_apart h.b hv hi)⟩
theorem PayI.push {w wr v5 : World} {g g5 cap5 : Nat} {d : LC} {bv vv dv ev st : Value} {ents sl : List ES} {o : ES} (h : PayI w wr g d bv vv dv ev st ents sl) (hg : wr.grownBy v5 st.ownBlock) (ho : v5.ownsRow w.heap.size 117 4 (.slice (some ⟨g5, 0, none⟩) (sl.length + 1) cap5) (sl.length + 1) (erow sl ++ o.cells)) :
    PayI w v5 g d bv vv dv ev (.slice (some ⟨g5, 0, none⟩) (sl.length + 1) cap5) ents (sl ++ [o]) := by
  refine ⟨h.C.grown hg h.rs (by decide) (by decide), ?_, h.re.kept hg ?_, h.lo, h.K.grown hg (fun j hj => (h.rs.lt j hj).1)⟩
  · rw [erow_snoc]; simpa using ho
  · cases he : ev.ownBlock with
    | none => exact .inl rfl
    | some j =>
      refine .inr fun e => ?_
      have h1 := h.lo j he
      have h2 := (h.rs.lt j e.symm).1
      omega
theorem PayI.setBal {w wr : World} {g gb n cap : Nat} {d : LC} {vv dv ev st : Value} {ents sl : List ES} (h : PayI w wr g d (.slice (some ⟨gb, 0, none⟩) n cap) vv dv ev st ents sl) (hn : n = d.bal.length) (k : Nat) (x : Int) :
    PayI w (wr.setCell ⟨gb, k, none⟩ (.int .i64 x)) g (setB d k x) (.slice (some ⟨gb, 0, none⟩) n cap) vv dv ev st ents sl := by
  have hb := h.C.b
  have q1 : st.ownBlock ≠ some gb := fun e => by
    rcases ownsRow_apart h.rs hb (by decide) with h1 | h1
    · rw [h1] at e; simp at e
    · exact h1 (by rw [e]; rfl)
  have q2 : ev.ownBlock ≠ some gb := fun e => by
    rcases ownsRow_apart h.re hb (by decide) with h1 | h1
    · rw [h1] at e; simp at e
    · exact h1 (by rw [e]; rfl)
  exact ⟨h.C.setBal hn k x, ownsRow_setCell h.rs _ _ q1, ownsRow_setCell h.re _ _ q2, h.lo, h.K.setCell (p := ⟨gb, k, none⟩) (.inr rfl) _⟩

set_option maxHeartbeats 4000000 in
set_option maxRecDepth 100000 in
theorem pay_any (g : Nat) (c : LC) (bv vv dv ev : Value) (ents : List ES) (w : World) (h : LCore w g c bv vv dv ev) (hE : EOk c ents) (hb : ∀ k (h : k < c.bal.length), 0 ≤ c.bal[k] ∧ c.bal[k] ≤ 1000000000) (he : w.ownsRow 0 117 4 ev ents.length (erow ents))
    (hm : 0 ≤ c.mature ∧ c.mature ≤ 1000) (hh : 0 ≤ c.height ∧ c.height ≤ 100000) (hbl : c.bal.length ≤ 1000) :
    Calls Tryz.prog 95 #[.pointer (some ⟨g, 0, none⟩)] w fun e w' => e = .returned (.tuple #[]) ∧ ∃ ev', LCore w' g (payTo c ents ents.length).1 bv vv dv ev' ∧ w'.ownsRow 0 117 4 ev' (payTo c ents ents.length).2.length (erow (payTo c ents ents.length).2) ∧
      Kp (LS g bv) w w' ∧ (∀ k, ev'.ownBlock = some k → w.heap.size ≤ k) := by
  obtain ⟨i5, hi5, hz50, hz51, hz52⟩ := info_parts info_rent
  obtain ⟨ea, ec, (hea : ev = .slice ea ents.length ec)⟩ := ownsRow_slice he
  subst hea
  obtain ⟨hm0, hm1⟩ := hm
  obtain ⟨hh0, hh1⟩ := hh
  have hel := hE.len
  have HE : Hid (EOk c ents) := hE
  have HBD : Hid (∀ k (h : k < c.bal.length), 0 ≤ c.bal[k] ∧ c.bal[k] ≤ 1000000000) := hb
  have HL : Hid (LCore w g c bv vv dv (.slice ea ents.length ec)) := h
  have HR : Hid (w.ownsRow 0 117 4 (.slice ea ents.length ec) ents.length (erow ents)) := he
  clear hE hb h he
  go_enter Tryz.func95, Tryz.ntmps95
  go_wp2
  go_loopw [2, 3] (fun st i wr => ∃ k : Nat, k ≤ ents.length ∧ i = .int .i64 k ∧ PayI w wr g (payTo c ents k).1 bv vv dv (.slice ea ents.length ec) st ents (payTo c ents k).2) (fun _ i _ => ents.length - (intOf i).toNat)
  case atStart => exact ⟨0, Nat.zero_le _, rfl, ⟨HL.out, World.ownsRow_nil _ _ _ _, HR.out, fun j hj => (HR.out.lt j hj).2, Kp.refl _ _⟩⟩
  case round =>
    obtain ⟨k, hk, rfl, hP⟩ := hrel
    have hst := hP.rs
    have hC := hP.C
    have hre := hP.re
    clear HL HR
    obtain ⟨sa, sc, hsa⟩ := ownsRow_slice hst
    subst hsa
    have c9 : wr.cell? ⟨g, 9, none⟩ = some (.slice ea ents.length ec) := hC.L.cell 9
    have gl := World.block_lt_of_cell? wr _ c9
    have f9 := hC.L.frozen 9
    by_cases hlt : k < ents.length
    · obtain ⟨ge, rfl, _⟩ := ownsRow_some hre (by omega)
      have z0 := (hre.cellAt (k * 4 + 0) (by omega)).trans (erow_at ents k hlt 0 (by omega))
      have z1 := (hre.cellAt (k * 4 + 1) (by omega)).trans (erow_at ents k hlt 1 (by omega))
      have z2 := (hre.cellAt (k * 4 + 2) (by omega)).trans (erow_at ents k hlt 2 (by omega))
      have z3 := (hre.cellAt (k * 4 + 3) (by omega)).trans (erow_at ents k hlt 3 (by omega))
      obtain ⟨q1, q2, q3, q4, q5, q6⟩ := HE.out.ok k hlt
      have HS : Hid (payTo c ents (k + 1) = payOne c (payTo c ents k) ents[k]) := payTo_snoc c ents k hlt
      have hbd := payTo_bd HE.out HBD.out k hk
      obtain ⟨⟨s1, s2, s3, s4, s5, s6, s7⟩, s8⟩ := payTo_same c ents k hk
      generalize ents[k] = e0 at *
      generalize payTo c ents k = pp at *
      obtain ⟨d, sl⟩ := pp
      simp only at hC hst hbd s2 s4 s7 s8 hP
      have hsl : sl.length ≤ 1000 := by omega
      obtain ⟨who, val, made, amount⟩ := e0
      simp only [ES.cells, List.getElem?_cons_succ, List.getElem?_cons_zero, Nat.add_zero] at z0 z1 z2 z3
      simp only at q1 q2 q3 q4 q5 q6
      obtain ⟨kw, rfl⟩ := Int.eq_ofNat_of_zero_le q1
      have c1 : wr.cell? ⟨g, 1, none⟩ = some (.int .i64 d.mature) := hC.L.cell 1
      have c3 : wr.cell? ⟨g, 3, none⟩ = some (.int .i64 d.height) := hC.L.cell 3
      rw [s2] at c1
      rw [s4] at c3
      by_cases hp : made + c.mature ≤ c.height
      · have hkw : kw < d.bal.length := by omega
        obtain ⟨ba, bc, rfl⟩ := ownsRow_slice hC.b
        obtain ⟨gb, rfl, _⟩ := ownsRow_some hC.b (by omega)
        have c4 : wr.cell? ⟨g, 4, none⟩ = some (.slice (some ⟨gb, 0, none⟩) d.bal.length bc) := hC.L.cell 4
        have hgd : d.bal.getD kw 0 = d.bal[kw] := by simp [List.getD, hkw]
        have cb : wr.cell? ⟨gb, kw, none⟩ = some (.int .i64 (d.bal.getD kw 0)) := by
          rw [hC.b.cellAt kw (by omega)]; simp [ints, hkw]
        have fb := hC.b.frozenAt kw
        have glb := World.block_lt_of_cell? wr _ cb
        obtain ⟨hb0, hb1⟩ := hbd kw hkw
        rw [← hgd] at hb0 hb1
        have HS' : Hid (payTo c ents (k + 1) = (setB d kw (d.bal.getD kw 0 + amount), sl)) := by
          have h1 := HS.out
          rw [payOne, if_pos hp] at h1
          exact h1
        have HP : Hid (PayI w wr g d (.slice (some ⟨gb, 0, none⟩) d.bal.length bc) vv dv (.slice (some ⟨ge, 0, none⟩) ents.length ec) (.slice sa sl.length sc) ents sl) := hP
        clear hP hC hst hre HS hbd hgd HBD HE
        generalize d.bal.getD kw 0 = x at *
        go_wp2
        go_quiet (fail)
        go_wp2
        go_region
        go_wp2
        refine And.intro ⟨k + 1, by omega, by go_num, ?_⟩ (by simp [intOf]; omega)
        rw [HS'.out]
        exact ((HP.out.alloc _).drewN _).setBal rfl kw _
      · have HS' : Hid (payTo c ents (k + 1) = (d, sl ++ [⟨kw, val, made, amount⟩])) := by
          have h1 := HS.out
          rw [payOne, if_neg hp] at h1
          exact h1
        have HP : Hid (PayI w wr g d bv vv dv (.slice (some ⟨ge, 0, none⟩) ents.length ec) (.slice sa sl.length sc) ents sl) := hP
        clear hP hC hst hre HS hbd HBD HE
        go_wp2
        go_quiet (fail)
        go_wp2_with (at_builtin; go_loud (refine wpList_append_sl2 rfl (.tmp 51) (.tmp 53) 73 rfl 117 i5 _ 4 32 Tryz.underlying73 hi5 hz50 hz51 hz52 rfl (by decide) w.heap.size _ sl.length (erow sl) rfl (((HP.out.alloc _).drewN _).alloc _).rs (((HP.out.alloc _).drewN _).alloc _).K.size ⟨_, 0, none⟩ 1 1 [.int .i64 kw, .int .i64 val, .int .i64 made, .int .i64 amount] rfl (by rfl) (cell_newAt _ [.int .i64 kw, .int .i64 val, .int .i64 made, .int .i64 amount] _ _ (by simp [World.drewN])) (by simp [Value.oneCell']) (by decide) (by simp [maxLen]; omega) (by omega) ?_))
        intro g5 cap5 v5 hown5 hgrow5 hor5 hold5
        have HP5 : Hid _ := (((HP.out.alloc _).drewN _).alloc _).push (o := ⟨kw, val, made, amount⟩) hgrow5 hown5
        clear HP hown5 hgrow5 hor5 hold5
        go_wp2
        refine And.intro ⟨k + 1, by omega, by go_num, ?_⟩ (by simp [intOf]; omega)
        rw [HS'.out]
        exact HP5.out
    · go_wp2
      go_end0
      have hke : k = ents.length := by omega
      rw [← hke]
      refine ⟨rfl, _, ⟨hC.L.set 9 _, ownsRow_setCell hC.b _ _ (fun e => Has.apart hC.L hC.b (by decide) e.symm)⟩, ?_, hP.K.setCell (p := ⟨g, 9, none⟩) (.inl rfl) _, fun j hj => (hst.lt j hj).1⟩
      exact ownsRow_base (ownsRow_setCell hst _ _ (fun e => Has.apart hC.L hst (by decide) e.symm)) (Nat.zero_le _)
end Go.Proofs.YtenjjneobkodbaaGreat
