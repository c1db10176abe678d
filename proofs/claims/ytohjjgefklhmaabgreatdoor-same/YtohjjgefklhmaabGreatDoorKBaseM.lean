import Derived.Test.YtohjjgefklhmaabGreatDoorNewM
namespace Go.Proofs.YtohjjgefklhmaabGreatDoor
open Go.ChangeShapes Go.WideShapes Go.ChangeAt Go.RowKit
set_option linter.unusedVariables false

theorem ownsRow_some {w : World} {base : Nat} {e : TypeId} {size : Nat} {a : Option Addr} {n c : Nat} {xs : List Value} (h : w.ownsRow base e size (.slice a n c) n xs) (h0 : 0 < n) : ∃ g, a = some ⟨g, 0, none⟩ ∧ base ≤ g := by
  rcases h.2 with ⟨_, h1⟩ | ⟨g, cap, cur, h1, h2, _⟩
  · omega
  · simp only [Value.slice.injEq, true_and] at h1
    exact ⟨g, h1.1, h2⟩
theorem ownsRow_kp {S : Nat → Prop} {w w' : World} {base : Nat} {e : TypeId} {size : Nat} {v : Value} {n : Nat} {xs : List Value} (h : w.ownsRow base e size v n xs) (k : Kp S w w') (ho : ∀ b, v.ownBlock = some b → ¬ S b) : w'.ownsRow base e size v n xs := by
  refine ⟨h.1, ?_⟩
  rcases h.2 with hn | ⟨g, cap, cur, rfl, hb, hgg, rest⟩
  · exact .inl hn
  · refine .inr ⟨g, cap, cur, rfl, hb, ?_, rest⟩
    rw [k.block g (Array.getElem?_eq_some_iff.1 hgg).1 (ho g rfl)]
    exact hgg
theorem apart_of {w : World} {base base' : Nat} {e e' : TypeId} {size size' : Nat} {v : Value} {n n' g c : Nat} {xs xs' : List Value} (h : w.ownsRow base e size v n xs) (h' : w.ownsRow base' e' size' (.slice (some ⟨g, 0, none⟩) n' c) n' xs') (hne : e ≠ e') :
    ∀ b, v.ownBlock = some b → ¬ (b = g) := by
  intro b hb hbg
  rcases ownsRow_apart h h' hne with h0 | h0
  · rw [h0] at hb; cases hb
  · apply h0; rw [hb, hbg]; rfl
theorem Kp.below {S : Nat → Prop} {w0 w w' : World} {B : Nat} (hb : Below B w0 w) (hk : Kp S w w') (hB : B ≤ w0.heap.size) (hS : ∀ k, S k → B ≤ k) : Below B w0 w' :=
  hb.trans ⟨hk.os, hk.tape, hk.output, hk.size, fun k h => hk.block k (Nat.lt_of_lt_of_le h (Nat.le_trans hB hb.size)) (fun h' => by have := hS k h'; omega)⟩
theorem row_off {w : World} {base base' : Nat} {e e' : TypeId} {size size' : Nat} {v v' : Value} {n n' : Nat} {xs xs' : List Value} (h : w.ownsRow base e size v n xs) (h' : w.ownsRow base' e' size' v' n' xs') (hne : e ≠ e') {k : Nat} (hk : v'.ownBlock = some k) : v.ownBlock ≠ some k := by
  intro h0
  rcases ownsRow_apart h h' hne with h1 | h1
  · rw [h1] at h0; cases h0
  · exact h1 (h0.trans hk.symm)
theorem size_setCell (w : World) (a : Addr) (v : Value) : (w.setCell a v).heap.size = w.heap.size := by simp [World.setCell]
theorem cell_newAt (w : World) (L : List Value) (e : TypeId) (g : Nat) (hg : g = w.heap.size) : ∀ j u, L[j]? = some u → (w.alloc (.cells L.toArray e)).cell? ((⟨g, 0, none⟩ : Addr).add j) = some u := by
  subst hg; exact cell_new w L e
theorem ownsRow_short {w : World} {base : Nat} {e : TypeId} {size : Nat} {g n m cap : Nat} {xs ys : List Value} (h : w.ownsRow base e size (.slice (some ⟨g, 0, none⟩) (n + m) cap) (n + m) (xs ++ ys)) (hx : xs.length = n * size) (hc : n ≤ cap) :
    w.ownsRow base e size (.slice (some ⟨g, 0, none⟩) n cap) n xs := by
  refine ⟨hx, ?_⟩
  rcases h.2 with ⟨h0, _⟩ | ⟨g', cap', cur, h1, h2, h3, h4, h5, h6, h7⟩
  · simp at h0
  · simp only [Value.slice.injEq, Option.some.injEq, Addr.mk.injEq, and_true, true_and] at h1
    obtain ⟨rfl, rfl⟩ := h1
    refine .inr ⟨_, _, cur, rfl, h2, h3, hc, h5, h6, ?_⟩
    have e1 : cur.toList.take (n * size) = (cur.toList.take ((n + m) * size)).take (n * size) := by
      rw [List.take_take]; congr 1; rw [Nat.add_mul]; omega
    rw [e1, h7, List.take_append_of_le_length (by omega), List.take_of_length_le (by omega)]
/-- append to a row of one's own: the new row is the old one or a new block -/
theorem run_append_sl2 {P : Program} (w : World) (t ty e : TypeId) (i : TypeInfo) (z : Value) (size bytes : Nat) (h1 : P.underlying t = some (.slice e)) (h2 : P.info? e = some i) (h3 : i.zero = some z) (h4 : i.size = size) (h5 : i.bytes = bytes) (h6 : z.cells.size = size) (h7 : 0 < size)
    (base : Nat) (v : Value) (n : Nat) (xs : List Value) (hown : w.ownsRow base e size v n xs) (hbase : base ≤ w.heap.size)
    (ad : Addr) (m c : Nat) (news : List Value) (hn : news.length = m * size) (hc : ∀ j u, news[j]? = some u → w.cell? (ad.add j) = some u) (h1c : ∀ u ∈ news, u.oneCell' = true)
    (hm : 0 < m) (b1 : n + m ≤ maxLen) (b2 : (n + m) * bytes ≤ 140737488355328) :
    ∃ g cap w', (Builtin.append_ #[t, t] ty #[v, .slice (some ad) m c]).run P w = .ok (.slice (some ⟨g, 0, none⟩) (n + m) cap) w' ∧
      w'.ownsRow base e size (.slice (some ⟨g, 0, none⟩) (n + m) cap) (n + m) (xs ++ news) ∧ w.grownBy w' v.ownBlock ∧ (v.ownBlock = some g ∨ w.heap.size ≤ g) ∧ w'.ownsRow base e size v n xs := by
  have fin : ∀ {v' : Value} {w' : World} {ys : List Value}, w'.ownsRow w.heap.size e size v' (n + m) ys → ∃ g cap, v' = .slice (some ⟨g, 0, none⟩) (n + m) cap ∧ w.heap.size ≤ g := by
    intro v' w' ys h
    rcases h.2 with ⟨_, h0⟩ | ⟨g, cap, cur, h1, h2, _⟩
    · omega
    · exact ⟨g, cap, h1, h2⟩
  rcases id hown.2 with ⟨rfl, rfl⟩ | ⟨g, cap, cur, rfl, hb, hg, hnc, hcm, hsz, htk⟩
  · obtain rfl : xs = [] := List.eq_nil_of_length_eq_zero (by simpa using hown.1)
    obtain ⟨v', w', hrun, r1, r2, _⟩ := run_append_own (P := P) w w.heap.size t ty e i z size bytes h1 h2 h3 h4 h5 h6 h7 (.slice none 0 0) 0 [] (World.ownsRow_nil w _ e size) ad m c news hn hc h1c b1 b2 (Nat.le_refl _)
    obtain ⟨g, cap, rfl, hge⟩ := fin r1
    exact ⟨g, cap, w', hrun, ownsRow_base r1 hbase, r2, .inr hge, World.ownsRow_nil _ _ _ _⟩
  · by_cases hr : n + m ≤ cap
    · obtain ⟨w', hrun, r1, r2⟩ := run_append_fits (P := P) w base t ty e i size h1 h2 h4 g n cap xs hown ad m c news hn hc h1c hr
      exact ⟨g, cap, w', hrun, r1, r2, .inl rfl, ownsRow_short r1 hown.1 (by omega)⟩
    · obtain ⟨v', w', hrun, r1, r2⟩ := run_append_arg_grows (P := P) w t ty e i z size bytes h1 h2 h3 h4 h5 h6 h7 ⟨g, 0, none⟩ n cap xs hown.1 (hown.cells rfl) ad m c news hn hc (by omega) b1 b2
      obtain ⟨g', cap', rfl, hge⟩ := fin r1
      exact ⟨g', cap', w', hrun, ownsRow_base r1 hbase, ⟨r2.os, r2.tape, r2.output, r2.size, fun k hk _ => r2.block k hk (by simp)⟩, .inr hge, hown.kept r2 (by simp [Value.ownBlock])⟩
theorem step_append_sl2 {P : Program} {ops : Array Oper} {o : Oper} {a : Act} {w : World} {K : Act → World → Prop} {Q : Exit → Act → World → Prop} {E : Prop}
    (hg : o.guard = none) (s x : Operand) (t : TypeId) (hop : o.op = Op.call { callee := Callee.builtin Builtin.append, args := #[s, x], argTypes := #[t, t] })
    (e : TypeId) (i : TypeInfo) (z : Value) (size bytes : Nat) (h1 : P.underlying t = some (.slice e)) (h2 : P.info? e = some i) (h3 : i.zero = some z) (h4 : i.size = size) (h5 : i.bytes = bytes) (h6 : z.cells.size = size) (h7 : 0 < size)
    (base : Nat) (v : Value) (n : Nat) (xs : List Value) (hs : a.eval s = v) (hown : w.ownsRow base e size v n xs) (hbase : base ≤ w.heap.size)
    (ad : Addr) (m c : Nat) (news : List Value) (hx : a.eval x = .slice (some ad) m c) (hn : news.length = m * size) (hc : ∀ j u, news[j]? = some u → w.cell? (ad.add j) = some u) (h1c : ∀ u ∈ news, u.oneCell' = true)
    (hm : 0 < m) (b1 : n + m ≤ maxLen) (b2 : (n + m) * bytes ≤ 140737488355328)
    (hK : ∀ g cap w', w'.ownsRow base e size (.slice (some ⟨g, 0, none⟩) (n + m) cap) (n + m) (xs ++ news) → w.grownBy w' v.ownBlock → (v.ownBlock = some g ∨ w.heap.size ≤ g) → w'.ownsRow base e size v n xs → K (a.put o.dst (.slice (some ⟨g, 0, none⟩) (n + m) cap)) w') :
    if Region.wanted o (yielded ops a.tmps) = true then Oper.wp P o a w K Q else E := by
  have hw : Region.wanted o (yielded ops a.tmps) = true := by simp [Region.wanted, hg]
  rw [if_pos hw]
  obtain ⟨g, cap, w', hrun, r1, r2, r3, r4⟩ := run_append_sl2 (P := P) w t o.type e i z size bytes h1 h2 h3 h4 h5 h6 h7 base v n xs hown hbase ad m c news hn hc h1c hm b1 b2
  unfold Oper.wp
  simp [execOp, hop, resolve, invoke, builtin, hs, hx, hrun, Result.andThen]
  exact hK g cap w' r1 r2 r3 r4
theorem wpList_append_sl2 {P : Program} {w : World} {ops : Array Oper} {rest : List Oper} {o : Oper} {a : Act} {Q : Exit → Act → World → Prop}
    (hg : o.guard = none) (s x : Operand) (t : TypeId) (hop : o.op = Op.call { callee := Callee.builtin Builtin.append, args := #[s, x], argTypes := #[t, t] })
    (e : TypeId) (i : TypeInfo) (z : Value) (size bytes : Nat) (h1 : P.underlying t = some (.slice e)) (h2 : P.info? e = some i) (h3 : i.zero = some z) (h4 : i.size = size) (h5 : i.bytes = bytes) (h6 : z.cells.size = size) (h7 : 0 < size)
    (base : Nat) (v : Value) (n : Nat) (xs : List Value) (hs : a.eval s = v) (hown : w.ownsRow base e size v n xs) (hbase : base ≤ w.heap.size)
    (ad : Addr) (m c : Nat) (news : List Value) (hx : a.eval x = .slice (some ad) m c) (hn : news.length = m * size) (hc : ∀ j u, news[j]? = some u → w.cell? (ad.add j) = some u) (h1c : ∀ u ∈ news, u.oneCell' = true)
    (hm : 0 < m) (b1 : n + m ≤ maxLen) (b2 : (n + m) * bytes ≤ 140737488355328)
    (hK : ∀ g cap w', w'.ownsRow base e size (.slice (some ⟨g, 0, none⟩) (n + m) cap) (n + m) (xs ++ news) → w.grownBy w' v.ownBlock → (v.ownBlock = some g ∨ w.heap.size ≤ g) → w'.ownsRow base e size v n xs → wpList P ops Q rest (a.put o.dst (.slice (some ⟨g, 0, none⟩) (n + m) cap)) w') :
    wpList P ops Q (o :: rest) a w := by
  refine wpList_plain hg fun K hK' => ?_
  obtain ⟨g, cap, w', hrun, r1, r2, r3, r4⟩ := run_append_sl2 (P := P) w t o.type e i z size bytes h1 h2 h3 h4 h5 h6 h7 base v n xs hown hbase ad m c news hn hc h1c hm b1 b2
  unfold Oper.wp
  simp [execOp, hop, resolve, invoke, builtin, hs, hx, hrun, Result.andThen]
  exact hK' _ _ (hK g cap w' r1 r2 r3 r4)
/-- the ledger's plain numbers -/
structure LC where
  top : Int
  mature : Int
  fee : Int
  height : Int
  fees : Int
  pool : Int
  bal : List Int
/-- bounds that keep the numbers from wrapping -/
structure LBd (c : LC) : Prop where
  len : c.bal.length ≤ 1000
  fee0 : 0 ≤ c.fee
  fee1 : c.fee ≤ 1000000
  fees0 : 0 ≤ c.fees
  fees1 : c.fees ≤ 1000000000000
  pool0 : 0 ≤ c.pool
  pool1 : c.pool ≤ 1000000000000
  bal : ∀ k (h : k < c.bal.length), 0 ≤ c.bal[k] ∧ c.bal[k] ≤ 1000000000000
/-- what a call on the ledger's numbers may write -/
def LS (g : Nat) (bv : Value) (k : Nat) : Prop := k = g ∨ bv.ownBlock = some k
def setB (c : LC) (k : Nat) (x : Int) : LC := { c with bal := c.bal.set k x }
theorem ints_set (xs : List Int) (k : Nat) (x : Int) : (ints xs).set k (.int .i64 x) = ints (xs.set k x) := by simp [ints]
theorem Kp.grown {S : Nat → Prop} {a w w' : World} {row : Option Nat} (h : Kp S a w) (hg : w.grownBy w' row) (hr : ∀ j, row = some j → a.heap.size ≤ j) : Kp S a w' :=
  ⟨hg.os.trans h.os, hg.tape.trans h.tape, hg.output.trans h.output, Nat.le_trans h.size hg.size, fun k hk hs => (hg.block k (Nat.lt_of_lt_of_le hk h.size) (fun e => by have := hr k e.symm; omega)).trans (h.block k hk hs)⟩
theorem erow_snoc (l : List ES) (o : ES) : erow (l ++ [o]) = erow l ++ o.cells := by
  induction l with
  | nil => simp [erow]
  | cons v l ih => simp [erow, ih]
theorem vrow_inset (l : List VS) (i : Nat) (hi : i < l.length) (f : VS → Bool) : (vrow l).set (i * 8 + 7) (.bool (f l[i])) = vrow (l.modify i (fun v => { v with inset := f v })) := by
  induction l generalizing i with
  | nil => simp at hi
  | cons v l ih =>
    cases i with
    | zero => simp [vrow, VS.cells]
    | succ i =>
      have e : (i + 1) * 8 + 7 = v.cells.length + (i * 8 + 7) := by simp [VS.cells]; omega
      rw [vrow, e, List.set_append_right _ _ (by omega), Nat.add_sub_cancel_left, List.modify_succ_cons, vrow]
      congr 1
      have := ih i (by simpa using hi)
      simpa using this
theorem set_self {α : Type} (l : List α) (i : Nat) (a : α) (h : l[i]? = some a) : l.set i a = l := by
  apply List.ext_getElem?
  intro j
  by_cases e : i = j
  · subst e
    have hi : i < l.length := (List.getElem?_eq_some_iff.1 h).1
    rw [List.getElem?_set_self hi, h]
  · rw [List.getElem?_set_ne e]
theorem row_ne {w : World} {base base' : Nat} {e e' : TypeId} {size size' : Nat} {v : Value} {n n' gv m cap : Nat} {xs xs' : List Value} (h : w.ownsRow base e size v n xs) (h' : w.ownsRow base' e' size' (.slice (some ⟨gv, 0, none⟩) m cap) n' xs') (hne : e ≠ e') : v.ownBlock ≠ some gv := by
  intro h0
  rcases ownsRow_apart h h' hne with h1 | h1
  · rw [h1] at h0; cases h0
  · exact h1 (h0.trans rfl)
end Go.Proofs.YtohjjgefklhmaabGreatDoor

namespace Go.Proofs.YtohjjgefklhmaabGreatDoor
open Go.ChangeShapes Go.WideShapes Go.ChangeAt Go.RowKit
set_option linter.unusedVariables false

/-- an engine's numbers; tab: the shares (30), what a share got (5), up to where it is paid (30) -/
structure EC where
  top : Int
  mature : Int
  fee : Int
  height : Int
  fees : Int
  pool : Int
  bal : List Int
  tab : List Int
  vals : List VS
  ents : List ES
def EC.sh (x : EC) (k j : Nat) : Int := x.tab.getD (k * 5 + j) 0
def EC.per (x : EC) (j : Nat) : Int := x.tab.getD (30 + j) 0
def EC.upto (x : EC) (k j : Nat) : Int := x.tab.getD (35 + (k * 5 + j)) 0
def EC.balAt (x : EC) (k : Nat) : Int := x.bal.getD k 0

/-- the cells of an engine -/
def eL (x : EC) (bv vv ev : Value) : List Value := [.int .i64 x.top, .int .i64 x.mature, .int .i64 x.fee, .int .i64 x.height, bv, .int .i64 x.fees, .int .i64 x.pool, vv] ++ (ints x.tab ++ [ev])
theorem eL_tab (x : EC) (bv vv ev : Value) (j : Nat) (h : j < x.tab.length) : (eL x bv vv ev)[8 + j]? = some (.int .i64 (x.tab.getD j 0)) := by
  unfold eL
  rw [List.getElem?_append_right (by simp), show 8 + j - ([.int .i64 x.top, .int .i64 x.mature, .int .i64 x.fee, .int .i64 x.height, bv, .int .i64 x.fees, .int .i64 x.pool, vv] : List Value).length = j by simp, List.getElem?_append_left (by simpa [ints] using h)]
  simp [ints, h]
theorem eL_set_tab (x : EC) (bv vv ev : Value) (j : Nat) (y : Int) (h : j < x.tab.length) : (eL x bv vv ev).set (8 + j) (.int .i64 y) = eL { x with tab := x.tab.set j y } bv vv ev := by
  unfold eL
  rw [List.set_append_right _ _ (by simp), show 8 + j - ([.int .i64 x.top, .int .i64 x.mature, .int .i64 x.fee, .int .i64 x.height, bv, .int .i64 x.fees, .int .i64 x.pool, vv] : List Value).length = j by simp, List.set_append_left _ _ (by simpa [ints] using h), ints_set]
theorem eL_ev (x : EC) (bv vv ev : Value) (h : x.tab.length = 65) : (eL x bv vv ev)[73]? = some ev := by
  unfold eL
  rw [List.getElem?_append_right (by simp), List.getElem?_append_right (by simp [ints, h])]
  simp [ints, h]
theorem eL_set_ev (x : EC) (bv vv ev e' : Value) (h : x.tab.length = 65) : (eL x bv vv ev).set 73 e' = eL x bv vv e' := by
  unfold eL
  rw [List.set_append_right _ _ (by simp), List.set_append_right _ _ (by simp [ints, h])]
  simp [ints, h]

/-- an engine of the program in memory; behind W0 only blocks of S are written -/
structure PE (S : Nat → Prop) (W0 w : World) (g : Nat) (x : EC) (bv vv ev : Value) : Prop where
  fr : Kp S W0 w
  hS : ∀ k, W0.heap.size ≤ k → S k
  hg : S g
  L : Has w g 59 (eL x bv vv ev)
  ht : x.tab.length = 65
  b : w.ownsRow 0 3 1 bv x.bal.length (ints x.bal)
  v : w.ownsRow 0 76 8 vv x.vals.length (vrow x.vals)
  e : w.ownsRow 0 80 4 ev x.ents.length (erow x.ents)
  sb : ∀ k, bv.ownBlock = some k → S k
  sv : ∀ k, vv.ownBlock = some k → S k
  se : ∀ k, ev.ownBlock = some k → S k

section
variable {S : Nat → Prop} {W0 w w' : World} {g : Nat} {x x' : EC} {bv vv ev ev' : Value}

theorem PE.eta (h : PE S W0 w g x bv vv ev) (e1 : w'.heap = w.heap) (e2 : w'.os = w.os) (e3 : w'.tape = w.tape) (e4 : w'.output = w.output) : PE S W0 w' g x bv vv ev := by
  have ho : ∀ {base : Nat} {e : TypeId} {size : Nat} {v : Value} {n : Nat} {xs : List Value}, w.ownsRow base e size v n xs → w'.ownsRow base e size v n xs := fun h => by unfold World.ownsRow at *; rw [e1]; exact h
  exact ⟨⟨e2.trans h.fr.os, e3.trans h.fr.tape, e4.trans h.fr.output, by rw [e1]; exact h.fr.size, fun k hk hs => by rw [e1]; exact h.fr.block k hk hs⟩, h.hS, h.hg, by unfold Has at *; rw [e1]; exact h.L, h.ht, ho h.b, ho h.v, ho h.e, h.sb, h.sv, h.se⟩
/-- what is the engine's own -/
def Own (g : Nat) (bv vv ev : Value) (k : Nat) : Prop := k = g ∨ bv.ownBlock = some k ∨ vv.ownBlock = some k ∨ ev.ownBlock = some k
theorem PE.kp {S' : Nat → Prop} (h : PE S W0 w g x bv vv ev) (k : Kp S' w w') (hS' : ∀ b, b < w.heap.size → Own g bv vv ev b → ¬ S' b) (hSS : ∀ b, b < w.heap.size → S' b → S b) : PE S W0 w' g x bv vv ev :=
  ⟨h.fr.trans (k.mono hSS), h.hS, h.hg, h.L.kp k (hS' g h.L.lt (.inl rfl)), h.ht, ownsRow_kp h.b k (fun b hb => hS' b (h.b.lt b hb).2 (.inr (.inl hb))), ownsRow_kp h.v k (fun b hb => hS' b (h.v.lt b hb).2 (.inr (.inr (.inl hb)))), ownsRow_kp h.e k (fun b hb => hS' b (h.e.lt b hb).2 (.inr (.inr (.inr hb)))), h.sb, h.sv, h.se⟩
theorem PE.below (h : PE S W0 w g x bv vv ev) (k : Below w.heap.size w w') : PE S W0 w' g x bv vv ev :=
  h.kp (Kp.of_below k (fun _ => False)) (fun _ _ _ h => h) (fun _ _ h => h.elim)
theorem PE.drewN (h : PE S W0 w g x bv vv ev) (n : Nat) : PE S W0 (w.drewN n) g x bv vv ev := h.eta rfl rfl rfl rfl
theorem PE.drew (h : PE S W0 w g x bv vv ev) : PE S W0 w.drew g x bv vv ev := h.eta rfl rfl rfl rfl
theorem PE.alloc (h : PE S W0 w g x bv vv ev) (o : Obj) : PE S W0 (w.alloc o) g x bv vv ev := h.below ((Below.refl _ _).alloc (Nat.le_refl _) o)
/-- the engine at rest, seen from here -/
theorem PE.rest (h : PE S W0 w g x bv vv ev) : PE (fun k => Own g bv vv ev k ∨ w.heap.size ≤ k) w w g x bv vv ev :=
  ⟨Kp.refl _ _, fun k hk => .inr hk, .inl (.inl rfl), h.L, h.ht, h.b, h.v, h.e, fun k hk => .inl (.inr (.inl hk)), fun k hk => .inl (.inr (.inr (.inl hk))), fun k hk => .inl (.inr (.inr (.inr hk)))⟩
theorem PE.rebase {S' : Nat → Prop} {W' : World} (h : PE S W0 w g x bv vv ev) (hf : Kp S' W' w) (hs : ∀ k, W'.heap.size ≤ k → S' k) (ho : ∀ k, Own g bv vv ev k → S' k) : PE S' W' w g x bv vv ev :=
  ⟨hf, hs, ho g (.inl rfl), h.L, h.ht, h.b, h.v, h.e, fun k hk => ho k (.inr (.inl hk)), fun k hk => ho k (.inr (.inr (.inl hk))), fun k hk => ho k (.inr (.inr (.inr hk)))⟩
theorem PE.own (h : PE S W0 w g x bv vv ev) : ∀ k, Own g bv vv ev k → S k := by
  rintro k (rfl | hk | hk | hk)
  · exact h.hg
  · exact h.sb k hk
  · exact h.sv k hk
  · exact h.se k hk
theorem PE.ownlt (h : PE S W0 w g x bv vv ev) : ∀ k, Own g bv vv ev k → k < w.heap.size := by
  rintro k (rfl | hk | hk | hk)
  · exact h.L.lt
  · exact (h.b.lt k hk).2
  · exact (h.v.lt k hk).2
  · exact (h.e.lt k hk).2
/-- a number of the struct's head is written -/
theorem PE.setHead (h : PE S W0 w g x bv vv ev) (i : Nat) (u : Value) (he : (eL x bv vv ev).set i u = eL x' bv vv ev) (hb : x'.bal = x.bal) (hv : x'.vals = x.vals) (hE : x'.ents = x.ents) (ht : x'.tab = x.tab) : PE S W0 (w.setCell ⟨g, i, none⟩ u) g x' bv vv ev :=
  ⟨h.fr.setCell h.hg _, h.hS, h.hg, by rw [← he]; exact h.L.set i u, by rw [ht]; exact h.ht, by rw [hb]; exact ownsRow_setCell h.b _ _ (fun e => Has.apart h.L h.b (by decide) e.symm), by rw [hv]; exact ownsRow_setCell h.v _ _ (fun e => Has.apart h.L h.v (by decide) e.symm), by rw [hE]; exact ownsRow_setCell h.e _ _ (fun e => Has.apart h.L h.e (by decide) e.symm), h.sb, h.sv, h.se⟩
theorem PE.setTab (h : PE S W0 w g x bv vv ev) (j : Nat) (y : Int) (hj : j < 65) : PE S W0 (w.setCell ⟨g, 8 + j, none⟩ (.int .i64 y)) g { x with tab := x.tab.set j y } bv vv ev :=
  ⟨h.fr.setCell h.hg _, h.hS, h.hg, by rw [← eL_set_tab x bv vv ev j y (by rw [h.ht]; exact hj)]; exact h.L.set _ _, by simp only [List.length_set]; exact h.ht, ownsRow_setCell h.b _ _ (fun e => Has.apart h.L h.b (by decide) e.symm), ownsRow_setCell h.v _ _ (fun e => Has.apart h.L h.v (by decide) e.symm), ownsRow_setCell h.e _ _ (fun e => Has.apart h.L h.e (by decide) e.symm), h.sb, h.sv, h.se⟩
theorem PE.setBal {gb n cap : Nat} (h : PE S W0 w g x (.slice (some ⟨gb, 0, none⟩) n cap) vv ev) (hn : n = x.bal.length) (k : Nat) (y : Int) : PE S W0 (w.setCell ⟨gb, k, none⟩ (.int .i64 y)) g { x with bal := x.bal.set k y } (.slice (some ⟨gb, 0, none⟩) n cap) vv ev := by
  subst hn
  have hne : g ≠ gb := fun e => Has.apart h.L h.b (by decide) (by rw [e]; rfl)
  refine ⟨h.fr.setCell (h.sb gb rfl) _, h.hS, h.hg, h.L.other _ _ hne, h.ht, ?_, ownsRow_setCell h.v _ _ (row_ne h.v h.b (by decide)), ownsRow_setCell h.e _ _ (row_ne h.e h.b (by decide)), h.sb, h.sv, h.se⟩
  have := (h.b.stored k (.int .i64 y)).1
  rw [ints_set] at this
  simpa using this
theorem PE.setVal {gv n cap : Nat} {vals' : List VS} (h : PE S W0 w g x bv (.slice (some ⟨gv, 0, none⟩) n cap) ev) (hn : n = x.vals.length) (i : Nat) (u : Value) (he : (vrow x.vals).set i u = vrow vals') (hl : vals'.length = x.vals.length) : PE S W0 (w.setCell ⟨gv, i, none⟩ u) g { x with vals := vals' } bv (.slice (some ⟨gv, 0, none⟩) n cap) ev := by
  subst hn
  have hne : g ≠ gv := fun e => Has.apart h.L h.v (by decide) (by rw [e]; rfl)
  refine ⟨h.fr.setCell (h.sv gv rfl) _, h.hS, h.hg, h.L.other _ _ hne, h.ht, ownsRow_setCell h.b _ _ (row_ne h.b h.v (by decide)), ?_, ownsRow_setCell h.e _ _ (row_ne h.e h.v (by decide)), h.sb, h.sv, h.se⟩
  have := (h.v.stored i u).1
  rw [he] at this
  simp only [hl]; exact this
theorem PE.setEv {ents' : List ES} (h : PE S W0 w g x bv vv ev) (he : w.ownsRow 0 80 4 ev' ents'.length (erow ents')) (hs : ∀ k, ev'.ownBlock = some k → S k) : PE S W0 (w.setCell ⟨g, 73, none⟩ ev') g { x with ents := ents' } bv vv ev' :=
  ⟨h.fr.setCell h.hg _, h.hS, h.hg, by
    have := h.L.set 73 ev'
    rw [eL_set_ev x bv vv ev ev' h.ht] at this
    exact this, h.ht, ownsRow_setCell h.b _ _ (fun e => Has.apart h.L h.b (by decide) e.symm), ownsRow_setCell h.v _ _ (fun e => Has.apart h.L h.v (by decide) e.symm), ownsRow_setCell he _ _ (fun e => Has.apart h.L he (by decide) e.symm), h.sb, h.sv, hs⟩
end
theorem vrow_set (l : List VS) (k : Nat) (hk : k < l.length) (i : Nat) (u : Value) (x : VS) (hx : l[k].cells.set i u = x.cells) (hi : i < 8) : (vrow l).set (k * 8 + i) u = vrow (l.set k x) := by
  induction l generalizing k with
  | nil => simp at hk
  | cons v l ih =>
    cases k with
    | zero =>
      simp only [List.getElem_cons_zero] at hx
      simp only [Nat.zero_mul, Nat.zero_add, vrow, List.set_cons_zero]
      rw [List.set_append_left _ _ (by simpa [VS.cells] using hi), hx]
    | succ k =>
      simp only [List.getElem_cons_succ] at hx
      simp only [vrow, List.set_cons_succ]
      rw [List.set_append_right _ _ (by simp [VS.cells]; omega)]
      have e : (k + 1) * 8 + i - v.cells.length = k * 8 + i := by simp [VS.cells]; omega
      rw [e, ih k (by simpa using hk) hx]
section
variable {S : Nat → Prop} {W0 w w' : World} {g : Nat} {x x' : EC} {bv vv ev ev' : Value}
theorem PE.shAt (h : PE S W0 w g x bv vv ev) {k j : Nat} (hk : k < 6) (hj : j < 5) : w.cell? ⟨g, 8 + k * 5 + j, none⟩ = some (.int .i64 (x.sh k j)) := by
  have := (h.L.cell (8 + (k * 5 + j))).trans (eL_tab _ _ _ _ _ (by rw [h.ht]; omega))
  rw [← Nat.add_assoc] at this
  exact this
theorem PE.perAt (h : PE S W0 w g x bv vv ev) {j : Nat} (hj : j < 5) : w.cell? ⟨g, 38 + j, none⟩ = some (.int .i64 (x.per j)) := by
  have := (h.L.cell (8 + (30 + j))).trans (eL_tab _ _ _ _ _ (by rw [h.ht]; omega))
  rw [← Nat.add_assoc] at this
  exact this
theorem PE.uptoAt (h : PE S W0 w g x bv vv ev) {k j : Nat} (hk : k < 6) (hj : j < 5) : w.cell? ⟨g, 43 + k * 5 + j, none⟩ = some (.int .i64 (x.upto k j)) := by
  have := (h.L.cell (8 + (35 + (k * 5 + j)))).trans (eL_tab _ _ _ _ _ (by rw [h.ht]; omega))
  rw [← Nat.add_assoc, ← Nat.add_assoc] at this
  exact this
theorem PE.evAt (h : PE S W0 w g x bv vv ev) : w.cell? ⟨g, 73, none⟩ = some ev := (h.L.cell 73).trans (eL_ev _ _ _ _ h.ht)
theorem PE.balAt' {gb n cap : Nat} (h : PE S W0 w g x (.slice (some ⟨gb, 0, none⟩) n cap) vv ev) {k : Nat} (hk : k < x.bal.length) : w.cell? ⟨gb, k, none⟩ = some (.int .i64 (x.balAt k)) := by
  obtain ⟨a, c, he⟩ := ownsRow_slice h.b
  simp only [Value.slice.injEq] at he
  obtain ⟨rfl, rfl, rfl⟩ := he
  rw [h.b.cellAt k (by omega)]; simp [ints, hk, EC.balAt]
/-- the eight cells of a validator -/
theorem PE.val8 {n cap : Nat} {a : Option Addr} (h : PE S W0 w g x bv (.slice a n cap) ev) (hn : n = x.vals.length) {k : Nat} (hk : k < x.vals.length) :
    ∃ gv, a = some ⟨gv, 0, none⟩ ∧ (∀ i, i < 8 → w.cell? ⟨gv, k * 8 + i, none⟩ = x.vals[k].cells[i]?) ∧ (∀ j, w.frozen? ⟨gv, j, none⟩ = false) := by
  subst hn
  obtain ⟨gv, rfl, _⟩ := ownsRow_some h.v (by omega)
  exact ⟨gv, rfl, fun i hi => by rw [h.v.cellAt (k * 8 + i) (by omega), vrow_at x.vals k hk i hi], fun j => h.v.frozenAt j⟩
end
end Go.Proofs.YtohjjgefklhmaabGreatDoor
