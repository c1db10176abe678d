import Derived.Test.YtohjjgefklhmaaaGreatDoorYBegunM
import Derived.Test.YtohjjgefklhmaaaGreatDoorOpsM
import Derived.Test.YtohjjgefklhmaaaGreatDoorZTurnM
namespace Go.Proofs.YtohjjgefklhmaaaGreatDoor
open Go.ChangeShapes Go.WideShapes Go.ChangeAt Go.RowKit
set_option linter.unusedVariables false
set_option maxHeartbeats 40000000
set_option maxRecDepth 100000
variable {base gw n m i ge : Nat} {w0 w w' : World} {x b o r t x' : RowV} {l l' : Nat -> Obj -> Prop} {Q : ByteArray × Option Addr -> Prop} {tv vb vo vr : Value} {ts : List (ByteArray × Option Addr)} {bs os rs : List Int} {S : Nat -> Prop} {lab lab' : Nat -> Nat × Nat} {es : List Nat}
def Da (base : Nat) (w0 w : World) (gw n : Nat) (x : RowV) (l : Nat -> Obj -> Prop) (Q : ByteArray × Option Addr -> Prop) : Prop :=
 ∃ vb vo vr tv bs os rs ts, List.length bs <= n ∧ List.length os <= n ∧ List.length rs <= n ∧ List.length ts <= n ∧ TxS Q ts ∧
  WSt base w0 w gw { v := vb, n := bs.length, xs := Ai bs } { v := vo, n := os.length, xs := Ai os } { v := vr, n := rs.length, xs := Ai rs } { v := tv, n := ts.length, xs := CN ts } x l
theorem Q2 (base : Nat) (w0 : World) (gw : Nat) (b o r x : RowV) (l : Nat -> Obj -> Prop) (Q : ByteArray × Option Addr -> Prop) (hQ : ∀ s, Q (s, none)) (tv : Value) (ts : List (ByteArray × Option Addr)) (X A B C D : Int) (s : ByteArray) (w : World) (hS : WSt base w0 w gw b o r { v := tv, n := ts.length, xs := CN ts } x l)
  (hts : ts.length <= 100000) (hsz : TxS Q ts) (hs : s.size <= 16384) :
  Calls Tryz.prog 13 #[.pointer (some ⟨gw, 0, none⟩), .agg #[.int .i64 5, .int .i64 X, .int .i64 A, .int .i64 B, .int .i64 C, .int .i64 D, .string s]] w fun e w' => e = .returned (.bool true) ∧ Mz base w0 w' gw b o r x l Q (ts.length + 1) := by
 obtain ⟨ta, tc, (hta : tv = .slice ta ts.length tc)⟩ := Ac hS.rt
 subst hta
 obtain ⟨i6, hi6, hz60, hz61, hz62⟩ := info_parts GN
 have g1 := hS.W.lt
 have g2 : gw < w.heap.size + 1 := by omega
 have c : w.cell? ⟨gw, 3, none⟩ = some (.slice ta ts.length tc) := hS.W.cell 3
 have HS := Hd hS
 have HZ := Hd hsz
 clear hS hsz
 go_enter Tryz.func13, Tryz.ntmps13
 go_wp2_with fail
 go_region_law (refine AU rfl (.tmp 74) (.tmp 78) 30 rfl 42 i6 _ 2 24 Tryz.underlying30 hi6 hz60 hz61 hz62 rfl (by decide) base (.slice ta ts.length tc) ts.length (CN ts) (by first | rfl | simp [Act.eval]) ((HS.out.alloc _).alloc _).rt ((HS.out.alloc _).alloc _).hsz ⟨_, 0, none⟩ 1 1 [.string s, .pointer none] (by first | rfl | simp [Act.eval]) (by rfl) (Ap _ [.string s, .pointer none] _ _ (by simp)) (by simp [Value.oneCell']) (by decide) (by simp [maxLen]; omega) (by omega) ?_; intro g5 cap5 v5 hown5 hgrow5 hor5 hold5; obtain ⟨hW5, hS5⟩ := (((HS.out.alloc _).alloc _).drew).pushT hgrow5 hown5 (by simpa using hor5); have c3' : v5.cell? ⟨gw, 3, none⟩ = some (.slice ta ts.length tc) := hW5.cell 3; have f3' := hW5.frozen 3; have HS5 : Hid _ := hS5; clear hS5 hown5 hgrow5 hold5 hW5)
 all_goals
  go_wp2
  go_ret
  refine ⟨rfl, .slice (some ⟨g5, 0, none⟩) (ts.length + 1) cap5, ts ++ [(s, none)], by simp, ?_, ?_⟩
  ·exact EH HZ.out _ _ hs (hQ _)
  ·rw [Fw, List.length_append]; exact HS5.out
theorem Q1 (base : Nat) (w0 : World) (gw : Nat) (b o r x : RowV) (l : Nat -> Obj -> Prop) (Q : ByteArray × Option Addr -> Prop) (hQ : ∀ s, Q (s, none)) (tv : Value) (ts : List (ByteArray × Option Addr)) (X A B C D : Int) (s : ByteArray) (w : World) (hS : WSt base w0 w gw b o r { v := tv, n := ts.length, xs := CN ts } x l)
  (hts : ts.length <= 100000) (hsz : TxS Q ts) (hA : Iq A) (hB : Iq B) :
  Calls Tryz.prog 13 #[.pointer (some ⟨gw, 0, none⟩), .agg #[.int .i64 6, .int .i64 X, .int .i64 A, .int .i64 B, .int .i64 C, .int .i64 D, .string s]] w fun e w' => e = .returned (.bool true) ∧ Mz base w0 w' gw b o r x l Q (ts.length + 1) := by
 have HS := Hd hS
 have HZ := Hd hsz
 have HA : Hid (Iq A ∧ Iq B) := ⟨hA, hB⟩
 clear hS hsz hA hB
 go_enter Tryz.func13, Tryz.ntmps13
 go_wp2_with fail
 refine (LR base w0 gw b o r x l Q hQ tv ts A B C _ (HS.out.alloc _) hts HZ.out HA.out.1.1 HA.out.1.2 HA.out.2.1 HA.out.2.2).mono ?_
 rintro e w2 ⟨rfl, hT⟩
 have HT := Hd hT
 clear hT
 go_wp2
 go_ret
 exact ⟨rfl, HT.out⟩
theorem Da.mono (h : Da base w0 w gw n x l Q) (hm : n <= m) : Da base w0 w gw m x l Q := by
 obtain ⟨vb, vo, vr, tv, bs, os, rs, ts, h1, h2, h3, h4, h6, h7⟩ := h
 exact ⟨vb, vo, vr, tv, bs, os, rs, ts, by omega, by omega, by omega, by omega, h6, h7⟩
theorem Da.of_O {a b c : Nat} (h : JL base w0 w gw a b c { v := tv, n := ts.length, xs := CN ts } x l) (ha : a <= n) (hb : b <= n) (hc : c <= n) (ht : ts.length <= n)
  (hz : TxS Q ts) : Da base w0 w gw n x l Q := by
 obtain ⟨vb, vo, vr, bs, os, rs, h1, h2, h3, h4⟩ := h
 exact ⟨vb, vo, vr, tv, bs, os, rs, ts, by omega, by omega, by omega, ht, hz, h4⟩
theorem Da.of_T (h : Mz base w0 w gw { v := vb, n := bs.length, xs := Ai bs } { v := vo, n := os.length, xs := Ai os } { v := vr, n := rs.length, xs := Ai rs } x l Q m) (hm : m <= n) (hb : bs.length <= n) (ho : os.length <= n) (hr : rs.length <= n) : Da base w0 w gw n x l Q := by
 obtain ⟨tv', ts', h1, h2, h3⟩ := h
 exact ⟨vb, vo, vr, tv', bs, os, rs, ts', hb, ho, hr, by omega, h2, h3⟩
theorem Nt (base : Nat) (w0 : World) (gw n : Nat) (x : RowV) (l : Nat -> Obj -> Prop) (Q : ByteArray × Option Addr -> Prop) (hQ : ∀ s, Q (s, none)) (o : OpD) (w : World) (hS : Da base w0 w gw n x l Q) (hn : n <= 50000) (ho : o.ok) (hs : o.s.size <= 16384) :
  Calls Tryz.prog 13 #[.pointer (some ⟨gw, 0, none⟩), .agg #[.int .i64 o.kind, .int .i64 o.x, .int .i64 o.a, .int .i64 o.b, .int .i64 o.c, .int .i64 o.d, .string o.s]] w fun e w' => Ax e (1 <= o.kind ∧ o.kind <= 6) ∧ Da base w0 w' gw (n + 1) x l Q := by
 obtain ⟨vb, vo, vr, tv, bs, os, rs, ts, h1, h2, h3, h4, h6, h7⟩ := hS
 obtain ⟨kind, X, A, B, C, D, s⟩ := o
 obtain ⟨_, _, hA, hB, _, _⟩ := ho
 simp only at hA hB hs
 by_cases k1 : kind = 1
 ·subst k1
  refine (QG base w0 gw vb vo vr bs os rs _ x l X A B C D s w h7 (by omega) (by omega) (by omega)).mono ?_
  rintro e w' ⟨rfl, hP⟩
  exact ⟨Ax.tt (by simp), Da.of_O hP (by omega) (by omega) (by omega) (by omega) h6⟩
 by_cases k2 : kind = 2
 ·subst k2
  refine (QX base w0 gw vb vo vr bs os rs _ x l X A B C D s w h7 (by omega) (by omega) (by omega)).mono ?_
  rintro e w' ⟨rfl, hP⟩
  exact ⟨Ax.tt (by simp), Da.of_O hP (by omega) (by omega) (by omega) (by omega) h6⟩
 by_cases k3 : kind = 3
 ·subst k3
  refine (QU base w0 gw vb vo vr bs os rs _ x l X A B C D s w h7 (by omega) (by omega) (by omega)).mono ?_
  rintro e w' ⟨rfl, hP⟩
  exact ⟨Ax.tt (by simp), Da.of_O hP (by omega) (by omega) (by omega) (by omega) h6⟩
 by_cases k4 : kind = 4
 ·subst k4
  refine (QJ base w0 gw vb vo vr bs os rs _ x l X A B C D s w h7 (by omega) (by omega) (by omega)).mono ?_
  rintro e w' ⟨rfl, hP⟩
  exact ⟨Ax.tt (by simp), Da.of_O hP (by omega) (by omega) (by omega) (by omega) h6⟩
 by_cases k5 : kind = 5
 ·subst k5
  refine (Q2 base w0 gw _ _ _ x l Q hQ tv ts X A B C D s w h7 (by omega) h6 hs).mono ?_
  rintro e w' ⟨rfl, hP⟩
  exact ⟨Ax.tt (by simp), Da.of_T hP (by omega) (by omega) (by omega) (by omega)⟩
 by_cases k6 : kind = 6
 ·subst k6
  refine (Q1 base w0 gw _ _ _ x l Q hQ tv ts X A B C D s w h7 (by omega) h6 hA hB).mono ?_
  rintro e w' ⟨rfl, hP⟩
  exact ⟨Ax.tt (by simp), Da.of_T hP (by omega) (by omega) (by omega) (by omega)⟩
 refine (Pn base w0 gw vb vo vr bs os rs _ x l X A B C D s w h7 (by omega) (by omega) (by omega) kind (beq_eq_false_iff_ne.2 k1) (beq_eq_false_iff_ne.2 k2) (beq_eq_false_iff_ne.2 k3) (beq_eq_false_iff_ne.2 k4) (beq_eq_false_iff_ne.2 k5) (beq_eq_false_iff_ne.2 k6)).mono ?_
 rintro e w' ⟨rfl, hP⟩
 exact ⟨Ax.ff (by simp only; omega), Da.of_O hP (by omega) (by omega) (by omega) (by omega) h6⟩
def Ld (es : List Nat) : List Value := es.map (fun g => .pointer (some ⟨g, 0, none⟩))
def KL (lab : Nat -> Nat × Nat) (w : World) : Nat -> Obj -> Prop := fun g ob => (lab g).1 ≠ 0 ∧ w.heap[g]? = some ob
theorem WSt.kp (m : WSt base w0 w gw b o r t x l) (hk : Kp S w w') (hS : ∀ k, k < w.heap.size -> S k -> base <= k ∧ JB gw b.v o.v r.v t.v x.v k) (hl : ∀ g ob, l' g ob -> w'.heap[g]? = some ob ∧ JB gw b.v o.v r.v t.v x.v g) : WSt base w0 w' gw b o r t x l' :=
 ⟨⟨hk.os.trans m.fr.os, hk.tape.trans m.fr.tape, hk.output.trans m.fr.output, Nat.le_trans m.fr.size hk.size, fun k h => (hk.block k (Nat.lt_of_lt_of_le h m.hsz) (fun h' => by have := (hS k (Nat.lt_of_lt_of_le h m.hsz) h').1; omega)).trans (m.fr.block k h)⟩, m.hgw, m.W.kp hk (fun h => (hS gw m.W.lt h).2.w rfl), m.dbo, m.dbr, m.dor,
  Al m.rb hk (fun b' hb h => (hS b' (m.rb.lt b' hb).2 h).2.b hb), Al m.ro hk (fun b' hb h => (hS b' (m.ro.lt b' hb).2 h).2.o hb), Al m.rr hk (fun b' hb h => (hS b' (m.rr.lt b' hb).2 h).2.r hb), Al m.rt hk (fun b' hb h => (hS b' (m.rt.lt b' hb).2 h).2.t hb), Al m.rx hk (fun b' hb h => (hS b' (m.rx.lt b' hb).2 h).2.x hb), hl⟩
theorem WSt.aside (m : WSt base w0 w gw b o r t x l) {g : Nat} (hg : w.heap.size <= g) : JB gw b.v o.v r.v t.v x.v g :=
 ⟨fun e => by have := m.W.lt; omega, fun e => by have := (m.rb.lt g e).2; omega, fun e => by have := (m.ro.lt g e).2; omega, fun e => by have := (m.rr.lt g e).2; omega, fun e => by have := (m.rt.lt g e).2; omega, fun e => by have := (m.rx.lt g e).2; omega⟩
theorem WSt.keeps {b' o' r' t' : RowV} (m : WSt base w0 w gw b o r t x l) (m' : WSt base w0 w' gw b' o' r' t' x' l') (hl : ∀ g ob, KL lab w g ob -> l' g ob) (hs : w.heap.size <= w'.heap.size) : Kp (fun k => (lab k).1 = 0) w w' :=
 ⟨m'.fr.os.trans m.fr.os.symm, m'.fr.tape.trans m.fr.tape.symm, m'.fr.output.trans m.fr.output.symm, hs, fun k hk hn => by
  have e : w.heap[k]? = some w.heap[k] := Array.getElem?_eq_getElem hk
  rw [e]
  exact (m'.rl k _ (hl k _ ⟨hn, e⟩)).1⟩
theorem Ey.mono {m' : Nat} (h : Ey w lab i ge m) (hm : m <= m') : Ey w lab i ge m' := by
 obtain ⟨gx, gy, gl, hv, nh, hcs, mk, x, h1, h2, h6, h7, h8⟩ := h
 exact ⟨gx, gy, gl, hv, nh, hcs, mk, x, h1, h2, h6, by omega, by omega⟩
def TxQ (w : World) (lab : Nat -> Nat × Nat) (t : ByteArray × Option Addr) : Prop := t.2 = none ∨ ∃ gl x, t.2 = some ⟨gl, 0, none⟩ ∧ Bj (fun k => lab k = (1000000, 6)) w gl x ∧ AB x ∧ t.1 = ⟨(txt (BO x)).toArray⟩
theorem TxQ.move {t : ByteArray × Option Addr} (h : TxQ w lab t) (k : Kp S w w') (hF : ∀ b, b < w.heap.size -> (lab b).1 = 1000000 -> ¬ S b ∧ lab' b = lab b) : TxQ w' lab' t := by
 rcases h with h | ⟨gl, x, h1, h2, h3, h4⟩
 ·exact .inl h
 ·exact .inr ⟨gl, x, h1, h2.move k (fun b hb hl => by have := hF b hb (by rw [hl]); exact ⟨this.1, this.2.trans hl⟩), h3, h4⟩
theorem TxS.move (h : TxS (TxQ w lab) ts) (k : Kp S w w') (hF : ∀ b, b < w.heap.size -> (lab b).1 = 1000000 -> ¬ S b ∧ lab' b = lab b) : TxS (TxQ w' lab') ts := fun i hi => ⟨(h i hi).1, (h i hi).2.move k hF⟩
def SE (base : Nat) (w0 w : World) (gw n : Nat) : Prop :=
 ∃ x es lab, Da base w0 w gw n x (KL lab w) (TxQ w lab) ∧ x.n = List.length es ∧ x.xs = Ld es ∧ es.length <= n ∧ (∀ k, k < base -> (lab k).1 = 0) ∧ (∀ i (h : i < es.length), Ey w lab (i + 1) es[i] n)
theorem Da.fr (h : Da base w0 w gw n x l Q) : Below base w0 w := by
 obtain ⟨vb, vo, vr, tv, bs, os, rs, ts, h1, h2, h3, h4, h6, h7⟩ := h
 exact h7.fr
theorem Da.box (h : Da base w0 w gw n x l Q) (ob : Obj) : Da base w0 (w.alloc ob) gw n x (fun g o => l g o ∨ (g = w.heap.size ∧ o = ob)) Q := by
 obtain ⟨vb, vo, vr, tv, bs, os, rs, ts, h1, h2, h3, h4, h6, h7⟩ := h
 refine ⟨vb, vo, vr, tv, bs, os, rs, ts, h1, h2, h3, h4, h6, (h7.alloc ob).kept (fun g o hg => ?_)⟩
 rcases hg with hg | ⟨rfl, rfl⟩
 ·exact (h7.alloc ob).rl g o hg
 ·exact ⟨heap_alloc_new w _, h7.aside (Nat.le_refl _)⟩
theorem Da.rl (h : Da base w0 w gw n x l Q) {g : Nat} {ob : Obj} (hg : l g ob) : w.heap[g]? = some ob := by
 obtain ⟨vb, vo, vr, tv, bs, os, rs, ts, h1, h2, h3, h4, h6, h7⟩ := h
 exact (h7.rl g ob hg).1
theorem SE.owned {w2 : World} {box : Obj} (h : Da base w0 w gw n x (KL lab w) (TxQ w lab)) (hb : ∀ k, k < base -> (lab k).1 = 0) (hE : ∀ i (h : i < es.length), Ey w lab (i + 1) es[i] m)
  (h2 : Da base w0 w2 gw (n + 1) x (fun g o => KL lab w g o ∨ (g = w.heap.size ∧ o = box)) (TxQ w lab)) :
  Da base w0 w2 gw (n + 1) x (KL (Cu lab w.heap.size (0, 0)) w2) (TxQ w2 (Cu lab w.heap.size (0, 0))) ∧ (∀ k, k < base -> (Cu lab w.heap.size (0, 0) k).1 = 0) ∧ (∀ i (h : i < es.length), Ey w2 (Cu lab w.heap.size (0, 0)) (i + 1) es[i] m) ∧ w.heap.size < w2.heap.size := by
 obtain ⟨vb, vo, vr, tv, bs, os, rs, ts, h1, h2', h3, h4, h6, h7⟩ := h
 obtain ⟨vb', vo', vr', tv', bs', os', rs', ts', k1, k2, k3, k4, k6, k7⟩ := h2
 have hs : w.heap.size < w2.heap.size := Fv (k7.rl w.heap.size box (.inr ⟨rfl, rfl⟩)).1
 have hK := h7.keeps k7 (lab := lab) (fun g ob hg => .inl hg) (by omega)
 refine ⟨⟨vb', vo', vr', tv', bs', os', rs', ts', k1, k2, k3, k4, k6.move hK (fun b hb' hl => ⟨fun e => by rw [e] at hl; omega, A0 hb'⟩), k7.kept (fun g ob hg => ?_)⟩, fun k hk => ?_, fun i hi => (hE i hi).move hK (fun b hb' hl => ⟨fun e => by rw [e] at hl; omega, A0 hb'⟩), hs⟩
 ·obtain ⟨g1, g2⟩ := hg
  have hlt : g < w.heap.size := by
   by_cases hc : g < w.heap.size
   ·exact hc
   ·rw [B4 (by omega)] at g1; exact absurd rfl g1
  rw [A0 hlt] at g1
  have e : w.heap[g]? = some w.heap[g] := Array.getElem?_eq_getElem hlt
  have := k7.rl g _ (.inl ⟨g1, e⟩)
  rw [this.1] at g2
  cases g2
  exact this
 ·by_cases hc : k < w.heap.size
  ·rw [A0 hc]; exact hb k hk
  ·rw [B4 (by omega)]
theorem NF (es : List Nat) (g : Nat) : Ld es ++ [.pointer (some ⟨g, 0, none⟩)] = Ld (es ++ [g]) := by simp [Ld]
theorem SE.freshed
  (m : WSt base w0 w gw { v := vb, n := bs.length, xs := Ai bs } { v := vo, n := os.length, xs := Ai os } { v := vr, n := rs.length, xs := Ai rs } { v := tv, n := ts.length, xs := CN ts } x (KL lab w))
  (m' : WSt base w0 w' gw { v := vb, n := bs.length, xs := Ai bs } { v := vo, n := os.length, xs := Ai os } { v := vr, n := rs.length, xs := Ai rs } { v := tv, n := ts.length, xs := CN ts } x' (KL lab w))
  (h1 : bs.length <= n + 1) (h2 : os.length <= n + 1) (h3 : rs.length <= n + 1) (h4 : ts.length <= n + 1) (h6 : TxS (TxQ w lab) ts)
  (hn : x.n = es.length) (hx : x.xs = Ld es) (hl : es.length <= n) (hb : ∀ k, k < base -> (lab k).1 = 0) (hE : ∀ i (h : i < es.length), Ey w lab (i + 1) es[i] n) (hF : K8 w w' (es.length + 1) x x') : SE base w0 w' gw (n + 2) := by
 obtain ⟨hs, hF⟩ := hF
 have hK := m.keeps m' (lab := lab) (fun g ob hg => hg) hs
 rcases hF with rfl | ⟨ge, labN, e1, e2, e3, e4, e5⟩
 ·refine ⟨x', es, Cu lab w.heap.size (0, 0), ⟨vb, vo, vr, tv, bs, os, rs, ts, by omega, by omega, by omega, by omega, h6.move hK (fun b hb' hl' => ⟨fun e => by rw [e] at hl'; omega, A0 hb'⟩), m'.kept (fun g ob hg => ?_)⟩, hn, hx, by omega, fun k hk => ?_, fun i hi => ((hE i hi).move hK (fun b hb' hl' => ⟨fun e => by rw [e] at hl'; omega, A0 hb'⟩)).mono (by omega)⟩
  ·obtain ⟨g1, g2⟩ := hg
   have hlt : g < w.heap.size := by
    by_cases hc : g < w.heap.size
    ·exact hc
    ·rw [B4 (by omega)] at g1; exact absurd rfl g1
   rw [A0 hlt] at g1
   have e : w.heap[g]? = some w.heap[g] := Array.getElem?_eq_getElem hlt
   have := m'.rl g _ ⟨g1, e⟩
   rw [this.1] at g2
   cases g2
   exact this
  ·by_cases hc : k < w.heap.size
   ·rw [A0 hc]; exact hb k hk
   ·rw [B4 (by omega)]
 ·have hbs := m.hsz
  refine ⟨x', es ++ [ge], (fun k => if k < w.heap.size then lab k else labN k), ⟨vb, vo, vr, tv, bs, os, rs, ts, by omega, by omega, by omega, by omega, h6.move hK (fun b hb' hl' => ⟨fun e => by rw [e] at hl'; omega, if_pos hb'⟩), m'.kept (fun g ob hg => ?_)⟩, by rw [e1, hn]; simp, by rw [e2, hx, NF], by simp; omega, fun k hk => ?_, fun i hi => ?_⟩
  ·obtain ⟨g1, g2⟩ := hg
   by_cases hc : g < w.heap.size
   ·simp only [if_pos hc] at g1
    have e : w.heap[g]? = some w.heap[g] := Array.getElem?_eq_getElem hc
    have := m'.rl g _ ⟨g1, e⟩
    rw [this.1] at g2
    cases g2
    exact this
   ·simp only [if_neg hc] at g1
    have ha := m.aside (g := g) (by omega)
    exact ⟨g2, ha.w, ha.b, ha.o, ha.r, ha.t, fun e => g1 (e4 g e)⟩
  ·simp only [if_pos (show k < w.heap.size by omega)]; exact hb k hk
  ·by_cases hc : i < es.length
   ·have e : (es ++ [ge])[i] = es[i] := List.getElem_append_left hc
    rw [e]
    exact ((hE i hc).move hK (fun b hb' hl' => ⟨fun e => by rw [e] at hl'; omega, if_pos hb'⟩)).mono (by omega)
   ·have hi' : i = es.length := by simp at hi; omega
    subst hi'
    have e : (es ++ [ge])[es.length] = ge := by simp
    rw [e]
    refine (e5.move (Kp.refl (fun _ => False) w') (fun b hb' hl' => ⟨fun h => h, ?_⟩)).mono (by omega)
    have : ¬ b < w.heap.size := fun h => by rw [e3 b h] at hl'; simp at hl'
    simp only [if_neg this]
theorem SE.done
  (m : WSt base w0 w gw { v := vb, n := bs.length, xs := Ai bs } { v := vo, n := os.length, xs := Ai os } { v := vr, n := rs.length, xs := Ai rs } { v := tv, n := ts.length, xs := CN ts } x (KL lab w))
  (h1 : bs.length <= n + 1) (h2 : os.length <= n + 1) (h3 : rs.length <= n + 1) (h4 : ts.length <= n + 2) (h6 : TxS (TxQ w lab) ts)
  (hn : x.n = es.length) (hx : x.xs = Ld es) (hl : es.length <= n) (hb : ∀ k, k < base -> (lab k).1 = 0) (hE : ∀ i (h : i < es.length), Ey w lab (i + 1) es[i] n)
  (hn4 : n <= 100000) (j : Nat) (hj : j < es.length) (hK : Kp (fun k => (lab k).1 = j + 1) w w') (hL : ∀ k, k < w.heap.size -> lab' k = lab k) (hD : Ey w' lab' (j + 1) es[j] (n + 2)) : SE base w0 w' gw (n + 2) := by
 have hbs := m.hsz
 have hA : ∀ k, k < w.heap.size -> (lab k).1 ≠ 0 -> JB gw vb vo vr tv x.v k := fun k hk h => (m.rl k _ ⟨h, Array.getElem?_eq_getElem hk⟩).2
 refine ⟨x, es, lab', ⟨vb, vo, vr, tv, bs, os, rs, ts, by omega, by omega, by omega, by omega, h6.move hK (fun b hb' hl' => ⟨fun e => by rw [e] at hl'; omega, hL b hb'⟩), m.kp hK (fun k hk h => ⟨?_, hA k hk (by rw [h]; omega)⟩) (fun g ob hg => ⟨hg.2, ?_⟩)⟩, hn, hx, by omega, fun k hk => by rw [hL k (by omega)]; exact hb k hk, fun i hi => ?_⟩
 ·by_cases hc : k < base
  ·rw [hb k hc] at h; omega
  ·omega
 ·by_cases hc : g < w.heap.size
  ·have := hg.1
   rw [hL g hc] at this
   exact hA g hc this
  ·exact m.aside (by omega)
 ·by_cases hc : i = j
  ·subst hc; exact hD
  ·exact ((hE i hi).move hK (fun b hb' hl' => ⟨fun e => by rw [e] at hl'; omega, hL b hb'⟩)).mono (by omega)
theorem CX.inv {gx gy gl nh : Nat} {mk : Int} (h : CX w w' lab i ge gx gy gl nh mk) (h6 : 0 <= mk) (h7 : mk <= 2000 * (n : Int)) (h8 : nh <= 2 * n) : ∃ lab', Ey w' lab' i ge (n + 1) ∧ (∀ k, k < w.heap.size -> lab' k = lab k) ∧ Kp (fun k => (lab k).1 = i) w w' := by
 obtain ⟨lab', hv', nh', hcs', mk', x', q1, q2, q3, q4, q5, q6, q7⟩ := h
 exact ⟨lab', ⟨gx, gy, gl, hv', nh', hcs', mk', x', q1, q2, by omega, by omega, by omega⟩, q6, q7⟩
theorem Sk (o : OpD) (B : Nat) (hI : BU B w) (hB : B <= w.heap.size) (hb : ∀ k, k < B -> (lab k).1 = 0) (h : Ey w lab i ge n) (hn : n <= 50000) (hi : i ≠ 0) (hk : 9 <= o.kind) (hk2 : o.kind <= 19 ∨ o.kind = 22) :
  Calls Tryz.prog 18 #[.pointer (some ⟨ge, 0, none⟩), .agg #[.int .i64 o.kind, .int .i64 o.x, .int .i64 o.a, .int .i64 o.b, .int .i64 o.c, .int .i64 o.d, .string o.s]] w fun e w' => e = .returned (.bool true) ∧ ∃ lab', Ey w' lab' i ge (n + 1) ∧ (∀ k, k < w.heap.size -> lab' k = lab k) ∧ Kp (fun k => (lab k).1 = i) w w' := by
 obtain ⟨gx, gy, gl, hv, nh, hcs, mk, x, h1, h2, h6, h7, h8⟩ := h
 have hfin := fun w' (hD : CX w w' lab i ge gx gy gl nh mk) => hD.inv h6 h7 h8
 by_cases h22 : o.kind = 22
 ·refine (OK o B hI hB hb hi h1 h2 h6 (by omega) (by omega) h22).mono ?_
  rintro e w' ⟨rfl, hD⟩
  exact ⟨rfl, hfin w' hD⟩
 by_cases h15 : o.kind = 15
 ·refine (Q9 o h1 h2 h15).mono ?_
  rintro e w' ⟨rfl, hD⟩
  exact ⟨rfl, hfin w' hD⟩
 ·refine (OV o h1 h2 h6 (by omega) (by omega) hi (by unfold BD; omega)).mono ?_
  rintro e w' ⟨rfl, hD⟩
  exact ⟨rfl, hfin w' hD⟩
end Go.Proofs.YtohjjgefklhmaaaGreatDoor
