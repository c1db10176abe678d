import Derived.Test.YtohjjgefklhmaaaGreatDoorSmallM
import Derived.Deep.RegionLaw
namespace Go.Proofs.YtohjjgefklhmaaaGreatDoor
open Go.ChangeShapes Go.WideShapes Go.ChangeAt Go.RowKit
set_option linter.unusedVariables false
set_option maxHeartbeats 40000000
set_option maxRecDepth 100000
variable {w w' : World} {base base' size n g B : Nat} {e e' : TypeId} {v : Value} {xs L : List Value} {P : Program} {row : Option Nat}
theorem Aj (h : w.ownsRow base e size v n xs) (hb : base' <= base) : w.ownsRow base' e size v n xs := by
 refine ⟨h.1, ?_⟩
 rcases h.2 with h | ⟨g, cap, cur, h1, h2, h3⟩
 ·exact .inl h
 ·exact .inr ⟨g, cap, cur, h1, Nat.le_trans hb h2, h3⟩
theorem Gv (w : World) (L : List Value) (e : TypeId) : ∀ j u, L[j]? = some u -> (w.alloc (.cells L.toArray e)).cell? ((⟨w.heap.size, 0, none⟩ : Addr).add j) = some u := by
 intro j u h
 rw [Dl, (Has.new w e L).cell]; exact h
theorem Jc (w : World) (t ty e : TypeId) (i : TypeInfo) (z : Value) (size bytes : Nat) (h1 : P.underlying t = some (.slice e)) (h2 : P.info? e = some i) (h3 : i.zero = some z) (h4 : i.size = size) (h5 : i.bytes = bytes) (h6 : z.cells.size = size) (h7 : 0 < size)
  (base : Nat) (v : Value) (n : Nat) (xs : List Value) (hown : w.ownsRow base e size v n xs) (hbase : base <= w.heap.size)
  (ad : Addr) (m c : Nat) (news : List Value) (hn : news.length = m * size) (hc : ∀ j u, news[j]? = some u -> w.cell? (ad.add j) = some u) (h1c : ∀ u ∈ news, u.oneCell' = true)
  (hm : 0 < m) (b1 : n + m <= maxLen) (b2 : (n + m) * bytes <= 140737488355328) :
  ∃ g cap w', (Builtin.append_ #[t, t] ty #[v, .slice (some ad) m c]).run P w = .ok (.slice (some ⟨g, 0, none⟩) (n + m) cap) w' ∧
   w'.ownsRow base e size (.slice (some ⟨g, 0, none⟩) (n + m) cap) (n + m) (xs ++ news) ∧ w.grownBy w' v.ownBlock ∧ (v.ownBlock = some g ∨ w.heap.size <= g) := by
 have fin : ∀ {v' : Value} {w' : World} {ys : List Value}, w'.ownsRow w.heap.size e size v' (n + m) ys -> ∃ g cap, v' = .slice (some ⟨g, 0, none⟩) (n + m) cap ∧ w.heap.size <= g := by
  intro v' w' ys h
  rcases h.2 with ⟨_, h0⟩ | ⟨g, cap, cur, h1, h2, _⟩
  ·omega
  ·exact ⟨g, cap, h1, h2⟩
 rcases id hown.2 with ⟨rfl, rfl⟩ | ⟨g, cap, cur, rfl, hb, hg, hnc, hcm, hsz, htk⟩
 ·obtain rfl : xs = [] := List.eq_nil_of_length_eq_zero (by simpa using hown.1)
  obtain ⟨v', w', hrun, r1, r2, _⟩ := run_append_own (P := P) w w.heap.size t ty e i z size bytes h1 h2 h3 h4 h5 h6 h7 (.slice none 0 0) 0 [] (World.ownsRow_nil w _ e size) ad m c news hn hc h1c b1 b2 (Nat.le_refl _)
  obtain ⟨g, cap, rfl, hge⟩ := fin r1
  exact ⟨g, cap, w', hrun, Aj r1 hbase, r2, .inr hge⟩
 ·by_cases hr : n + m <= cap
  ·obtain ⟨w', hrun, r1, r2⟩ := run_append_fits (P := P) w base t ty e i size h1 h2 h4 g n cap xs hown ad m c news hn hc h1c hr
   exact ⟨g, cap, w', hrun, r1, r2, .inl rfl⟩
  ·obtain ⟨v', w', hrun, r1, r2⟩ := run_append_arg_grows (P := P) w t ty e i z size bytes h1 h2 h3 h4 h5 h6 h7 ⟨g, 0, none⟩ n cap xs hown.1 (hown.cells rfl) ad m c news hn hc (by omega) b1 b2
   obtain ⟨g', cap', rfl, hge⟩ := fin r1
   exact ⟨g', cap', w', hrun, Aj r1 hbase, ⟨r2.os, r2.tape, r2.output, r2.size, fun k hk _ => r2.block k hk (by simp)⟩, .inr hge⟩
theorem D5 {ops : Array Oper} {o : Oper} {a : Act} {K : Act -> World -> Prop} {Q : Exit -> Act -> World -> Prop} {E : Prop}
  (hg : o.guard = none) (s x : Operand) (t : TypeId) (hop : o.op = Op.call { callee := Callee.builtin Builtin.append, args := #[s, x], argTypes := #[t, t] })
  (e : TypeId) (i : TypeInfo) (z : Value) (size bytes : Nat) (h1 : P.underlying t = some (.slice e)) (h2 : P.info? e = some i) (h3 : i.zero = some z) (h4 : i.size = size) (h5 : i.bytes = bytes) (h6 : z.cells.size = size) (h7 : 0 < size)
  (base : Nat) (v : Value) (n : Nat) (xs : List Value) (hs : a.eval s = v) (hown : w.ownsRow base e size v n xs) (hbase : base <= w.heap.size)
  (ad : Addr) (m c : Nat) (news : List Value) (hx : a.eval x = .slice (some ad) m c) (hn : news.length = m * size) (hc : ∀ j u, news[j]? = some u -> w.cell? (ad.add j) = some u) (h1c : ∀ u ∈ news, u.oneCell' = true)
  (hm : 0 < m) (b1 : n + m <= maxLen) (b2 : (n + m) * bytes <= 140737488355328)
  (hK : ∀ g cap w', w'.ownsRow base e size (.slice (some ⟨g, 0, none⟩) (n + m) cap) (n + m) (xs ++ news) -> w.grownBy w' v.ownBlock -> (v.ownBlock = some g ∨ w.heap.size <= g) -> K (a.put o.dst (.slice (some ⟨g, 0, none⟩) (n + m) cap)) w') :
  if Region.wanted o (yielded ops a.tmps) = true then Oper.wp P o a w K Q else E := by
 have hw : Region.wanted o (yielded ops a.tmps) = true := by simp [Region.wanted, hg]
 rw [if_pos hw]
 obtain ⟨g, cap, w', hrun, r1, r2, r3⟩ := Jc (P := P) w t o.type e i z size bytes h1 h2 h3 h4 h5 h6 h7 base v n xs hown hbase ad m c news hn hc h1c hm b1 b2
 unfold Oper.wp
 simp [execOp, hop, resolve, invoke, builtin, hs, hx, hrun, Result.andThen]
 exact hK g cap w' r1 r2 r3
theorem Ao (hg : w.grownBy w' row) (h : Has w g e L) (hne : some g ≠ row) : Has w' g e L := by
 have := h.lt; unfold Has at *; rw [hg.block g this hne]; exact h
theorem C7 (h : w.grownBy w' row) : Kp (fun k => some k = row) w w' := ⟨h.os, h.tape, h.output, h.size, fun k hk hn => h.block k hk hn⟩
def Cp (o r : Int) : List Value := [.int .i64 o, .int .i64 r, .int .i64 0, .int .i64 0, .int .i64 0, .int .i64 0, .bool false, .bool false]
def Ds : List Int -> List Int -> List Value
 | o :: os, r :: rs => Cp o r ++ Ds os rs
 | _, _ => []
theorem G6 (os rs : List Int) (h : rs.length = os.length) (k : Nat) (hk : k < os.length) :
  Ds (os.take (k + 1)) (rs.take (k + 1)) = Ds (os.take k) (rs.take k) ++ Cp os[k] (rs[k]'(by omega)) := by
 induction os generalizing rs k with
 | nil => simp at hk
 | cons o os ih =>
  cases rs with
  | nil => simp at h
  | cons r rs =>
   cases k with
   | zero => simp [Ds]
   | succ k =>
    simp only [List.take_succ_cons, Ds, List.getElem_cons_succ, List.append_assoc]
    rw [ih rs (by simpa using h) k (by simpa using hk)]
theorem Ie : (Tryz.prog.info? 122).map (fun i => (i.zero, i.size, i.bytes)) = some (some (.agg #[.int .i64 0, .int .i64 0, .int .i64 0, .int .i64 0, .int .i64 0, .int .i64 0, .bool false, .bool false]), 8, 56) := by kernel_rfl
theorem Gk (v u : Value) (os rs : List Int) (w : World) (hv : AM w v os) (hu : AM w u rs) (h3 : rs.length = os.length) (hlen : os.length <= 5) :
  Calls Tryz.prog 75 #[v, u] w fun e w' => ∃ x, e = .returned x ∧ w'.ownsRow w.heap.size 122 8 x os.length (Ds os rs) ∧ Below w.heap.size w w' := by
 obtain ⟨i0, hi, hz0, hz1, hz2⟩ := info_parts Ie
 obtain ⟨a, cap, rfl, hx⟩ := id hv
 obtain ⟨a', cap', rfl, hy⟩ := id hu
 have H3 := Hd h3
 have h3a : rs.length <= os.length := by omega
 have h3b : os.length <= rs.length := by omega
 clear h3 hx hy
 go_enter Tryz.func75, Tryz.ntmps75
 go_wp2
 go_loopw [5, 6] (fun l i wr => ∃ k : Nat, k <= os.length ∧ i = .int .i64 k ∧ wr.ownsRow w.heap.size 122 8 l k (Ds (os.take k) (rs.take k)) ∧ Below w.heap.size w wr) (fun _ i _ => os.length - (intOf i).toNat)
 case atStart => exact ⟨0, Nat.zero_le _, rfl, World.ownsRow_nil _ _ _ _, Below.refl _ _⟩
 case round =>
  obtain ⟨k, hk, rfl, hown, hb⟩ := hrel
  by_cases hlt : k < os.length
  ·obtain ⟨a2, c2, he, hx⟩ := hv.below hb (Nat.le_refl _)
   simp only [Value.slice.injEq, true_and] at he
   obtain ⟨rfl, rfl⟩ := he
   obtain ⟨g, rfl, hc⟩ := hx (by omega)
   obtain ⟨a2, c2, he, hy⟩ := hu.below hb (Nat.le_refl _)
   simp only [Value.slice.injEq, true_and] at he
   obtain ⟨rfl, rfl⟩ := he
   obtain ⟨g', rfl, hc'⟩ := hy (by omega)
   have hck := hc k os[k] (by simp [hlt])
   have hck' := hc' k rs[k] (by simp)
   have HS : Hid (Ds (os.take (k + 1)) (rs.take (k + 1)) = Ds (os.take k) (rs.take k) ++ Cp os[k] rs[k]) := G6 os rs H3.out k hlt
   clear hx hy hc hc' hv hu
   generalize os[k] = o at *
   generalize rs[k] = r at *
   go_wp2_with fail
   go_region_law (refine D5 rfl (.tmp 19) (.tmp 29) 85 rfl 122 i0 _ 8 56 Tryz.underlying85 hi hz0 hz1 hz2 rfl (by decide) w.heap.size u5 k _ (by first | rfl | simp [Act.eval]) (hown.alloc _) (Nat.le_trans hb.size (by simp)) ⟨_, 0, none⟩ 1 1 (Cp o r) (by first | rfl | simp [Act.eval]) (by rfl) (Gv _ (Cp o r) _) (by simp [Cp, Value.oneCell']) (by decide) (by simp [maxLen]; omega) (by omega) ?_; intro g2 cap2 w2 hown2 hgrow2 hor2)
   all_goals
    go_wp2
    go_roundw
    case rel => exact ⟨k + 1, by omega, by go_num, by rw [HS.out]; exact hown2, Below.grown (hb.alloc hb.size _).drew hgrow2 (Nat.le_trans hb.size (by simp)) (fun j hj => (hown.lt j hj).1)⟩
    case measure => simp [intOf]; omega
  ·go_wp2
   go_ret
   refine ⟨_, rfl, ?_, hb⟩
   have hke : k = os.length := by omega
   subst hke
   rw [List.take_of_length_le (Nat.le_refl _), List.take_of_length_le (by omega)] at hown
   exact hown
def Rd (w : World) (v : Value) (n sz : Nat) (L : List Value) : Prop :=
 L.length = n * sz ∧ ∃ a cap, v = .slice a n cap ∧ (0 < n -> ∃ g, a = some ⟨g, 0, none⟩ ∧ ∀ (j : Nat) u, L[j]? = some u -> w.cell? ⟨g, j, none⟩ = some u)
theorem Rd.of_owns (h : w.ownsRow base e size v n xs) : Rd w v n size xs := by
 refine ⟨h.1, ?_⟩
 rcases id h.2 with ⟨rfl, rfl⟩ | ⟨g, cap, cur, rfl, _⟩
 ·exact ⟨none, 0, rfl, fun h => by omega⟩
 ·refine ⟨_, cap, rfl, fun _ => ⟨g, rfl, fun j u hu => ?_⟩⟩
  have := h.cells (g := g) rfl j u hu
  rwa [Dl] at this
theorem Rd.ints {xs : List Int} (h : Rd w v n 1 (Ai xs)) : AM w v xs := by
 obtain ⟨hl, a, cap, rfl, hx⟩ := h
 have e : xs.length = n := by simpa [Ai] using hl
 subst e
 exact ⟨a, cap, rfl, fun h0 => by
  obtain ⟨g, rfl, hc⟩ := hx h0
  exact ⟨g, rfl, fun j x hj => hc j _ (by simp [Ai, hj])⟩⟩
theorem Rd.below {sz : Nat} (h : Rd w v n sz L) (hb : Below B w w') (hB : w.heap.size <= B) : Rd w' v n sz L := by
 obtain ⟨hl, a, cap, rfl, hx⟩ := h
 refine ⟨hl, a, cap, rfl, fun h0 => ?_⟩
 obtain ⟨g, rfl, hc⟩ := hx h0
 refine ⟨g, rfl, fun j x hj => ?_⟩
 have h1 := hc j x hj
 rw [hb.cell (p := ⟨g, j, none⟩) (Nat.lt_of_lt_of_le (World.block_lt_of_cell? w _ h1) hB)]
 exact h1
structure VS where
 owner : Int
 rate : Int
 tokens : Int
 shares : Int
 comm : Int
 outs : Int
 jailed : Bool
 inset : Bool
def VS.cells (v : VS) : List Value := [.int .i64 v.owner, .int .i64 v.rate, .int .i64 v.tokens, .int .i64 v.shares, .int .i64 v.comm, .int .i64 v.outs, .bool v.jailed, .bool v.inset]
def A5 : List VS -> List Value
 | [] => []
 | v :: l => v.cells ++ A5 l
theorem KZ (l : List VS) : (A5 l).length = l.length * 8 := by
 induction l with
 | nil => rfl
 | cons v l ih => simp [A5, ih, VS.cells]; omega
theorem An (l : List VS) (k : Nat) (h : k < l.length) (i : Nat) (hi : i < 8) : (A5 l)[k * 8 + i]? = l[k].cells[i]? := by
 induction l generalizing k with
 | nil => simp at h
 | cons v l ih =>
  cases k with
  | zero => simp [A5, List.getElem?_append_left (show i < v.cells.length by simpa [VS.cells] using hi)]
  | succ k =>
   rw [A5, List.getElem?_append_right (by simp [VS.cells]; omega)]
   have e : (k + 1) * 8 + i - v.cells.length = k * 8 + i := by simp [VS.cells]; omega
   rw [e, ih k (by simpa using h)]
   simp
theorem OP (l : List VS) : ∀ u ∈ A5 l, u.oneCell' = true := by
 induction l with
 | nil => simp [A5]
 | cons v l ih =>
  intro u hu
  simp only [A5, List.mem_append] at hu
  rcases hu with hu | hu
  ·simp [VS.cells] at hu
   rcases hu with rfl | rfl | rfl | rfl | rfl | rfl | rfl | rfl <;> rfl
  ·exact ih u hu
theorem OA : (Tryz.prog.info? 122).map (·.size) = some 8 := by kernel_rfl
theorem FR (v : Value) (n : Nat) (L : List Value) (w : World) (hv : Rd w v n 8 L) (hlen : n <= 1048576) (h1 : ∀ u ∈ L, u.oneCell' = true) :
  Calls Tryz.prog 91 #[v] w fun e w' => e = .returned (.slice (some ⟨w.heap.size, 0, none⟩) n n) ∧
   w' = w.alloc (.cells L.toArray 122) := by
 obtain ⟨hL, a, cap, rfl, hx0⟩ := hv
 have HL := Hd hL
 have hx := Hd hx0
 have H1 := Hd h1
 clear hx0 hL h1
 obtain ⟨i0, hi, hz0, hz1, hz2⟩ := info_parts Ie
 obtain ⟨Z, hZ⟩ : ∃ Z : Array Value, Z = madeCells #[.int .i64 0, .int .i64 0, .int .i64 0, .int .i64 0, .int .i64 0, .int .i64 0, .bool false, .bool false] (n * 8) := ⟨_, rfl⟩
 have hmk : ∀ u : World, (Instr.makeSlice 85 (.int .i64 (n : Int)) (.int .i64 (n : Int))).run Tryz.prog u =
   .ok (.slice (some ⟨u.heap.size, 0, none⟩) n n) (u.alloc (.cells Z 122)) := fun u => by
  have h := run_make (P := Tryz.prog) u 85 122 i0 _ Tryz.underlying85 hi hz0 .i64 .i64 (n : Int) (n : Int) (by omega) (Int.le_refl _) (by rw [hz2]; omega) (by omega)
  rw [hZ]
  simpa [hz1, Value.cells] using h
 have hZs : Z.size = n * 8 := by rw [hZ, size_madeCells]
 have hcp : (Builtin.copy_ #[85, 85] 3 #[.slice (some ⟨w.heap.size, 0, none⟩) n n, .slice a n cap]).run Tryz.prog (w.alloc (.cells Z 122)) =
   .ok (.int .i64 n) (w.alloc (.cells L.toArray 122)) := by
  have h := DX (P := Tryz.prog) (w.alloc (.cells Z 122)) 85 85 3 122 8 w.heap.size n n a n cap
   Z.toList 122 L Tryz.underlying85 OA (by rw [Array.toArray_toList]; exact heap_alloc_new w _) (by rw [HL.out]; simp) ?_ (by rw [HL.out]; simp [hZs]) H1.out
  ·rw [DW] at h
   have e1 : Nat.min n n = n := by simp
   rw [e1] at h
   have e2 : List.drop L.length Z.toList = [] := by apply List.drop_eq_nil_of_le; rw [HL.out]; simp [hZs]
   rw [e2, List.append_nil] at h
   exact h
  ·intro h0
   obtain ⟨g, rfl, hc⟩ := hx.out (by rw [HL.out] at h0; omega)
   refine ⟨_, rfl, fun j v hj => ?_⟩
   have h1 := hc j v hj
   rw [Dl]
   rw [(Below.refl w.heap.size w).alloc (Nat.le_refl _) _ |>.cell (World.block_lt_of_cell? w _ h1)]
   exact h1
 clear hZ hZs
 go_enter Tryz.func91, Tryz.ntmps91
 go_wp2
 go_ret
 exact ⟨rfl, rfl⟩
theorem SD {W w1 : World} (hb : Below B W w1) : (∀ b o, b < B -> w1.cell? ⟨b, o, none⟩ = W.cell? ⟨b, o, none⟩) ∧ (∀ b o, b < B -> w1.frozen? ⟨b, o, none⟩ = W.frozen? ⟨b, o, none⟩) :=
 ⟨fun b o h => hb.cell (p := ⟨b, o, none⟩) h, fun b o h => hb.frozen (p := ⟨b, o, none⟩) h⟩
def vs0 (os rs : List Int) : List VS := List.zipWith (fun o r => { owner := o, rate := r, tokens := 0, shares := 0, comm := 0, outs := 0, jailed := false, inset := false }) os rs
theorem F4 (os rs : List Int) : Ds os rs = A5 (vs0 os rs) := by
 induction os generalizing rs with
 | nil => simp [Ds, vs0, A5]
 | cons o os ih =>
  cases rs with
  | nil => simp [Ds, vs0, A5]
  | cons r rs => simp [Ds, vs0, A5, ih rs, Cp, VS.cells]
theorem FV (os rs : List Int) (h : rs.length = os.length) : (vs0 os rs).length = os.length := by simp [vs0, h]
theorem Ac (h : w.ownsRow base e size v n xs) : ∃ a cap, v = .slice a n cap := by
 rcases h.2 with ⟨rfl, rfl⟩ | ⟨g, cap, cur, rfl, _⟩
 ·exact ⟨none, 0, rfl⟩
 ·exact ⟨_, cap, rfl⟩
theorem Dz (w : World) (e : TypeId) (size n : Nat) (L : List Value) (hl : L.length = n * size) (hn : n <= maxLen) :
  (w.alloc (.cells L.toArray e)).ownsRow w.heap.size e size (.slice (some ⟨w.heap.size, 0, none⟩) n n) n L :=
 ⟨hl, .inr ⟨w.heap.size, n, L.toArray, rfl, Nat.le_refl _, heap_alloc_new w _, Nat.le_refl _, hn, by simpa using hl, by simp [<- hl]⟩⟩
theorem Ar (h : w.ownsRow base e size v n xs) (hb : Below B w w') (hB : w.heap.size <= B) : w'.ownsRow base e size v n xs :=
 h.kept (row := none) ⟨hb.os, hb.tape, hb.output, hb.size, fun k hk _ => hb.block k (by omega)⟩ (by cases hv : v.ownBlock <;> simp)
theorem Aa (h : w.ownsRow base e size v n xs) (p : Addr) (u : Value) (hp : v.ownBlock ≠ some p.block) : (w.setCell p u).ownsRow base e size v n xs :=
 h.kept (row := some p.block) ⟨rfl, rfl, rfl, by simp [World.setCell], fun k hk hn => Below.heap_setCell _ _ _ _ (fun e => hn (by rw [e]))⟩ (by
  cases hv : v.ownBlock with
  | none => simp
  | some b => right; rw [hv] at hp; exact hp)
theorem Ae {size' : Nat} {v' : Value} {n' : Nat} {xs' : List Value} (h : w.ownsRow base e size v n xs) (h' : w.ownsRow base' e' size' v' n' xs') (hne : e ≠ e') :
  v.ownBlock = none ∨ v.ownBlock ≠ v'.ownBlock := by
 rcases h.2 with ⟨rfl, rfl⟩ | ⟨g, cap, cur, rfl, _, hg, _⟩
 ·exact .inl rfl
 ·right
  rcases h'.2 with ⟨rfl, rfl⟩ | ⟨g', cap', cur', rfl, _, hg', _⟩
  ·simp [Value.ownBlock]
  ·simp only [Value.ownBlock, ne_eq, Option.some.injEq]
   intro e0
   subst e0
   rw [hg] at hg'
   simp only [Option.some.injEq, Obj.cells.injEq] at hg'
   exact hne hg'.2.1
theorem Has.apart (h : Has w g e L) (h' : w.ownsRow base e' size v n xs) (hne : e ≠ e') : some g ≠ v.ownBlock := by
 rcases h'.2 with ⟨rfl, rfl⟩ | ⟨g', cap', cur', rfl, _, hg', _⟩
 ·simp [Value.ownBlock]
 ·simp only [Value.ownBlock, ne_eq, Option.some.injEq]
  intro e0
  subst e0
  unfold Has at h
  rw [h] at hg'
  simp only [Option.some.injEq, Obj.cells.injEq] at hg'
  exact hne hg'.2.1
theorem PW (os rs : List Int) (h : rs.length = os.length) (k : Nat) (hk : k < os.length) :
  A5 (vs0 (os.take (k + 1)) (rs.take (k + 1))) = A5 (vs0 (os.take k) (rs.take k)) ++ Cp os[k] (rs[k]'(by omega)) := by
 rw [<- F4, <- F4, G6 os rs h k hk]
theorem FJ (w : World) (a : Addr) (v : Value) : (w.setCell a v).heap.size = w.heap.size := by simp [World.setCell]
def nL (top mature fee : Int) (bv vv : Value) : List Value := [.int .i64 top, .int .i64 mature, .int .i64 fee, .int .i64 0, bv, .int .i64 0, .int .i64 0, vv] ++ (Ai (List.replicate 65 0) ++ [.slice none 0 0])
def Sd : List Value := [.int .i64 0, .int .i64 0, .int .i64 0, .int .i64 0, .slice none 0 0, .int .i64 0, .int .i64 0, .slice none 0 0] ++ (Ai (List.replicate 65 0) ++ [.slice none 0 0])
def GG : Array Value := Sd.toArray
theorem PA : (Tryz.prog.info? 111).map (·.zero) = some (some (.agg GG)) := by kernel_rfl
theorem Pa (u : World) : (zeroValue 111).run Tryz.prog u = .ok (.agg GG) u := by
 obtain ⟨i, hi, hz⟩ : ∃ i, Tryz.prog.info? 111 = some i ∧ i.zero = some (.agg GG) := by
  have := PA
  cases h : Tryz.prog.info? 111 with
  | none => rw [h] at this; simp at this
  | some i => rw [h] at this; exact ⟨i, rfl, by simpa using this⟩
 simp [zeroValue, typeInfo, hi, hz]
theorem JR : GG.size = 74 := by rfl
theorem QZ : ¬ GG = #[] := fun h => by have := congrArg Array.size h; rw [JR] at this; simp at this
theorem Pz (top mature fee : Int) : (((GG.setIfInBounds 0 (.int .i64 top)).setIfInBounds 1 (.int .i64 mature)).setIfInBounds 2 (.int .i64 fee)).toList = nL top mature fee (.slice none 0 0) (.slice none 0 0) := by rfl
def OS (w w' : World) (e : Ending) (bs os rs : List Int) (top mature fee : Int) : Prop :=
 ∃ g bv vv, e = .returned (.tuple #[.pointer (some ⟨g, 0, none⟩), .int .i64 0]) ∧ w.heap.size <= g ∧
  Has w' g 111 (nL top mature fee bv vv) ∧
  w'.ownsRow w.heap.size 3 1 bv bs.length (Ai bs) ∧ w'.ownsRow w.heap.size 122 8 vv os.length (A5 (vs0 os rs)) ∧ Below w.heap.size w w'
theorem MC (vb vo vr : Value) (bs os rs : List Int) (top mature fee : Int) (w : World) (hb : AM w vb bs) (ho : AM w vo os) (hr : AM w vr rs)
  (l1 : bs.length <= 1048576) (l2 : os.length <= 1048576) (l3 : rs.length <= 1048576) (hbad : ¬ Bm bs os rs top mature fee) :
  Calls Tryz.prog 32 #[.agg #[vb, vo, vr, .int .i64 top, .int .i64 mature, .int .i64 fee]] w fun e w' => e = .returned (.tuple #[.pointer none, .int .i64 1]) ∧ Below w.heap.size w w' := by
 have hB : ∀ o, Below w.heap.size w (w.alloc o) := fun o => (Below.refl _ _).alloc (Nat.le_refl _) _
 have HB := Hd hbad
 clear hbad
 go_enter Tryz.func32, Tryz.ntmps32
 go_wp2_with fail
 refine (EQ vb vo vr bs os rs top mature fee _ (hb.below (hB _) (Nat.le_refl _)) (ho.below (hB _) (Nat.le_refl _)) (hr.below (hB _) (Nat.le_refl _)) l1 l2 l3).mono ?_
 rintro e w1 ⟨⟨b1, rfl, hb1⟩, hbb⟩
 obtain rfl : b1 = false := by
  cases b1 with
  | false => rfl
  | true => exact absurd (hb1.1 rfl) HB.out
 clear hb1
 go_wp2
 go_ret2
 exact ⟨rfl, (hB _).trans (hbb.mono (by simp))⟩
theorem IC (vb vo vr : Value) (bs os rs : List Int) (top mature fee : Int) (w : World) (hb : AM w vb bs) (ho : AM w vo os) (hr : AM w vr rs)
  (l1 : bs.length <= 1048576) (l2 : os.length <= 1048576) (l3 : rs.length <= 1048576) (hgood : Bm bs os rs top mature fee) :
  Calls Tryz.prog 32 #[.agg #[vb, vo, vr, .int .i64 top, .int .i64 mature, .int .i64 fee]] w fun e w' => OS w w' e bs os rs top mature fee := by
 have hB : ∀ o, Below w.heap.size w (w.alloc o) := fun o => (Below.refl _ _).alloc (Nat.le_refl _) _
 have HB := Hd hgood
 clear hgood
 obtain ⟨ab, cb, rfl, _⟩ := id hb
 obtain ⟨ao, co, rfl, _⟩ := id ho
 obtain ⟨ar, cr, rfl, _⟩ := id hr
 have hz : ∀ u : World, (zeroValue 111).run Tryz.prog u = .ok (.agg GG) u := Pa
 have hzs : GG.size = 74 := JR
 have hzn : ¬ GG = #[] := QZ
 go_enter Tryz.func32, Tryz.ntmps32
 go_wp2_with fail
 refine (EQ _ _ _ bs os rs top mature fee _ (hb.below (hB _) (Nat.le_refl _)) (ho.below (hB _) (Nat.le_refl _)) (hr.below (hB _) (Nat.le_refl _)) l1 l2 l3).mono ?_
 rintro e w1 ⟨⟨b1, rfl, hb1⟩, hbb⟩
 obtain rfl : b1 = true := hb1.2 HB.out
 clear hb1
 have hb1 := (hb.below (hB _) (Nat.le_refl _)).below hbb (Nat.le_refl _)
 have ho1 := (ho.below (hB _) (Nat.le_refl _)).below hbb (Nat.le_refl _)
 have hr1 := (hr.below (hB _) (Nat.le_refl _)).below hbb (Nat.le_refl _)
 have hw1 : Below w.heap.size w w1 := (hB _).trans (hbb.mono (by simp))
 obtain ⟨hc, hf⟩ := SD hbb
 have hz1 : w.heap.size < w1.heap.size := by have := hbb.size; simp at this; omega
 simp only [World.size_alloc] at hc hf
 go_wp2_with fail
 have hA : Has (w1.alloc (.cells (((GG.setIfInBounds 0 (.int .i64 top)).setIfInBounds 1 (.int .i64 mature)).setIfInBounds 2 (.int .i64 fee)) 111)) w1.heap.size 111 (nL top mature fee (.slice none 0 0) (.slice none 0 0)) := by
  rw [<- Pz]; exact Has.newA w1 _ _
 have hE : Below w1.heap.size w1 (w1.alloc (.cells (((GG.setIfInBounds 0 (.int .i64 top)).setIfInBounds 1 (.int .i64 mature)).setIfInBounds 2 (.int .i64 fee)) 111)) := (Below.refl _ _).alloc (Nat.le_refl _) _
 have hsA : (w1.alloc (.cells (((GG.setIfInBounds 0 (.int .i64 top)).setIfInBounds 1 (.int .i64 mature)).setIfInBounds 2 (.int .i64 fee)) 111)).heap.size = w1.heap.size + 1 := World.size_alloc _ _
 generalize w1.alloc (.cells (((GG.setIfInBounds 0 (.int .i64 top)).setIfInBounds 1 (.int .i64 mature)).setIfInBounds 2 (.int .i64 fee)) 111) = wA at hA hE hsA ⊢
 clear hz hzs hzn hc hf
 refine (EN _ bs _ (hb1.below hE (Nat.le_refl _)) l1).mono ?_
 rintro e w2 ⟨rfl, rfl⟩
 have hA2 := hA.alloc (.cells (Ai bs).toArray 3)
 have hbv := Dz wA 3 1 bs.length (Ai bs) (by simp [Ai]) (by simp [maxLen]; omega)
 rw [hsA] at hbv
 have hE2 : Below w1.heap.size w1 (wA.alloc (.cells (Ai bs).toArray 3)) := hE.alloc (by omega) _
 have hs2 : (wA.alloc (.cells (Ai bs).toArray 3)).heap.size = w1.heap.size + 2 := by rw [World.size_alloc]; omega
 generalize wA.alloc (.cells (Ai bs).toArray 3) = wB at hA2 hbv hE2 hs2 ⊢
 have c4 : wB.cell? ⟨w1.heap.size, 4, none⟩ = some (.slice none 0 0) := hA2.cell 4
 have f4 := hA2.frozen 4
 have hP0 : Has (w.alloc (.cells #[.slice ab bs.length cb, .slice ao os.length co, .slice ar rs.length cr, .int .i64 top, .int .i64 mature, .int .i64 fee] 67)) w.heap.size 67 [.slice ab bs.length cb, .slice ao os.length co, .slice ar rs.length cr, .int .i64 top, .int .i64 mature, .int .i64 fee] := Has.newA w _ _
 have hP1 := (hP0.below hbb (by simp)).below hE2 hz1
 have p1 : wB.cell? ⟨w.heap.size, 1, none⟩ = some (.slice ao os.length co) := hP1.cell 1
 have p2 : wB.cell? ⟨w.heap.size, 2, none⟩ = some (.slice ar rs.length cr) := hP1.cell 2
 have n1 : w.heap.size ≠ w1.heap.size := by omega
 have n2 : w1.heap.size ≠ w.heap.size := by omega
 clear hP0 hP1 hbb
 go_wp2_with fail
 have hA3 := hA2.set 4 (.slice (some ⟨w1.heap.size + 1, 0, none⟩) bs.length bs.length)
 have hbv3 := Aa hbv ⟨w1.heap.size, 4, none⟩ (.slice (some ⟨w1.heap.size + 1, 0, none⟩) bs.length bs.length) (by simp [Value.ownBlock])
 have hE3 : Below w1.heap.size w1 (wB.setCell ⟨w1.heap.size, 4, none⟩ (.slice (some ⟨w1.heap.size + 1, 0, none⟩) bs.length bs.length)) := hE2.setCell (Nat.le_refl _) _
 have hs3 : (wB.setCell ⟨w1.heap.size, 4, none⟩ (.slice (some ⟨w1.heap.size + 1, 0, none⟩) bs.length bs.length)).heap.size = w1.heap.size + 2 := by rw [FJ]; exact hs2
 have e3 : (nL top mature fee (.slice none 0 0) (.slice none 0 0)).set 4 (.slice (some ⟨w1.heap.size + 1, 0, none⟩) bs.length bs.length) = nL top mature fee (.slice (some ⟨w1.heap.size + 1, 0, none⟩) bs.length bs.length) (.slice none 0 0) := rfl
 rw [e3] at hA3
 clear e3
 generalize wB.setCell ⟨w1.heap.size, 4, none⟩ (.slice (some ⟨w1.heap.size + 1, 0, none⟩) bs.length bs.length) = wC at hA3 hbv3 hE3 hs3 ⊢
 clear hA hA2 hbv hE hE2 c4 f4
 refine (Gk _ _ os rs _ (ho1.below hE3 (Nat.le_refl _)) (hr1.below hE3 (Nat.le_refl _)) HB.out.2.1.2.2.1 HB.out.2.1.2.1).mono ?_
 rintro e w3 ⟨x, rfl, hx3, hb3⟩
 obtain ⟨ax, cx, rfl⟩ := Ac hx3
 have hcE3 := hA3.below hb3 (by omega)
 have hc7 : w3.cell? ⟨w1.heap.size, 7, none⟩ = some (.slice none 0 0) := hcE3.cell 7
 have hf7 := hcE3.frozen 7
 have hbv4 := Ar hbv3 hb3 (Nat.le_refl _)
 have HF : Hid (OS w (w3.setCell ⟨w1.heap.size, 7, none⟩ (.slice ax os.length cx)) (.returned (.tuple #[.pointer (some ⟨w1.heap.size, 0, none⟩), .int .i64 0])) bs os rs top mature fee) := by
  refine ⟨w1.heap.size, .slice (some ⟨w1.heap.size + 1, 0, none⟩) bs.length bs.length, .slice ax os.length cx, rfl, by omega, ?_, ?_, ?_, ?_⟩
  ·exact hcE3.set 7 _
  ·exact Aj (Aa hbv4 _ _ (by simp [Value.ownBlock])) (by omega)
  ·rw [<- F4]
   refine Aj (Aa hx3 _ _ ?_) (by omega)
   intro h
   have := (hx3.lt _ h).1
   simp at this
   omega
  ·exact ((hw1.trans (hE3.mono (by omega))).trans (hb3.mono (by omega))).setCell (by simp; omega) _
 clear hx3 hbv3 hbv4 hcE3 hA3 hE3
 go_wp2
 go_ret2
 exact HF.out
end Go.Proofs.YtohjjgefklhmaaaGreatDoor
