import Derived.Test.YtohjjgefklhmaaaGreatDoorTChooseM
import Derived.Test.YtohjjgefklhmaaaGreatDoorBeginM
import Derived.StillTailTactics
import Derived.Deep.RegionWith
import Derived.Deep.DeepCutAuto
namespace Go.Proofs.YtohjjgefklhmaaaGreatDoor
open Go.ChangeShapes Go.WideShapes Go.ChangeAt Go.RowKit
set_option linter.unusedVariables false
set_option linter.unusedSimpArgs false
set_option maxHeartbeats 40000000
set_option maxRecDepth 100000
variable {P : Program} {w u w1 : World} {ops : Array Oper} {o : Oper} {a : Act} {Q : Exit -> Act -> World -> Prop} {n gm : Nat} {c : LC} {vv dv ev v' bv : Value} {bal : List Int} {vals : List VS} {ds : List (DA × Value)} {ents : List ES}
theorem Gt (w : World) (t ty e : TypeId) (i : TypeInfo) (z : Value) (size bytes : Nat) (h1 : P.underlying t = some (.slice e)) (h2 : P.info? e = some i) (h3 : i.zero = some z) (h4 : i.size = size) (h5 : i.bytes = bytes) (h6 : z.cells.size = size) (h7 : 0 < size)
  (b0 : Nat) (src : Value) (n : Nat) (xs : List Value) (hsrc : w.ownsRow b0 e size src n xs) (h1c : ∀ u ∈ xs, u.oneCell' = true) (b1 : n <= maxLen) (b2 : n * bytes <= 140737488355328) :
  ∃ v' w', (Builtin.append_ #[t, t] ty #[.slice none 0 0, src]).run P w = .ok v' w' ∧ w'.ownsRow w.heap.size e size v' n xs ∧ w.grownBy w' none := by
 rcases id hsrc.2 with ⟨rfl, rfl⟩ | ⟨g, cap, cur, rfl, _⟩
 ·obtain rfl : xs = [] := List.eq_nil_of_length_eq_zero (by simpa using hsrc.1)
  exact ⟨_, w, run_append_owned_none (P := P) w w.heap.size t ty e i size h1 h2 (.slice none 0 0) 0 [] (World.ownsRow_nil _ _ _ _), World.ownsRow_nil _ _ _ _, ⟨rfl, rfl, rfl, Nat.le_refl _, fun _ _ _ => rfl⟩⟩
 ·obtain ⟨v', w', r0, r1, r2, _⟩ := run_append_own (P := P) w w.heap.size t ty e i z size bytes h1 h2 h3 h4 h5 h6 h7 (.slice none 0 0) 0 [] (World.ownsRow_nil w _ e size) ⟨g, 0, none⟩ n cap xs hsrc.1 (hsrc.cells rfl) h1c (by omega) (by simpa using b2) (Nat.le_refl _)
  rw [Nat.zero_add, List.nil_append] at r1
  exact ⟨v', w', r0, r1, r2⟩
theorem Hj {rest : List Oper}
  (hg : o.guard = none) (s x : Operand) (t : TypeId) (hop : o.op = Op.call { callee := Callee.builtin Builtin.append, args := #[s, x], argTypes := #[t, t] })
  (e : TypeId) (i : TypeInfo) (z : Value) (size bytes : Nat) (h1 : P.underlying t = some (.slice e)) (h2 : P.info? e = some i) (h3 : i.zero = some z) (h4 : i.size = size) (h5 : i.bytes = bytes) (h6 : z.cells.size = size) (h7 : 0 < size)
  (hs : a.eval s = .slice none 0 0) (b0 : Nat) (src : Value) (n : Nat) (xs : List Value) (hx : a.eval x = src) (hsrc : w.ownsRow b0 e size src n xs) (h1c : ∀ u ∈ xs, u.oneCell' = true) (b1 : n <= maxLen) (b2 : n * bytes <= 140737488355328)
  (hK : ∀ a' c' w', w'.ownsRow w.heap.size e size (.slice a' n c') n xs -> w.grownBy w' none -> wpList P ops Q rest (a.put o.dst (.slice a' n c')) w') :
  wpList P ops Q (o :: rest) a w := by
 refine wpList_plain hg fun K hK' => ?_
 obtain ⟨v', w', hrun, r1, r2⟩ := Gt (P := P) w t o.type e i z size bytes h1 h2 h3 h4 h5 h6 h7 b0 src n xs hsrc h1c b1 b2
 obtain ⟨a', c', rfl⟩ := Ac r1
 unfold Oper.wp
 simp [execOp, hop, resolve, invoke, builtin, hs, hx, hrun, Result.andThen]
 exact hK' _ _ (hK a' c' w' r1 r2)
theorem Du {K : Act -> World -> Prop} {E : Prop}
  (hg : o.guard = none) (s x : Operand) (t : TypeId) (hop : o.op = Op.call { callee := Callee.builtin Builtin.append, args := #[s, x], argTypes := #[t, t] })
  (e : TypeId) (i : TypeInfo) (z : Value) (size bytes : Nat) (h1 : P.underlying t = some (.slice e)) (h2 : P.info? e = some i) (h3 : i.zero = some z) (h4 : i.size = size) (h5 : i.bytes = bytes) (h6 : z.cells.size = size) (h7 : 0 < size)
  (hs : a.eval s = .slice none 0 0) (b0 : Nat) (src : Value) (n : Nat) (xs : List Value) (hx : a.eval x = src) (hsrc : w.ownsRow b0 e size src n xs) (h1c : ∀ u ∈ xs, u.oneCell' = true) (b1 : n <= maxLen) (b2 : n * bytes <= 140737488355328)
  (hK : ∀ a' c' w', w'.ownsRow w.heap.size e size (.slice a' n c') n xs -> w.grownBy w' none -> K (a.put o.dst (.slice a' n c')) w') :
  if Region.wanted o (yielded ops a.tmps) = true then Oper.wp P o a w K Q else E := by
 have hw : Region.wanted o (yielded ops a.tmps) = true := by simp [Region.wanted, hg]
 rw [if_pos hw]
 obtain ⟨v', w', hrun, r1, r2⟩ := Gt (P := P) w t o.type e i z size bytes h1 h2 h3 h4 h5 h6 h7 b0 src n xs hsrc h1c b1 b2
 obtain ⟨a', c', rfl⟩ := Ac r1
 unfold Oper.wp
 simp [execOp, hop, resolve, invoke, builtin, hs, hx, hrun, Result.andThen]
 exact hK a' c' w' r1 r2
structure CpS (w u : World) (gm : Nat) (c : LC) (bv vv dv ev : Value) (bal : List Int) (vals : List VS) (ds : List (DA × Value)) (ents : List ES) : Prop where
 bl : Below w.heap.size w u
 g0 : w.heap.size <= gm
 M : Has u gm 81 [.int .i64 c.top, .int .i64 c.mature, .int .i64 c.fee, .int .i64 c.height, bv, .int .i64 c.fees, .int .i64 c.pool, vv, dv, ev]
 b : u.ownsRow w.heap.size 3 1 bv bal.length (Ai bal)
 v : u.ownsRow w.heap.size 114 8 vv vals.length (A5 vals)
 d : u.ownsRow w.heap.size 84 4 dv ds.length (BC ds)
 e : u.ownsRow w.heap.size 131 4 ev ents.length (Bi ents)
theorem BW {w' : World} {base : Nat} {e : TypeId} {size : Nat} {v : Value} {xs : List Value} (h : w.ownsRow base e size v n xs) (hg : w.grownBy w' none) : w'.ownsRow base e size v n xs := h.kept hg (by
 cases hv : v.ownBlock with
 | none => exact .inl rfl
 | some j => exact .inr (by simp))
theorem CpS.putB (h : CpS w u gm c (.slice none 0 0) vv dv ev [] vals ds ents) (hg : u.grownBy w1 none) (hr : w1.ownsRow u.heap.size 3 1 v' bal.length (Ai bal)) : CpS w (w1.setCell ⟨gm, 4, none⟩ v') gm c v' vv dv ev bal vals ds ents := by
 have hs := h.bl.size
 have hM := Ao hg h.M (by simp)
 have hB := h.bl.grown hg hs (fun j hj => by cases hj)
 exact ⟨hB.setCell (p := ⟨gm, 4, none⟩) h.g0 _, h.g0, hM.set 4 _, Aa (Aj hr hs) _ _ (fun e => Has.apart hM (Aj hr hs) (by decide) e.symm), Aa (BW h.v hg) _ _ (fun e => Has.apart hM (BW h.v hg) (by decide) e.symm), Aa (BW h.d hg) _ _ (fun e => Has.apart hM (BW h.d hg) (by decide) e.symm), Aa (BW h.e hg) _ _ (fun e => Has.apart hM (BW h.e hg) (by decide) e.symm)⟩
theorem CpS.putV (h : CpS w u gm c bv (.slice none 0 0) dv ev bal [] ds ents) (hg : u.grownBy w1 none) (hr : w1.ownsRow u.heap.size 114 8 v' vals.length (A5 vals)) : CpS w (w1.setCell ⟨gm, 7, none⟩ v') gm c bv v' dv ev bal vals ds ents := by
 have hs := h.bl.size
 have hM := Ao hg h.M (by simp)
 have hB := h.bl.grown hg hs (fun j hj => by cases hj)
 exact ⟨hB.setCell (p := ⟨gm, 7, none⟩) h.g0 _, h.g0, hM.set 7 _, Aa (BW h.b hg) _ _ (fun e => Has.apart hM (BW h.b hg) (by decide) e.symm), Aa (Aj hr hs) _ _ (fun e => Has.apart hM (Aj hr hs) (by decide) e.symm), Aa (BW h.d hg) _ _ (fun e => Has.apart hM (BW h.d hg) (by decide) e.symm), Aa (BW h.e hg) _ _ (fun e => Has.apart hM (BW h.e hg) (by decide) e.symm)⟩
theorem CpS.putD (h : CpS w u gm c bv vv (.slice none 0 0) ev bal vals [] ents) (hg : u.grownBy w1 none) (hr : w1.ownsRow u.heap.size 84 4 v' ds.length (BC ds)) : CpS w (w1.setCell ⟨gm, 8, none⟩ v') gm c bv vv v' ev bal vals ds ents := by
 have hs := h.bl.size
 have hM := Ao hg h.M (by simp)
 have hB := h.bl.grown hg hs (fun j hj => by cases hj)
 exact ⟨hB.setCell (p := ⟨gm, 8, none⟩) h.g0 _, h.g0, hM.set 8 _, Aa (BW h.b hg) _ _ (fun e => Has.apart hM (BW h.b hg) (by decide) e.symm), Aa (BW h.v hg) _ _ (fun e => Has.apart hM (BW h.v hg) (by decide) e.symm), Aa (Aj hr hs) _ _ (fun e => Has.apart hM (Aj hr hs) (by decide) e.symm), Aa (BW h.e hg) _ _ (fun e => Has.apart hM (BW h.e hg) (by decide) e.symm)⟩
theorem CpS.putE (h : CpS w u gm c bv vv dv (.slice none 0 0) bal vals ds []) (hg : u.grownBy w1 none) (hr : w1.ownsRow u.heap.size 131 4 v' ents.length (Bi ents)) : CpS w (w1.setCell ⟨gm, 9, none⟩ v') gm c bv vv dv v' bal vals ds ents := by
 have hs := h.bl.size
 have hM := Ao hg h.M (by simp)
 have hB := h.bl.grown hg hs (fun j hj => by cases hj)
 exact ⟨hB.setCell (p := ⟨gm, 9, none⟩) h.g0 _, h.g0, hM.set 9 _, Aa (BW h.b hg) _ _ (fun e => Has.apart hM (BW h.b hg) (by decide) e.symm), Aa (BW h.v hg) _ _ (fun e => Has.apart hM (BW h.v hg) (by decide) e.symm), Aa (BW h.d hg) _ _ (fun e => Has.apart hM (BW h.d hg) (by decide) e.symm), Aa (Aj hr hs) _ _ (fun e => Has.apart hM (Aj hr hs) (by decide) e.symm)⟩
theorem CpS.grown (h : CpS w u gm c bv vv dv ev bal vals ds ents) (hg : u.grownBy w1 none) : CpS w w1 gm c bv vv dv ev bal vals ds ents :=
 ⟨h.bl.grown hg h.bl.size (fun j hj => by cases hj), h.g0, Ao hg h.M (by simp), BW h.b hg, BW h.v hg, BW h.d hg, BW h.e hg⟩
theorem CpS.part {gd dc : Nat} (h : CpS w u gm c bv vv (.slice (some ⟨gd, 0, none⟩) n dc) ev bal vals ds ents) (hn : n = ds.length) (k : Nat) (hk : k < ds.length) (pv : Value) : CpS w (u.setCell ⟨gd, k * 4 + 3, none⟩ pv) gm c bv vv (.slice (some ⟨gd, 0, none⟩) n dc) ev bal vals (ds.set k (ds[k].1, pv)) ents := by
 have hd := h.d
 have hne : gm ≠ gd := fun e => Has.apart h.M hd (by decide) (by rw [e]; rfl)
 refine ⟨h.bl.setCell (p := ⟨gd, k * 4 + 3, none⟩) (hd.lt gd rfl).1 _, h.g0, h.M.other _ _ hne, Aa h.b _ _ (Bd h.b hd (by decide)), Aa h.v _ _ (Bd h.v hd (by decide)), ?_, Aa h.e _ _ (Bd h.e hd (by decide))⟩
 subst hn
 have h1 := (hd.stored (k * 4 + 3) pv).1
 have h2 := FP ds k hk ds[k].1.parts pv
 rw [h2] at h1
 simpa using h1
theorem NM (l : List Int) : ∀ u ∈ Ai l, u.oneCell' = true := fun u hu => by
 simp only [Ai, List.mem_map] at hu
 obtain ⟨x, _, rfl⟩ := hu
 rfl
theorem N2 (l : List VS) : ∀ u ∈ A5 l, u.oneCell' = true := by
 induction l with
 | nil => intro u hu; cases hu
 | cons v l ih =>
  intro u hu
  rcases List.mem_append.1 hu with h | h
  ·simp only [VS.cells, List.mem_cons, List.not_mem_nil, or_false] at h
   rcases h with rfl | rfl | rfl | rfl | rfl | rfl | rfl | rfl <;> rfl
  ·exact ih u h
theorem MW (l : List ES) : ∀ u ∈ Bi l, u.oneCell' = true := by
 induction l with
 | nil => intro u hu; cases hu
 | cons v l ih =>
  intro u hu
  rcases List.mem_append.1 hu with h | h
  ·simp only [ES.cells, List.mem_cons, List.not_mem_nil, or_false] at h
   rcases h with rfl | rfl | rfl | rfl <;> rfl
  ·exact ih u h
theorem M8 (l : List PS) : ∀ u ∈ Dh l, u.oneCell' = true := by
 induction l with
 | nil => intro u hu; cases hu
 | cons v l ih =>
  intro u hu
  rcases List.mem_append.1 hu with h | h
  ·simp only [PS.cells, List.mem_cons, List.not_mem_nil, or_false] at h
   rcases h with rfl | rfl <;> rfl
  ·exact ih u h
theorem Np (l : List (DA × Value)) (h : ∀ d ∈ l, d.2.oneCell' = true) : ∀ u ∈ BC l, u.oneCell' = true := by
 induction l with
 | nil => intro u hu; cases hu
 | cons v l ih =>
  intro u hu
  rcases List.mem_append.1 hu with h1 | h1
  ·simp only [DA.cells, List.mem_cons, List.not_mem_nil, or_false] at h1
   rcases h1 with rfl | rfl | rfl | rfl
   ·rfl
   ·rfl
   ·rfl
   ·exact h v (by simp)
  ·exact ih (fun d hd => h d (by simp [hd])) u h1
theorem CpS.drew (h : CpS w u gm c bv vv dv ev bal vals ds ents) : CpS w u.drew gm c bv vv dv ev bal vals ds ents := ⟨h.bl.drew, h.g0, h.M, h.b, h.v, h.d, h.e⟩
theorem O2 {F0 : Nat -> Prop} {W0 : World} (g : Nat) (c : LC) (bv vv dv ev : Value) (vals : List VS) (ds : List (DA × Value)) (ents : List ES) (w : World) (h : LF F0 W0 w g c bv vv dv ev vals ds ents) (lb : c.bal.length <= 1000) (lv : vals.length <= 1000) (ld : ds.length <= 900) (le : ents.length <= 1000) (lp : ∀ i (hi : i < ds.length), ds[i].1.parts.length <= 100000) :
  Calls Tryz.prog 23 #[.pointer (some ⟨g, 0, none⟩)] w fun e w' => ∃ g' bv' vv' dv' ev' ds', e = .returned (.pointer (some ⟨g', 0, none⟩)) ∧ Below w.heap.size w w' ∧ LF (fun _ => False) w w' g' c bv' vv' dv' ev' vals ds' ents ∧ ds'.map Prod.fst = ds.map Prod.fst := by
 obtain ⟨i0, hi0, hz00, hz01, hz02⟩ := info_parts Cn
 obtain ⟨i1, hi1, hz10, hz11, hz12⟩ := info_parts JD
 obtain ⟨i2, hi2, hz20, hz21, hz22⟩ := info_parts Fp
 obtain ⟨i3, hi3, hz30, hz31, hz32⟩ := info_parts IF
 obtain ⟨i4, hi4, hz40, hz41, hz42⟩ := info_parts GC
 have c0 : w.cell? ⟨g, 0, none⟩ = some (.int .i64 c.top) := h.C.L.cell 0
 have c1 : w.cell? ⟨g, 1, none⟩ = some (.int .i64 c.mature) := h.C.L.cell 1
 have c2 : w.cell? ⟨g, 2, none⟩ = some (.int .i64 c.fee) := h.C.L.cell 2
 have c3 : w.cell? ⟨g, 3, none⟩ = some (.int .i64 c.height) := h.C.L.cell 3
 have c5 : w.cell? ⟨g, 5, none⟩ = some (.int .i64 c.fees) := h.C.L.cell 5
 have c6 : w.cell? ⟨g, 6, none⟩ = some (.int .i64 c.pool) := h.C.L.cell 6
 have hgl := h.C.L.lt
 obtain ⟨ba, bc, rfl⟩ := Ac h.C.b
 obtain ⟨va, vc, rfl⟩ := Ac h.v
 obtain ⟨da, dc, rfl⟩ := Ac h.d
 obtain ⟨ea, ec, rfl⟩ := Ac h.e
 have HL := Hd h
 have HA : Hid (∀ u ∈ BC ds, u.oneCell' = true) := Np ds (fun d hd => by
  obtain ⟨i, hi, rfl⟩ := List.getElem_of_mem hd
  obtain ⟨pa, pc, e⟩ := Ac (h.p i hi)
  rw [e]; rfl)
 have HP := Hd lp
 clear h lp
 go_enter Tryz.func23, Tryz.ntmps23
 go_wp2_with fail
 refine wp_region_still_tail 24 (by kernel_rfl) (by kernel_rfl) ?_
 simp only [List.take_succ_cons, List.take_zero, List.drop_succ_cons, List.drop_zero]
 repeat still_step
 refine wpStill_nil ?_
 go_wp2_with fail
 refine (show ∀ u, CpS w u w.heap.size c (.slice none 0 0) (.slice none 0 0) (.slice none 0 0) (.slice none 0 0) [] [] [] [] -> Code.wp _ _ _ _ u from ?_) _ ⟨(Below.refl _ _).drew.alloc (Nat.le_refl _) _, Nat.le_refl _, Has.newA w.drew _ _, World.ownsRow_nil _ _ _ _, World.ownsRow_nil _ _ _ _, World.ownsRow_nil _ _ _ _, World.ownsRow_nil _ _ _ _⟩
 clear c0 c1 c2 c3 c5 c6 hgl
 intro u hu
 have d1 : u.cell? ⟨w.heap.size, 4, none⟩ = some (.slice none 0 0) := hu.M.cell 4
 have hls := HL.out.below hu.bl
 have d2 : u.cell? ⟨g, 4, none⟩ = some (.slice ba c.bal.length bc) := hls.C.L.cell 4
 have g1 := hu.M.lt
 have g2 := hls.C.L.lt
 have HU : Hid _ := hu.drew
 have HS := Hd hls.C.b
 clear hu hls
 go_cut [3] (fun s3 wx => s3 = .pointer (some ⟨w.heap.size, 0, none⟩) ∧ ∃ bv1, CpS w wx w.heap.size c bv1 (.slice none 0 0) (.slice none 0 0) (.slice none 0 0) c.bal [] [] [])
 case first =>
  go_region_law (refine Du rfl (.tmp 36) (.tmp 40) 24 rfl 3 i0 _ 1 8 Tryz.underlying24 hi0 hz00 hz01 hz02 rfl (by decide) (by first | rfl | simp [Act.eval]) 0 (.slice ba c.bal.length bc) c.bal.length (Ai c.bal) (by first | rfl | simp [Act.eval]) HS.out (NM _) (by simp [maxLen]; omega) (by omega) ?_; intro a1 c1 w1 hr hg; have hM := Ao hg HU.out.M (by simp); have f1 := hM.frozen 4; have d3 : w1.cell? ⟨w.heap.size, 4, none⟩ = some (.slice none 0 0) := hM.cell 4; have HN : Hid _ := HU.out.putB hg hr; clear hM hr hg)
  all_goals (go_wp2_with fail; go_meet; exact ⟨rfl, _, HN.out⟩)
 case rest =>
 obtain ⟨rfl, bv1, hu⟩ := hcut
 clear HU HS d1 d2 g1 g2
 generalize wc = u at hu ⊢
 go_wp2_with fail
 have d1 : u.cell? ⟨w.heap.size, 7, none⟩ = some (.slice none 0 0) := hu.M.cell 7
 have hls := HL.out.below hu.bl
 have d2 : u.cell? ⟨g, 7, none⟩ = some (.slice va vals.length vc) := hls.C.L.cell 7
 have g1 := hu.M.lt
 have g2 := hls.C.L.lt
 have HU : Hid _ := hu.drew
 have HS := Hd hls.v
 clear hu hls
 go_cut [3] (fun s3 wx => s3 = .pointer (some ⟨w.heap.size, 0, none⟩) ∧ ∃ vv1, CpS w wx w.heap.size c bv1 vv1 (.slice none 0 0) (.slice none 0 0) c.bal vals [] [])
 case first =>
  go_region_law (refine Du rfl (.tmp 48) (.tmp 52) 77 rfl 114 i1 _ 8 56 Tryz.underlying77 hi1 hz10 hz11 hz12 rfl (by decide) (by first | rfl | simp [Act.eval]) 0 (.slice va vals.length vc) vals.length (A5 vals) (by first | rfl | simp [Act.eval]) HS.out (N2 _) (by simp [maxLen]; omega) (by omega) ?_; intro a1 c1 w1 hr hg; have hM := Ao hg HU.out.M (by simp); have f1 := hM.frozen 7; have d3 : w1.cell? ⟨w.heap.size, 7, none⟩ = some (.slice none 0 0) := hM.cell 7; have HN : Hid _ := HU.out.putV hg hr; clear hM hr hg)
  all_goals (go_wp2_with fail; go_meet; exact ⟨rfl, _, HN.out⟩)
 case rest =>
 obtain ⟨rfl, vv1, hu⟩ := hcut
 clear HU HS d1 d2 g1 g2
 generalize wc = u at hu ⊢
 go_wp2_with fail
 have d1 : u.cell? ⟨w.heap.size, 8, none⟩ = some (.slice none 0 0) := hu.M.cell 8
 have hls := HL.out.below hu.bl
 have d2 : u.cell? ⟨g, 8, none⟩ = some (.slice da ds.length dc) := hls.C.L.cell 8
 have g1 := hu.M.lt
 have g2 := hls.C.L.lt
 have HU : Hid _ := hu.drew
 have HS := Hd hls.d
 clear hu hls
 go_cut [3] (fun s3 wx => s3 = .pointer (some ⟨w.heap.size, 0, none⟩) ∧ ∃ dv1, CpS w wx w.heap.size c bv1 vv1 dv1 (.slice none 0 0) c.bal vals ds [])
 case first =>
  go_region_law (refine Du rfl (.tmp 60) (.tmp 64) 78 rfl 84 i2 _ 4 48 Tryz.underlying78 hi2 hz20 hz21 hz22 rfl (by decide) (by first | rfl | simp [Act.eval]) 0 (.slice da ds.length dc) ds.length (BC ds) (by first | rfl | simp [Act.eval]) HS.out HA.out (by simp [maxLen]; omega) (by omega) ?_; intro a1 c1 w1 hr hg; have hM := Ao hg HU.out.M (by simp); have f1 := hM.frozen 8; have d3 : w1.cell? ⟨w.heap.size, 8, none⟩ = some (.slice none 0 0) := hM.cell 8; have HN : Hid _ := HU.out.putD hg hr; clear hM hr hg)
  all_goals (go_wp2_with fail; go_meet; exact ⟨rfl, _, HN.out⟩)
 case rest =>
 obtain ⟨rfl, dv1, hu⟩ := hcut
 clear HU HS d1 d2 g1 g2
 generalize wc = u at hu ⊢
 go_wp2_with fail
 go_loopw [4] (fun i wr => ∃ k : Nat, k <= ds.length ∧ i = .int .i64 k ∧ ∃ ds', CpS w wr w.heap.size c bv1 vv1 dv1 (.slice none 0 0) c.bal vals ds' [] ∧ ds'.map Prod.fst = ds.map Prod.fst ∧ (∀ i (hi : i < ds'.length), i < k -> wr.ownsRow w.heap.size 134 2 ds'[i].2 ds'[i].1.parts.length (Dh ds'[i].1.parts)) ∧ ∀ i (hi : i < ds'.length) (hj : i < ds.length), k <= i -> ds'[i].2 = ds[i].2) (fun i _ => ds.length - (intOf i).toNat)
 case atStart => exact ⟨0, Nat.zero_le _, rfl, ds, hu, rfl, fun i hi h => by omega, fun i hi hj _ => rfl⟩
 case round =>
  obtain ⟨k, hk, rfl, ds', hC, hm, hnew, hold⟩ := hrel
  have hdl : ds'.length = ds.length := by have := congrArg List.length hm; simpa using this
  obtain ⟨d1a, d1c, hdv⟩ := Ac hC.d
  rw [hdl] at hdv
  subst hdv
  have e8 : wr.cell? ⟨w.heap.size, 8, none⟩ = some (.slice d1a ds.length d1c) := hC.M.cell 8
  have gM := hC.M.lt
  by_cases hlt : k < ds.length
  ·have hkd : k < ds'.length := by omega
   have hrow := hC.d
   rw [hdl] at hrow
   obtain ⟨gd, rfl, hgd0⟩ := Ag hrow (by omega)
   have hat : ds'[k].1 = ds[k].1 := by
    have h1 : (ds'.map Prod.fst)[k]? = (ds.map Prod.fst)[k]? := by rw [hm]
    simpa [hkd, hlt] using h1
   have z3 := (hrow.cellAt (k * 4 + 3) (by omega)).trans (BF ds' k hkd 3 (by omega))
   simp only [DA.cells, List.getElem?_cons_succ, List.getElem?_cons_zero] at z3
   rw [hold k hkd hlt (Nat.le_refl _)] at z3
   have f3 := hrow.frozenAt (k * 4 + 3)
   have hsrc := (HL.out.below hC.bl).p k hlt
   obtain ⟨pa, pc, hpv⟩ := Ac hsrc
   rw [hpv] at z3 hsrc
   have hpl := HP.out k hlt
   have HS := Hd hsrc
   have HC := Hd hC
   have HN := Hd hnew
   have HO := Hd hold
   have HM := Hd hm
   have HAT := Hd hat
   have HDL := Hd hdl
   clear hC hnew hold hm hat hrow hsrc hpv hdl
   generalize hnp : ds[k].1.parts.length = np at *
   go_wp2_with (at_builtin; go_loud (refine Hj rfl (.tmp 77) (.tmp 85) 82 rfl 134 i3 _ 2 16 Tryz.underlying82 hi3 hz30 hz31 hz32 rfl (by decide) (by rfl) 0 (.slice pa np pc) np (Dh ds[k].1.parts) rfl HS.out (M8 _) (by simp [maxLen]; omega) (by omega) ?_))
   intro a1 c1 w1 hr hg
   have hC1 := HC.out.grown hg
   have e8' : w1.cell? ⟨w.heap.size, 8, none⟩ = some (.slice (some ⟨gd, 0, none⟩) ds.length d1c) := hC1.M.cell 8
   have hrow1 := hC1.d
   rw [HDL.out] at hrow1
   have z3' : w1.cell? ⟨gd, k * 4 + 3, none⟩ = some ds'[k].2 := (hrow1.cellAt (k * 4 + 3) (by omega)).trans (BF ds' k hkd 3 (by omega))
   have f3' := hrow1.frozenAt (k * 4 + 3)
   have gM' := hC1.M.lt
   have HF : Hid (∃ ds2, CpS w (w1.setCell ⟨gd, k * 4 + 3, none⟩ (.slice a1 np c1)) w.heap.size c bv1 vv1 (.slice (some ⟨gd, 0, none⟩) ds.length d1c) (.slice none 0 0) c.bal vals ds2 [] ∧ ds2.map Prod.fst = ds.map Prod.fst ∧ (∀ i (hi : i < ds2.length), i < k + 1 -> (w1.setCell ⟨gd, k * 4 + 3, none⟩ (.slice a1 np c1)).ownsRow w.heap.size 134 2 ds2[i].2 ds2[i].1.parts.length (Dh ds2[i].1.parts)) ∧ ∀ i (hi : i < ds2.length) (hj : i < ds.length), k + 1 <= i -> ds2[i].2 = ds[i].2) := by
    have hsz := HC.out.bl.size
    refine ⟨ds'.set k (ds'[k].1, .slice a1 np c1), hC1.part HDL.out.symm k hkd _, ?_, fun i hi hlt' => ?_, fun i hi hj hle => ?_⟩
    ·rw [List.map_set, <- HM.out]
     have e1 : ds'[k].1 = (ds'.map Prod.fst)[k]'(by simpa using hkd) := by simp
     rw [e1, List.set_getElem_self]
    ·have hi' : i < ds'.length := by simpa using hi
     by_cases e : k = i
     ·subst e
      rw [List.getElem_set_self]
      simp only
      rw [HAT.out, hnp]
      exact Aa (Aj hr hsz) _ _ (Bd (Aj hr hsz) hC1.d (by decide))
     ·rw [List.getElem_set_ne e]
      have h1 := BW (HN.out i hi' (by omega)) hg
      exact Aa h1 _ _ (Bd h1 hC1.d (by decide))
    ·have hi' : i < ds'.length := by simpa using hi
     rw [List.getElem_set_ne (by omega)]
     exact HO.out i hi' hj (by omega)
   clear HS HC HN HO HM HAT hr hg hC1 hrow1 z3 f3 e8 gM
   obtain ⟨q2, hq2⟩ : ∃ q, q = ds'[k].2 := ⟨_, rfl⟩
   rw [<- hq2] at z3'
   clear hq2
   go_wp2
   refine And.intro ?_ ?_
   ·first | exact ⟨k + 1, by omega, by go_num, HF.out⟩ | ((repeat apply Exists.intro); exact ⟨⟨k + 1, by omega, by go_num, HF.out⟩, rfl⟩)
   ·simp [intOf]; omega
  ·have hke : k = ds.length := by omega
   have HC := Hd hC
   have HN : Hid (∀ i (hi : i < ds'.length), wr.ownsRow w.heap.size 134 2 ds'[i].2 ds'[i].1.parts.length (Dh ds'[i].1.parts)) := fun i hi => hnew i hi (by omega)
   have HM := Hd hm
   clear hnew hold hm hdl
   go_wp2_with fail
   obtain ⟨u, hu0⟩ : ∃ u, u = wr := ⟨_, rfl⟩
   rw [<- hu0] at HC HN hC e8 gM ⊢
   clear hu0
   have hu := hC
   clear hC
   have d1 : u.cell? ⟨w.heap.size, 9, none⟩ = some (.slice none 0 0) := hu.M.cell 9
   have hls := HL.out.below hu.bl
   have d2 : u.cell? ⟨g, 9, none⟩ = some (.slice ea ents.length ec) := hls.C.L.cell 9
   have g1 := hu.M.lt
   have g2 := hls.C.L.lt
   have HU : Hid _ := hu.drew
   have HS := Hd hls.e
   clear hu hls
   go_region_law (refine Du rfl (.tmp 99) (.tmp 103) 79 rfl 131 i4 _ 4 32 Tryz.underlying79 hi4 hz40 hz41 hz42 rfl (by decide) (by first | rfl | simp [Act.eval]) 0 (.slice ea ents.length ec) ents.length (Bi ents) (by first | rfl | simp [Act.eval]) HS.out (MW _) (by simp [maxLen]; omega) (by omega) ?_; intro a1 c1 w1 hr hg; have hM := Ao hg HU.out.M (by simp); have f1 := hM.frozen 9; have d3 : w1.cell? ⟨w.heap.size, 9, none⟩ = some (.slice none 0 0) := hM.cell 9; have HN2 : Hid (CpS w (w1.setCell ⟨w.heap.size, 9, none⟩ (.slice a1 ents.length c1)) w.heap.size c bv1 vv1 (.slice d1a ds.length d1c) (.slice a1 ents.length c1) c.bal vals ds' ents ∧ ∀ i (hi : i < ds'.length), (w1.setCell ⟨w.heap.size, 9, none⟩ (.slice a1 ents.length c1)).ownsRow w.heap.size 134 2 ds'[i].2 ds'[i].1.parts.length (Dh ds'[i].1.parts)) := ⟨HU.out.putE hg hr, fun i hi => Aa (BW (w := u.drew) (HN.out i hi) hg) _ _ (fun e => Has.apart hM (BW (w := u.drew) (HN.out i hi) hg) (by decide) e.symm)⟩; clear hM hr hg)
   all_goals
    have hF := HN2.out.1
    have hPs := HN2.out.2
    have HF : Hid (Below w.heap.size w _ ∧ LF (fun _ => False) w _ w.heap.size c bv1 vv1 (.slice d1a ds.length d1c) (.slice a1 ents.length c1) vals ds' ents) :=
     ⟨hF.bl, ⟨Kp.of_below hF.bl _, .inr (Nat.le_refl _), fun b hb => .inr (hF.b.lt b hb).1, fun b hb => .inr (hF.v.lt b hb).1, fun b hb => .inr (hF.d.lt b hb).1, fun b hb => .inr (hF.e.lt b hb).1, fun i hi b hb => .inr ((hPs i hi).lt b hb).1, ⟨hF.M, Aj hF.b (Nat.zero_le _)⟩, Aj hF.v (Nat.zero_le _), Aj hF.d (Nat.zero_le _), fun i hi => Aj (hPs i hi) (Nat.zero_le _), Aj hF.e (Nat.zero_le _)⟩⟩
    clear hF hPs HU HS HC HN HN2
    go_wp2
    go_ret
    exact ⟨_, bv1, vv1, _, _, ds', rfl, HF.out.1, HF.out.2, HM.out⟩
end Go.Proofs.YtohjjgefklhmaaaGreatDoor
