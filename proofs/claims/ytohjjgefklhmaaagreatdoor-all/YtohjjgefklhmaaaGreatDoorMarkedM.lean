import Derived.Test.YtohjjgefklhmaaaGreatDoorWriteM
namespace Go.Proofs.YtohjjgefklhmaaaGreatDoor
open Go.ChangeShapes Go.WideShapes Go.ChangeAt Go.RowKit
set_option linter.unusedVariables false
set_option maxHeartbeats 40000000
set_option maxRecDepth 100000
variable {w : World} {base n1 n2 n3 n4 bc vc dc ec : Nat} {ba va da ea : Option Addr} {xb xv xd xe : List Value}
theorem Qd : (Tryz.prog.info? 130).map (fun i => (i.zero, i.size, i.bytes)) = some (some (.agg #[.int .i64 0, .int .i64 0, .int .i64 0]), 3, 24) := by kernel_rfl
theorem Py : (Tryz.prog.info? 125).map (fun i => (i.zero, i.size, i.bytes)) = some (some (.agg #[.int .i64 0, .int .i64 0, .int .i64 0, .int .i64 0]), 4, 32) := by kernel_rfl
theorem Oa : (Tryz.prog.info? 96).map (fun i => (i.zero, i.size, i.bytes)) = some (some (.agg #[.slice none 0 0, .slice none 0 0, .slice none 0 0, .slice none 0 0, .int .i64 0, .int .i64 0]), 6, 112) := by kernel_rfl
theorem BG (a : Option Addr) (n c : Nat) : (Value.slice a n c).ownBlock = a.map (fun x => x.block) := by cases a <;> rfl
theorem L6 {g : Nat} {e : TypeId} {L : List Value} (h : Has w g e L)
  (hb : w.ownsRow base 3 1 (.slice ba n1 bc) n1 xb) (hv : w.ownsRow base 122 8 (.slice va n2 vc) n2 xv) (hd : w.ownsRow base 130 3 (.slice da n3 dc) n3 xd) (he : w.ownsRow base 125 4 (.slice ea n4 ec) n4 xe)
  (e1 : e ≠ 3) (e2 : e ≠ 122) (e3 : e ≠ 130) (e4 : e ≠ 125) : ¬ RS ba va da ea g := by
 intro h0
 rcases h0 with h0 | h0 | h0 | h0
 ·exact Has.apart h hb e1 (by rw [BG, h0])
 ·exact Has.apart h hv e2 (by rw [BG, h0])
 ·exact Has.apart h hd e3 (by rw [BG, h0])
 ·exact Has.apart h he e4 (by rw [BG, h0])
theorem Mk {k : Nat}
  (hb : w.ownsRow base 3 1 (.slice ba n1 bc) n1 xb) (hv : w.ownsRow base 122 8 (.slice va n2 vc) n2 xv) (hd : w.ownsRow base 130 3 (.slice da n3 dc) n3 xd) (he : w.ownsRow base 125 4 (.slice ea n4 ec) n4 xe)
  (h : RS ba va da ea k) : base <= k := by
 rcases h with h0 | h0 | h0 | h0
 ·exact (hb.lt k (by rw [BG, h0])).1
 ·exact (hv.lt k (by rw [BG, h0])).1
 ·exact (hd.lt k (by rw [BG, h0])).1
 ·exact (he.lt k (by rw [BG, h0])).1
theorem Lz (base ge : Nat) (px py pl : Value) (hv0 : Value) (nh : Nat) (hcs : List Value) (mk : Int) (h0 f0 p0 bo lo : Value) (ba va da ea : Option Addr) (n1 n2 n3 n4 bc vc dc ec : Nat) (xb xv xd xe : List Value) (w : World)
  (hbase : base <= w.heap.size) (hge : ge < base) (m1 : 0 <= mk) (m2 : mk <= 100000000000) (hnh : nh <= 1048576)
  (l1 : n1 <= 1048000) (l2 : n2 <= 1048000) (l3 : n3 <= 1048000) (l4 : n4 <= 1048000)
  (hE : Has w ge 54 [px, py, pl, hv0, .int .i64 mk]) (hh : w.ownsRow 0 96 6 hv0 nh hcs) (hhb : ∀ k, hv0.ownBlock = some k -> k < base)
  (hb : w.ownsRow base 3 1 (.slice ba n1 bc) n1 xb) (hv : w.ownsRow base 122 8 (.slice va n2 vc) n2 xv) (hd : w.ownsRow base 130 3 (.slice da n3 dc) n3 xd) (he : w.ownsRow base 125 4 (.slice ea n4 ec) n4 xe) :
  Calls Tryz.prog 47 #[.pointer (some ⟨ge, 0, none⟩), .agg #[h0, .slice ba n1 bc, f0, p0, bo, lo, .slice va n2 vc, .slice da n3 dc, .slice ea n4 ec]] w fun e w' => e = .returned (.tuple #[]) ∧ C5 base ge w w' px py pl hv0 nh hcs mk := by
 obtain ⟨i1, hi1, hz10, hz11, hz12⟩ := info_parts Cn
 obtain ⟨i2, hi2, hz20, hz21, hz22⟩ := info_parts Ie
 obtain ⟨i3, hi3, hz30, hz31, hz32⟩ := info_parts Qd
 obtain ⟨i4, hi4, hz40, hz41, hz42⟩ := info_parts Py
 obtain ⟨i5, hi5, hz50, hz51, hz52⟩ := info_parts Oa
 have c4 := hE.cell 4
 have c3 := hE.cell 3
 simp only [List.getElem?_cons_succ, List.getElem?_cons_zero] at c3 c4
 have hgw : ge < w.heap.size := hE.lt
 have hgw1 : ge < w.heap.size + 1 := by omega
 go_enter Tryz.func47, Tryz.ntmps47
 go_wp2_with fail
 go_region
 go_wp2_with fail
 have hb1 : (((w.alloc (.cells #[h0, .slice ba n1 bc, f0, p0, bo, lo, .slice va n2 vc, .slice da n3 dc, .slice ea n4 ec] 89)).alloc (.cells #[.slice ba n1 bc, .slice va n2 vc, .slice da n3 dc, .slice ea n4 ec, .int .i64 mk, .int .i64 0] 96)).drew).ownsRow base 3 1 (.slice ba n1 bc) n1 xb := ((hb.alloc _).alloc _).drew
 have hv1 : (((w.alloc (.cells #[h0, .slice ba n1 bc, f0, p0, bo, lo, .slice va n2 vc, .slice da n3 dc, .slice ea n4 ec] 89)).alloc (.cells #[.slice ba n1 bc, .slice va n2 vc, .slice da n3 dc, .slice ea n4 ec, .int .i64 mk, .int .i64 0] 96)).drew).ownsRow base 122 8 (.slice va n2 vc) n2 xv := ((hv.alloc _).alloc _).drew
 have hd1 : (((w.alloc (.cells #[h0, .slice ba n1 bc, f0, p0, bo, lo, .slice va n2 vc, .slice da n3 dc, .slice ea n4 ec] 89)).alloc (.cells #[.slice ba n1 bc, .slice va n2 vc, .slice da n3 dc, .slice ea n4 ec, .int .i64 mk, .int .i64 0] 96)).drew).ownsRow base 130 3 (.slice da n3 dc) n3 xd := ((hd.alloc _).alloc _).drew
 have he1 : (((w.alloc (.cells #[h0, .slice ba n1 bc, f0, p0, bo, lo, .slice va n2 vc, .slice da n3 dc, .slice ea n4 ec] 89)).alloc (.cells #[.slice ba n1 bc, .slice va n2 vc, .slice da n3 dc, .slice ea n4 ec, .int .i64 mk, .int .i64 0] 96)).drew).ownsRow base 125 4 (.slice ea n4 ec) n4 xe := ((he.alloc _).alloc _).drew
 have hh1 : (((w.alloc (.cells #[h0, .slice ba n1 bc, f0, p0, bo, lo, .slice va n2 vc, .slice da n3 dc, .slice ea n4 ec] 89)).alloc (.cells #[.slice ba n1 bc, .slice va n2 vc, .slice da n3 dc, .slice ea n4 ec, .int .i64 mk, .int .i64 0] 96)).drew).ownsRow 0 96 6 hv0 nh hcs := ((hh.alloc _).alloc _).drew
 have hE1 : Has (((w.alloc (.cells #[h0, .slice ba n1 bc, f0, p0, bo, lo, .slice va n2 vc, .slice da n3 dc, .slice ea n4 ec] 89)).alloc (.cells #[.slice ba n1 bc, .slice va n2 vc, .slice da n3 dc, .slice ea n4 ec, .int .i64 mk, .int .i64 0] 96)).drew) ge 54 [px, py, pl, hv0, .int .i64 mk] := ((hE.alloc _).alloc _).drew
 have hX1 : Has (((w.alloc (.cells #[h0, .slice ba n1 bc, f0, p0, bo, lo, .slice va n2 vc, .slice da n3 dc, .slice ea n4 ec] 89)).alloc (.cells #[.slice ba n1 bc, .slice va n2 vc, .slice da n3 dc, .slice ea n4 ec, .int .i64 mk, .int .i64 0] 96)).drew) w.heap.size 89 [h0, .slice ba n1 bc, f0, p0, bo, lo, .slice va n2 vc, .slice da n3 dc, .slice ea n4 ec] := ((Has.newA w _ _).alloc _).drew
 have hH1 : Has (((w.alloc (.cells #[h0, .slice ba n1 bc, f0, p0, bo, lo, .slice va n2 vc, .slice da n3 dc, .slice ea n4 ec] 89)).alloc (.cells #[.slice ba n1 bc, .slice va n2 vc, .slice da n3 dc, .slice ea n4 ec, .int .i64 mk, .int .i64 0] 96)).drew) (w.heap.size + 1) 96 [.slice ba n1 bc, .slice va n2 vc, .slice da n3 dc, .slice ea n4 ec, .int .i64 mk, .int .i64 0] := by
  have := Has.newA (w.alloc (.cells #[h0, .slice ba n1 bc, f0, p0, bo, lo, .slice va n2 vc, .slice da n3 dc, .slice ea n4 ec] 89)) 96 #[.slice ba n1 bc, .slice va n2 vc, .slice da n3 dc, .slice ea n4 ec, .int .i64 mk, .int .i64 0]
  have := this.drew
  simpa using this
 have hK1 : Kp (fun k => k = ge ∨ base <= k) w (((w.alloc (.cells #[h0, .slice ba n1 bc, f0, p0, bo, lo, .slice va n2 vc, .slice da n3 dc, .slice ea n4 ec] 89)).alloc (.cells #[.slice ba n1 bc, .slice va n2 vc, .slice da n3 dc, .slice ea n4 ec, .int .i64 mk, .int .i64 0] 96)).drew) := (((Kp.refl _ w).alloc _).alloc _).drew
 refine (Nv base ba va da ea n1 n2 n3 n4 bc vc dc ec mk 0 xb xv xd xe _ m1 (by omega) (by omega) (by omega) (by omega) (by omega) hb1 hv1 hd1 he1).mono ?_
 rintro e w2 ⟨rfl, hI⟩
 have hX2 := hX1.kp hI.hw (L6 hX1 hb1 hv1 hd1 he1 (by decide) (by decide) (by decide) (by decide))
 have hH2 := hH1.kp hI.hw (L6 hH1 hb1 hv1 hd1 he1 (by decide) (by decide) (by decide) (by decide))
 have hE2 := hE1.kp hI.hw (L6 hE1 hb1 hv1 hd1 he1 (by decide) (by decide) (by decide) (by decide))
 have hh2 := Al hh1 hI.hw (fun b hb0 h => by have h1 := hhb b hb0; have h2 := Mk hb1 hv1 hd1 he1 h; omega)
 have hsz : w.heap.size + 1 < w2.heap.size := hH2.lt
 have hM : MI base w ((w2.setCell ⟨ge, 4, none⟩ (.int .i64 (mk + 1000))).alloc (.cells #[.slice none 0 0, .slice none 0 0, .slice none 0 0, .slice none 0 0, .int .i64 mk, .int .i64 (mk + 1000)] 96)) ge (w.heap.size + 1) w2.heap.size w.heap.size [px, py, pl, hv0, .int .i64 (mk + 1000)] [.slice ba n1 bc, .slice va n2 vc, .slice da n3 dc, .slice ea n4 ec, .int .i64 mk, .int .i64 0] [.slice none 0 0, .slice none 0 0, .slice none 0 0, .slice none 0 0, .int .i64 mk, .int .i64 (mk + 1000)] [h0, .slice ba n1 bc, f0, p0, bo, lo, .slice va n2 vc, .slice da n3 dc, .slice ea n4 ec]
   { v := .slice ba n1 bc, n := n1, xs := AN fB mk n1 } { v := .slice va n2 vc, n := n2, xs := AN fV mk n2 } { v := .slice da n3 dc, n := n3, xs := AN fD mk n3 } { v := .slice ea n4 ec, n := n4, xs := AN fE mk n4 } RowV.nil RowV.nil RowV.nil RowV.nil { v := hv0, n := nh, xs := hcs } := by
  have hfr : Kp (fun k => k = ge ∨ base <= k) w w2 := hK1.trans (hI.hw.mono (fun k _ h => .inr (Mk hb1 hv1 hd1 he1 h)))
  have hI3 : Has ((w2.setCell ⟨ge, 4, none⟩ (.int .i64 (mk + 1000))).alloc (.cells #[.slice none 0 0, .slice none 0 0, .slice none 0 0, .slice none 0 0, .int .i64 mk, .int .i64 (mk + 1000)] 96)) w2.heap.size 96 [.slice none 0 0, .slice none 0 0, .slice none 0 0, .slice none 0 0, .int .i64 mk, .int .i64 (mk + 1000)] := by
   have := Has.newA (w2.setCell ⟨ge, 4, none⟩ (.int .i64 (mk + 1000))) 96 #[.slice none 0 0, .slice none 0 0, .slice none 0 0, .slice none 0 0, .int .i64 mk, .int .i64 (mk + 1000)]
   simpa [World.setCell] using this
  refine MI.mk ((hfr.setCell (p := ⟨ge, 4, none⟩) (.inl rfl) _).alloc _) hge (by omega) (by omega) hbase (by omega) hhb ((hE2.set 4 _).alloc _) ((hH2.other _ _ (show w.heap.size + 1 ≠ ge by omega)).alloc _) hI3 ((hX2.other _ _ (show w.heap.size ≠ ge by omega)).alloc _)
   ((Aa hI.b _ _ (AO hI.b hge)).alloc _) ((Aa hI.v _ _ (AO hI.v hge)).alloc _) ((Aa hI.d _ _ (AO hI.d hge)).alloc _) ((Aa hI.e _ _ (AO hI.e hge)).alloc _)
   (World.ownsRow_nil _ _ _ _) (World.ownsRow_nil _ _ _ _) (World.ownsRow_nil _ _ _ _) (World.ownsRow_nil _ _ _ _) ((Aa hh2 _ _ (fun h => Has.apart hE2 hh2 (by decide) h.symm)).alloc _)
 have q4 := hE2.cell 4
 have qf := hE2.frozen 4
 have r4 := hH2.cell 4
 simp only [List.getElem?_cons_succ, List.getElem?_cons_zero] at q4 r4
 have x1 := hX2.cell 1
 have x6 := hX2.cell 6
 have x7 := hX2.cell 7
 have x8 := hX2.cell 8
 simp only [List.getElem?_cons_succ, List.getElem?_cons_zero] at x1 x6 x7 x8
 have s1 : w.heap.size < w2.heap.size := by omega
 have s2 : ge < w2.heap.size := by omega
 have s3 : ¬ w.heap.size = ge := by omega
 have s4 : ¬ w.heap.size + 1 = ge := by omega
 clear hX1 hH1 hX2 hH2 hE2 hI hE hh hb hv hd he c3 c4 hb1 hv1 hd1 he1 hh1 hE1 hK1 hh2
 have s5 : ¬ w.heap.size = w2.heap.size := by omega
 have s6 : ¬ ge = w2.heap.size := by omega
 have s7 : ¬ w.heap.size + 1 = w2.heap.size := by omega
 go_wp2_with (at_builtin; go_loud (refine Ak rfl (.tmp 40) (.tmp 44) 24 rfl 3 i1 _ 1 8 Tryz.underlying24 hi1 hz10 hz11 hz12 rfl (by decide) base _ n1 _ rfl (hM.alloc _).b (Nat.le_trans hbase (hM.alloc _).fr.size) ⟨_, 0, none⟩ 2 2 [.int .i64 (mk + 1000), .int .i64 (mk + 1000 + 1)] rfl (by rfl) (Ap _ [.int .i64 (mk + 1000), .int .i64 (mk + 1000 + 1)] _ _ (by simp only [World.size_alloc, Ci])) (by simp [Value.oneCell']) (by decide) (by simp [maxLen]; omega) (by omega) ?_))
 intro g0 cap0 v0 hown0 hgrow0 hor0 hold0
 have hMa0 := (hM.alloc _).appB hgrow0 hold0 hown0
 clear hM hown0 hgrow0 hor0 hold0
 have hM0 := hMa0.setI 0 (.slice (some ⟨g0, 0, none⟩) (n1 + 2) cap0)
 have u0a : v0.cell? ⟨w2.heap.size, 0, none⟩ = some (.slice none 0 0) := hMa0.I.cell 0
 have u0b := hMa0.I.frozen 0
 have u0c : v0.cell? ⟨w.heap.size, 6, none⟩ = some (.slice va n2 vc) := hMa0.X.cell 6
 have u0d := hMa0.I.lt
 have u0e := hMa0.X.lt
 clear hMa0
 go_wp2_with (at_builtin; go_loud (refine Ak rfl (.tmp 48) (.tmp 57) 85 rfl 122 i2 _ 8 56 Tryz.underlying85 hi2 hz20 hz21 hz22 rfl (by decide) base _ n2 _ rfl (hM0.alloc _).v (Nat.le_trans hbase (hM0.alloc _).fr.size) ⟨_, 0, none⟩ 2 2 [.int .i64 (mk + 1000), .int .i64 0, .int .i64 (mk + 1000), .int .i64 0, .int .i64 0, .int .i64 0, .bool false, .bool false, .int .i64 (mk + 1000 + 1), .int .i64 0, .int .i64 (mk + 1000 + 1), .int .i64 0, .int .i64 0, .int .i64 0, .bool false, .bool false] rfl (by rfl) (Ap _ [.int .i64 (mk + 1000), .int .i64 0, .int .i64 (mk + 1000), .int .i64 0, .int .i64 0, .int .i64 0, .bool false, .bool false, .int .i64 (mk + 1000 + 1), .int .i64 0, .int .i64 (mk + 1000 + 1), .int .i64 0, .int .i64 0, .int .i64 0, .bool false, .bool false] _ _ (Ci _ _ _).symm) (by simp [Value.oneCell']) (by decide) (by simp [maxLen]; omega) (by omega) ?_))
 intro g1 cap1 v1 hown1 hgrow1 hor1 hold1
 have hMa1 := (hM0.alloc _).appV hgrow1 hold1 hown1
 clear hM0 hown1 hgrow1 hor1 hold1
 have hM1 := hMa1.setI 1 (.slice (some ⟨g1, 0, none⟩) (n2 + 2) cap1)
 have u1a : v1.cell? ⟨w2.heap.size, 1, none⟩ = some (.slice none 0 0) := hMa1.I.cell 1
 have u1b := hMa1.I.frozen 1
 have u1c : v1.cell? ⟨w.heap.size, 7, none⟩ = some (.slice da n3 dc) := hMa1.X.cell 7
 have u1d := hMa1.I.lt
 have u1e := hMa1.X.lt
 clear hMa1
 go_wp2_with (at_builtin; go_loud (refine Ak rfl (.tmp 61) (.tmp 70) 86 rfl 130 i3 _ 3 24 Tryz.underlying86 hi3 hz30 hz31 hz32 rfl (by decide) base _ n3 _ rfl (hM1.alloc _).d (Nat.le_trans hbase (hM1.alloc _).fr.size) ⟨_, 0, none⟩ 2 2 [.int .i64 (mk + 1000), .int .i64 0, .int .i64 (mk + 1000), .int .i64 (mk + 1000 + 1), .int .i64 0, .int .i64 (mk + 1000 + 1)] rfl (by rfl) (Ap _ [.int .i64 (mk + 1000), .int .i64 0, .int .i64 (mk + 1000), .int .i64 (mk + 1000 + 1), .int .i64 0, .int .i64 (mk + 1000 + 1)] _ _ (Ci _ _ _).symm) (by simp [Value.oneCell']) (by decide) (by simp [maxLen]; omega) (by omega) ?_))
 intro g2 cap2 v2 hown2 hgrow2 hor2 hold2
 have hMa2 := (hM1.alloc _).appD hgrow2 hold2 hown2
 clear hM1 hown2 hgrow2 hor2 hold2
 have hM2 := hMa2.setI 2 (.slice (some ⟨g2, 0, none⟩) (n3 + 2) cap2)
 have u2a : v2.cell? ⟨w2.heap.size, 2, none⟩ = some (.slice none 0 0) := hMa2.I.cell 2
 have u2b := hMa2.I.frozen 2
 have u2c : v2.cell? ⟨w.heap.size, 8, none⟩ = some (.slice ea n4 ec) := hMa2.X.cell 8
 have u2d := hMa2.I.lt
 have u2e := hMa2.X.lt
 clear hMa2
 go_wp2_with (at_builtin; go_loud (refine Ak rfl (.tmp 74) (.tmp 83) 87 rfl 125 i4 _ 4 32 Tryz.underlying87 hi4 hz40 hz41 hz42 rfl (by decide) base _ n4 _ rfl (hM2.alloc _).e (Nat.le_trans hbase (hM2.alloc _).fr.size) ⟨_, 0, none⟩ 2 2 [.int .i64 (mk + 1000), .int .i64 0, .int .i64 0, .int .i64 (mk + 1000), .int .i64 (mk + 1000 + 1), .int .i64 0, .int .i64 0, .int .i64 (mk + 1000 + 1)] rfl (by rfl) (Ap _ [.int .i64 (mk + 1000), .int .i64 0, .int .i64 0, .int .i64 (mk + 1000), .int .i64 (mk + 1000 + 1), .int .i64 0, .int .i64 0, .int .i64 (mk + 1000 + 1)] _ _ (Ci _ _ _).symm) (by simp [Value.oneCell']) (by decide) (by simp [maxLen]; omega) (by omega) ?_))
 intro g3 cap3 v3 hown3 hgrow3 hor3 hold3
 have hMa3 := (hM2.alloc _).appE hgrow3 hold3 hown3
 clear hM2 hown3 hgrow3 hor3 hold3
 have hM3 := hMa3.setI 3 (.slice (some ⟨g3, 0, none⟩) (n4 + 2) cap3)
 have u3a : v3.cell? ⟨w2.heap.size, 3, none⟩ = some (.slice none 0 0) := hMa3.I.cell 3
 have u3b := hMa3.I.frozen 3
 have u3d := hMa3.I.lt
 have u3e := hMa3.X.lt
 have hc0 : v3.cell? ⟨w.heap.size + 1, 0, none⟩ = some (.slice ba n1 bc) := hMa3.H.cell 0
 have ic0 : v3.cell? ⟨w2.heap.size, 0, none⟩ = some (.slice (some ⟨g0, 0, none⟩) (n1 + 2) cap0) := hMa3.I.cell 0
 have hc1 : v3.cell? ⟨w.heap.size + 1, 1, none⟩ = some (.slice va n2 vc) := hMa3.H.cell 1
 have ic1 : v3.cell? ⟨w2.heap.size, 1, none⟩ = some (.slice (some ⟨g1, 0, none⟩) (n2 + 2) cap1) := hMa3.I.cell 1
 have hc2 : v3.cell? ⟨w.heap.size + 1, 2, none⟩ = some (.slice da n3 dc) := hMa3.H.cell 2
 have ic2 : v3.cell? ⟨w2.heap.size, 2, none⟩ = some (.slice (some ⟨g2, 0, none⟩) (n3 + 2) cap2) := hMa3.I.cell 2
 have hc3 : v3.cell? ⟨w.heap.size + 1, 3, none⟩ = some (.slice ea n4 ec) := hMa3.H.cell 3
 have hc4 : v3.cell? ⟨w.heap.size + 1, 4, none⟩ = some (.int .i64 mk) := hMa3.H.cell 4
 have ic4 : v3.cell? ⟨w2.heap.size, 4, none⟩ = some (.int .i64 mk) := hMa3.I.cell 4
 have hc5 : v3.cell? ⟨w.heap.size + 1, 5, none⟩ = some (.int .i64 0) := hMa3.H.cell 5
 have ic5 : v3.cell? ⟨w2.heap.size, 5, none⟩ = some (.int .i64 (mk + 1000)) := hMa3.I.cell 5
 have ec3 : v3.cell? ⟨ge, 3, none⟩ = some hv0 := hMa3.E.cell 3
 have ec4 : v3.cell? ⟨ge, 4, none⟩ = some (.int .i64 (mk + 1000)) := hMa3.E.cell 4
 have ef4 := hMa3.E.frozen 4
 have ef3 := hMa3.E.frozen 3
 have el := hMa3.E.lt
 have hl := hMa3.H.lt
 clear hMa3
 have hM4 := hM3.setE 4 (.int .i64 (mk + 1000 + 1000))
 clear hM3
 go_wp2_with fail
 go_region_law (refine AU rfl (.tmp 97) (.tmp 100) 52 rfl 96 i5 _ 6 112 Tryz.underlying52 hi5 hz50 hz51 hz52 rfl (by decide) 0 hv0 nh hcs (by first | rfl | simp [Act.eval]) (hM4.alloc _).held (Nat.zero_le _) ⟨_, 0, none⟩ 2 2 [.slice ba n1 bc, .slice va n2 vc, .slice da n3 dc, .slice ea n4 ec, .int .i64 mk, .int .i64 0, .slice (some ⟨g0, 0, none⟩) (n1 + 2) cap0, .slice (some ⟨g1, 0, none⟩) (n2 + 2) cap1, .slice (some ⟨g2, 0, none⟩) (n3 + 2) cap2, .slice (some ⟨g3, 0, none⟩) (n4 + 2) cap3, .int .i64 mk, .int .i64 (mk + 1000)] (by first | rfl | simp [Act.eval]) (by rfl) (Ap _ [.slice ba n1 bc, .slice va n2 vc, .slice da n3 dc, .slice ea n4 ec, .int .i64 mk, .int .i64 0, .slice (some ⟨g0, 0, none⟩) (n1 + 2) cap0, .slice (some ⟨g1, 0, none⟩) (n2 + 2) cap1, .slice (some ⟨g2, 0, none⟩) (n3 + 2) cap2, .slice (some ⟨g3, 0, none⟩) (n4 + 2) cap3, .int .i64 mk, .int .i64 (mk + 1000)] _ _ (by simp only [Ci])) (by simp [Value.oneCell']) (by decide) (by simp [maxLen]; omega) (by omega) ?_; intro g5 cap5 v5 hown5 hgrow5 hor5 hold5)
 all_goals
  obtain ⟨hE5, hP⟩ := O4 (hM4.alloc _).drew hgrow5 hown5 hor5 m1 m2 l1 l2 l3 l4
  have HP := Hd hP
  have e3 : v5.cell? ⟨ge, 3, none⟩ = some hv0 := hE5.cell 3
  have ef := hE5.frozen 3
  clear hP hE5 hM4 hown5 hgrow5 hold5
  go_wp2
  go_end0
  exact ⟨rfl, HP.out⟩
end Go.Proofs.YtohjjgefklhmaaaGreatDoor
