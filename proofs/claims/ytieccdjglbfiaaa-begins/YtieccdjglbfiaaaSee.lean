import Derived.Test.YtieccdjglbfiaaaBegin
namespace Go.Proofs.Ytieccdjglbfiaaa
open Go.ChangeShapes Go.WideShapes Go.ChangeAt Go.RowKit
set_option linter.unusedVariables false

/-- a delegation, an entry, as See tells them -/
structure DS where
  who : Int
  val : Int
  shares : Int
structure ES where
  who : Int
  val : Int
  made : Int
  amount : Int
def DS.cells (d : DS) : List Value := [.int .i64 d.who, .int .i64 d.val, .int .i64 d.shares]
def ES.cells (d : ES) : List Value := [.int .i64 d.who, .int .i64 d.val, .int .i64 d.made, .int .i64 d.amount]
def drow : List DS → List Value
  | [] => []
  | v :: l => v.cells ++ drow l
def erow : List ES → List Value
  | [] => []
  | v :: l => v.cells ++ erow l
/-- all that See tells -/
structure ViewS where
  height : Int
  bal : List Int
  fees : Int
  pool : Int
  bonded : Int
  loose : Int
  vals : List VS
  dels : List DS
  ents : List ES

/-- what See hands out -/
def SeePost (w w' : World) (e : Ending) (S : ViewS) : Prop :=
  ∃ bv vv dv ev, e = .returned (.agg #[.int .i64 S.height, bv, .int .i64 S.fees, .int .i64 S.pool, .int .i64 S.bonded, .int .i64 S.loose, vv, dv, ev]) ∧
    w'.ownsRow w.heap.size 3 1 bv S.bal.length (ints S.bal) ∧ w'.ownsRow w.heap.size 62 8 vv S.vals.length (vrow S.vals) ∧
    w'.ownsRow w.heap.size 114 3 dv S.dels.length (drow S.dels) ∧ w'.ownsRow w.heap.size 116 4 ev S.ents.length (erow S.ents) ∧ Below w.heap.size w w'

/-- an engine in memory -/
def EngAt (w : World) (g : Nat) (fee : Int) (S : ViewS) : Prop :=
  ∃ bv vv, Has w g 46 [.int .i64 fee, .int .i64 S.height, bv, .int .i64 S.fees, .int .i64 S.pool, vv] ∧
    w.ownsRow 0 3 1 bv S.bal.length (ints S.bal) ∧ w.ownsRow 0 62 8 vv S.vals.length (vrow S.vals) ∧ S.dels = [] ∧ S.ents = [] ∧ S.bonded = 0 ∧ S.loose = 0

set_option maxHeartbeats 2000000 in
set_option maxRecDepth 100000 in
theorem see_any (g : Nat) (fee : Int) (S : ViewS) (w : World) (hE : EngAt w g fee S) (l1 : S.bal.length ≤ 1048576) (l2 : S.vals.length ≤ 1048576) :
    Calls Try.prog 52 #[.pointer (some ⟨g, 0, none⟩)] w fun e w' => SeePost w w' e S := by
  obtain ⟨height, bal, fees, pool, bonded, loose, vals, dels, ents⟩ := S
  obtain ⟨bv, vv, hH, hb, hv, hd, he, hbo, hlo⟩ := hE
  simp only at hH hb hv hd he hbo hlo l1 l2
  subst hd he hbo hlo
  obtain ⟨ba, bc, rfl⟩ := ownsRow_slice hb
  obtain ⟨va, vc, rfl⟩ := ownsRow_slice hv
  have c1 := hH.cell 1
  have c2 := hH.cell 2
  have c3 := hH.cell 3
  have c4 := hH.cell 4
  have c5 := hH.cell 5
  simp only [List.getElem?_cons_succ, List.getElem?_cons_zero] at c1 c2 c3 c4 c5
  have hlt := hH.lt
  have hlt1 : g < w.heap.size + 1 := by omega
  have hlt2 : g < w.heap.size + 1 + 1 := by omega
  go_enter Try.func52, Try.ntmps52
  go_wp2_with fail
  go_region
  go_wp2_with fail
  refine (copyNumbers_any _ bal _ (((Rd.of_owns hb).ints).below (B := w.heap.size) (((Below.refl _ _).alloc (Nat.le_refl _) _).alloc (by simp) _).drew (Nat.le_refl _)) l1).mono ?_
  rintro e w1 ⟨rfl, rfl⟩
  go_wp2_with fail
  refine (copyValidators_any _ vals.length (vrow vals) _ ((Rd.of_owns hv).below (B := w.heap.size) ((((Below.refl _ _).alloc (Nat.le_refl _) _).alloc (by simp) _).alloc (by simp; omega) _).drew (Nat.le_refl _)) l2 (vrow_one _)).mono ?_
  rintro e w1 ⟨rfl, rfl⟩
  go_wp2
  refine bodyPost_ret (v := .agg #[.int .i64 height, .slice (some ⟨w.heap.size + 1 + 1, 0, none⟩) bal.length bal.length, .int .i64 fees, .int .i64 pool, .int .i64 0, .int .i64 0, .slice (some ⟨w.heap.size + 1 + 1 + 1, 0, none⟩) vals.length vals.length, .slice none 0 0, .slice none 0 0]) (by simp [results, Try.results52, go_sem]) rfl ?_
  refine ⟨_, _, _, _, rfl, ?_, ?_, World.ownsRow_nil _ _ _ _, World.ownsRow_nil _ _ _ _, ?_⟩
  · have h := (ownsRow_new ((w.alloc (.cells #[.int .i64 height, .slice (some ⟨w.heap.size + 1 + 1, 0, none⟩) bal.length bal.length, .int .i64 fees, .int .i64 pool, .int .i64 0, .int .i64 0, .slice (some ⟨w.heap.size + 1 + 1 + 1, 0, none⟩) vals.length vals.length, .slice none 0 0, .slice none 0 0] 98)).alloc (.cells #[.int .i64 height, .slice (some ⟨w.heap.size + 1 + 1, 0, none⟩) bal.length bal.length, .int .i64 fees, .int .i64 pool, .int .i64 0, .int .i64 0, .slice (some ⟨w.heap.size + 1 + 1 + 1, 0, none⟩) vals.length vals.length, .slice none 0 0, .slice none 0 0] 98)) 3 1 bal.length (ints bal) (by simp [ints]) (by simp [maxLen]; omega)).alloc (.cells (vrow vals).toArray 62)
    simp only [World.size_alloc] at h
    exact ownsRow_base h (by omega)
  · have h := ownsRow_new (((w.alloc (.cells #[.int .i64 height, .slice (some ⟨w.heap.size + 1 + 1, 0, none⟩) bal.length bal.length, .int .i64 fees, .int .i64 pool, .int .i64 0, .int .i64 0, .slice (some ⟨w.heap.size + 1 + 1 + 1, 0, none⟩) vals.length vals.length, .slice none 0 0, .slice none 0 0] 98)).alloc (.cells #[.int .i64 height, .slice (some ⟨w.heap.size + 1 + 1, 0, none⟩) bal.length bal.length, .int .i64 fees, .int .i64 pool, .int .i64 0, .int .i64 0, .slice (some ⟨w.heap.size + 1 + 1 + 1, 0, none⟩) vals.length vals.length, .slice none 0 0, .slice none 0 0] 98)).alloc (.cells (ints bal).toArray 3)) 62 8 vals.length (vrow vals) (vrow_length _) (by simp [maxLen]; omega)
    simp only [World.size_alloc] at h
    exact ownsRow_base h (by omega)
  · exact ((((((Below.refl _ _).alloc (Nat.le_refl _) _).alloc (by simp) _).alloc (by simp; omega) _).alloc (by simp; omega) _).drew)
end Go.Proofs.Ytieccdjglbfiaaa
