import Derived.Test.YtkdekfmblpkecaaNew
namespace Go.Proofs.Ytkdekfmblpkecaa
open Go.ChangeShapes Go.WideShapes Go.ChangeAt Go.RowKit
set_option linter.unusedVariables false

/-- a delegation, an entry, as See tells them -/
structure DS where
  who : Int
  val : Int
  shares : Int
structure ES where
  who : Int
  val : Int
  made : Int
  amount : Int
def DS.cells (d : DS) : List Value := [.int .i64 d.who, .int .i64 d.val, .int .i64 d.shares]
def ES.cells (d : ES) : List Value := [.int .i64 d.who, .int .i64 d.val, .int .i64 d.made, .int .i64 d.amount]
def drow : List DS → List Value
  | [] => []
  | v :: l => v.cells ++ drow l
def erow : List ES → List Value
  | [] => []
  | v :: l => v.cells ++ erow l
/-- all that See tells -/
structure ViewS where
  height : Int
  bal : List Int
  fees : Int
  pool : Int
  bonded : Int
  loose : Int
  vals : List VS
  dels : List DS
  ents : List ES

/-- what See hands out -/
def SeePost (w w' : World) (e : Ending) (S : ViewS) : Prop :=
  ∃ bv vv dv ev, e = .returned (.agg #[.int .i64 S.height, bv, .int .i64 S.fees, .int .i64 S.pool, .int .i64 S.bonded, .int .i64 S.loose, vv, dv, ev]) ∧
    w'.ownsRow w.heap.size 3 1 bv S.bal.length (ints S.bal) ∧ w'.ownsRow w.heap.size 47 8 vv S.vals.length (vrow S.vals) ∧
    w'.ownsRow w.heap.size 75 3 dv S.dels.length (drow S.dels) ∧ w'.ownsRow w.heap.size 52 4 ev S.ents.length (erow S.ents) ∧ Below w.heap.size w w'

end Go.Proofs.Ytkdekfmblpkecaa
