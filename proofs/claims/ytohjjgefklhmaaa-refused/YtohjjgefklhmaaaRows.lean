/-
  No cell of these rows narrows 'for every input' (looked for: loops, veiled, ifaces, maps, wideKeys, modest, calm, conditions, laid).
  DERIVED. THE GIVEN ROWS OF THIS SEAT. 6 by the template 'for every input the law returns true; each argument reads behind the call as it read before'; 0 by the template 'total and deterministic' (their statements: YtohjjgefklhmaaaTotals.lean).
  GIVEN WITH THE SEED: the statements are not yours to turn. If you find one false, say at which input.
  Laid BY PROGRAM, IN A SANDBOX (cutbox-rows.mjs): the forced cells as the released guide's own fill.sh prints them over the translation acd362da59ddd0ff… (all of the seat's roots in one cut). By AI agents, Wed Nov 11 2026. No macro, syntax, notation, axiom, sorry.
-/
import Derived.Test.YtohjjgefklhmaaaChecked
import GoSem.Claim
import GoSem.ClaimJoined
import GoSem.ClaimMapViews
import Derived.JoinedTies
import Derived.KernelRfl
namespace Go.Proofs.Ytohjjgefklhmaaa
/- THE CELL 'sum', in the pinned program and in every row, IS THE sha256 OF THE DUMP (.gsa) THAT YtohjjgefklhmaaaProg.lean LOADS. Nothing in Lean hashes anything: it is a label: what it is worth is what the hold of that sum in a sandbox is worth. -/
noncomputable def Try.pinned : Pinned := { name := "ytohjjgefklhmaaa", sum := "acd362da59ddd0ff7080339e1dc5b5a45790db075a6de6d0c18c74dd215e7d72", checked := Try.checked }
namespace Rows
def none {H : Type} : Left H := { results := [], args := [] }

/-- 'stakingkeep.Whole': WHATEVER THE INPUT: true; the input reads as it did. -/
def wholeSpec : ChangeSpec := { name := "whole", fn := fun _ => fun
  | [d1, d2] => { results := [.lit (.bool true)], args := [d1, d2] }
  | _ => none }
def wholeRow : OpenClaim := { program := "ytohjjgefklhmaaa", sum := "acd362da59ddd0ff7080339e1dc5b5a45790db075a6de6d0c18c74dd215e7d72", func := "staking/stakingkeep.Whole", spec := "whole", apart := false }
def WholeSaid : Prop := wholeRow.holds Try.pinned (OpenSpec.ofChange wholeSpec)

/-- ITS FALSE NEIGHBOUR: 'it returns false'. Refute it at one input. -/
def wholeWrong : ChangeSpec := { name := "whole", fn := fun _ => fun
  | [d1, d2] => { results := [.lit (.bool false)], args := [d1, d2] }
  | _ => none }
def WholeWrongFalsely : Prop := wholeRow.holds Try.pinned (OpenSpec.ofChange wholeWrong)

/-- 'stakingkeep.Books': WHATEVER THE INPUT: true; the input reads as it did. -/
def booksSpec : ChangeSpec := { name := "books", fn := fun _ => fun
  | [d1, d2] => { results := [.lit (.bool true)], args := [d1, d2] }
  | _ => none }
def booksRow : OpenClaim := { program := "ytohjjgefklhmaaa", sum := "acd362da59ddd0ff7080339e1dc5b5a45790db075a6de6d0c18c74dd215e7d72", func := "staking/stakingkeep.Books", spec := "books", apart := false }
def BooksSaid : Prop := booksRow.holds Try.pinned (OpenSpec.ofChange booksSpec)

/-- ITS FALSE NEIGHBOUR: 'it returns false'. Refute it at one input. -/
def booksWrong : ChangeSpec := { name := "books", fn := fun _ => fun
  | [d1, d2] => { results := [.lit (.bool false)], args := [d1, d2] }
  | _ => none }
def BooksWrongFalsely : Prop := booksRow.holds Try.pinned (OpenSpec.ofChange booksWrong)

/-- 'stakingkeep.Refused': WHATEVER THE INPUT: true; the input reads as it did. -/
def refusedSpec : ChangeSpec := { name := "refused", fn := fun _ => fun
  | [d1, d2] => { results := [.lit (.bool true)], args := [d1, d2] }
  | _ => none }
def refusedRow : OpenClaim := { program := "ytohjjgefklhmaaa", sum := "acd362da59ddd0ff7080339e1dc5b5a45790db075a6de6d0c18c74dd215e7d72", func := "staking/stakingkeep.Refused", spec := "refused", apart := false }
def RefusedSaid : Prop := refusedRow.holds Try.pinned (OpenSpec.ofChange refusedSpec)

/-- ITS FALSE NEIGHBOUR: 'it returns false'. Refute it at one input. -/
def refusedWrong : ChangeSpec := { name := "refused", fn := fun _ => fun
  | [d1, d2] => { results := [.lit (.bool false)], args := [d1, d2] }
  | _ => none }
def RefusedWrongFalsely : Prop := refusedRow.holds Try.pinned (OpenSpec.ofChange refusedWrong)

/-- 'stakingkeep.Set': WHATEVER THE INPUT: true; the input reads as it did. -/
def setSpec : ChangeSpec := { name := "set", fn := fun _ => fun
  | [d1, d2] => { results := [.lit (.bool true)], args := [d1, d2] }
  | _ => none }
def setRow : OpenClaim := { program := "ytohjjgefklhmaaa", sum := "acd362da59ddd0ff7080339e1dc5b5a45790db075a6de6d0c18c74dd215e7d72", func := "staking/stakingkeep.Set", spec := "set", apart := false }
def SetSaid : Prop := setRow.holds Try.pinned (OpenSpec.ofChange setSpec)

/-- ITS FALSE NEIGHBOUR: 'it returns false'. Refute it at one input. -/
def setWrong : ChangeSpec := { name := "set", fn := fun _ => fun
  | [d1, d2] => { results := [.lit (.bool false)], args := [d1, d2] }
  | _ => none }
def SetWrongFalsely : Prop := setRow.holds Try.pinned (OpenSpec.ofChange setWrong)

/-- 'stakingkeep.Back': WHATEVER THE INPUT: true; the input reads as it did. -/
def backSpec : ChangeSpec := { name := "back", fn := fun _ => fun
  | [d1, d2] => { results := [.lit (.bool true)], args := [d1, d2] }
  | _ => none }
def backRow : OpenClaim := { program := "ytohjjgefklhmaaa", sum := "acd362da59ddd0ff7080339e1dc5b5a45790db075a6de6d0c18c74dd215e7d72", func := "staking/stakingkeep.Back", spec := "back", apart := false }
def BackSaid : Prop := backRow.holds Try.pinned (OpenSpec.ofChange backSpec)

/-- ITS FALSE NEIGHBOUR: 'it returns false'. Refute it at one input. -/
def backWrong : ChangeSpec := { name := "back", fn := fun _ => fun
  | [d1, d2] => { results := [.lit (.bool false)], args := [d1, d2] }
  | _ => none }
def BackWrongFalsely : Prop := backRow.holds Try.pinned (OpenSpec.ofChange backWrong)

/-- 'stakingkeep.Often': WHATEVER THE INPUT: true; the input reads as it did. -/
def oftenSpec : ChangeSpec := { name := "often", fn := fun _ => fun
  | [d1, d2, d3] => { results := [.lit (.bool true)], args := [d1, d2, d3] }
  | _ => none }
def oftenRow : OpenClaim := { program := "ytohjjgefklhmaaa", sum := "acd362da59ddd0ff7080339e1dc5b5a45790db075a6de6d0c18c74dd215e7d72", func := "staking/stakingkeep.Often", spec := "often", apart := false }
def OftenSaid : Prop := oftenRow.holds Try.pinned (OpenSpec.ofChange oftenSpec)

/-- ITS FALSE NEIGHBOUR: 'it returns false'. Refute it at one input. -/
def oftenWrong : ChangeSpec := { name := "often", fn := fun _ => fun
  | [d1, d2, d3] => { results := [.lit (.bool false)], args := [d1, d2, d3] }
  | _ => none }
def OftenWrongFalsely : Prop := oftenRow.holds Try.pinned (OpenSpec.ofChange oftenWrong)

/- THE SECOND FORM. 'bulk': how many values and letters a reading holds, each counted each time it is reached (what is shared counts as often as it is met; a slice's spare places count too). A statement '..UptoSaid' is the law's where the arguments, and the package variables that the reading takes, are together of bulk at most 1048576: NARROWER than '..Said'. Prove '..Said' where nothing that the law and all that it calls make is longer than what came in: it says more and counts as full. Else prove '..UptoSaid'. A law counts once. -/
mutual
def uptoBulk {H : Type} : DataW H → Nat
  | .lit (.string bytes) => bytes.length + 1
  | .lit _ => 1
  | .nil => 1
  | .ptr d => uptoBulk d + 1
  | .slice elems spare => uptoBulkAll elems + uptoBulkAll spare + 1
  | .agg parts => uptoBulkAll parts + 1
  | .iface _ d => uptoBulk d + 1
  | .map entries => uptoBulkEntries entries + 1
  | .held _ => 1
def uptoBulkAll {H : Type} : List (DataW H) → Nat
  | [] => 0
  | d :: r => uptoBulk d + uptoBulkAll r
def uptoBulkEntries {H : Type} : List (Lit × DataW H) → Nat
  | [] => 0
  | x :: r => uptoBulkEntry x + uptoBulkEntries r
def uptoBulkEntry {H : Type} : Lit × DataW H → Nat
  | (.string bytes, d) => bytes.length + uptoBulk d + 1
  | (_, d) => uptoBulk d + 1
 end
def uptoSmall : (H : Type) → List (DataW H) → Bool := fun _ ds => decide (uptoBulkAll ds ≤ 1048576)
def OpenSpec.upto (s : _root_.Go.ChangeSpec) : _root_.Go.OpenSpec := { _root_.Go.OpenSpec.ofChange s with cond := some uptoSmall }

/-- 'stakingkeep.Whole', WHERE WHAT IT READS IS OF BULK AT MOST 1048576: true; the input reads as it did. -/
def wholeUptoRow : OpenClaim := { program := "ytohjjgefklhmaaa", sum := "acd362da59ddd0ff7080339e1dc5b5a45790db075a6de6d0c18c74dd215e7d72", func := "staking/stakingkeep.Whole", spec := "whole", apart := false, narrowed := true }
def WholeUptoSaid : Prop := wholeUptoRow.holds Try.pinned (OpenSpec.upto wholeSpec)

/-- 'stakingkeep.Books', WHERE WHAT IT READS IS OF BULK AT MOST 1048576: true; the input reads as it did. -/
def booksUptoRow : OpenClaim := { program := "ytohjjgefklhmaaa", sum := "acd362da59ddd0ff7080339e1dc5b5a45790db075a6de6d0c18c74dd215e7d72", func := "staking/stakingkeep.Books", spec := "books", apart := false, narrowed := true }
def BooksUptoSaid : Prop := booksUptoRow.holds Try.pinned (OpenSpec.upto booksSpec)

/-- 'stakingkeep.Refused', WHERE WHAT IT READS IS OF BULK AT MOST 1048576: true; the input reads as it did. -/
def refusedUptoRow : OpenClaim := { program := "ytohjjgefklhmaaa", sum := "acd362da59ddd0ff7080339e1dc5b5a45790db075a6de6d0c18c74dd215e7d72", func := "staking/stakingkeep.Refused", spec := "refused", apart := false, narrowed := true }
def RefusedUptoSaid : Prop := refusedUptoRow.holds Try.pinned (OpenSpec.upto refusedSpec)

/-- 'stakingkeep.Set', WHERE WHAT IT READS IS OF BULK AT MOST 1048576: true; the input reads as it did. -/
def setUptoRow : OpenClaim := { program := "ytohjjgefklhmaaa", sum := "acd362da59ddd0ff7080339e1dc5b5a45790db075a6de6d0c18c74dd215e7d72", func := "staking/stakingkeep.Set", spec := "set", apart := false, narrowed := true }
def SetUptoSaid : Prop := setUptoRow.holds Try.pinned (OpenSpec.upto setSpec)

/-- 'stakingkeep.Back', WHERE WHAT IT READS IS OF BULK AT MOST 1048576: true; the input reads as it did. -/
def backUptoRow : OpenClaim := { program := "ytohjjgefklhmaaa", sum := "acd362da59ddd0ff7080339e1dc5b5a45790db075a6de6d0c18c74dd215e7d72", func := "staking/stakingkeep.Back", spec := "back", apart := false, narrowed := true }
def BackUptoSaid : Prop := backUptoRow.holds Try.pinned (OpenSpec.upto backSpec)

/-- 'stakingkeep.Often', WHERE WHAT IT READS IS OF BULK AT MOST 1048576: true; the input reads as it did. -/
def oftenUptoRow : OpenClaim := { program := "ytohjjgefklhmaaa", sum := "acd362da59ddd0ff7080339e1dc5b5a45790db075a6de6d0c18c74dd215e7d72", func := "staking/stakingkeep.Often", spec := "often", apart := false, narrowed := true }
def OftenUptoSaid : Prop := oftenUptoRow.holds Try.pinned (OpenSpec.upto oftenSpec)

end Rows
end Go.Proofs.Ytohjjgefklhmaaa
