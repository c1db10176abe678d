/-
  No cell of these rows narrows 'for every input' (looked for: loops, veiled, ifaces, maps, wideKeys, modest, calm, conditions, laid).
  DERIVED. THE GIVEN ROWS OF THIS SEAT. 5 by the template 'for every input the law returns true; each argument reads behind the call as it read before'; 0 by the template 'total and deterministic' (their statements: YtenjjneobkodbaaGreatTotals.lean).
  GIVEN WITH THE SEED: the statements are not yours to turn. If you find one false, say at which input.
  Laid BY PROGRAM, IN A SANDBOX (cutbox-rows.mjs): the forced cells as the released guide's own fill.sh prints them over the translation 5c38198d9d8b5cc3… (all of the seat's roots in one cut). By AI agents, Wed Nov 11 2026. No macro, syntax, notation, axiom, sorry.
-/
import Derived.Test.YtenjjneobkodbaaGreatChecked
import GoSem.Claim
import GoSem.ClaimJoined
import GoSem.ClaimMapViews
import Derived.JoinedTies
import Derived.KernelRfl
namespace Go.Proofs.YtenjjneobkodbaaGreat
/- THE CELL 'sum', in the pinned program and in every row, IS THE sha256 OF THE DUMP (.gsa) THAT YtenjjneobkodbaaGreatProg.lean LOADS. Nothing in Lean hashes anything: it is a label: what it is worth is what the hold of that sum in a sandbox is worth. -/
noncomputable def Tryz.pinned : Pinned := { name := "ytenjjneobkodbaagreat", sum := "5c38198d9d8b5cc3fb5a19c2f42c778f0a9d90b6a770c409ed5f63285f1e46e9", checked := Tryz.checked }
namespace Rows
def none {H : Type} : Left H := { results := [], args := [] }

/-- 'stakinglaw.Begins': WHATEVER THE INPUT: true; the input reads as it did. -/
def beginsSpec : ChangeSpec := { name := "begins", fn := fun _ => fun
  | [d] => { results := [.lit (.bool true)], args := [d] }
  | _ => none }
def beginsRow : OpenClaim := { program := "ytenjjneobkodbaagreat", sum := "5c38198d9d8b5cc3fb5a19c2f42c778f0a9d90b6a770c409ed5f63285f1e46e9", func := "staking/stakinglaw.Begins", spec := "begins", apart := false }
def BeginsSaid : Prop := beginsRow.holds Tryz.pinned (OpenSpec.ofChange beginsSpec)

/-- ITS FALSE NEIGHBOUR: 'it returns false'. Refute it at one input. -/
def beginsWrong : ChangeSpec := { name := "begins", fn := fun _ => fun
  | [d] => { results := [.lit (.bool false)], args := [d] }
  | _ => none }
def BeginsWrongFalsely : Prop := beginsRow.holds Tryz.pinned (OpenSpec.ofChange beginsWrong)

/-- 'stakinglaw.Sends': WHATEVER THE INPUT: true; the input reads as it did. -/
def sendsSpec : ChangeSpec := { name := "sends", fn := fun _ => fun
  | [d] => { results := [.lit (.bool true)], args := [d] }
  | _ => none }
def sendsRow : OpenClaim := { program := "ytenjjneobkodbaagreat", sum := "5c38198d9d8b5cc3fb5a19c2f42c778f0a9d90b6a770c409ed5f63285f1e46e9", func := "staking/stakinglaw.Sends", spec := "sends", apart := false }
def SendsSaid : Prop := sendsRow.holds Tryz.pinned (OpenSpec.ofChange sendsSpec)

/-- ITS FALSE NEIGHBOUR: 'it returns false'. Refute it at one input. -/
def sendsWrong : ChangeSpec := { name := "sends", fn := fun _ => fun
  | [d] => { results := [.lit (.bool false)], args := [d] }
  | _ => none }
def SendsWrongFalsely : Prop := sendsRow.holds Tryz.pinned (OpenSpec.ofChange sendsWrong)

/-- 'stakinglaw.Bonds': WHATEVER THE INPUT: true; the input reads as it did. -/
def bondsSpec : ChangeSpec := { name := "bonds", fn := fun _ => fun
  | [d] => { results := [.lit (.bool true)], args := [d] }
  | _ => none }
def bondsRow : OpenClaim := { program := "ytenjjneobkodbaagreat", sum := "5c38198d9d8b5cc3fb5a19c2f42c778f0a9d90b6a770c409ed5f63285f1e46e9", func := "staking/stakinglaw.Bonds", spec := "bonds", apart := false }
def BondsSaid : Prop := bondsRow.holds Tryz.pinned (OpenSpec.ofChange bondsSpec)

/-- ITS FALSE NEIGHBOUR: 'it returns false'. Refute it at one input. -/
def bondsWrong : ChangeSpec := { name := "bonds", fn := fun _ => fun
  | [d] => { results := [.lit (.bool false)], args := [d] }
  | _ => none }
def BondsWrongFalsely : Prop := bondsRow.holds Tryz.pinned (OpenSpec.ofChange bondsWrong)

/-- 'stakinglaw.Pays': WHATEVER THE INPUT: true; the input reads as it did. -/
def paysSpec : ChangeSpec := { name := "pays", fn := fun _ => fun
  | [d] => { results := [.lit (.bool true)], args := [d] }
  | _ => none }
def paysRow : OpenClaim := { program := "ytenjjneobkodbaagreat", sum := "5c38198d9d8b5cc3fb5a19c2f42c778f0a9d90b6a770c409ed5f63285f1e46e9", func := "staking/stakinglaw.Pays", spec := "pays", apart := false }
def PaysSaid : Prop := paysRow.holds Tryz.pinned (OpenSpec.ofChange paysSpec)

/-- ITS FALSE NEIGHBOUR: 'it returns false'. Refute it at one input. -/
def paysWrong : ChangeSpec := { name := "pays", fn := fun _ => fun
  | [d] => { results := [.lit (.bool false)], args := [d] }
  | _ => none }
def PaysWrongFalsely : Prop := paysRow.holds Tryz.pinned (OpenSpec.ofChange paysWrong)

/-- 'stakinglaw.Slashes': WHATEVER THE INPUT: true; the input reads as it did. -/
def slashesSpec : ChangeSpec := { name := "slashes", fn := fun _ => fun
  | [d] => { results := [.lit (.bool true)], args := [d] }
  | _ => none }
def slashesRow : OpenClaim := { program := "ytenjjneobkodbaagreat", sum := "5c38198d9d8b5cc3fb5a19c2f42c778f0a9d90b6a770c409ed5f63285f1e46e9", func := "staking/stakinglaw.Slashes", spec := "slashes", apart := false }
def SlashesSaid : Prop := slashesRow.holds Tryz.pinned (OpenSpec.ofChange slashesSpec)

/-- ITS FALSE NEIGHBOUR: 'it returns false'. Refute it at one input. -/
def slashesWrong : ChangeSpec := { name := "slashes", fn := fun _ => fun
  | [d] => { results := [.lit (.bool false)], args := [d] }
  | _ => none }
def SlashesWrongFalsely : Prop := slashesRow.holds Tryz.pinned (OpenSpec.ofChange slashesWrong)

/- THE SECOND FORM. 'bulk': how many values and letters a reading holds, each counted each time it is reached (what is shared counts as often as it is met; a slice's spare places count too). A statement '..UptoSaid' is the law's where the arguments, and the package variables that the reading takes, are together of bulk at most 1048576: NARROWER than '..Said'. Prove '..Said' where nothing that the law and all that it calls make is longer than what came in: it says more and counts as full. Else prove '..UptoSaid'. A law counts once. -/
mutual
def uptoBulk {H : Type} : DataW H → Nat
  | .lit (.string bytes) => bytes.length + 1
  | .lit _ => 1
  | .nil => 1
  | .ptr d => uptoBulk d + 1
  | .slice elems spare => uptoBulkAll elems + uptoBulkAll spare + 1
  | .agg parts => uptoBulkAll parts + 1
  | .iface _ d => uptoBulk d + 1
  | .map entries => uptoBulkEntries entries + 1
  | .held _ => 1
def uptoBulkAll {H : Type} : List (DataW H) → Nat
  | [] => 0
  | d :: r => uptoBulk d + uptoBulkAll r
def uptoBulkEntries {H : Type} : List (Lit × DataW H) → Nat
  | [] => 0
  | x :: r => uptoBulkEntry x + uptoBulkEntries r
def uptoBulkEntry {H : Type} : Lit × DataW H → Nat
  | (.string bytes, d) => bytes.length + uptoBulk d + 1
  | (_, d) => uptoBulk d + 1
 end
def uptoSmall : (H : Type) → List (DataW H) → Bool := fun _ ds => decide (uptoBulkAll ds ≤ 1048576)
def OpenSpec.upto (s : _root_.Go.ChangeSpec) : _root_.Go.OpenSpec := { _root_.Go.OpenSpec.ofChange s with cond := some uptoSmall }

/-- 'stakinglaw.Begins', WHERE WHAT IT READS IS OF BULK AT MOST 1048576: true; the input reads as it did. -/
def beginsUptoRow : OpenClaim := { program := "ytenjjneobkodbaagreat", sum := "5c38198d9d8b5cc3fb5a19c2f42c778f0a9d90b6a770c409ed5f63285f1e46e9", func := "staking/stakinglaw.Begins", spec := "begins", apart := false, narrowed := true }
def BeginsUptoSaid : Prop := beginsUptoRow.holds Tryz.pinned (OpenSpec.upto beginsSpec)

/-- 'stakinglaw.Sends', WHERE WHAT IT READS IS OF BULK AT MOST 1048576: true; the input reads as it did. -/
def sendsUptoRow : OpenClaim := { program := "ytenjjneobkodbaagreat", sum := "5c38198d9d8b5cc3fb5a19c2f42c778f0a9d90b6a770c409ed5f63285f1e46e9", func := "staking/stakinglaw.Sends", spec := "sends", apart := false, narrowed := true }
def SendsUptoSaid : Prop := sendsUptoRow.holds Tryz.pinned (OpenSpec.upto sendsSpec)

/-- 'stakinglaw.Bonds', WHERE WHAT IT READS IS OF BULK AT MOST 1048576: true; the input reads as it did. -/
def bondsUptoRow : OpenClaim := { program := "ytenjjneobkodbaagreat", sum := "5c38198d9d8b5cc3fb5a19c2f42c778f0a9d90b6a770c409ed5f63285f1e46e9", func := "staking/stakinglaw.Bonds", spec := "bonds", apart := false, narrowed := true }
def BondsUptoSaid : Prop := bondsUptoRow.holds Tryz.pinned (OpenSpec.upto bondsSpec)

/-- 'stakinglaw.Pays', WHERE WHAT IT READS IS OF BULK AT MOST 1048576: true; the input reads as it did. -/
def paysUptoRow : OpenClaim := { program := "ytenjjneobkodbaagreat", sum := "5c38198d9d8b5cc3fb5a19c2f42c778f0a9d90b6a770c409ed5f63285f1e46e9", func := "staking/stakinglaw.Pays", spec := "pays", apart := false, narrowed := true }
def PaysUptoSaid : Prop := paysUptoRow.holds Tryz.pinned (OpenSpec.upto paysSpec)

/-- 'stakinglaw.Slashes', WHERE WHAT IT READS IS OF BULK AT MOST 1048576: true; the input reads as it did. -/
def slashesUptoRow : OpenClaim := { program := "ytenjjneobkodbaagreat", sum := "5c38198d9d8b5cc3fb5a19c2f42c778f0a9d90b6a770c409ed5f63285f1e46e9", func := "staking/stakinglaw.Slashes", spec := "slashes", apart := false, narrowed := true }
def SlashesUptoSaid : Prop := slashesUptoRow.holds Tryz.pinned (OpenSpec.upto slashesSpec)

end Rows
end Go.Proofs.YtenjjneobkodbaaGreat
