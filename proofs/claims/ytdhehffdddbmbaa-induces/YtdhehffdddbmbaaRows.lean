/-
  No cell of these rows narrows 'for every input' (looked for: loops, veiled, ifaces, maps, wideKeys, modest, calm, conditions, laid).
  DERIVED. THE GIVEN ROWS OF THIS SEAT. 12 by the template 'for every input the law returns true; each argument reads behind the call as it read before'; 0 by the template 'total and deterministic' (their statements: YtdhehffdddbmbaaTotals.lean).
  GIVEN WITH THE SEED: the statements are not yours to turn. If you find one false, say at which input.
  Laid BY PROGRAM, IN A SANDBOX (cutbox-rows.mjs): the forced cells as the released guide's own fill.sh prints them over the translation 066abc1bf8694fe6… (all of the seat's roots in one cut). By AI agents, Wed Nov 11 2026. No macro, syntax, notation, axiom, sorry.
-/
import Derived.Test.YtdhehffdddbmbaaChecked
import GoSem.Claim
import GoSem.ClaimJoined
import GoSem.ClaimMapViews
import Derived.JoinedTies
import Derived.KernelRfl
namespace Go.Proofs.Ytdhehffdddbmbaa
/- THE CELL 'sum', in the pinned program and in every row, IS THE sha256 OF THE DUMP (.gsa) THAT YtdhehffdddbmbaaProg.lean LOADS. Nothing in Lean hashes anything: it is a label: what it is worth is what the hold of that sum in a sandbox is worth. -/
noncomputable def Try.pinned : Pinned := { name := "ytdhehffdddbmbaa", sum := "066abc1bf8694fe6a52e4b86b80573b91c320d53f621333acd05b69975f054af", checked := Try.checked }
namespace Rows
def none {H : Type} : Left H := { results := [], args := [] }

/-- 'suffixeslaw.Scans': WHATEVER THE INPUT: true; the input reads as it did. -/
def scansSpec : ChangeSpec := { name := "scans", fn := fun _ => fun
  | [d1, d2] => { results := [.lit (.bool true)], args := [d1, d2] }
  | _ => none }
def scansRow : OpenClaim := { program := "ytdhehffdddbmbaa", sum := "066abc1bf8694fe6a52e4b86b80573b91c320d53f621333acd05b69975f054af", func := "suffixes/suffixeslaw.Scans", spec := "scans", apart := false }
def ScansSaid : Prop := scansRow.holds Try.pinned (OpenSpec.ofChange scansSpec)

/-- ITS FALSE NEIGHBOUR: 'it returns false'. Refute it at one input. -/
def scansWrong : ChangeSpec := { name := "scans", fn := fun _ => fun
  | [d1, d2] => { results := [.lit (.bool false)], args := [d1, d2] }
  | _ => none }
def ScansWrongFalsely : Prop := scansRow.holds Try.pinned (OpenSpec.ofChange scansWrong)

/-- 'suffixeslaw.Renames': WHATEVER THE INPUT: true; the input reads as it did. -/
def renamesSpec : ChangeSpec := { name := "renames", fn := fun _ => fun
  | [d1, d2] => { results := [.lit (.bool true)], args := [d1, d2] }
  | _ => none }
def renamesRow : OpenClaim := { program := "ytdhehffdddbmbaa", sum := "066abc1bf8694fe6a52e4b86b80573b91c320d53f621333acd05b69975f054af", func := "suffixes/suffixeslaw.Renames", spec := "renames", apart := false }
def RenamesSaid : Prop := renamesRow.holds Try.pinned (OpenSpec.ofChange renamesSpec)

/-- ITS FALSE NEIGHBOUR: 'it returns false'. Refute it at one input. -/
def renamesWrong : ChangeSpec := { name := "renames", fn := fun _ => fun
  | [d1, d2] => { results := [.lit (.bool false)], args := [d1, d2] }
  | _ => none }
def RenamesWrongFalsely : Prop := renamesRow.holds Try.pinned (OpenSpec.ofChange renamesWrong)

/-- 'suffixeslaw.Sides': WHATEVER THE INPUT: true; the input reads as it did. -/
def sidesSpec : ChangeSpec := { name := "sides", fn := fun _ => fun
  | [d1, d2] => { results := [.lit (.bool true)], args := [d1, d2] }
  | _ => none }
def sidesRow : OpenClaim := { program := "ytdhehffdddbmbaa", sum := "066abc1bf8694fe6a52e4b86b80573b91c320d53f621333acd05b69975f054af", func := "suffixes/suffixeslaw.Sides", spec := "sides", apart := false }
def SidesSaid : Prop := sidesRow.holds Try.pinned (OpenSpec.ofChange sidesSpec)

/-- ITS FALSE NEIGHBOUR: 'it returns false'. Refute it at one input. -/
def sidesWrong : ChangeSpec := { name := "sides", fn := fun _ => fun
  | [d1, d2] => { results := [.lit (.bool false)], args := [d1, d2] }
  | _ => none }
def SidesWrongFalsely : Prop := sidesRow.holds Try.pinned (OpenSpec.ofChange sidesWrong)

/-- 'suffixeslaw.Orders': WHATEVER THE INPUT: true; the input reads as it did. -/
def ordersSpec : ChangeSpec := { name := "orders", fn := fun _ => fun
  | [d1, d2] => { results := [.lit (.bool true)], args := [d1, d2] }
  | _ => none }
def ordersRow : OpenClaim := { program := "ytdhehffdddbmbaa", sum := "066abc1bf8694fe6a52e4b86b80573b91c320d53f621333acd05b69975f054af", func := "suffixes/suffixeslaw.Orders", spec := "orders", apart := false }
def OrdersSaid : Prop := ordersRow.holds Try.pinned (OpenSpec.ofChange ordersSpec)

/-- ITS FALSE NEIGHBOUR: 'it returns false'. Refute it at one input. -/
def ordersWrong : ChangeSpec := { name := "orders", fn := fun _ => fun
  | [d1, d2] => { results := [.lit (.bool false)], args := [d1, d2] }
  | _ => none }
def OrdersWrongFalsely : Prop := ordersRow.holds Try.pinned (OpenSpec.ofChange ordersWrong)

/-- 'suffixeslaw.Ranked': WHATEVER THE INPUT: true; the input reads as it did. -/
def rankedSpec : ChangeSpec := { name := "ranked", fn := fun _ => fun
  | [d1, d2, d3] => { results := [.lit (.bool true)], args := [d1, d2, d3] }
  | _ => none }
def rankedRow : OpenClaim := { program := "ytdhehffdddbmbaa", sum := "066abc1bf8694fe6a52e4b86b80573b91c320d53f621333acd05b69975f054af", func := "suffixes/suffixeslaw.Ranked", spec := "ranked", apart := false }
def RankedSaid : Prop := rankedRow.holds Try.pinned (OpenSpec.ofChange rankedSpec)

/-- ITS FALSE NEIGHBOUR: 'it returns false'. Refute it at one input. -/
def rankedWrong : ChangeSpec := { name := "ranked", fn := fun _ => fun
  | [d1, d2, d3] => { results := [.lit (.bool false)], args := [d1, d2, d3] }
  | _ => none }
def RankedWrongFalsely : Prop := rankedRow.holds Try.pinned (OpenSpec.ofChange rankedWrong)

/-- 'suffixeslaw.Doubles': WHATEVER THE INPUT: true; the input reads as it did. -/
def doublesSpec : ChangeSpec := { name := "doubles", fn := fun _ => fun
  | [d1, d2, d3, d4] => { results := [.lit (.bool true)], args := [d1, d2, d3, d4] }
  | _ => none }
def doublesRow : OpenClaim := { program := "ytdhehffdddbmbaa", sum := "066abc1bf8694fe6a52e4b86b80573b91c320d53f621333acd05b69975f054af", func := "suffixes/suffixeslaw.Doubles", spec := "doubles", recurses := true, apart := false }
def DoublesSaid : Prop := doublesRow.holds Try.pinned (OpenSpec.ofChange doublesSpec)

/-- ITS FALSE NEIGHBOUR: 'it returns false'. Refute it at one input. -/
def doublesWrong : ChangeSpec := { name := "doubles", fn := fun _ => fun
  | [d1, d2, d3, d4] => { results := [.lit (.bool false)], args := [d1, d2, d3, d4] }
  | _ => none }
def DoublesWrongFalsely : Prop := doublesRow.holds Try.pinned (OpenSpec.ofChange doublesWrong)

/-- 'suffixeslaw.Befores': WHATEVER THE INPUT: true; the input reads as it did. -/
def beforesSpec : ChangeSpec := { name := "befores", fn := fun _ => fun
  | [d1, d2] => { results := [.lit (.bool true)], args := [d1, d2] }
  | _ => none }
def beforesRow : OpenClaim := { program := "ytdhehffdddbmbaa", sum := "066abc1bf8694fe6a52e4b86b80573b91c320d53f621333acd05b69975f054af", func := "suffixes/suffixeslaw.Befores", spec := "befores", apart := false }
def BeforesSaid : Prop := beforesRow.holds Try.pinned (OpenSpec.ofChange beforesSpec)

/-- ITS FALSE NEIGHBOUR: 'it returns false'. Refute it at one input. -/
def beforesWrong : ChangeSpec := { name := "befores", fn := fun _ => fun
  | [d1, d2] => { results := [.lit (.bool false)], args := [d1, d2] }
  | _ => none }
def BeforesWrongFalsely : Prop := beforesRow.holds Try.pinned (OpenSpec.ofChange beforesWrong)

/-- 'suffixeslaw.Tables': WHATEVER THE INPUT: true; the input reads as it did. -/
def tablesSpec : ChangeSpec := { name := "tables", fn := fun _ => fun
  | [d1, d2, d3] => { results := [.lit (.bool true)], args := [d1, d2, d3] }
  | _ => none }
def tablesRow : OpenClaim := { program := "ytdhehffdddbmbaa", sum := "066abc1bf8694fe6a52e4b86b80573b91c320d53f621333acd05b69975f054af", func := "suffixes/suffixeslaw.Tables", spec := "tables", apart := false }
def TablesSaid : Prop := tablesRow.holds Try.pinned (OpenSpec.ofChange tablesSpec)

/-- ITS FALSE NEIGHBOUR: 'it returns false'. Refute it at one input. -/
def tablesWrong : ChangeSpec := { name := "tables", fn := fun _ => fun
  | [d1, d2, d3] => { results := [.lit (.bool false)], args := [d1, d2, d3] }
  | _ => none }
def TablesWrongFalsely : Prop := tablesRow.holds Try.pinned (OpenSpec.ofChange tablesWrong)

/-- 'suffixeslaw.Reduces': WHATEVER THE INPUT: true; the input reads as it did. -/
def reducesSpec : ChangeSpec := { name := "reduces", fn := fun _ => fun
  | [d1, d2] => { results := [.lit (.bool true)], args := [d1, d2] }
  | _ => none }
def reducesRow : OpenClaim := { program := "ytdhehffdddbmbaa", sum := "066abc1bf8694fe6a52e4b86b80573b91c320d53f621333acd05b69975f054af", func := "suffixes/suffixeslaw.Reduces", spec := "reduces", apart := false }
def ReducesSaid : Prop := reducesRow.holds Try.pinned (OpenSpec.ofChange reducesSpec)

/-- ITS FALSE NEIGHBOUR: 'it returns false'. Refute it at one input. -/
def reducesWrong : ChangeSpec := { name := "reduces", fn := fun _ => fun
  | [d1, d2] => { results := [.lit (.bool false)], args := [d1, d2] }
  | _ => none }
def ReducesWrongFalsely : Prop := reducesRow.holds Try.pinned (OpenSpec.ofChange reducesWrong)

/-- 'suffixeslaw.Induces': WHATEVER THE INPUT: true; the input reads as it did. -/
def inducesSpec : ChangeSpec := { name := "induces", fn := fun _ => fun
  | [d1, d2, d3, d4] => { results := [.lit (.bool true)], args := [d1, d2, d3, d4] }
  | _ => none }
def inducesRow : OpenClaim := { program := "ytdhehffdddbmbaa", sum := "066abc1bf8694fe6a52e4b86b80573b91c320d53f621333acd05b69975f054af", func := "suffixes/suffixeslaw.Induces", spec := "induces", recurses := true, apart := false }
def InducesSaid : Prop := inducesRow.holds Try.pinned (OpenSpec.ofChange inducesSpec)

/-- ITS FALSE NEIGHBOUR: 'it returns false'. Refute it at one input. -/
def inducesWrong : ChangeSpec := { name := "induces", fn := fun _ => fun
  | [d1, d2, d3, d4] => { results := [.lit (.bool false)], args := [d1, d2, d3, d4] }
  | _ => none }
def InducesWrongFalsely : Prop := inducesRow.holds Try.pinned (OpenSpec.ofChange inducesWrong)

/-- 'suffixeslaw.Bends': WHATEVER THE INPUT: true; the input reads as it did. -/
def bendsSpec : ChangeSpec := { name := "bends", fn := fun _ => fun
  | [d1, d2] => { results := [.lit (.bool true)], args := [d1, d2] }
  | _ => none }
def bendsRow : OpenClaim := { program := "ytdhehffdddbmbaa", sum := "066abc1bf8694fe6a52e4b86b80573b91c320d53f621333acd05b69975f054af", func := "suffixes/suffixeslaw.Bends", spec := "bends", apart := false }
def BendsSaid : Prop := bendsRow.holds Try.pinned (OpenSpec.ofChange bendsSpec)

/-- ITS FALSE NEIGHBOUR: 'it returns false'. Refute it at one input. -/
def bendsWrong : ChangeSpec := { name := "bends", fn := fun _ => fun
  | [d1, d2] => { results := [.lit (.bool false)], args := [d1, d2] }
  | _ => none }
def BendsWrongFalsely : Prop := bendsRow.holds Try.pinned (OpenSpec.ofChange bendsWrong)

/-- 'suffixeslaw.Turneds': WHATEVER THE INPUT: true; the input reads as it did. -/
def turnedsSpec : ChangeSpec := { name := "turneds", fn := fun _ => fun
  | [d1, d2, d3, d4] => { results := [.lit (.bool true)], args := [d1, d2, d3, d4] }
  | _ => none }
def turnedsRow : OpenClaim := { program := "ytdhehffdddbmbaa", sum := "066abc1bf8694fe6a52e4b86b80573b91c320d53f621333acd05b69975f054af", func := "suffixes/suffixeslaw.Turneds", spec := "turneds", recurses := true, apart := false }
def TurnedsSaid : Prop := turnedsRow.holds Try.pinned (OpenSpec.ofChange turnedsSpec)

/-- ITS FALSE NEIGHBOUR: 'it returns false'. Refute it at one input. -/
def turnedsWrong : ChangeSpec := { name := "turneds", fn := fun _ => fun
  | [d1, d2, d3, d4] => { results := [.lit (.bool false)], args := [d1, d2, d3, d4] }
  | _ => none }
def TurnedsWrongFalsely : Prop := turnedsRow.holds Try.pinned (OpenSpec.ofChange turnedsWrong)

/- THE SECOND FORM. 'bulk': how many values and letters a reading holds, each counted each time it is reached (what is shared counts as often as it is met; a slice's spare places count too). A statement '..UptoSaid' is the law's where the arguments, and the package variables that the reading takes, are together of bulk at most 1048576: NARROWER than '..Said'. Prove '..Said' where nothing that the law and all that it calls make is longer than what came in: it says more and counts as full. Else prove '..UptoSaid'. A law counts once. -/
mutual
def uptoBulk {H : Type} : DataW H → Nat
  | .lit (.string bytes) => bytes.length + 1
  | .lit _ => 1
  | .nil => 1
  | .ptr d => uptoBulk d + 1
  | .slice elems spare => uptoBulkAll elems + uptoBulkAll spare + 1
  | .agg parts => uptoBulkAll parts + 1
  | .iface _ d => uptoBulk d + 1
  | .map entries => uptoBulkEntries entries + 1
  | .held _ => 1
def uptoBulkAll {H : Type} : List (DataW H) → Nat
  | [] => 0
  | d :: r => uptoBulk d + uptoBulkAll r
def uptoBulkEntries {H : Type} : List (Lit × DataW H) → Nat
  | [] => 0
  | x :: r => uptoBulkEntry x + uptoBulkEntries r
def uptoBulkEntry {H : Type} : Lit × DataW H → Nat
  | (.string bytes, d) => bytes.length + uptoBulk d + 1
  | (_, d) => uptoBulk d + 1
 end
def uptoSmall : (H : Type) → List (DataW H) → Bool := fun _ ds => decide (uptoBulkAll ds ≤ 1048576)
def OpenSpec.upto (s : _root_.Go.ChangeSpec) : _root_.Go.OpenSpec := { _root_.Go.OpenSpec.ofChange s with cond := some uptoSmall }

/-- 'suffixeslaw.Scans', WHERE WHAT IT READS IS OF BULK AT MOST 1048576: true; the input reads as it did. -/
def scansUptoRow : OpenClaim := { program := "ytdhehffdddbmbaa", sum := "066abc1bf8694fe6a52e4b86b80573b91c320d53f621333acd05b69975f054af", func := "suffixes/suffixeslaw.Scans", spec := "scans", apart := false, narrowed := true }
def ScansUptoSaid : Prop := scansUptoRow.holds Try.pinned (OpenSpec.upto scansSpec)

/-- 'suffixeslaw.Renames', WHERE WHAT IT READS IS OF BULK AT MOST 1048576: true; the input reads as it did. -/
def renamesUptoRow : OpenClaim := { program := "ytdhehffdddbmbaa", sum := "066abc1bf8694fe6a52e4b86b80573b91c320d53f621333acd05b69975f054af", func := "suffixes/suffixeslaw.Renames", spec := "renames", apart := false, narrowed := true }
def RenamesUptoSaid : Prop := renamesUptoRow.holds Try.pinned (OpenSpec.upto renamesSpec)

/-- 'suffixeslaw.Sides', WHERE WHAT IT READS IS OF BULK AT MOST 1048576: true; the input reads as it did. -/
def sidesUptoRow : OpenClaim := { program := "ytdhehffdddbmbaa", sum := "066abc1bf8694fe6a52e4b86b80573b91c320d53f621333acd05b69975f054af", func := "suffixes/suffixeslaw.Sides", spec := "sides", apart := false, narrowed := true }
def SidesUptoSaid : Prop := sidesUptoRow.holds Try.pinned (OpenSpec.upto sidesSpec)

/-- 'suffixeslaw.Orders', WHERE WHAT IT READS IS OF BULK AT MOST 1048576: true; the input reads as it did. -/
def ordersUptoRow : OpenClaim := { program := "ytdhehffdddbmbaa", sum := "066abc1bf8694fe6a52e4b86b80573b91c320d53f621333acd05b69975f054af", func := "suffixes/suffixeslaw.Orders", spec := "orders", apart := false, narrowed := true }
def OrdersUptoSaid : Prop := ordersUptoRow.holds Try.pinned (OpenSpec.upto ordersSpec)

/-- 'suffixeslaw.Ranked', WHERE WHAT IT READS IS OF BULK AT MOST 1048576: true; the input reads as it did. -/
def rankedUptoRow : OpenClaim := { program := "ytdhehffdddbmbaa", sum := "066abc1bf8694fe6a52e4b86b80573b91c320d53f621333acd05b69975f054af", func := "suffixes/suffixeslaw.Ranked", spec := "ranked", apart := false, narrowed := true }
def RankedUptoSaid : Prop := rankedUptoRow.holds Try.pinned (OpenSpec.upto rankedSpec)

/-- 'suffixeslaw.Doubles', WHERE WHAT IT READS IS OF BULK AT MOST 1048576: true; the input reads as it did. -/
def doublesUptoRow : OpenClaim := { program := "ytdhehffdddbmbaa", sum := "066abc1bf8694fe6a52e4b86b80573b91c320d53f621333acd05b69975f054af", func := "suffixes/suffixeslaw.Doubles", spec := "doubles", recurses := true, apart := false, narrowed := true }
def DoublesUptoSaid : Prop := doublesUptoRow.holds Try.pinned (OpenSpec.upto doublesSpec)

/-- 'suffixeslaw.Befores', WHERE WHAT IT READS IS OF BULK AT MOST 1048576: true; the input reads as it did. -/
def beforesUptoRow : OpenClaim := { program := "ytdhehffdddbmbaa", sum := "066abc1bf8694fe6a52e4b86b80573b91c320d53f621333acd05b69975f054af", func := "suffixes/suffixeslaw.Befores", spec := "befores", apart := false, narrowed := true }
def BeforesUptoSaid : Prop := beforesUptoRow.holds Try.pinned (OpenSpec.upto beforesSpec)

/-- 'suffixeslaw.Tables', WHERE WHAT IT READS IS OF BULK AT MOST 1048576: true; the input reads as it did. -/
def tablesUptoRow : OpenClaim := { program := "ytdhehffdddbmbaa", sum := "066abc1bf8694fe6a52e4b86b80573b91c320d53f621333acd05b69975f054af", func := "suffixes/suffixeslaw.Tables", spec := "tables", apart := false, narrowed := true }
def TablesUptoSaid : Prop := tablesUptoRow.holds Try.pinned (OpenSpec.upto tablesSpec)

/-- 'suffixeslaw.Reduces', WHERE WHAT IT READS IS OF BULK AT MOST 1048576: true; the input reads as it did. -/
def reducesUptoRow : OpenClaim := { program := "ytdhehffdddbmbaa", sum := "066abc1bf8694fe6a52e4b86b80573b91c320d53f621333acd05b69975f054af", func := "suffixes/suffixeslaw.Reduces", spec := "reduces", apart := false, narrowed := true }
def ReducesUptoSaid : Prop := reducesUptoRow.holds Try.pinned (OpenSpec.upto reducesSpec)

/-- 'suffixeslaw.Induces', WHERE WHAT IT READS IS OF BULK AT MOST 1048576: true; the input reads as it did. -/
def inducesUptoRow : OpenClaim := { program := "ytdhehffdddbmbaa", sum := "066abc1bf8694fe6a52e4b86b80573b91c320d53f621333acd05b69975f054af", func := "suffixes/suffixeslaw.Induces", spec := "induces", recurses := true, apart := false, narrowed := true }
def InducesUptoSaid : Prop := inducesUptoRow.holds Try.pinned (OpenSpec.upto inducesSpec)

/-- 'suffixeslaw.Bends', WHERE WHAT IT READS IS OF BULK AT MOST 1048576: true; the input reads as it did. -/
def bendsUptoRow : OpenClaim := { program := "ytdhehffdddbmbaa", sum := "066abc1bf8694fe6a52e4b86b80573b91c320d53f621333acd05b69975f054af", func := "suffixes/suffixeslaw.Bends", spec := "bends", apart := false, narrowed := true }
def BendsUptoSaid : Prop := bendsUptoRow.holds Try.pinned (OpenSpec.upto bendsSpec)

/-- 'suffixeslaw.Turneds', WHERE WHAT IT READS IS OF BULK AT MOST 1048576: true; the input reads as it did. -/
def turnedsUptoRow : OpenClaim := { program := "ytdhehffdddbmbaa", sum := "066abc1bf8694fe6a52e4b86b80573b91c320d53f621333acd05b69975f054af", func := "suffixes/suffixeslaw.Turneds", spec := "turneds", recurses := true, apart := false, narrowed := true }
def TurnedsUptoSaid : Prop := turnedsUptoRow.holds Try.pinned (OpenSpec.upto turnedsSpec)

end Rows
end Go.Proofs.Ytdhehffdddbmbaa
