/-
  No cell of these rows narrows 'for every input' (looked for: loops, veiled, ifaces, maps, wideKeys, modest, calm, conditions, laid).
  DERIVED. THE GIVEN ROWS OF THIS SEAT. 5 by the template 'for every input the law returns true; each argument reads behind the call as it read before'; 0 by the template 'total and deterministic' (their statements: YtdhehffdddbmbabTotals.lean).
  GIVEN WITH THE SEED: the statements are not yours to turn. If you find one false, say at which input.
  Laid BY PROGRAM, IN A SANDBOX (cutbox-rows.mjs): the forced cells as the released guide's own fill.sh prints them over the translation f62ea87812408317… (all of the seat's roots in one cut). By AI agents, Wed Nov 11 2026. No macro, syntax, notation, axiom, sorry.
-/
import Derived.Test.YtdhehffdddbmbabChecked
import GoSem.Claim
import GoSem.ClaimJoined
import GoSem.ClaimMapViews
import Derived.JoinedTies
import Derived.KernelRfl
namespace Go.Proofs.Ytdhehffdddbmbab
/- THE CELL 'sum', in the pinned program and in every row, IS THE sha256 OF THE DUMP (.gsa) THAT YtdhehffdddbmbabProg.lean LOADS. Nothing in Lean hashes anything: it is a label: what it is worth is what the hold of that sum in a sandbox is worth. -/
noncomputable def Try.pinned : Pinned := { name := "ytdhehffdddbmbab", sum := "f62ea878124083171330385a8094fc665ddad3bb2ce0fa97359bdbc8005c2dba", checked := Try.checked }
namespace Rows
def none {H : Type} : Left H := { results := [], args := [] }

/-- 'suffixeskeep.Sorted': WHATEVER THE INPUT: true; the input reads as it did. -/
def sortedSpec : ChangeSpec := { name := "sorted", fn := fun _ => fun
  | [d1, d2, d3] => { results := [.lit (.bool true)], args := [d1, d2, d3] }
  | _ => none }
def sortedRow : OpenClaim := { program := "ytdhehffdddbmbab", sum := "f62ea878124083171330385a8094fc665ddad3bb2ce0fa97359bdbc8005c2dba", func := "suffixes/suffixeskeep.Sorted", spec := "sorted", recurses := true, apart := false }
def SortedSaid : Prop := sortedRow.holds Try.pinned (OpenSpec.ofChange sortedSpec)

/-- ITS FALSE NEIGHBOUR: 'it returns false'. Refute it at one input. -/
def sortedWrong : ChangeSpec := { name := "sorted", fn := fun _ => fun
  | [d1, d2, d3] => { results := [.lit (.bool false)], args := [d1, d2, d3] }
  | _ => none }
def SortedWrongFalsely : Prop := sortedRow.holds Try.pinned (OpenSpec.ofChange sortedWrong)

/-- 'suffixeskeep.Agree': WHATEVER THE INPUT: true; the input reads as it did. -/
def agreeSpec : ChangeSpec := { name := "agree", fn := fun _ => fun
  | [d1, d2, d3] => { results := [.lit (.bool true)], args := [d1, d2, d3] }
  | _ => none }
def agreeRow : OpenClaim := { program := "ytdhehffdddbmbab", sum := "f62ea878124083171330385a8094fc665ddad3bb2ce0fa97359bdbc8005c2dba", func := "suffixes/suffixeskeep.Agree", spec := "agree", recurses := true, apart := false }
def AgreeSaid : Prop := agreeRow.holds Try.pinned (OpenSpec.ofChange agreeSpec)

/-- ITS FALSE NEIGHBOUR: 'it returns false'. Refute it at one input. -/
def agreeWrong : ChangeSpec := { name := "agree", fn := fun _ => fun
  | [d1, d2, d3] => { results := [.lit (.bool false)], args := [d1, d2, d3] }
  | _ => none }
def AgreeWrongFalsely : Prop := agreeRow.holds Try.pinned (OpenSpec.ofChange agreeWrong)

/-- 'suffixeskeep.Told': WHATEVER THE INPUT: true; the input reads as it did. -/
def toldSpec : ChangeSpec := { name := "told", fn := fun _ => fun
  | [d1, d2, d3, d4, d5] => { results := [.lit (.bool true)], args := [d1, d2, d3, d4, d5] }
  | _ => none }
def toldRow : OpenClaim := { program := "ytdhehffdddbmbab", sum := "f62ea878124083171330385a8094fc665ddad3bb2ce0fa97359bdbc8005c2dba", func := "suffixes/suffixeskeep.Told", spec := "told", recurses := true, apart := false }
def ToldSaid : Prop := toldRow.holds Try.pinned (OpenSpec.ofChange toldSpec)

/-- ITS FALSE NEIGHBOUR: 'it returns false'. Refute it at one input. -/
def toldWrong : ChangeSpec := { name := "told", fn := fun _ => fun
  | [d1, d2, d3, d4, d5] => { results := [.lit (.bool false)], args := [d1, d2, d3, d4, d5] }
  | _ => none }
def ToldWrongFalsely : Prop := toldRow.holds Try.pinned (OpenSpec.ofChange toldWrong)

/-- 'suffixeskeep.Doubled': WHATEVER THE INPUT: true; the input reads as it did. -/
def doubledSpec : ChangeSpec := { name := "doubled", fn := fun _ => fun
  | [d1, d2, d3] => { results := [.lit (.bool true)], args := [d1, d2, d3] }
  | _ => none }
def doubledRow : OpenClaim := { program := "ytdhehffdddbmbab", sum := "f62ea878124083171330385a8094fc665ddad3bb2ce0fa97359bdbc8005c2dba", func := "suffixes/suffixeskeep.Doubled", spec := "doubled", apart := false }
def DoubledSaid : Prop := doubledRow.holds Try.pinned (OpenSpec.ofChange doubledSpec)

/-- ITS FALSE NEIGHBOUR: 'it returns false'. Refute it at one input. -/
def doubledWrong : ChangeSpec := { name := "doubled", fn := fun _ => fun
  | [d1, d2, d3] => { results := [.lit (.bool false)], args := [d1, d2, d3] }
  | _ => none }
def DoubledWrongFalsely : Prop := doubledRow.holds Try.pinned (OpenSpec.ofChange doubledWrong)

/-- 'suffixeskeep.Lifted': WHATEVER THE INPUT: true; the input reads as it did. -/
def liftedSpec : ChangeSpec := { name := "lifted", fn := fun _ => fun
  | [d1, d2] => { results := [.lit (.bool true)], args := [d1, d2] }
  | _ => none }
def liftedRow : OpenClaim := { program := "ytdhehffdddbmbab", sum := "f62ea878124083171330385a8094fc665ddad3bb2ce0fa97359bdbc8005c2dba", func := "suffixes/suffixeskeep.Lifted", spec := "lifted", recurses := true, apart := false }
def LiftedSaid : Prop := liftedRow.holds Try.pinned (OpenSpec.ofChange liftedSpec)

/-- ITS FALSE NEIGHBOUR: 'it returns false'. Refute it at one input. -/
def liftedWrong : ChangeSpec := { name := "lifted", fn := fun _ => fun
  | [d1, d2] => { results := [.lit (.bool false)], args := [d1, d2] }
  | _ => none }
def LiftedWrongFalsely : Prop := liftedRow.holds Try.pinned (OpenSpec.ofChange liftedWrong)

/- THE SECOND FORM. 'bulk': how many values and letters a reading holds, each counted each time it is reached (what is shared counts as often as it is met; a slice's spare places count too). A statement '..UptoSaid' is the law's where the arguments, and the package variables that the reading takes, are together of bulk at most 1048576: NARROWER than '..Said'. Prove '..Said' where nothing that the law and all that it calls make is longer than what came in: it says more and counts as full. Else prove '..UptoSaid'. A law counts once. -/
mutual
def uptoBulk {H : Type} : DataW H → Nat
  | .lit (.string bytes) => bytes.length + 1
  | .lit _ => 1
  | .nil => 1
  | .ptr d => uptoBulk d + 1
  | .slice elems spare => uptoBulkAll elems + uptoBulkAll spare + 1
  | .agg parts => uptoBulkAll parts + 1
  | .iface _ d => uptoBulk d + 1
  | .map entries => uptoBulkEntries entries + 1
  | .held _ => 1
def uptoBulkAll {H : Type} : List (DataW H) → Nat
  | [] => 0
  | d :: r => uptoBulk d + uptoBulkAll r
def uptoBulkEntries {H : Type} : List (Lit × DataW H) → Nat
  | [] => 0
  | x :: r => uptoBulkEntry x + uptoBulkEntries r
def uptoBulkEntry {H : Type} : Lit × DataW H → Nat
  | (.string bytes, d) => bytes.length + uptoBulk d + 1
  | (_, d) => uptoBulk d + 1
 end
def uptoSmall : (H : Type) → List (DataW H) → Bool := fun _ ds => decide (uptoBulkAll ds ≤ 1048576)
def OpenSpec.upto (s : _root_.Go.ChangeSpec) : _root_.Go.OpenSpec := { _root_.Go.OpenSpec.ofChange s with cond := some uptoSmall }

/-- 'suffixeskeep.Sorted', WHERE WHAT IT READS IS OF BULK AT MOST 1048576: true; the input reads as it did. -/
def sortedUptoRow : OpenClaim := { program := "ytdhehffdddbmbab", sum := "f62ea878124083171330385a8094fc665ddad3bb2ce0fa97359bdbc8005c2dba", func := "suffixes/suffixeskeep.Sorted", spec := "sorted", recurses := true, apart := false, narrowed := true }
def SortedUptoSaid : Prop := sortedUptoRow.holds Try.pinned (OpenSpec.upto sortedSpec)

/-- 'suffixeskeep.Agree', WHERE WHAT IT READS IS OF BULK AT MOST 1048576: true; the input reads as it did. -/
def agreeUptoRow : OpenClaim := { program := "ytdhehffdddbmbab", sum := "f62ea878124083171330385a8094fc665ddad3bb2ce0fa97359bdbc8005c2dba", func := "suffixes/suffixeskeep.Agree", spec := "agree", recurses := true, apart := false, narrowed := true }
def AgreeUptoSaid : Prop := agreeUptoRow.holds Try.pinned (OpenSpec.upto agreeSpec)

/-- 'suffixeskeep.Told', WHERE WHAT IT READS IS OF BULK AT MOST 1048576: true; the input reads as it did. -/
def toldUptoRow : OpenClaim := { program := "ytdhehffdddbmbab", sum := "f62ea878124083171330385a8094fc665ddad3bb2ce0fa97359bdbc8005c2dba", func := "suffixes/suffixeskeep.Told", spec := "told", recurses := true, apart := false, narrowed := true }
def ToldUptoSaid : Prop := toldUptoRow.holds Try.pinned (OpenSpec.upto toldSpec)

/-- 'suffixeskeep.Doubled', WHERE WHAT IT READS IS OF BULK AT MOST 1048576: true; the input reads as it did. -/
def doubledUptoRow : OpenClaim := { program := "ytdhehffdddbmbab", sum := "f62ea878124083171330385a8094fc665ddad3bb2ce0fa97359bdbc8005c2dba", func := "suffixes/suffixeskeep.Doubled", spec := "doubled", apart := false, narrowed := true }
def DoubledUptoSaid : Prop := doubledUptoRow.holds Try.pinned (OpenSpec.upto doubledSpec)

/-- 'suffixeskeep.Lifted', WHERE WHAT IT READS IS OF BULK AT MOST 1048576: true; the input reads as it did. -/
def liftedUptoRow : OpenClaim := { program := "ytdhehffdddbmbab", sum := "f62ea878124083171330385a8094fc665ddad3bb2ce0fa97359bdbc8005c2dba", func := "suffixes/suffixeskeep.Lifted", spec := "lifted", recurses := true, apart := false, narrowed := true }
def LiftedUptoSaid : Prop := liftedUptoRow.holds Try.pinned (OpenSpec.upto liftedSpec)

end Rows
end Go.Proofs.Ytdhehffdddbmbab
