/-
  RefShared: the walks of the document's own common, Shared.
-/
import Derived.Test.YtdhehffdddbmbabRefOrder
import Derived.Test.YtdhehffdddbmbabMBase
import Derived.Deep.RegionHeld3
namespace Go.Proofs.Ytdhehffdddbmbab
open Go.RowKit

theorem i64_wrap_small {z : Int} (h : -9223372036854775808 ≤ z) (h2 : z ≤ 9223372036854775807) : IntKind.i64.wrap z = z := by
  rw [IntKind.wrap_i64]; omega

/-- The first n numbers of what neighbours share; behind them 0. -/
def ShTo (xs os ds : List Int) (n : Nat) : Prop := Cnt (sharedAt xs os) os.length ds n 0
theorem ShTo.start (xs os : List Int) : ShTo xs os (List.replicate os.length 0) 1 := by
  have h := Cnt.start (sharedAt xs os) os.length
  exact h.next (by simp [sharedAt])
theorem ShTo.step {xs os ds : List Int} {n : Nat} (h : ShTo xs os ds (n + 1)) {p p2 : Nat} (hp : os.getD n 0 = p) (hp2 : os.getD (n + 1) 0 = p2) : ShTo xs os (ds.set (n + 1) (cm xs p p2 : Int)) (n + 2) := by
  refine (Cnt.set h (cm xs p p2 : Int)).next ?_
  unfold sharedAt
  rw [if_neg (by omega), show n + 1 - 1 = n by omega, hp, hp2]
  rfl
theorem ShTo.done {xs os ds : List Int} {n : Nat} (h : ShTo xs os ds n) (hn : os.length ≤ n) : ds = shared xs os := Cnt.done h hn

end Go.Proofs.Ytdhehffdddbmbab
