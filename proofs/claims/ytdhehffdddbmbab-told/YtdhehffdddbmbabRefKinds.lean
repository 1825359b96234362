/-
  RefKinds: the walk of the document's own Kinds.
-/
import Derived.Test.YtdhehffdddbmbabKinds
namespace Go.Proofs.Ytdhehffdddbmbab
open Go.RowKit

end Go.Proofs.Ytdhehffdddbmbab
