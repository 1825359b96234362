/-
  RefKinds: the walk of the document's own Kinds.
-/
import Derived.Test.YtanbfnckelanjabKinds
namespace Go.Proofs.Ytanbfnckelanjab
open Go.RowKit

end Go.Proofs.Ytanbfnckelanjab
