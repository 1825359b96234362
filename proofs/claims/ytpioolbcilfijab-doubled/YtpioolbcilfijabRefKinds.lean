/-
  RefKinds: the walk of the document's own Kinds.
-/
import Derived.Test.YtpioolbcilfijabKinds
namespace Go.Proofs.Ytpioolbcilfijab
open Go.RowKit

end Go.Proofs.Ytpioolbcilfijab
