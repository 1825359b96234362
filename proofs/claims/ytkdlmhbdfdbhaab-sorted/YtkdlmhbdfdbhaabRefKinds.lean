/-
  RefKinds: the walk of the document's own Kinds.
-/
import Derived.Test.YtkdlmhbdfdbhaabKinds
namespace Go.Proofs.Ytkdlmhbdfdbhaab
open Go.RowKit

end Go.Proofs.Ytkdlmhbdfdbhaab
