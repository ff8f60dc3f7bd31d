/-
  THE LIBRARY's CONTRACTS ON A strings.Builder, LAID AT THIS DUMP: each is one application of the library's own theorem.
-/
import Derived.Shelf.Strings.Builder1
import Derived.Shelf.Strings.BuilderK
import Derived.Shelf.Strings.BuilderRune
import Derived.Test.YtkkbdbelkcelhaaProg
namespace Go.Proofs.Ytkkbdbelkcelhaa
open Go.Shelf Go.RowKit
set_option linter.unusedVariables false
end Go.Proofs.Ytkkbdbelkcelhaa
