/-
  The contract of WordsOf of the model.
-/
import Derived.Test.YteemgkabhkdeaaaDoorTngT
import Derived.Test.YteemgkabhkdeaaaDoorOwn
namespace Go.Proofs.YteemgkabhkdeaaaDoor
open Go.RowKit Go.WideMaps Go.Maps

def wordsOf (t : Tg) : List ByteArray := if t.ok then t.words else []
end Go.Proofs.YteemgkabhkdeaaaDoor
