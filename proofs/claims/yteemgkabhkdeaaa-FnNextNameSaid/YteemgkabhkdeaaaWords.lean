/-
  The contract of WordsOf of the model.
-/
import Derived.Test.YteemgkabhkdeaaaTngT
import Derived.Test.YteemgkabhkdeaaaOwn
namespace Go.Proofs.Yteemgkabhkdeaaa
open Go.RowKit Go.WideMaps Go.Maps

def wordsOf (t : Tg) : List ByteArray := if t.ok then t.words else []
end Go.Proofs.Yteemgkabhkdeaaa
