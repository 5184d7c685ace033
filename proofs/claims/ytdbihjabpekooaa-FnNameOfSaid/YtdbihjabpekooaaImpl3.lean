/-
  The contracts of chapter 3 of the program, together: implNameOf_any (P3b), implGreatest_any (P3c), implLongOf_any (P3e), implTextOf_any (P3f).
-/
import Derived.Test.YtdbihjabpekooaaP3c
import Derived.Test.YtdbihjabpekooaaP3e
import Derived.Test.YtdbihjabpekooaaP3f
namespace Go.Proofs.Ytdbihjabpekooaa
end Go.Proofs.Ytdbihjabpekooaa
