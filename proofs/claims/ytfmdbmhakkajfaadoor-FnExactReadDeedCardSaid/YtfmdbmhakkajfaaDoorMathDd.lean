/-
  A deed.
-/
import Derived.Test.YtfmdbmhakkajfaaDoorGA
namespace Go.Proofs.YtfmdbmhakkajfaaDoor

/-- A deed. -/
structure Dd where
  kind : Int
  n : Int
end Go.Proofs.YtfmdbmhakkajfaaDoor
