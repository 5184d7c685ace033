/-
  GT: THoldB THoldC OpenS OpenT TMark TMarkB TMarkC.
-/
import Derived.Test.YtmhgpbfogdoaeaaGreatDoorRjGN
import Derived.Test.YtmhgpbfogdoaeaaGreatDoorRjGB
import Derived.Test.YtmhgpbfogdoaeaaGreatDoorRjGA
import Derived.Test.YtmhgpbfogdoaeaaGreatDoorChecked
import Derived.Lib.SmallJoins
import Derived.Deep.Strs
import Derived.OpenShut
import Derived.KernelRfl
import Derived.Laws.IdiomStrings
import Derived.IntWalk
import Derived.Deep.RegionHeld3
import Derived.Test.YtmhgpbfogdoaeaaGreatDoorRjGC
/- THoldB -/
namespace Go.Proofs.YtmhgpbfogdoaeaaGreatDoor
open Go.RowKit


end Go.Proofs.YtmhgpbfogdoaeaaGreatDoor

/- THoldC -/
namespace Go.Proofs.YtmhgpbfogdoaeaaGreatDoor
open Go.RowKit

end Go.Proofs.YtmhgpbfogdoaeaaGreatDoor

/- OpenS -/
namespace Go.Proofs.YtmhgpbfogdoaeaaGreatDoor
open Go.ChangeShapes Go.WideShapes Go.RowKit Go.Joins Go.Deep

end Go.Proofs.YtmhgpbfogdoaeaaGreatDoor

/- OpenT -/
namespace Go.Proofs.YtmhgpbfogdoaeaaGreatDoor
open Go.ChangeShapes Go.WideShapes Go.RowKit Go.Joins Go.Deep

end Go.Proofs.YtmhgpbfogdoaeaaGreatDoor

/- TMark -/
namespace Go.Proofs.YtmhgpbfogdoaeaaGreatDoor
open Go.RowKit

end Go.Proofs.YtmhgpbfogdoaeaaGreatDoor

/- TMarkB -/
namespace Go.Proofs.YtmhgpbfogdoaeaaGreatDoor
open Go.RowKit

end Go.Proofs.YtmhgpbfogdoaeaaGreatDoor

/- TMarkC -/
namespace Go.Proofs.YtmhgpbfogdoaeaaGreatDoor
open Go.RowKit

end Go.Proofs.YtmhgpbfogdoaeaaGreatDoor
