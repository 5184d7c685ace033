/-
  A cell is written beside a reader.
-/
import Derived.Test.YtmhgpbfogdoaeaaGreatDoorXlGA
namespace Go.Proofs.YtmhgpbfogdoaeaaGreatDoor
open Go.RowKit
section
variable {w : World} {g q : Nat}
theorem own_set {a:World} {B b i n:Nat} {e:TypeId} {v u:Value} {xs:List Value} (h:a.ownsRow B e 1 v n xs) (hne:v.ownBlock≠some b):(a.setCell ⟨b,i,none⟩ u).ownsRow B e 1 v n xs :=
 h.kept (grown_setCell a b i u) (by
  cases hv:v.ownBlock with
  | none=>exact .inl rfl
  | some k=>exact .inr fun e=>hne (by rw [hv,e]))
end
end Go.Proofs.YtmhgpbfogdoaeaaGreatDoor
