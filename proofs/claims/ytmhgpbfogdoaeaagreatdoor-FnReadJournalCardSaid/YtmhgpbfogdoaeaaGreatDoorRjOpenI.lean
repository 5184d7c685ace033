/-
  Numbers and deeds that come in by a row's form, opened; rows of two cells an element as rows of one.
-/
import Derived.Test.YtmhgpbfogdoaeaaGreatDoorChecked
import Derived.Test.YtmhgpbfogdoaeaaGreatDoorRjDdsB
import Derived.Lib.SmallJoins
import Derived.Deep.SlicePairs
import Derived.OpenShut
import Derived.KernelRfl
namespace Go.Proofs.YtmhgpbfogdoaeaaGreatDoor
open Go.ChangeShapes Go.WideShapes Go.RowKit Go.Joins Go.Deep

theorem ownN_off {a b : World} {B n z : Nat} {e : TypeId} {u : Value} {xs : List Value} {row : Option Nat} (h : a.ownsRow B e z u n xs) (hg : a.grownBy b row) (hne : ∀ k, u.ownBlock = some k → row ≠ some k) : b.ownsRow B e z u n xs := by
  refine h.kept hg ?_
  cases hv : u.ownBlock with
  | none => exact .inl rfl
  | some k => exact .inr fun e => hne k hv e.symm
theorem belowD_own {w a b : World} {B S z : Nat} {t : TypeId} {v : Value} {n : Nat} {xs : List Value} (h : Below S w a) (ho : a.ownsRow B t z v n xs) (hg : a.grownBy b v.ownBlock) (hS : S ≤ a.heap.size) (hB : S ≤ B) : Below S w b :=
  h.grown hg hS (fun k e => by have := (ho.lt k e).1; omega)
end Go.Proofs.YtmhgpbfogdoaeaaGreatDoor
