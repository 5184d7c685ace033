/-
  Rows of the call's own: kept, weakened; rows of strings and of integers as results.
-/
import Derived.Test.YteemgkabhkdeaaaDoorApp
import Derived.Test.YteemgkabhkdeaaaDoorAlive
namespace Go.Proofs.YteemgkabhkdeaaaDoor
open Go.RowKit

theorem own_below {w w' : World} {B S : Nat} {t : TypeId} {v : Value} {n : Nat} {xs : List Value} (h : w.ownsRow B t 1 v n xs) (hb : Below S w w') (hS : w.heap.size ≤ S) : w'.ownsRow B t 1 v n xs :=
  h.kept (row := none) ⟨hb.os, hb.tape, hb.output, hb.size, fun k hk _ => hb.block k (by omega)⟩ (by
    cases hv : v.ownBlock
    · exact .inl rfl
    · exact .inr (by simp))
theorem own_mono {w : World} {B B' : Nat} {t : TypeId} {v : Value} {n : Nat} {xs : List Value} (h : w.ownsRow B t 1 v n xs) (hB : B' ≤ B) : w.ownsRow B' t 1 v n xs := by
  rcases h.2 with ⟨h1, h2⟩ | ⟨g, cap, cur, h1, hb, h2⟩
  · exact ⟨h.1, .inl ⟨h1, h2⟩⟩
  · exact ⟨h.1, .inr ⟨g, cap, cur, h1, by omega, h2⟩⟩
theorem own_apart {a b : World} {B B' : Nat} {t t' : TypeId} {v v' : Value} {n n' : Nat} {xs xs' : List Value} (h : a.ownsRow B t 1 v n xs) (_h' : a.ownsRow B' t' 1 v' n' xs') (hg : a.grownBy b v'.ownBlock) (hne : ∀ k, v.ownBlock = some k → v'.ownBlock ≠ some k) : b.ownsRow B t 1 v n xs := by
  refine h.kept hg ?_
  cases hv : v.ownBlock with
  | none => exact .inl rfl
  | some k => exact .inr fun e => hne k hv e.symm

/-- A row of the call's own of the strings xs. -/
def OwnStrs (w : World) (B : Nat) (v : Value) (xs : List ByteArray) : Prop := w.ownsRow B 9 1 v xs.length (xs.map Value.string)
def RetStrs (w : World) (xs : List ByteArray) (e : Ending) (w' : World) : Prop := ∃ v, e = .returned v ∧ OwnStrs w' w.heap.size v xs ∧ Below w.heap.size w w'
theorem OwnStrs.strs {w : World} {B : Nat} {v : Value} {xs : List ByteArray} (h : OwnStrs w B v xs) : ∃ A c, v = .slice A xs.length c ∧ Strs w A xs.length c xs := strs_of_own h
theorem OwnStrs.below {w w' : World} {B S : Nat} {v : Value} {xs : List ByteArray} (h : OwnStrs w B v xs) (hb : Below S w w') (hS : w.heap.size ≤ S) : OwnStrs w' B v xs := own_below h hb hS
theorem OwnStrs.mono {w : World} {B B' : Nat} {v : Value} {xs : List ByteArray} (h : OwnStrs w B v xs) (hB : B' ≤ B) : OwnStrs w B' v xs := own_mono h hB
/-- A row of the call's own of the numbers xs. -/
def OwnI (w : World) (B : Nat) (v : Value) (xs : List Int) : Prop := w.ownsRow B 3 1 v xs.length (xs.map (Value.int .i64))
theorem OwnI.ints {w : World} {B : Nat} {v : Value} {xs : List Int} (h : OwnI w B v xs) : ∃ A c, v = .slice A xs.length c ∧ Ints w .i64 A xs.length c xs := ints_of_own h
theorem OwnI.below {w w' : World} {B S : Nat} {v : Value} {xs : List Int} (h : OwnI w B v xs) (hb : Below S w w') (hS : w.heap.size ≤ S) : OwnI w' B v xs := own_below h hb hS
theorem OwnI.mono {w : World} {B B' : Nat} {v : Value} {xs : List Int} (h : OwnI w B v xs) (hB : B' ≤ B) : OwnI w B' v xs := own_mono h hB
end Go.Proofs.YteemgkabhkdeaaaDoor
