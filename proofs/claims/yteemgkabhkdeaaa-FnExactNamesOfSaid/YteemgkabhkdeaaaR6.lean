/-
  Contracts of the cut of a text, of ReadText, NamesOf and NextName of the model.
-/
import Derived.Test.YteemgkabhkdeaaaR5
import Derived.Test.YteemgkabhkdeaaaN6
namespace Go.Proofs.Yteemgkabhkdeaaa
open Go.RowKit

/-- What stands between the spaces of the first k bytes, and where the next piece begins. -/
def cutTo (s : ByteArray) : Nat → List ByteArray × Nat
  | 0 => ([], 0)
  | k + 1 => if h : k < s.size then (if s[k].toNat = 32 then ((cutTo s k).1 ++ [s.extract (cutTo s k).2 k], k + 1) else cutTo s k) else cutTo s k
def cutL (s : ByteArray) : List ByteArray := (cutTo s s.size).1 ++ [s.extract (cutTo s s.size).2 s.size]
theorem cutTo_at (s : ByteArray) : ∀ k, (cutTo s k).2 ≤ k ∧ (cutTo s k).1.length ≤ k := by
  intro k
  induction k with
  | zero => exact ⟨Nat.le_refl _, Nat.le_refl _⟩
  | succ k ih =>
    rw [cutTo]
    split
    · split
      · exact ⟨Nat.le_refl _, by simp; omega⟩
      · omega
    · omega
theorem cutL_len (s : ByteArray) : (cutL s).length ≤ s.size + 1 := by
  have := (cutTo_at s s.size).2
  unfold cutL
  simp
  omega
theorem own_snoc4 {w : World} {B n : Nat} {v : Value} {us : List ByteArray} {x : ByteArray} (h : w.ownsRow B 9 1 v n (us.map Value.string ++ [.string x])) : OwnStrs w B v (us ++ [x]) := by
  have hl := h.1
  have hn : n = (us ++ [x]).length := by simp at hl ⊢; omega
  subst hn
  unfold OwnStrs
  simpa using h

end Go.Proofs.Yteemgkabhkdeaaa
