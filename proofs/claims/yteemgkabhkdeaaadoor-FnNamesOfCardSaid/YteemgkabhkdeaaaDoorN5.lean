/-
  Contracts of LongOf and TextOf of the model.
-/
import Derived.Test.YteemgkabhkdeaaaDoorN4
namespace Go.Proofs.YteemgkabhkdeaaaDoor
open Go.RowKit


/-- What LongOf answers. -/
def longOf (t : Tg) (n : Int) : Int := if namedB t n then (nameOf t n).length else -1
theorem longOf_bd (t : Tg) (n : Int) : -1 ≤ longOf t n ∧ longOf t n ≤ 99999 := by
  unfold longOf
  split
  · refine ⟨by omega, ?_⟩
    unfold nameOf
    split
    · rename_i h
      unfold okN at h
      rw [Bool.and_eq_true, decide_eq_true_eq] at h
      have := name_len t.us t.bs t.ns (ok_shape h.1).bs n.toNat (by omega)
      unfold nameT
      omega
    · simp
  · omega
theorem named_ne {t : Tg} {n : Int} (h : namedB t n = true) : okN t n = true ∧ nameT t n.toNat ≠ [] := by
  unfold namedB nameOf at h
  cases ho : okN t n
  · rw [ho] at h; simp at h
  · rw [ho, if_pos rfl, decide_eq_true_eq] at h
    exact ⟨rfl, fun e => by rw [e] at h; simp at h⟩

end Go.Proofs.YteemgkabhkdeaaaDoor
