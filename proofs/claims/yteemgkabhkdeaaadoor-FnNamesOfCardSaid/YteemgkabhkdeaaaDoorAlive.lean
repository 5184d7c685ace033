/-
  Rows of integers of the call's own read as slices; 'alive'.
-/
import Derived.Test.YteemgkabhkdeaaaDoorRead
import Derived.Test.YteemgkabhkdeaaaDoorC1
namespace Go.Proofs.YteemgkabhkdeaaaDoor
open Go.RowKit

theorem ints_of_own {w : World} {B : Nat} {t : TypeId} {v : Value} {n : Nat} {xs : List Int} (h : w.ownsRow B t 1 v n (xs.map (Value.int .i64))) : ∃ A c, v = .slice A n c ∧ Ints w .i64 A n c xs := by
  have hl : xs.length = n := by have := h.1; simpa using this
  rcases h.2 with ⟨rfl, rfl⟩ | ⟨g, cap, cur, rfl, hb, hg, hnc, hcm, hcs, htake⟩
  · exact ⟨none, 0, rfl, hl, Nat.le_refl _, fun h => absurd h (by omega)⟩
  · refine ⟨_, cap, rfl, hl, hnc, fun hn => ⟨g, 0, rfl, ?_, fun j hj => ?_⟩⟩
    · rcases Nat.lt_or_ge g w.heap.size with hlt | hge
      · exact hlt
      · rw [Array.getElem?_eq_none hge] at hg; cases hg
    · have := h.cellAt (g := g) (cap := cap) j (by omega)
      rw [Nat.zero_add, this]
      simp [List.getElem?_eq_getElem (show j < xs.length by omega)]

theorem Ints.take {w : World} {k : IntKind} {A : Option Addr} {n c : Nat} {xs : List Int} (h : Ints w k A n c xs) {m : Nat} (hm : m ≤ n) : Ints w k A m c (xs.take m) :=
  ⟨by have := h.len; simp; omega, by have := h.le; omega, fun h0 => by
    obtain ⟨b, o, e, hl, hc⟩ := h.at_ (by omega)
    exact ⟨b, o, e, hl, fun j hj => by rw [hc j (by omega)]; simp [List.getD_eq_getElem?_getD, hj]⟩⟩
theorem Fits.take {xs : List Int} (h : Fits xs) (m : Nat) : Fits (xs.take m) := by
  intro j
  by_cases hj : j < m
  · have := h j; simpa [List.getD_eq_getElem?_getD, List.getElem?_take, hj] using this
  · simp [List.getD_eq_getElem?_getD, List.getElem?_take, hj]
theorem Fits.of_small {xs : List Int} (h : ∀ x ∈ xs, -10000000 ≤ x ∧ x ≤ 10000000) : Fits xs := by
  intro j
  by_cases hj : j < xs.length
  · have := h xs[j] (List.getElem_mem hj)
    simp only [List.getD_eq_getElem?_getD, List.getElem?_eq_getElem hj, Option.getD_some]; omega
  · simp [List.getD_eq_getElem?_getD, List.getElem?_eq_none (by omega : xs.length ≤ j)]

theorem lit_ints (w : World) (xs : List Int) : Ints (w.alloc (.cells (xs.map (Value.int .i64)).toArray 3)) .i64 (some ⟨w.heap.size, 0, none⟩) xs.length xs.length xs := ints_of_blk xs (Blk.new _ _ _)

theorem alive_any (w : World) : Calls Tryd.prog 9 #[] w fun e w' => e = .returned (.bool true) ∧ Below w.heap.size w w' := by
  have h1 : basesOk [1, 10] = true := by decide
  have h2 : basesOk [10, 1] = false := by decide
  have f1 : Fits [1, 10] := Fits.of_small (by decide)
  have f2 : Fits [10, 1] := Fits.of_small (by decide)
  go_enter Tryd.func9, Tryd.ntmps9
  go_wp2_with (fail)
  refine (implBasesOk_any _ _ _ [1, 10] _ (lit_ints _ [1, 10]) (by simp) f1).mono ?_
  rintro e _ ⟨rfl, rfl⟩
  rw [h1]
  go_wp2_with (fail)
  refine (implBasesOk_any _ _ _ [10, 1] _ (by have := lit_ints (w.alloc (.cells #[.int .i64 1, .int .i64 10] 3)) [10, 1]; simpa using this) (by simp) f2).mono ?_
  rintro e _ ⟨rfl, rfl⟩
  rw [h2]
  go_wp2
  go_ret
  exact ⟨rfl, ((Below.refl _ _).alloc (Nat.le_refl _) _).alloc (by simp) _⟩
end Go.Proofs.YteemgkabhkdeaaaDoor
