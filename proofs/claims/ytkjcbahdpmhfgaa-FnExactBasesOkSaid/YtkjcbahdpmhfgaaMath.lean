/-
  Plain mathematics of chapter 1 (bases, counts, sums) on lists of integers. Imports nothing of the program.
-/
import Derived.IntWalk
import Derived.Below
namespace Go.Proofs.Ytkjcbahdpmhfgaa
open Go Go.RowKit

/-- Each number fits an int64. -/
def Fits (xs : List Int) : Prop := ∀ j, -9223372036854775808 ≤ xs.getD j 0 ∧ xs.getD j 0 ≤ 9223372036854775807

theorem Fits.of_wf {xs : List Int} (h : ∀ x ∈ xs, (Lit.int .i64 x).wf = true) : Fits xs := by
  intro j
  by_cases hj : j < xs.length
  · have := h xs[j] (List.getElem_mem hj)
    simp only [List.getD_eq_getElem?_getD, List.getElem?_eq_getElem hj, Option.getD_some]
    simpa [Lit.wf, IntKind.min, IntKind.max, IntKind.signed, IntKind.bits] using this
  · simp [List.getD_eq_getElem?_getD, List.getElem?_eq_none (by omega : xs.length ≤ j)]
def up (xs : List Int) (k : Nat) : Bool := (List.range k).all fun j => decide (j = 0 ∨ (xs.getD (j-1) 0 + 1 ≤ xs.getD j 0 ∧ xs.getD j 0 ≤ 999999))
def basesOk (xs : List Int) : Bool := decide (1 ≤ xs.length ∧ xs.length ≤ 5 ∧ xs.getD 0 0 = 1) && up xs xs.length

theorem up_succ (xs : List Int) (k : Nat) : up xs (k+1) = (up xs k && decide (k = 0 ∨ (xs.getD (k-1) 0 + 1 ≤ xs.getD k 0 ∧ xs.getD k 0 ≤ 999999))) := by
  simp [up, List.range_succ]
theorem up_one (xs : List Int) : up xs 1 = true := by simp [up]
theorem up_at (xs : List Int) {j k : Nat} (h : up xs k = true) (h0 : 0 < j) (hj : j < k) : xs.getD (j-1) 0 + 1 ≤ xs.getD j 0 ∧ xs.getD j 0 ≤ 999999 := by
  simp only [up, List.all_eq_true, List.mem_range, decide_eq_true_eq] at h
  rcases h j hj with e | e
  · omega
  · exact e
theorem up_pos (xs : List Int) {k : Nat} (h : up xs k = true) (h1 : xs.getD 0 0 = 1) : ∀ j, j < k → 1 ≤ xs.getD j 0 ∧ xs.getD j 0 ≤ 999999 := by
  intro j
  induction j with
  | zero => intro _; rw [h1]; decide
  | succ j ih => intro hj; have := ih (by omega); have := up_at xs h (j := j+1) (by omega) hj; simp only [Nat.add_sub_cancel] at this; omega
theorem basesOk_iff (xs : List Int) : basesOk xs = true ↔ (1 ≤ xs.length ∧ xs.length ≤ 5 ∧ xs.getD 0 0 = 1) ∧ up xs xs.length = true := by
  simp [basesOk]
theorem wrap64_id {a : Int} (h : -9223372036854775808 ≤ a ∧ a ≤ 9223372036854775807) : wrap64 a = a := by
  simp only [wrap64, IntKind.wrap]; omega
theorem up_prev (xs : List Int) {k : Nat} (h0 : 0 < k) (h1 : xs.getD 0 0 = 1) (hu : up xs k = true) : wrap64 (xs.getD (k-1) 0 + 1) = xs.getD (k-1) 0 + 1 := by
  have h := up_pos xs hu h1 (k-1) (by omega)
  exact wrap64_id (by omega)
theorem basesOk_not (xs : List Int) (k : Nat) (hk : k < xs.length) (h0 : 0 < k) (hu : xs.getD 0 0 = 1 → up xs k = true) (hn : (!decide (wrap64 (xs.getD (k-1) 0 + 1) ≤ xs.getD k 0)) = true ∨ (!decide (xs.getD k 0 ≤ 999999)) = true) : basesOk xs = false := by
  rw [Bool.eq_false_iff]
  intro hb
  obtain ⟨⟨_, _, h1⟩, h2⟩ := (basesOk_iff xs).1 hb
  have h3 := up_at xs h2 h0 hk
  rw [up_prev xs h0 h1 (hu h1)] at hn
  simp only [Bool.not_eq_true', decide_eq_false_iff_not] at hn
  omega
theorem basesOk_go (xs : List Int) (k : Nat) (h0 : 0 < k) (hu : xs.getD 0 0 = 1 → up xs k = true) (hn : (!decide (wrap64 (xs.getD (k-1) 0 + 1) ≤ xs.getD k 0)) = false ∧ (!decide (xs.getD k 0 ≤ 999999)) = false) : xs.getD 0 0 = 1 → up xs (k+1) = true := by
  intro h1
  rw [up_prev xs h0 h1 (hu h1)] at hn
  simp only [Bool.not_eq_false', decide_eq_true_eq] at hn
  rw [up_succ, hu h1]
  simp only [Bool.true_and, decide_eq_true_eq]
  exact .inr hn
theorem basesOk_end (xs : List Int) (hu : xs.getD 0 0 = 1 → up xs xs.length = true) (hl : 1 ≤ xs.length ∧ xs.length ≤ 5) : basesOk xs = (xs.getD 0 0 == 1) := by
  rw [Bool.eq_iff_iff, basesOk_iff, beq_iff_eq]
  exact ⟨fun h => h.1.2.2, fun h => ⟨⟨hl.1, hl.2, h⟩, hu h⟩⟩
theorem basesOk_long (xs : List Int) (hl : ¬(1 ≤ xs.length ∧ xs.length ≤ 5)) : basesOk xs = false := by
  rw [Bool.eq_false_iff, Ne, basesOk_iff]
  intro h; exact hl ⟨h.1.1, h.1.2.1⟩
theorem basesOk_one (xs : List Int) (h : ¬ xs.getD 0 0 = 1) : basesOk xs = false := by
  rw [Bool.eq_false_iff, Ne, basesOk_iff]
  intro hb; exact h hb.1.2.2
theorem basesOk_step (xs : List Int) (h0 : 0 < xs.length) (h5 : xs.length ≤ 5) (h1 : xs.getD 0 0 = 1) : basesOk xs = up xs xs.length := by
  rw [Bool.eq_iff_iff, basesOk_iff]
  exact ⟨fun h => h.2, fun h => ⟨⟨h0, h5, h1⟩, h⟩⟩
theorem basesOk_single (xs : List Int) (h : xs.length = 1) (h1 : xs.getD 0 0 = 1) : basesOk xs = true := by
  rw [basesOk_step xs (by omega) (by omega) h1, h]; exact up_one xs
theorem basesOk_top (xs : List Int) (h5 : xs.length ≤ 5) (h1 : xs.getD 0 0 = 1) {k : Nat} (hk : k + 1 = xs.length) (hu : up xs (k+1) = true) : basesOk xs = true := by
  rw [basesOk_step xs (by omega) (by omega) h1, ← hk]; exact hu
theorem basesOk_down (xs : List Int) (k : Nat) (hk : k < xs.length) (hu : ¬ up xs (k+1) = true) : basesOk xs = false := by
  rw [Bool.eq_false_iff, Ne, basesOk_iff]
  intro hb
  apply hu
  simp only [up, List.all_eq_true, List.mem_range] at hb ⊢
  exact fun j hj => hb.2 j (by omega)
theorem basesOk_no2 (xs : List Int) (k : Nat) (hk : k + 1 < xs.length) (hn : xs.getD (k+1) 0 ≤ xs.getD k 0 ∨ 999999 < xs.getD (k+1) 0) : basesOk xs = false := by
  refine basesOk_down xs (k+1) hk ?_
  rw [up_succ]
  simp only [Nat.add_sub_cancel, Bool.and_eq_true, decide_eq_true_eq]
  omega
theorem basesOk_go2 (xs : List Int) (k : Nat) (hu : up xs (k+1) = true) (hn : xs.getD k 0 < xs.getD (k+1) 0 ∧ xs.getD (k+1) 0 ≤ 999999) : up xs (k+1+1) = true := by
  rw [up_succ, hu]
  simp only [Nat.add_sub_cancel, Bool.true_and, decide_eq_true_eq]
  omega
end Go.Proofs.Ytkjcbahdpmhfgaa
