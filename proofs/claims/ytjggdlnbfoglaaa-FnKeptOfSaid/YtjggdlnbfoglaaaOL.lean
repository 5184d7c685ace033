/-
  What the great laws of chapter 9 ask, as plain mathematics.
-/
import Derived.Test.YtjggdlnbfoglaaaMathO
namespace Go.Proofs.Ytjggdlnbfoglaaa
open Go.RowKit

theorem allN_before {t : Tg} {M : Nat} (h : allN t M) {x y : Int} (h1 : 1 ≤ x) (h2 : x ≤ M) : beforeB t x y = decide (tx t x < tx t y) := before_of (allN_at h h1 h2)
theorem sorted_law (t : Tg) (m : Int) : sortedF t m = [] ∨ ∃ M : Nat, m = M ∧ 1 ≤ M ∧ M ≤ 150 ∧ (sortedF t m).length = M ∧ (∀ p, p + 1 < M → beforeB t ((sortedF t m).getD p 0) ((sortedF t m).getD (p + 1) 0) = true) ∧ ∀ k : Nat, k < M → (k : Int) + 1 ∈ sortedF t m := by
  rcases sorted_cases t m with ⟨h, -⟩ | ⟨M, rfl, h1, h2, h3, h⟩
  · exact .inl h
  · refine .inr ⟨M, rfl, h1, h2, h.len, fun p hp => ?_, fun k hk => h.mem.2 (by omega)⟩
    have b := h.at_ (i := p) (by omega)
    rw [allN_before h3 b.1 b.2]
    exact decide_eq_true (h.lt (i := p) (j := p + 1) (by omega) hp)
theorem first_law (t : Tg) (m : Int) : firstF t m = -1 ∨ ∃ (M : Nat) (x : Int), m = M ∧ 1 ≤ M ∧ M ≤ 150 ∧ firstF t m = x ∧ 1 ≤ x ∧ x ≤ M ∧ (∀ k : Int, 1 ≤ k → k ≤ M → beforeB t k x = false) ∧ (firstF t (m + 1) = -1 ∨ firstF t (m + 1) = x ∨ firstF t (m + 1) = m + 1) := by
  rcases sorted_cases t m with ⟨h, -⟩ | ⟨M, rfl, h1, h2, h3, h⟩
  · exact .inl (first_no (by rw [h]; rfl)).1
  · have hl := h.len
    have b := h.at_ (i := 0) (by omega)
    refine .inr ⟨M, _, rfl, h1, h2, (first_yes (by omega)).1, b.1, b.2, fun k k1 k2 => ?_, ?_⟩
    · rw [allN_before h3 k1 k2]
      exact decide_eq_false (h.first k1 k2)
    · rcases sorted_cases t ((M : Int) + 1) with ⟨h', -⟩ | ⟨M', e, -, -, h3', h'⟩
      · exact .inl (first_no (by rw [h']; rfl)).1
      · obtain rfl : M' = M + 1 := by omega
        have hl' := h'.len
        rw [(first_yes (t := t) (m := (M : Int) + 1) (by omega)).1]
        exact .inr (first_more (by omega) (allN_apart h3') h h')
theorem last_law (t : Tg) (m : Int) : lastF t m = -1 ∨ ∃ (M : Nat) (x : Int), m = M ∧ 1 ≤ M ∧ M ≤ 150 ∧ lastF t m = x ∧ 1 ≤ x ∧ x ≤ M ∧ (∀ k : Int, 1 ≤ k → k ≤ M → beforeB t x k = false) ∧ (lastF t (m + 1) = -1 ∨ lastF t (m + 1) = x ∨ lastF t (m + 1) = m + 1) := by
  rcases sorted_cases t m with ⟨h, -⟩ | ⟨M, rfl, h1, h2, h3, h⟩
  · exact .inl (first_no (by rw [h]; rfl)).2.1
  · have hl := h.len
    have b := h.at_ (i := M - 1) (by omega)
    refine .inr ⟨M, (sortedF t (M : Int)).getD (M - 1) 0, rfl, h1, h2, by rw [(first_yes (by omega)).2.1, hl], b.1, b.2, fun k k1 k2 => ?_, ?_⟩
    · rw [allN_before h3 b.1 b.2]
      exact decide_eq_false (h.last k1 k2)
    · rcases sorted_cases t ((M : Int) + 1) with ⟨h', -⟩ | ⟨M', e, -, -, h3', h'⟩
      · exact .inl (first_no (by rw [h']; rfl)).2.1
      · obtain rfl : M' = M + 1 := by omega
        have hl' := h'.len
        rw [(first_yes (t := t) (m := (M : Int) + 1) (by omega)).2.1, hl', Nat.add_sub_cancel]
        exact .inr (last_more (by omega) (allN_apart h3') h h')
theorem place_law (t : Tg) (n m : Int) : placeF t n m = -1 ∨ ∃ M K : Nat, m = M ∧ 1 ≤ M ∧ M ≤ 150 ∧ placeF t n m = K ∧ K < M ∧ (sortedF t m).length = M ∧ (sortedF t m).getD K 0 = n ∧ cntF (tx t) n M = K ∧ ∀ k : Nat, k < M → beforeB t ((k : Int) + 1) n = decide (tx t ((k : Int) + 1) < tx t n) := by
  by_cases hn : n ∈ sortedF t m
  · rcases sorted_cases t m with ⟨h, -⟩ | ⟨M, rfl, h1, h2, h3, h⟩
    · rw [h] at hn; cases hn
    · have hl := h.len
      obtain ⟨K, hK, e⟩ := getD_of_mem hn
      refine .inr ⟨M, K, rfl, h1, h2, placeF_at hK e, by omega, hl, e, ?_, fun k hk => allN_before h3 (by omega) (by omega)⟩
      rw [← e, h.cnt (by omega)]
  · exact .inl (place_no hn)
theorem kept_law (t : Tg) (m : Int) : keptF t m = -1 ∨ ∃ M K : Nat, m = M ∧ 1 ≤ M ∧ M ≤ 150 ∧ keptF t m = K ∧ K ≤ M ∧ K + 1 ≠ M ∧ keptF t 1 = 1 := by
  rcases sorted_cases t m with ⟨h, -⟩ | ⟨M, rfl, h1, h2, h3, h⟩
  · exact .inl (first_no (by rw [h]; rfl)).2.2
  · have hl := h.len
    refine .inr ⟨M, keptTo (sortedF t (M : Int)) M, rfl, h1, h2, by rw [(first_yes (by omega)).2.2, hl], keptTo_le _ _, h.kept, ?_⟩
    have a1 : allN t 1 := fun i i1 i2 => h3 i i1 (by omega)
    have e1 : sortedF t 1 = [1] := sorted_yes (m := 1) (by omega) (by omega) a1 ⟨List.pairwise_singleton _ _, .refl _⟩
    rw [(first_yes (by rw [e1]; simp)).2.2, e1]
    rfl
end Go.Proofs.Ytjggdlnbfoglaaa
