/-
  What the promises of chapter 10 ask, as plain mathematics.
-/
import Derived.Test.YtebfoofiaokhdaaMathM
namespace Go.Proofs.Ytebfoofiaokhdaa
open Go.RowKit

theorem okM_yes {t : Tg} {m : Int} (h : okM t m = true) : t.ok = true ∧ ∃ M : Nat, m = M ∧ 1 ≤ M ∧ M ≤ 3000 := by
  unfold okM at h
  rw [Bool.and_eq_true, decide_eq_true_eq] at h
  exact ⟨h.1, m.toNat, by omega, by omega, by omega⟩
theorem okM_of {t : Tg} {M : Nat} (hok : t.ok = true) (h1 : 1 ≤ M) (h2 : M ≤ 3000) : okM t (M : Int) = true := by
  unfold okM
  rw [hok, decide_eq_true (by omega)]
  rfl
theorem least_eq {t : Tg} (hok : t.ok = true) {w : Int} (hw : 1 ≤ w) : leastA t w = if lwTo (lngF t) w 3000 = 0 then -1 else (lwTo (lngF t) w 3000 : Int) := by
  unfold leastA
  rw [hok, decide_eq_true hw]
  by_cases h : lwTo (lngF t) w 3000 = 0
  · rw [h]; rfl
  · rw [decide_eq_true h, if_neg h]; rfl
theorem least_bd (t : Tg) (w : Int) : -1 ≤ leastA t w ∧ leastA t w ≤ 3000 ∧ leastA t w ≠ 0 := by
  have := lw_le (f := lngF t) (w := w) 3000
  unfold leastA
  split
  · rename_i h
    rw [Bool.and_eq_true, decide_eq_true_eq] at h
    have := h.2
    omega
  · omega
theorem least_law (t : Tg) (w : Int) : leastA t w = -1 ∨ ∃ n : Nat, leastA t w = n ∧ 1 ≤ n ∧ n ≤ 3000 ∧ longOf t n = w ∧ (∀ j : Nat, 1 ≤ j → j < n → longOf t j ≠ w) ∧ (leastA t (w + 1) = -1 ∨ (n : Int) < leastA t (w + 1)) := by
  by_cases hc : (t.ok && decide (1 ≤ w) && decide (lwTo (lngF t) w 3000 ≠ 0)) = true
  · right
    rw [Bool.and_eq_true, Bool.and_eq_true, decide_eq_true_eq, decide_eq_true_eq] at hc
    obtain ⟨⟨hok, hw⟩, h0⟩ := hc
    have hl := lw_le (f := lngF t) (w := w) 3000
    refine ⟨lwTo (lngF t) w 3000, by rw [least_eq hok hw, if_neg h0], by omega, hl, lw_at h0, fun j h1 h2 => lw_below h1 h2, ?_⟩
    rw [least_eq hok (show 1 ≤ w + 1 by omega)]
    by_cases h1 : lwTo (lngF t) (w + 1) 3000 = 0
    · rw [if_pos h1]; exact .inl rfl
    · rw [if_neg h1]
      right
      have hl1 := lw_le (f := lngF t) (w := w + 1) 3000
      have ha := lw_at h1
      obtain ⟨j, j1, j2, j3⟩ := long_down hok _ (show 1 ≤ lwTo (lngF t) (w + 1) 3000 by omega) (by omega) w hw (show w < lngF t (lwTo (lngF t) (w + 1) 3000) by rw [ha]; omega)
      have := (lw_upto (f := lngF t) (w := w) (k := 3000) j1 (by omega) j3).2
      omega
  · left
    unfold leastA
    rw [if_neg hc]
theorem cnt_law (t : Tg) (m w : Int) : cntA t m w = -1 ∨ ∃ M c tw : Nat, m = M ∧ 1 ≤ M ∧ M ≤ 3000 ∧ okM t m = true ∧ cntA t m w = c ∧ c ≤ M ∧ mostA t m = tw ∧ 1 ≤ tw ∧ tw ≤ 31 ∧ (∀ k : Nat, cntA t m ((k : Int) + 1) = (cwTo (lngF t) ((k : Int) + 1) M : Int)) ∧ (greatest t < m ∨ cwSum (lngF t) M tw = M) := by
  by_cases hc : (okM t m && decide (1 ≤ w)) = true
  · right
    rw [Bool.and_eq_true, decide_eq_true_eq] at hc
    obtain ⟨ho, hw⟩ := hc
    obtain ⟨hok, M, rfl, h1, h2⟩ := okM_yes ho
    have hf1 : 1 ≤ lngF t 1 := by have := (long_one hok).1; unfold lngF; rw [show ((1 : Nat) : Int) = 1 from rfl, this]; omega
    obtain ⟨q1, -, -, -⟩ := tw_low h1 hf1
    have q5 := tw_le (f := lngF t) (M := 31) (by omega) (fun j => (lng_bd t j).2.1) M
    refine ⟨M, cwTo (lngF t) w M, twTo (lngF t) M, rfl, h1, h2, ho, ?_, cw_le M, ?_, q1, by omega, fun k => ?_, ?_⟩
    · unfold cntA; rw [ho, decide_eq_true hw]; rfl
    · unfold mostA; rw [ho]; rfl
    · unfold cntA; rw [ho, decide_eq_true (show 1 ≤ (k : Int) + 1 by omega)]; rfl
    · rcases Int.lt_or_le (greatest t) (M : Int) with h | h
      · exact .inl h
      · right
        rw [cw_sum_top]
        exact cw_top_all M fun i a b => ⟨long_named hok a (by omega), (tw_spec (f := lngF t) M).1 i a b⟩
  · left
    unfold cntA
    rw [if_neg hc]
theorem most_law (t : Tg) (m : Int) : (okM t m = false ∧ mostA t m = -1 ∧ mostAt t m = -1) ∨ ∃ M tw ta : Nat, m = M ∧ 1 ≤ M ∧ M ≤ 3000 ∧ okM t m = true ∧ mostA t m = tw ∧ mostAt t m = ta ∧ 1 ≤ tw ∧ tw ≤ 31 ∧ 1 ≤ ta ∧ ta ≤ M ∧ longOf t ta = tw ∧
    (∀ n : Nat, 1 ≤ n → n ≤ M → longOf t n ≤ tw ∧ (n < ta → longOf t n < tw)) ∧ (∀ k : Nat, 1 ≤ k → k < tw → ∃ n : Nat, leastA t k = n ∧ 1 ≤ n ∧ n ≤ ta) := by
  cases ho : okM t m
  · exact .inl ⟨rfl, by unfold mostA; rw [ho]; rfl, by unfold mostAt; rw [ho]; rfl⟩
  · right
    obtain ⟨hok, M, rfl, h1, h2⟩ := okM_yes ho
    have hf1 : 1 ≤ lngF t 1 := by have := (long_one hok).1; unfold lngF; rw [show ((1 : Nat) : Int) = 1 from rfl, this]; omega
    obtain ⟨q1, q2, q3, -⟩ := tw_low h1 hf1
    have q5 := tw_le (f := lngF t) (M := 31) (by omega) (fun j => (lng_bd t j).2.1) M
    have q6 := ta_le (f := lngF t) M
    obtain ⟨a, b⟩ := tw_spec (f := lngF t) M
    obtain b | ⟨-, b2, b3⟩ := b
    · omega
    refine ⟨M, twTo (lngF t) M, taTo (lngF t) M, rfl, h1, h2, rfl, by unfold mostA; rw [ho]; rfl, by unfold mostAt; rw [ho]; rfl, q1, by omega, q3, q6, b2, fun n n1 n2 => ⟨a n n1 n2, fun n3 => b3 n n1 n3⟩, fun k k1 k2 => ?_⟩
    obtain ⟨j, j1, j2, j3⟩ := long_down hok _ q3 (by omega) (k : Int) (by omega) (show (k : Int) < lngF t (taTo (lngF t) M) by rw [b2]; omega)
    obtain ⟨c1, c2⟩ := lw_upto (f := lngF t) (w := (k : Int)) (k := 3000) j1 (by omega) j3
    exact ⟨lwTo (lngF t) k 3000, by rw [least_eq hok (by omega), if_neg c1], by omega, by omega⟩
theorem sw_ge {f : Nat → Int} : ∀ m, (∀ i, 1 ≤ i → i ≤ m → 1 ≤ f i) → m ≤ swTo f m := by
  intro m
  induction m with
  | zero => intro _; exact Nat.zero_le _
  | succ m ih =>
    intro h
    have h1 := h (m + 1) (by omega) (Nat.le_refl _)
    have h2 := ih (fun i a b => h i a (by omega))
    rw [swTo]
    omega
theorem all_bd (t : Tg) (m : Int) : -1 ≤ allA t m ∧ allA t m ≤ 100000 := by
  unfold allA
  split
  · rename_i h
    obtain ⟨-, M, rfl, -, h2⟩ := okM_yes h
    have := sw_le (f := lngF t) (M := 31) (by omega) (fun j => (lng_bd t j).2.1) M
    rw [Int.toNat_natCast]
    omega
  · omega
theorem all_law (t : Tg) (m : Int) : allA t m = -1 ∨ ∃ M s : Nat, m = M ∧ 1 ≤ M ∧ M ≤ 3000 ∧ allA t m = s ∧ s ≤ 100000 ∧ (allA t (m + 1) = -1 ∨ allA t (m + 1) = s + max (longOf t (m + 1)) 0) ∧ (greatest t < m ∨ M ≤ s) := by
  cases ho : okM t m
  · left
    unfold allA
    rw [ho]
    rfl
  · right
    obtain ⟨hok, M, rfl, h1, h2⟩ := okM_yes ho
    have hbd := all_bd t (M : Int)
    have hA : allA t (M : Int) = swTo (lngF t) M := by unfold allA; rw [ho]; rfl
    refine ⟨M, swTo (lngF t) M, rfl, h1, h2, hA, by omega, ?_, ?_⟩
    · by_cases h3 : M + 1 ≤ 3000
      · right
        have h4 := okM_of hok (show 1 ≤ M + 1 by omega) h3
        have e : ((M + 1 : Nat) : Int) = (M : Int) + 1 := by omega
        rw [e] at h4
        unfold allA
        rw [h4, if_pos rfl, show ((M : Int) + 1).toNat = M + 1 by omega, swTo]
        unfold lngF
        rw [e]
        omega
      · left
        have h4 : okM t ((M : Int) + 1) = false := by unfold okM; rw [decide_eq_false (by omega), Bool.and_false]
        unfold allA
        rw [h4]
        rfl
    · rcases Int.lt_or_le (greatest t) (M : Int) with h | h
      · exact .inl h
      · exact .inr (sw_ge M fun i a b => long_named hok a (by omega))
end Go.Proofs.Ytebfoofiaokhdaa
