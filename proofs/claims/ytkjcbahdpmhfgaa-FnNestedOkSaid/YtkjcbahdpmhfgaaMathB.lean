/-
  Plain mathematics of chapter 1: the counts of numbers; sums; bases that divide.
-/
import Derived.Test.YtkjcbahdpmhfgaaMath
namespace Go.Proofs.Ytkjcbahdpmhfgaa
open Go Go.RowKit

theorem countsOf_getD {b : List Int} {n : Int} (h : countsOk b n = true) {k : Nat} (hk : k < b.length) : (countsOf b n).getD k 0 = cntN b n k := by
  rw [countsOf_yes h]; simp [List.getD_eq_getElem?_getD, hk]
theorem countsOf_length {b : List Int} {n : Int} (h : countsOk b n = true) : (countsOf b n).length = b.length := by rw [countsOf_yes h]; simp

theorem sumTo_countsOf {b : List Int} {n : Int} (h : countsOk b n = true) : ∀ k, k ≤ b.length → sumTo b (countsOf b n) k = leftN b n (b.length - k) := by
  obtain ⟨hb, hn⟩ := (countsOk_iff b n).1 h
  have hl := bases_len hb
  intro k
  induction k with
  | zero =>
    intro _
    rw [show b.length - 0 = (b.length - 1) + 1 by omega]
    simp only [sumTo, leftN]
    rw [show b.length - 1 - (b.length - 1) = 0 by omega, bases_one hb]
    omega
  | succ k ih =>
    intro hk
    simp only [sumTo]
    rw [ih (by omega), countsOf_getD h (by omega), show b.length - k = (b.length - (k + 1)) + 1 by omega]
    simp only [leftN, cntN]
    rw [show b.length - 1 - (b.length - (k + 1)) = k by omega, show b.length - 1 - k = b.length - (k + 1) by omega]
    have := Int.emod_add_mul_ediv (leftN b n (b.length - (k + 1))) (b.getD k 0)
    omega

theorem sumOk_countsOf {b : List Int} {n : Int} (h : countsOk b n = true) : sumOk b (countsOf b n) = true := by
  obtain ⟨hb, hn⟩ := (countsOk_iff b n).1 h
  refine sumOk_yes hb (countsOf_length h) ?_ ?_
  · simp only [inAll, List.all_eq_true, List.mem_range, decide_eq_true_eq]
    intro j hj
    rw [countsOf_getD h hj]
    exact cntN_bd hb hn hj
  · rw [sumTo_countsOf h _ (Nat.le_refl _)]; simp [leftN]; omega
theorem sumVal_countsOf {b : List Int} {n : Int} (h : countsOk b n = true) : sumVal b (countsOf b n) = n := by
  rw [sumVal_yes (sumOk_countsOf h), sumTo_countsOf h _ (Nat.le_refl _)]; simp [leftN]
theorem greedy_countsOf {b : List Int} {n : Int} (h : countsOk b n = true) : greedy b (countsOf b n) = true := by
  obtain ⟨hb, hn⟩ := (countsOk_iff b n).1 h
  have hl := bases_len hb
  rw [greedy, sumOk_countsOf h, Bool.true_and]
  simp only [grTo, List.all_eq_true, List.mem_range, decide_eq_true_eq]
  intro j hj
  rw [sumTo_countsOf h _ (by omega), show b.length - (j + 1) = (b.length - (j + 2)) + 1 by omega]
  simp only [leftN]
  rw [show b.length - 1 - (b.length - (j + 2)) = j + 1 by omega]
  have := bases_pos hb (j + 1) (by omega)
  exact Int.emod_lt_of_pos _ (by omega)

/-- What the counts of one more are, if all above place k are the same. -/
theorem left_next {b : List Int} {n : Int} (i : Nat) (hb : basesOk b = true) (hi : i ≤ b.length) (h : ∀ j, b.length - i ≤ j → j < b.length → cntN b (n+1) j = cntN b n j) : leftN b (n+1) i = leftN b n i + 1 := by
  induction i with
  | zero => rfl
  | succ i ih =>
    have h1 := ih (by omega) (fun j hj hl => h j (by omega) hl)
    have h2 := h (b.length - 1 - i) (by omega) (by omega)
    have h3 := bases_pos hb (b.length - 1 - i) (by omega)
    simp only [cntN] at h2
    rw [show b.length - 1 - (b.length - 1 - i) = i by omega] at h2
    simp only [leftN]
    have e1 := Int.emod_add_mul_ediv (leftN b (n+1) i) (b.getD (b.length - 1 - i) 0)
    have e2 := Int.emod_add_mul_ediv (leftN b n i) (b.getD (b.length - 1 - i) 0)
    rw [h2] at e1
    omega
theorem cnt_next {b : List Int} {n : Int} (hb : basesOk b = true) {k : Nat} (hk : k < b.length) (h : ∀ j, k < j → j < b.length → cntN b (n+1) j = cntN b n j) (hne : k = 0 ∨ cntN b (n+1) k ≠ cntN b n k) : cntN b n k < cntN b (n+1) k := by
  have h1 := left_next (n := n) (b.length - 1 - k) hb (by omega) (fun j hj hl => h j (by omega) hl)
  have h3 := bases_pos hb k hk
  simp only [cntN] at hne ⊢
  rw [h1] at hne ⊢
  rcases hne with rfl | hne
  · rw [bases_one hb]; omega
  · have := Int.ediv_le_ediv (a := leftN b n (b.length - 1 - k)) (b := leftN b n (b.length - 1 - k) + 1) (c := b.getD k 0) (by omega) (by omega)
    omega

/-- Counts such as may be are those of their sum. -/
theorem left_greedy {b c : List Int} (h : greedy b c = true) : ∀ i, i ≤ b.length → leftN b (sumTo b c b.length) i = sumTo b c (b.length - i) := by
  simp only [greedy, Bool.and_eq_true] at h
  obtain ⟨hs, hg⟩ := h
  obtain ⟨hb, hl, hc, hm⟩ := (sumOk_iff b c).1 hs
  intro i
  induction i with
  | zero => intro _; rfl
  | succ i ih =>
    intro hi
    simp only [leftN]
    rw [ih (by omega), show b.length - i = (b.length - (i + 1)) + 1 by omega]
    simp only [sumTo]
    rw [show b.length - 1 - i = b.length - (i + 1) by omega]
    have h0 := (sumTo_bd hb (k := b.length - (i + 1)) (by omega) (inAll_le hc (by omega))).1
    have h1 : sumTo b c (b.length - (i + 1)) < b.getD (b.length - (i + 1)) 0 := by
      by_cases e : b.length - (i + 1) = 0
      · rw [e, bases_one hb]; simp [sumTo]
      · have := grTo_at hg (j := b.length - (i + 1) - 1) (by omega)
        rwa [show b.length - (i + 1) - 1 + 1 = b.length - (i + 1) by omega] at this
    rw [Int.add_mul_emod_self_left, Int.emod_eq_of_lt h0 h1]
theorem greedy_iff {b c : List Int} (hs : sumOk b c = true) : greedy b c = decide (countsOf b (sumTo b c b.length) = c) := by
  obtain ⟨hb, hl, hc, hm⟩ := (sumOk_iff b c).1 hs
  have h0 := (sumTo_bd hb (Nat.le_refl _) hc).1
  have hok : countsOk b (sumTo b c b.length) = true := (countsOk_iff _ _).2 ⟨hb, h0, hm⟩
  rw [Bool.eq_iff_iff, decide_eq_true_eq]
  constructor
  · intro hg
    apply List.ext_getElem
    · rw [countsOf_length hok, hl]
    · intro k h1 h2
      have hk : k < b.length := by omega
      have e1 := countsOf_getD hok hk
      simp only [List.getD_eq_getElem?_getD, List.getElem?_eq_getElem h1, Option.getD_some] at e1
      have hg2 := hg
      simp only [greedy, Bool.and_eq_true] at hg2
      rw [e1, cntN, left_greedy hg _ (by omega), show b.length - (b.length - 1 - k) = k + 1 by omega]
      simp only [sumTo]
      have hp := bases_pos hb k hk
      have h0 := (sumTo_bd hb (k := k) (by omega) (inAll_le hc (by omega))).1
      have h1 : sumTo b c k < b.getD k 0 := by
        by_cases e : k = 0
        · rw [e, bases_one hb]; simp [sumTo]
        · have := grTo_at hg2.2 (j := k - 1) (by omega)
          rwa [show k - 1 + 1 = k by omega] at this
      rw [Int.add_mul_ediv_left _ _ (by omega), Int.ediv_eq_zero_of_lt h0 h1, Int.zero_add]
      simp [List.getD_eq_getElem?_getD, List.getElem?_eq_getElem h2]
  · intro e
    have := greedy_countsOf hok
    rwa [e] at this

theorem Fits.set {xs : List Int} (h : Fits xs) {k : Nat} {z : Int} (hz : -9223372036854775808 ≤ z ∧ z ≤ 9223372036854775807) : Fits (xs.set k z) := by
  intro j
  have hj := h j
  simp only [List.getD_eq_getElem?_getD, List.getElem?_set] at hj ⊢
  split
  · split
    · exact hz
    · simp
  · exact hj
/-- One more of the first base is one more. -/
theorem sumTo_first {b c : List Int} (hb : basesOk b = true) (hl : c.length = b.length) (k : Nat) (hk : k ≤ b.length) (h0 : 0 < k) : sumTo b (c.set 0 (c.getD 0 0 + 1)) k = sumTo b c k + 1 := by
  have hlen := bases_len hb
  induction k with
  | zero => omega
  | succ k ih =>
    simp only [sumTo]
    by_cases e : k = 0
    · subst e
      have : (c.set 0 (c.getD 0 0 + 1)).getD 0 0 = c.getD 0 0 + 1 := by simp [List.getD_eq_getElem?_getD, show 0 < c.length by omega]
      rw [this, bases_one hb]; simp only [sumTo]; omega
    · have h1 : (c.set 0 (c.getD 0 0 + 1)).getD k 0 = c.getD k 0 := by
        simp [List.getD_eq_getElem?_getD, List.getElem?_set, show ¬ 0 = k by omega]
      rw [ih (by omega) (by omega), h1]; omega
theorem sum_more {b c : List Int} (h : sumOk b c = true) (h' : sumOk b (c.set 0 (c.getD 0 0 + 1)) = true) : sumVal b (c.set 0 (c.getD 0 0 + 1)) = sumVal b c + 1 := by
  obtain ⟨hb, hl, _, _⟩ := (sumOk_iff b c).1 h
  have hlen := bases_len hb
  rw [sumVal_yes h, sumVal_yes h', sumTo_first hb hl _ (Nat.le_refl _) (by omega)]
theorem sumTo_zeros (b : List Int) (m k : Nat) : sumTo b (List.replicate m 0) k = 0 := by
  induction k with
  | zero => rfl
  | succ k ih =>
    simp only [sumTo, ih]
    have : (List.replicate m (0 : Int)).getD k 0 = 0 := by
      by_cases h : k < m <;> simp [List.getD_eq_getElem?_getD, h]
    rw [this]; simp
theorem sumOk_zeros {b : List Int} (hb : basesOk b = true) : sumOk b (List.replicate b.length 0) = true := by
  refine sumOk_yes hb (by simp) ?_ (by rw [sumTo_zeros]; decide)
  simp only [inAll, List.all_eq_true, List.mem_range, decide_eq_true_eq]
  intro j hj
  simp [List.getD_eq_getElem?_getD, hj]
theorem sumVal_zeros {b : List Int} (hb : basesOk b = true) : sumVal b (List.replicate b.length 0) = 0 := by rw [sumVal_yes (sumOk_zeros hb), sumTo_zeros]

/-- Bases that divide bound the counts. -/
theorem nested_cnt {b : List Int} {n : Int} (h : nested b = true) (hn : 0 ≤ n ∧ n ≤ 999999) {k : Nat} (hk : k + 1 < b.length) : cntN b n k < b.getD (k+1) 0 / b.getD k 0 := by
  simp only [nested, Bool.and_eq_true] at h
  obtain ⟨hb, hd⟩ := h
  have h0 := nestTo_at hd (j := k) (by omega)
  have p1 := bases_pos hb k (by omega)
  have p2 := bases_pos hb (k+1) hk
  have h1 : leftN b n (b.length - 1 - k) < b.getD (k+1) 0 := by
    rw [show b.length - 1 - k = (b.length - (k + 2)) + 1 by omega]
    simp only [leftN]
    rw [show b.length - 1 - (b.length - (k + 2)) = k + 1 by omega]
    exact Int.emod_lt_of_pos _ (by omega)
  have e := Int.emod_add_mul_ediv (b.getD (k+1) 0) (b.getD k 0)
  rw [h0, Int.zero_add] at e
  simp only [cntN]
  refine Int.ediv_lt_of_lt_mul (by omega) ?_
  rw [Int.mul_comm, e]; exact h1
end Go.Proofs.Ytkjcbahdpmhfgaa
