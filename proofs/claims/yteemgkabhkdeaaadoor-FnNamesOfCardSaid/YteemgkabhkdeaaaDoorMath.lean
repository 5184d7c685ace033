/-
  Plain mathematics of chapter 1 (bases, counts, sums) on lists of integers. Imports nothing of the program.
-/
import Derived.IntWalk
import Derived.Below
namespace Go.Proofs.YteemgkabhkdeaaaDoor
open Go Go.RowKit

/-- Each number fits an int64. -/
def Fits (xs : List Int) : Prop := ∀ j, -9223372036854775808 ≤ xs.getD j 0 ∧ xs.getD j 0 ≤ 9223372036854775807

theorem Fits.of_wf {xs : List Int} (h : ∀ x ∈ xs, (Lit.int .i64 x).wf = true) : Fits xs := by
  intro j
  by_cases hj : j < xs.length
  · have := h xs[j] (List.getElem_mem hj)
    simp only [List.getD_eq_getElem?_getD, List.getElem?_eq_getElem hj, Option.getD_some]
    simpa [Lit.wf, IntKind.min, IntKind.max, IntKind.signed, IntKind.bits] using this
  · simp [List.getD_eq_getElem?_getD, List.getElem?_eq_none (by omega : xs.length ≤ j)]
def up (xs : List Int) (k : Nat) : Bool := (List.range k).all fun j => decide (j = 0 ∨ (xs.getD (j-1) 0 + 1 ≤ xs.getD j 0 ∧ xs.getD j 0 ≤ 999999))
def basesOk (xs : List Int) : Bool := decide (1 ≤ xs.length ∧ xs.length ≤ 5 ∧ xs.getD 0 0 = 1) && up xs xs.length

theorem up_succ (xs : List Int) (k : Nat) : up xs (k+1) = (up xs k && decide (k = 0 ∨ (xs.getD (k-1) 0 + 1 ≤ xs.getD k 0 ∧ xs.getD k 0 ≤ 999999))) := by
  simp [up, List.range_succ]
theorem up_one (xs : List Int) : up xs 1 = true := by simp [up]
theorem up_at (xs : List Int) {j k : Nat} (h : up xs k = true) (h0 : 0 < j) (hj : j < k) : xs.getD (j-1) 0 + 1 ≤ xs.getD j 0 ∧ xs.getD j 0 ≤ 999999 := by
  simp only [up, List.all_eq_true, List.mem_range, decide_eq_true_eq] at h
  rcases h j hj with e | e
  · omega
  · exact e
theorem up_pos (xs : List Int) {k : Nat} (h : up xs k = true) (h1 : xs.getD 0 0 = 1) : ∀ j, j < k → 1 ≤ xs.getD j 0 ∧ xs.getD j 0 ≤ 999999 := by
  intro j
  induction j with
  | zero => intro _; rw [h1]; decide
  | succ j ih => intro hj; have := ih (by omega); have := up_at xs h (j := j+1) (by omega) hj; simp only [Nat.add_sub_cancel] at this; omega
theorem basesOk_iff (xs : List Int) : basesOk xs = true ↔ (1 ≤ xs.length ∧ xs.length ≤ 5 ∧ xs.getD 0 0 = 1) ∧ up xs xs.length = true := by
  simp [basesOk]
theorem wrap64_id {a : Int} (h : -9223372036854775808 ≤ a ∧ a ≤ 9223372036854775807) : wrap64 a = a := by
  simp only [wrap64]; omega
theorem up_prev (xs : List Int) {k : Nat} (h0 : 0 < k) (h1 : xs.getD 0 0 = 1) (hu : up xs k = true) : wrap64 (xs.getD (k-1) 0 + 1) = xs.getD (k-1) 0 + 1 := by
  have h := up_pos xs hu h1 (k-1) (by omega)
  exact wrap64_id (by omega)
theorem basesOk_not (xs : List Int) (k : Nat) (hk : k < xs.length) (h0 : 0 < k) (hu : xs.getD 0 0 = 1 → up xs k = true) (hn : (!decide (wrap64 (xs.getD (k-1) 0 + 1) ≤ xs.getD k 0)) = true ∨ (!decide (xs.getD k 0 ≤ 999999)) = true) : basesOk xs = false := by
  rw [Bool.eq_false_iff]
  intro hb
  obtain ⟨⟨_, _, h1⟩, h2⟩ := (basesOk_iff xs).1 hb
  have h3 := up_at xs h2 h0 hk
  rw [up_prev xs h0 h1 (hu h1)] at hn
  simp only [Bool.not_eq_true', decide_eq_false_iff_not] at hn
  omega
theorem basesOk_go (xs : List Int) (k : Nat) (h0 : 0 < k) (hu : xs.getD 0 0 = 1 → up xs k = true) (hn : (!decide (wrap64 (xs.getD (k-1) 0 + 1) ≤ xs.getD k 0)) = false ∧ (!decide (xs.getD k 0 ≤ 999999)) = false) : xs.getD 0 0 = 1 → up xs (k+1) = true := by
  intro h1
  rw [up_prev xs h0 h1 (hu h1)] at hn
  simp only [Bool.not_eq_false', decide_eq_true_eq] at hn
  rw [up_succ, hu h1]
  simp only [Bool.true_and, decide_eq_true_eq]
  exact .inr hn
theorem basesOk_end (xs : List Int) (hu : xs.getD 0 0 = 1 → up xs xs.length = true) (hl : 1 ≤ xs.length ∧ xs.length ≤ 5) : basesOk xs = (xs.getD 0 0 == 1) := by
  rw [Bool.eq_iff_iff, basesOk_iff, beq_iff_eq]
  exact ⟨fun h => h.1.2.2, fun h => ⟨⟨hl.1, hl.2, h⟩, hu h⟩⟩
theorem basesOk_long (xs : List Int) (hl : ¬(1 ≤ xs.length ∧ xs.length ≤ 5)) : basesOk xs = false := by
  rw [Bool.eq_false_iff, Ne, basesOk_iff]
  intro h; exact hl ⟨h.1.1, h.1.2.1⟩
theorem basesOk_one (xs : List Int) (h : ¬ xs.getD 0 0 = 1) : basesOk xs = false := by
  rw [Bool.eq_false_iff, Ne, basesOk_iff]
  intro hb; exact h hb.1.2.2
theorem basesOk_step (xs : List Int) (h0 : 0 < xs.length) (h5 : xs.length ≤ 5) (h1 : xs.getD 0 0 = 1) : basesOk xs = up xs xs.length := by
  rw [Bool.eq_iff_iff, basesOk_iff]
  exact ⟨fun h => h.2, fun h => ⟨⟨h0, h5, h1⟩, h⟩⟩
theorem basesOk_single (xs : List Int) (h : xs.length = 1) (h1 : xs.getD 0 0 = 1) : basesOk xs = true := by
  rw [basesOk_step xs (by omega) (by omega) h1, h]; exact up_one xs
theorem basesOk_top (xs : List Int) (h5 : xs.length ≤ 5) (h1 : xs.getD 0 0 = 1) {k : Nat} (hk : k + 1 = xs.length) (hu : up xs (k+1) = true) : basesOk xs = true := by
  rw [basesOk_step xs (by omega) (by omega) h1, ← hk]; exact hu
theorem basesOk_down (xs : List Int) (k : Nat) (hk : k < xs.length) (hu : ¬ up xs (k+1) = true) : basesOk xs = false := by
  rw [Bool.eq_false_iff, Ne, basesOk_iff]
  intro hb
  apply hu
  simp only [up, List.all_eq_true, List.mem_range] at hb ⊢
  exact fun j hj => hb.2 j (by omega)
theorem basesOk_no2 (xs : List Int) (k : Nat) (hk : k + 1 < xs.length) (hn : xs.getD (k+1) 0 ≤ xs.getD k 0 ∨ 999999 < xs.getD (k+1) 0) : basesOk xs = false := by
  refine basesOk_down xs (k+1) hk ?_
  rw [up_succ]
  simp only [Nat.add_sub_cancel, Bool.and_eq_true, decide_eq_true_eq]
  omega
theorem basesOk_go2 (xs : List Int) (k : Nat) (hu : up xs (k+1) = true) (hn : xs.getD k 0 < xs.getD (k+1) 0 ∧ xs.getD (k+1) 0 ≤ 999999) : up xs (k+1+1) = true := by
  rw [up_succ, hu]
  simp only [Nat.add_sub_cancel, Bool.true_and, decide_eq_true_eq]
  omega

theorem bases_pos {b : List Int} (h : basesOk b = true) : ∀ j, j < b.length → 1 ≤ b.getD j 0 ∧ b.getD j 0 ≤ 999999 := fun j hj =>
  up_pos b ((basesOk_iff b).1 h).2 ((basesOk_iff b).1 h).1.2.2 j hj
theorem bases_len {b : List Int} (h : basesOk b = true) : 1 ≤ b.length ∧ b.length ≤ 5 := ⟨((basesOk_iff b).1 h).1.1, ((basesOk_iff b).1 h).1.2.1⟩
theorem bases_one {b : List Int} (h : basesOk b = true) : b.getD 0 0 = 1 := ((basesOk_iff b).1 h).1.2.2
theorem bases_lt {b : List Int} (h : basesOk b = true) {k : Nat} (hk : k + 1 < b.length) : b.getD k 0 < b.getD (k+1) 0 := by
  have := up_at b ((basesOk_iff b).1 h).2 (j := k+1) (by omega) hk
  simp only [Nat.add_sub_cancel] at this; omega

theorem getD_take {xs : List Int} {m j : Nat} (hj : j < m) : (xs.take m).getD j 0 = xs.getD j 0 := by simp [List.getD_eq_getElem?_getD, hj]
theorem basesOk_init {xs : List Int} (h : basesOk xs = true) (h2 : 2 ≤ xs.length) : basesOk (xs.take (xs.length - 1)) = true := by
  obtain ⟨⟨h1, h5, h0⟩, hu⟩ := (basesOk_iff xs).1 h
  have hl : (xs.take (xs.length - 1)).length = xs.length - 1 := by simp
  rw [basesOk_iff, hl]
  refine ⟨⟨by omega, by omega, by rw [getD_take (by omega)]; exact h0⟩, ?_⟩
  simp only [up, List.all_eq_true, List.mem_range, decide_eq_true_eq] at hu ⊢
  intro j hj
  rcases hu j (by omega) with e | e
  · exact .inl e
  · right; rw [getD_take (by omega), getD_take (by omega)]; exact e

/-! nested -/
def nestTo (b : List Int) (k : Nat) : Bool := (List.range k).all fun j => decide (b.getD (j+1) 0 % b.getD j 0 = 0)
def nested (b : List Int) : Bool := basesOk b && nestTo b (b.length - 1)
theorem nestTo_zero (b : List Int) : nestTo b 0 = true := by simp [nestTo]
theorem nestTo_succ (b : List Int) (k : Nat) : nestTo b (k+1) = (nestTo b k && decide (b.getD (k+1) 0 % b.getD k 0 = 0)) := by simp [nestTo, List.range_succ]
theorem nestTo_at {b : List Int} {k j : Nat} (h : nestTo b k = true) (hj : j < k) : b.getD (j+1) 0 % b.getD j 0 = 0 := by
  simp only [nestTo, List.all_eq_true, List.mem_range, decide_eq_true_eq] at h; exact h j hj
theorem nested_no {b : List Int} {k : Nat} (hk : k + 1 < b.length) (h : (b.getD (k+1) 0 % b.getD k 0 != 0) = true) : nested b = false := by
  rw [Bool.eq_false_iff]; intro hn
  simp only [nested, Bool.and_eq_true] at hn
  have := nestTo_at hn.2 (j := k) (by omega)
  rw [bne_iff_ne] at h; exact h this
theorem nestTo_go {b : List Int} {k : Nat} (hu : nestTo b k = true) (h : (b.getD (k+1) 0 % b.getD k 0 != 0) = false) : nestTo b (k+1) = true := by
  rw [nestTo_succ, hu]; simpa using h
theorem nested_yes {b : List Int} {k : Nat} (hb : basesOk b = true) (hk : k + 1 = b.length) (hu : nestTo b k = true) : nested b = true := by
  have : b.length - 1 = k := by omega
  rw [nested, hb, this, hu]; rfl
theorem nested_off {b : List Int} (hb : basesOk b = false) : nested b = false := by rw [nested, hb]; rfl

/-! sums -/
def sumTo (b c : List Int) : Nat → Int
  | 0 => 0
  | k + 1 => sumTo b c k + b.getD k 0 * c.getD k 0
def inAll (c : List Int) (k : Nat) : Bool := (List.range k).all fun j => decide (0 ≤ c.getD j 0 ∧ c.getD j 0 ≤ 999999)
def sumOk (b c : List Int) : Bool := basesOk b && decide (c.length = b.length) && inAll c b.length && decide (sumTo b c b.length ≤ 999999)
def sumVal (b c : List Int) : Int := if sumOk b c = true then sumTo b c b.length else -1
theorem inAll_at {c : List Int} {k : Nat} (h : inAll c k = true) {j : Nat} (hj : j < k) : 0 ≤ c.getD j 0 ∧ c.getD j 0 ≤ 999999 := by
  simp only [inAll, List.all_eq_true, List.mem_range, decide_eq_true_eq] at h; exact h j hj
theorem inAll_zero (c : List Int) : inAll c 0 = true := by simp [inAll]
theorem inAll_succ (c : List Int) (k : Nat) : inAll c (k+1) = (inAll c k && decide (0 ≤ c.getD k 0 ∧ c.getD k 0 ≤ 999999)) := by simp [inAll, List.range_succ]
theorem inAll_go {c : List Int} {k : Nat} (hu : inAll c k = true) (h : 0 ≤ c.getD k 0 ∧ c.getD k 0 ≤ 999999) : inAll c (k+1) = true := by rw [inAll_succ, hu]; simpa using h
theorem inAll_le {c : List Int} {j k : Nat} (h : inAll c k = true) (hj : j ≤ k) : inAll c j = true := by
  simp only [inAll, List.all_eq_true, List.mem_range] at *; exact fun x hx => h x (by omega)
theorem mul_bd {x y : Int} (hx : 1 ≤ x ∧ x ≤ 999999) (hy : 0 ≤ y ∧ y ≤ 999999) : y ≤ x * y ∧ x * y ≤ 999998000001 := by
  constructor
  · have := Int.mul_le_mul_of_nonneg_right hx.1 hy.1; omega
  · have h1 := Int.mul_le_mul_of_nonneg_right hx.2 hy.1
    have h2 : (999999 : Int) * y ≤ 999999 * 999999 := by omega
    omega
theorem sumTo_bd {b c : List Int} (hb : basesOk b = true) {k : Nat} (hk : k ≤ b.length) (hc : inAll c k = true) : 0 ≤ sumTo b c k ∧ sumTo b c k ≤ k * 999998000001 := by
  induction k with
  | zero => exact ⟨Int.le_refl 0, by simp [sumTo]⟩
  | succ k ih =>
    have h := ih (by omega) (inAll_le hc (by omega))
    have hy := inAll_at hc (j := k) (by omega)
    have hx := bases_pos hb k (by omega)
    have hm := mul_bd hx hy
    simp only [sumTo]
    omega
theorem sumTo_mono {b c : List Int} (hb : basesOk b = true) {j k : Nat} (hjk : j ≤ k) (hk : k ≤ b.length) (hc : inAll c k = true) : sumTo b c j ≤ sumTo b c k := by
  induction k with
  | zero => obtain rfl : j = 0 := by omega
            exact Int.le_refl _
  | succ k ih =>
    by_cases e : j = k + 1
    · rw [e]; exact Int.le_refl _
    · have h := ih (by omega) (by omega) (inAll_le hc (by omega))
      have hm := mul_bd (bases_pos hb k (by omega)) (inAll_at hc (j := k) (by omega))
      have hy := inAll_at hc (j := k) (by omega)
      simp only [sumTo]; omega
theorem sumOk_iff (b c : List Int) : sumOk b c = true ↔ basesOk b = true ∧ c.length = b.length ∧ inAll c b.length = true ∧ sumTo b c b.length ≤ 999999 := by
  simp only [sumOk, Bool.and_eq_true, decide_eq_true_eq]; exact ⟨fun ⟨⟨⟨a, b⟩, c⟩, d⟩ => ⟨a, b, c, d⟩, fun ⟨a, b, c, d⟩ => ⟨⟨⟨a, b⟩, c⟩, d⟩⟩
theorem sumOk_off {b c : List Int} (h : basesOk b = false ∨ c.length ≠ b.length) : sumOk b c = false := by
  rw [Bool.eq_false_iff, Ne, sumOk_iff]; rintro ⟨h1, h2, _⟩; rcases h with h | h
  · rw [h] at h1; cases h1
  · exact h h2
theorem sumVal_off {b c : List Int} (h : sumOk b c = false) : sumVal b c = -1 := by rw [sumVal, h]; rfl
theorem sumOk_no {b c : List Int} {k : Nat} (hk : k < b.length) (h : ¬ (0 ≤ c.getD k 0 ∧ c.getD k 0 ≤ 999999)) : sumOk b c = false := by
  rw [Bool.eq_false_iff, Ne, sumOk_iff]; rintro ⟨_, _, h3, _⟩; exact h (inAll_at h3 hk)
theorem sumOk_big {b c : List Int} (h : ¬ sumTo b c b.length ≤ 999999) : sumOk b c = false := by
  rw [Bool.eq_false_iff, Ne, sumOk_iff]; rintro ⟨_, _, _, h4⟩; exact h h4
theorem sumOk_yes {b c : List Int} (hb : basesOk b = true) (hl : c.length = b.length) (hc : inAll c b.length = true) (h : sumTo b c b.length ≤ 999999) : sumOk b c = true := (sumOk_iff b c).2 ⟨hb, hl, hc, h⟩
theorem sumVal_yes {b c : List Int} (h : sumOk b c = true) : sumVal b c = sumTo b c b.length := by rw [sumVal, if_pos h]
/-- what the division of what is left says -/
theorem div_iff {x y s : Int} (hx : 1 ≤ x) : y ≤ (999999 - s) / x ↔ s + x * y ≤ 999999 := by
  rw [Int.le_ediv_iff_mul_le (by omega), Int.mul_comm]; omega
/-- a count that is too great at place k refuses the sum -/
theorem sumOk_past {b c : List Int} {k : Nat} (hb : basesOk b = true) (hk : k < b.length) (h : c.getD k 0 < 0 ∨ ¬ sumTo b c k + b.getD k 0 * c.getD k 0 ≤ 999999) : sumOk b c = false := by
  rw [Bool.eq_false_iff, Ne, sumOk_iff]; rintro ⟨_, _, h3, h4⟩
  have h5 := inAll_at h3 hk
  have h6 := sumTo_mono hb (j := k+1) (by omega) (Nat.le_refl _) h3
  simp only [sumTo] at h6
  omega

theorem sum_fit {x y s : Int} (hs : 0 ≤ s) (hx : 1 ≤ x) (hy : 0 ≤ y) (h : s + x * y ≤ 999999) : y ≤ 999999 ∧ 0 ≤ x * y := by
  have := Int.mul_le_mul_of_nonneg_right hx hy
  omega
theorem sum_go {c : List Int} {k : Nat} (hu : inAll c k = true) (h : 0 ≤ c.getD k 0 ∧ c.getD k 0 ≤ 999999) : inAll c (k+1) = true := inAll_go hu h

/-! counts -/
/-- What is left of n when i bases have been taken, from the greatest one on. -/
def leftN (b : List Int) (n : Int) : Nat → Int
  | 0 => n
  | i + 1 => leftN b n i % b.getD (b.length - 1 - i) 0
def cntN (b : List Int) (n : Int) (k : Nat) : Int := leftN b n (b.length - 1 - k) / b.getD k 0
def countsOk (b : List Int) (n : Int) : Bool := basesOk b && decide (0 ≤ n ∧ n ≤ 999999)
def countsOf (b : List Int) (n : Int) : List Int := if countsOk b n = true then (List.range b.length).map (cntN b n) else []
theorem countsOf_yes {b : List Int} {n : Int} (h : countsOk b n = true) : countsOf b n = (List.range b.length).map (cntN b n) := by rw [countsOf, if_pos h]
theorem countsOf_no {b : List Int} {n : Int} (h : countsOk b n = false) : countsOf b n = [] := by rw [countsOf, h]; rfl
theorem countsOk_iff (b : List Int) (n : Int) : countsOk b n = true ↔ basesOk b = true ∧ 0 ≤ n ∧ n ≤ 999999 := by simp [countsOk]
theorem leftN_bd {b : List Int} {n : Int} (hb : basesOk b = true) (hn : 0 ≤ n ∧ n ≤ 999999) {i : Nat} (hi : i ≤ b.length) : 0 ≤ leftN b n i ∧ leftN b n i ≤ 999999 := by
  induction i with
  | zero => exact hn
  | succ i ih =>
    have h := ih (by omega)
    have hp := bases_pos hb (b.length - 1 - i) (by omega)
    simp only [leftN]
    have h1 := Int.emod_nonneg (leftN b n i) (show b.getD (b.length - 1 - i) 0 ≠ 0 by omega)
    have h2 := Int.emod_lt_of_pos (leftN b n i) (show 0 < b.getD (b.length - 1 - i) 0 by omega)
    omega
theorem cntN_bd {b : List Int} {n : Int} (hb : basesOk b = true) (hn : 0 ≤ n ∧ n ≤ 999999) {k : Nat} (hk : k < b.length) : 0 ≤ cntN b n k ∧ cntN b n k ≤ 999999 := by
  have h := leftN_bd hb hn (i := b.length - 1 - k) (by omega)
  have hp := bases_pos hb k hk
  have := IntWalk.tdiv_le _ _ h.1 hp.1
  simp only [cntN]; omega

/-! greedy -/
def grTo (b c : List Int) (k : Nat) : Bool := (List.range k).all fun j => decide (sumTo b c (j+1) < b.getD (j+1) 0)
def greedy (b c : List Int) : Bool := sumOk b c && grTo b c (b.length - 1)
theorem grTo_zero (b c : List Int) : grTo b c 0 = true := by simp [grTo]
theorem grTo_succ (b c : List Int) (k : Nat) : grTo b c (k+1) = (grTo b c k && decide (sumTo b c (k+1) < b.getD (k+1) 0)) := by simp [grTo, List.range_succ]
theorem grTo_at {b c : List Int} {k j : Nat} (h : grTo b c k = true) (hj : j < k) : sumTo b c (j+1) < b.getD (j+1) 0 := by
  simp only [grTo, List.all_eq_true, List.mem_range, decide_eq_true_eq] at h; exact h j hj
theorem greedy_off {b c : List Int} (h : sumOk b c = false) : greedy b c = false := by rw [greedy, h]; rfl
theorem greedy_no {b c : List Int} {k : Nat} (hk : k + 1 < b.length) (h : ¬ sumTo b c k + b.getD k 0 * c.getD k 0 < b.getD (k+1) 0) : greedy b c = false := by
  rw [Bool.eq_false_iff]; intro hn
  simp only [greedy, Bool.and_eq_true] at hn
  exact h (grTo_at hn.2 (j := k) (by omega))
theorem grTo_go {b c : List Int} {k : Nat} (hu : grTo b c k = true) (h : sumTo b c k + b.getD k 0 * c.getD k 0 < b.getD (k+1) 0) : grTo b c (k+1) = true := by
  rw [grTo_succ, hu]; simpa [sumTo] using h
theorem greedy_yes {b c : List Int} {k : Nat} (hb : sumOk b c = true) (hk : k + 1 = b.length) (hu : grTo b c k = true) : greedy b c = true := by
  have : b.length - 1 = k := by omega
  rw [greedy, hb, this, hu]; rfl
/-- bounds at place k under sumOk -/
theorem sum_at {b c : List Int} (h : sumOk b c = true) {k : Nat} (hk : k < b.length) : (1 ≤ b.getD k 0 ∧ b.getD k 0 ≤ 999999) ∧ (0 ≤ c.getD k 0 ∧ c.getD k 0 ≤ 999999) ∧ (0 ≤ sumTo b c k ∧ sumTo b c k ≤ 999999) ∧ 0 ≤ b.getD k 0 * c.getD k 0 ∧ b.getD k 0 * c.getD k 0 ≤ 999999 := by
  obtain ⟨h1, h2, h3, h4⟩ := (sumOk_iff b c).1 h
  have a1 := bases_pos h1 k hk
  have a2 := inAll_at h3 hk
  have a3 := sumTo_bd h1 (Nat.le_of_lt hk) (inAll_le h3 (Nat.le_of_lt hk))
  have a4 := sumTo_mono h1 (j := k) (Nat.le_of_lt hk) (Nat.le_refl _) h3
  have a5 := sumTo_mono h1 (j := k+1) (by omega) (Nat.le_refl _) h3
  have a6 := mul_bd a1 a2
  simp only [sumTo] at a5
  omega
end Go.Proofs.YteemgkabhkdeaaaDoor
