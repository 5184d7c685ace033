/-
  Least numbers of many words, as plain mathematics: no number of fewer words is skipped; what is counted up to a number.
-/
import Derived.Test.YtebfoofiaokhdaaGN
namespace Go.Proofs.Ytebfoofiaokhdaa
open Go.RowKit

section
variable {us : List ByteArray} {bs : List Int} {ns : List ByteArray} {n : Nat}
theorem len_parts (hb : basesOk bs = true) (ht : topOf bs n ≠ 0) (h0 : n / baseN bs n < baseN bs n) (h1 : 1 < n / baseN bs n → nameN us bs ns (n / baseN bs n) ≠ []) (h2 : n % baseN bs n ≠ 0 → nameN us bs ns (n % baseN bs n) ≠ []) :
    (nameN us bs ns n).length = (if 1 < n / baseN bs n then (nameN us bs ns (n / baseN bs n)).length else 0) + 1 + (if n % baseN bs n = 0 then 0 else (nameN us bs ns (n % baseN bs n)).length) := by
  rw [name_parts hb ht h0 h1 h2, List.length_append, List.length_append]
  congr 1
  · congr 1
    split <;> rfl
  · split <;> rfl
/-- A number between the greatest base and the number has that base, too. -/
theorem top_same (hb : basesOk bs = true) (ht : topOf bs n ≠ 0) {m : Nat} (h1 : baseN bs n ≤ m) (h2 : m ≤ n) : topOf bs m = topOf bs n ∧ baseN bs m = baseN bs n := by
  have hf := base_facts hb ht
  have e : topOf bs m = topOf bs n := topOf_eq hf.2.2.2.2 hf.2.2.2.1 (by rw [← hf.2.2.1]; omega) (fun i hi hl => by
    have := topTo_above bs n bs.length i hi hl
    omega)
  exact ⟨e, by unfold baseN; rw [e]⟩
theorem one_word (hl : (nameN us bs ns n).length = 1) : nameN us bs ns n ≠ [] := fun e => by rw [e] at hl; cases hl
theorem some_words (hl : nameN us bs ns n ≠ []) : 1 ≤ (nameN us bs ns n).length := by
  rcases Nat.lt_or_ge 0 (nameN us bs ns n).length with h | h
  · exact h
  · exact absurd (List.eq_nil_of_length_eq_zero (by omega)) hl
/-- The words of a number made of how often a base is taken and what is left. -/
theorem len_made (hb : basesOk bs = true) (ht : topOf bs n ≠ 0) {q r : Nat} (hq1 : 1 ≤ q) (hq : q < baseN bs n) (hr : r < baseN bs n) (hle : baseN bs n * q + r ≤ n)
    (h1 : 1 < q → nameN us bs ns q ≠ []) (h2 : r ≠ 0 → nameN us bs ns r ≠ []) :
    (nameN us bs ns (baseN bs n * q + r)).length = (if 1 < q then (nameN us bs ns q).length else 0) + 1 + (if r = 0 then 0 else (nameN us bs ns r).length) := by
  have hf := base_facts hb ht
  have hge : baseN bs n ≤ baseN bs n * q + r := Nat.le_trans (Nat.le_mul_of_pos_right _ hq1) (Nat.le_add_right _ _)
  obtain ⟨e1, e2⟩ := top_same hb ht hge hle
  have ed : (baseN bs n * q + r) / baseN bs n = q := by
    rw [Nat.mul_add_div (by omega), Nat.div_eq_of_lt hr, Nat.add_zero]
  have em : (baseN bs n * q + r) % baseN bs n = r := by
    rw [Nat.mul_add_mod, Nat.mod_eq_of_lt hr]
  have := len_parts (us := us) (ns := ns) (n := baseN bs n * q + r) hb (by rw [e1]; exact ht) (by rw [e2, ed]; exact hq) (by rw [e2, ed]; exact h1) (by rw [e2, em]; exact h2)
  rw [this, e2, ed, em]
/-- No number of fewer words is skipped, by one word. -/
theorem skip_one (hb : basesOk bs = true) (h1 : (nameN us bs ns 1).length = 1) : ∀ n, 1 ≤ n → 2 ≤ (nameN us bs ns n).length → ∃ m, 1 ≤ m ∧ m < n ∧ (nameN us bs ns m).length + 1 = (nameN us bs ns n).length := by
  intro n
  induction n using Nat.strongRecOn with
  | _ n ih =>
    intro hn hl
    have hne : nameN us bs ns n ≠ [] := fun e => by rw [e] at hl; simp at hl
    have ht : topOf bs n ≠ 0 := fun ht => by
      rw [name_unit ht] at hl
      split at hl <;> simp at hl
    obtain ⟨g1, g2, g3⟩ := name_some hb ht hne
    obtain ⟨f1, f2, -⟩ := base_facts hb ht
    obtain ⟨d1, d2, d3, -⟩ := div_pos' f1 f2
    have hL := len_parts hb ht g1 g2 g3
    have hdm := Nat.div_add_mod n (baseN bs n)
    have hmod := Nat.mod_lt n (show 0 < baseN bs n by omega)
    have HM := fun q r => len_made (us := us) (ns := ns) (q := q) (r := r) hb ht
    have ihq := ih (n / baseN bs n) d2 d1
    have ihr := ih (n % baseN bs n) d3
    generalize n / baseN bs n = q at *
    generalize n % baseN bs n = r at *
    generalize baseN bs n = b at *
    have mono : ∀ q', q' < q → b * q' + b ≤ b * q := fun q' h => by
      have := Nat.mul_le_mul_left b (show q' + 1 ≤ q by omega)
      rwa [Nat.mul_succ] at this
    by_cases hr : r = 0
    · rw [if_pos hr] at hL
      have hq : 1 < q := Classical.byContradiction fun h => by rw [if_neg h] at hL; omega
      have hqn := some_words (g2 hq)
      rw [if_pos hq] at hL
      by_cases h3 : 3 ≤ (nameN us bs ns q).length
      · obtain ⟨q', a1, a2, a3⟩ := ihq (by omega)
        have hq' : 1 < q' := by
          rcases Nat.lt_or_ge 1 q' with h | h
          · exact h
          · obtain rfl : q' = 1 := by omega
            omega
        have hm := mono q' a2
        have := HM q' 0 a1 (by omega) (by omega) (by omega) (fun _ e => by rw [e] at a3; simp at a3; omega) (fun h => absurd rfl h)
        rw [if_pos hq', if_pos rfl] at this
        exact ⟨b * q' + 0, Nat.le_trans (show 1 ≤ b by omega) (Nat.le_trans (Nat.le_mul_of_pos_right _ a1) (Nat.le_add_right _ _)), by omega, by omega⟩
      · by_cases h2 : (nameN us bs ns q).length = 2
        · have hm := mono 1 hq
          have := HM 1 1 (Nat.le_refl _) (by omega) (by omega) (by omega) (fun h => absurd h (by omega)) (fun _ => one_word h1)
          rw [if_neg (by omega), if_neg (by omega), h1] at this
          exact ⟨b * 1 + 1, by omega, by omega, by omega⟩
        · exact ⟨1, Nat.le_refl _, by omega, by omega⟩
    · rw [if_neg hr] at hL
      have hrn := some_words (g3 hr)
      by_cases h2 : 2 ≤ (nameN us bs ns r).length
      · obtain ⟨r', a1, a2, a3⟩ := ihr (by omega) h2
        have := HM q r' d1 g1 (by omega) (by omega) g2 (fun _ e => by rw [e] at a3; simp at a3; omega)
        rw [if_neg (show ¬ r' = 0 by omega)] at this
        exact ⟨b * q + r', by omega, by omega, by omega⟩
      · have := HM q 0 d1 g1 (by omega) (by omega) g2 (fun h => absurd rfl h)
        rw [if_pos rfl] at this
        exact ⟨b * q + 0, Nat.le_trans (show 1 ≤ b by omega) (Nat.le_trans (Nat.le_mul_of_pos_right _ d1) (Nat.le_add_right _ _)), by omega, by omega⟩
end

/-! What LongOf answers. -/
theorem long_eq {t : Tg} (hok : t.ok = true) {k : Nat} (h1 : 1 ≤ k) (h2 : k ≤ 99999) : longOf t k = if nameT t k = [] then -1 else ((nameT t k).length : Int) := by
  by_cases h : nameT t k = []
  · rw [if_pos h, longOf_no (named_not h)]
  · rw [if_neg h, longOf_yes (named_of hok h1 h2 h), nameOf_yes (okN_of hok h1 h2)]
theorem long_pos {t : Tg} (hok : t.ok = true) {k : Nat} (h1 : 1 ≤ k) (h2 : k ≤ 99999) (h : 1 ≤ longOf t k) : longOf t k = ((nameT t k).length : Int) := by
  have := long_eq hok h1 h2
  split at this
  · omega
  · exact this
theorem long_one {t : Tg} (hok : t.ok = true) : longOf t 1 = 1 ∧ (nameT t 1).length = 1 := by
  have hs := ok_shape hok
  have hu := hs.us
  have ht1 : topOf t.bs ((1 : Nat) : Int) = 0 := topOf_zero fun i h1 hl => by
    have := bases_mono hs.bs 0 i (by omega) hl
    rw [bases_one hs.bs] at this
    simpa using this
  have hn1 : nameT t 1 = [t.us.getD 0 ByteArray.empty] := by rw [nameT, name_unit ht1, if_neg (by omega)]
  refine ⟨?_, by rw [hn1]; rfl⟩
  have := long_eq hok (k := 1) (Nat.le_refl _) (by omega)
  rw [hn1] at this
  simpa using this
theorem long_31 (t : Tg) (n : Int) : longOf t n ≤ 31 := by
  cases hnb : namedB t n
  · rw [longOf_no hnb]; omega
  · obtain ⟨hok, h1, h2⟩ := named_ok hnb
    obtain ⟨m, rfl⟩ : ∃ m : Nat, n = m := ⟨n.toNat, by omega⟩
    have hs := ok_shape hok
    have hb := hs.bs
    have hl := bases_len hb
    rw [longOf_yes hnb, nameOf_yes (okN_of hok (by omega) (by omega))]
    have h := name_short t.us t.bs t.ns hb m (by omega)
    have htop : topOf t.bs m ≤ 4 := by
      by_cases ht : topOf t.bs m = 0
      · omega
      · have := (base_facts hb ht).2.2.2.1; omega
    have hp : 2 ^ (topOf t.bs m + 1) ≤ 2 ^ 5 := Nat.pow_le_pow_right (by omega) (by omega)
    have h5 : (2 : Nat) ^ 5 = 32 := rfl
    unfold nameT
    omega
theorem long_nz (t : Tg) (n : Int) : longOf t n ≠ 0 := by
  cases hnb : namedB t n
  · rw [longOf_no hnb]; omega
  · rw [longOf_yes hnb]
    unfold namedB at hnb
    have := of_decide_eq_true hnb
    omega
/-- No number of fewer words is skipped. -/
theorem long_down {t : Tg} (hok : t.ok = true) : ∀ n : Nat, 1 ≤ n → n ≤ 99999 → ∀ w : Int, 1 ≤ w → w < longOf t n → ∃ m : Nat, 1 ≤ m ∧ m < n ∧ longOf t m = w := by
  have h1 := (long_one hok).2
  intro n
  induction n using Nat.strongRecOn with
  | _ n ih =>
    intro hn1 hn2 w hw hlt
    have hL := long_pos hok hn1 hn2 (by omega)
    obtain ⟨m, a1, a2, a3⟩ := skip_one (ok_shape hok).bs h1 n hn1 (by unfold nameT at hL; omega)
    have hm := long_eq hok a1 (by omega)
    have hne : nameT t m ≠ [] := fun e => by
      unfold nameT at e hL
      rw [e] at a3
      simp at a3
      omega
    rw [if_neg hne] at hm
    have e : longOf t m + 1 = longOf t n := by
      rw [hm, hL]
      unfold nameT
      omega
    by_cases hq : longOf t m = w
    · exact ⟨m, a1, a2, hq⟩
    · obtain ⟨m', b1, b2, b3⟩ := ih m a2 a1 (by omega) w hw (by omega)
      exact ⟨m', b1, by omega, b3⟩
/-- All up to the greatest number are named. -/
theorem long_named {t : Tg} (hok : t.ok = true) {k : Nat} (h1 : 1 ≤ k) (h2 : (k : Int) ≤ greatest t) : 1 ≤ longOf t k := by
  have hbd := greatest_bd t
  have hs := ok_shape hok
  have hb := hs.bs
  have hbl := bases_len hb
  have hg : greatest t = greatestN t.us t.bs := by unfold greatest; rw [hok]; rfl
  have hne : nameT t k ≠ [] := by
    by_cases hl : t.bs.length = 1
    · have ht : topOf t.bs (k : Int) = 0 := topOf_zero fun i h1 hi => by omega
      unfold greatestN at hg
      rw [if_pos hl] at hg
      rw [nameT, name_unit ht, if_neg (by omega)]
      simp
    · have hl2 : 2 ≤ t.bs.length := by omega
      unfold greatestN at hg
      rw [if_neg hl] at hg
      exact named_below (us := t.us) (ns := t.ns) hb hl2 (hs.two hl2) k h1 (by omega)
  have := long_eq hok h1 (by omega)
  rw [if_neg hne] at this
  have hp := some_words (us := t.us) (bs := t.bs) (ns := t.ns) (n := k) hne
  unfold nameT at this
  omega

/-! What is counted up to a number. -/
section
variable (f : Nat → Int) (w : Int)
/-- The least of 1 .. k at which f is w; 0 if there is none. -/
def lwTo : Nat → Nat
  | 0 => 0
  | k + 1 => if lwTo k = 0 ∧ f (k + 1) = w then k + 1 else lwTo k
/-- How many of 1 .. k there are at which f is w. -/
def cwTo : Nat → Nat
  | 0 => 0
  | k + 1 => cwTo k + (if f (k + 1) = w then 1 else 0)
/-- The sum of what is positive. -/
def swTo : Nat → Nat
  | 0 => 0
  | k + 1 => swTo k + (max (f (k + 1)) 0).toNat
/-- The greatest, and where it is first. -/
def twTo : Nat → Nat
  | 0 => 0
  | k + 1 => if (twTo k : Int) < f (k + 1) then (f (k + 1)).toNat else twTo k
def taTo : Nat → Nat
  | 0 => 0
  | k + 1 => if (twTo f k : Int) < f (k + 1) then k + 1 else taTo k
end

section
variable {f : Nat → Int} {w : Int}
theorem lw_le : ∀ k, lwTo f w k ≤ k := by
  intro k
  induction k with
  | zero => exact Nat.le_refl _
  | succ k ih => rw [lwTo]; split <;> omega
theorem lw_new {k : Nat} (h0 : lwTo f w k = 0) (h : f (k + 1) = w) : lwTo f w (k + 1) = k + 1 := by rw [lwTo, if_pos ⟨h0, h⟩]
theorem lw_same {k : Nat} (h : ¬ f (k + 1) = w) : lwTo f w (k + 1) = lwTo f w k := by rw [lwTo, if_neg (fun e => h e.2)]
theorem lw_kept {k : Nat} (h : lwTo f w k ≠ 0) : lwTo f w (k + 1) = lwTo f w k := by rw [lwTo, if_neg (fun e => h e.1)]
theorem lw_stay {k m : Nat} (h : lwTo f w k ≠ 0) (hm : k ≤ m) : lwTo f w m = lwTo f w k := by
  induction m with
  | zero => obtain rfl : k = 0 := by omega
            rfl
  | succ m ih =>
    by_cases e : k = m + 1
    · rw [e]
    · have := ih (by omega)
      rw [lw_kept (by rw [this]; exact h), this]
theorem lw_at : ∀ {k : Nat}, lwTo f w k ≠ 0 → f (lwTo f w k) = w := by
  intro k
  induction k with
  | zero => intro h; exact absurd rfl h
  | succ k ih =>
    intro h
    by_cases h0 : lwTo f w k = 0 ∧ f (k + 1) = w
    · rw [lw_new h0.1 h0.2]; exact h0.2
    · have e : lwTo f w (k + 1) = lwTo f w k := by rw [lwTo, if_neg h0]
      rw [e] at h ⊢
      exact ih h
theorem lw_upto {m : Nat} : ∀ {k : Nat}, 1 ≤ m → m ≤ k → f m = w → lwTo f w k ≠ 0 ∧ lwTo f w k ≤ m := by
  intro k
  induction k with
  | zero => intro h1 h2; omega
  | succ k ih =>
    intro h1 h2 h
    by_cases e : m = k + 1
    · subst e
      have hle := lw_le (f := f) (w := w) (k + 1)
      by_cases h0 : lwTo f w k = 0
      · rw [lw_new h0 h]; omega
      · rw [lw_kept h0]; have := lw_le (f := f) (w := w) k; omega
    · obtain ⟨h3, h4⟩ := ih h1 (by omega) h
      rw [lw_kept h3]
      exact ⟨h3, h4⟩
theorem lw_below {k j : Nat} (h1 : 1 ≤ j) (h2 : j < lwTo f w k) : f j ≠ w := fun h => by
  have := lw_upto (k := k) h1 (by have := lw_le (f := f) (w := w) k; omega) h
  omega
theorem lw_none {k : Nat} (h : lwTo f w k = 0) {j : Nat} (h1 : 1 ≤ j) (h2 : j ≤ k) : f j ≠ w := fun e => (lw_upto h1 h2 e).1 h
theorem cw_le : ∀ k, cwTo f w k ≤ k := by
  intro k
  induction k with
  | zero => exact Nat.le_refl _
  | succ k ih => rw [cwTo]; split <;> omega
theorem cw_lw : ∀ k, cwTo f w k = 0 ↔ lwTo f w k = 0 := by
  intro k
  induction k with
  | zero => exact ⟨fun _ => rfl, fun _ => rfl⟩
  | succ k ih =>
    by_cases h : f (k + 1) = w
    · rw [cwTo, if_pos h]
      have : lwTo f w (k + 1) ≠ 0 := (lw_upto (k := k + 1) (by omega) (Nat.le_refl _) h).1
      omega
    · rw [cwTo, if_neg h, lw_same h]; exact ih
theorem cw_yes {k : Nat} (h : f (k + 1) = w) : cwTo f w (k + 1) = cwTo f w k + 1 := by rw [cwTo, if_pos h]
theorem cw_no {k : Nat} (h : ¬ f (k + 1) = w) : cwTo f w (k + 1) = cwTo f w k := by rw [cwTo, if_neg h, Nat.add_zero]
theorem cw_none {k : Nat} (h : ∀ j, f j ≠ w) : cwTo f w k = 0 := by
  induction k with
  | zero => rfl
  | succ k ih => rw [cw_no (h _), ih]
theorem sw_le {M : Int} (hM : 0 ≤ M) (h : ∀ j, f j ≤ M) : ∀ k, (swTo f k : Int) ≤ M * (k : Int) := by
  intro k
  induction k with
  | zero => exact Int.le_of_eq (by simp [swTo])
  | succ k ih =>
    have h1 := h (k + 1)
    have e : M * ((k + 1 : Nat) : Int) = M * (k : Int) + M := by push_cast; rw [Int.mul_add]; omega
    rw [swTo, e]
    omega
theorem tw_le {M : Int} (hM : 0 ≤ M) (h : ∀ j, f j ≤ M) : ∀ k, (twTo f k : Int) ≤ M := by
  intro k
  induction k with
  | zero => exact hM
  | succ k ih => rw [twTo]; have := h (k + 1); split <;> omega
theorem ta_le : ∀ k, taTo f k ≤ k := by
  intro k
  induction k with
  | zero => exact Nat.le_refl _
  | succ k ih => rw [taTo]; split <;> omega
theorem tw_yes {k : Nat} (h : (twTo f k : Int) < f (k + 1)) : (twTo f (k + 1) : Int) = f (k + 1) ∧ taTo f (k + 1) = k + 1 := by
  rw [twTo, taTo, if_pos h, if_pos h]
  exact ⟨by omega, rfl⟩
theorem tw_no {k : Nat} (h : ¬ (twTo f k : Int) < f (k + 1)) : twTo f (k + 1) = twTo f k ∧ taTo f (k + 1) = taTo f k := by
  rw [twTo, taTo, if_neg h, if_neg h]
  exact ⟨rfl, rfl⟩
/-- The greatest is the greatest, and it is first at its place. -/
theorem tw_spec : ∀ k, (∀ j, 1 ≤ j → j ≤ k → f j ≤ (twTo f k : Int)) ∧ (twTo f k = 0 ∨ (1 ≤ taTo f k ∧ f (taTo f k) = (twTo f k : Int) ∧ ∀ j, 1 ≤ j → j < taTo f k → f j < (twTo f k : Int))) := by
  intro k
  induction k with
  | zero => exact ⟨fun j h1 h2 => by omega, .inl rfl⟩
  | succ k ih =>
    obtain ⟨h1, h2⟩ := ih
    by_cases h : (twTo f k : Int) < f (k + 1)
    · obtain ⟨e1, e2⟩ := tw_yes h
      refine ⟨fun j a b => ?_, .inr ⟨by omega, by rw [e2, e1], fun j a b => ?_⟩⟩
      · rw [e1]
        by_cases e : j = k + 1
        · subst e; exact Int.le_refl _
        · have := h1 j a (by omega); omega
      · rw [e2] at b
        rw [e1]
        have := h1 j a (by omega); omega
    · obtain ⟨e1, e2⟩ := tw_no h
      rw [e1, e2]
      refine ⟨fun j a b => ?_, h2⟩
      by_cases e : j = k + 1
      · subst e; omega
      · exact h1 j a (by omega)
/-- The greatest, out of where each is first. -/
theorem tw_low {k : Nat} (h1 : 1 ≤ k) (hf1 : 1 ≤ f 1) : 1 ≤ twTo f k ∧ lwTo f (twTo f k) k = taTo f k ∧ 1 ≤ taTo f k ∧ ∀ v : Int, (twTo f k : Int) < v → lwTo f v k = 0 := by
  obtain ⟨a, b⟩ := tw_spec (f := f) k
  have ha1 := a 1 (Nat.le_refl _) h1
  have htk := ta_le (f := f) k
  rcases b with b | ⟨b1, b2, b3⟩
  · omega
  · refine ⟨by omega, ?_, b1, fun v hv => ?_⟩
    · obtain ⟨c1, c2⟩ := lw_upto (k := k) b1 htk b2
      have c3 := lw_at c1
      rcases Nat.lt_or_ge (lwTo f (twTo f k) k) (taTo f k) with h | h
      · have := b3 _ (by omega) h; omega
      · omega
    · rcases Nat.eq_zero_or_pos (lwTo f v k) with e | e
      · exact e
      · have c3 := lw_at (f := f) (w := v) (k := k) (by omega)
        have := a _ e (lw_le k)
        omega

/-- Sums over how many words. -/
def cwSum (f : Nat → Int) (m : Nat) : Nat → Nat
  | 0 => 0
  | j + 1 => cwSum f m j + cwTo f ((j : Int) + 1) m
def cwTop (f : Nat → Int) (j : Nat) : Nat → Nat
  | 0 => 0
  | m + 1 => cwTop f j m + (if 1 ≤ f (m + 1) ∧ f (m + 1) ≤ (j : Int) then 1 else 0)
theorem cw_sum_zero (f : Nat → Int) : ∀ j, cwSum f 0 j = 0 := by
  intro j
  induction j with
  | zero => rfl
  | succ j ih => rw [cwSum, ih]; rfl
theorem cw_sum_succ (f : Nat → Int) (m : Nat) : ∀ j, cwSum f (m + 1) j = cwSum f m j + (if 1 ≤ f (m + 1) ∧ f (m + 1) ≤ (j : Int) then 1 else 0) := by
  intro j
  induction j with
  | zero => rw [if_neg (by omega)]; rfl
  | succ j ih =>
    rw [cwSum, cwSum, ih]
    by_cases h : f (m + 1) = (j : Int) + 1
    · rw [cw_yes h, if_neg (by omega), if_pos (by omega)]; omega
    · rw [cw_no h]
      by_cases h2 : 1 ≤ f (m + 1) ∧ f (m + 1) ≤ (j : Int)
      · rw [if_pos h2, if_pos (by omega)]; omega
      · rw [if_neg h2, if_neg (by omega), Nat.add_zero, Nat.add_zero]
theorem cw_sum_top (f : Nat → Int) (j : Nat) : ∀ m, cwSum f m j = cwTop f j m := by
  intro m
  induction m with
  | zero => exact cw_sum_zero f j
  | succ m ih => rw [cw_sum_succ, ih]; rfl
theorem cw_top_le (f : Nat → Int) (j : Nat) : ∀ m, cwTop f j m ≤ m := by
  intro m
  induction m with
  | zero => exact Nat.le_refl _
  | succ m ih => rw [cwTop]; split <;> omega
theorem cw_top_all {f : Nat → Int} {j : Nat} : ∀ m, (∀ i, 1 ≤ i → i ≤ m → 1 ≤ f i ∧ f i ≤ (j : Int)) → cwTop f j m = m := by
  intro m
  induction m with
  | zero => intro _; rfl
  | succ m ih =>
    intro h
    rw [cwTop, if_pos (h (m + 1) (by omega) (Nat.le_refl _)), ih (fun i a b => h i a (by omega))]
/-- The sum over how many words, each times how many numbers. -/
def pwSum (f : Nat → Int) (m : Nat) : Nat → Nat
  | 0 => 0
  | j + 1 => pwSum f m j + j * (if j = 0 then 0 else cwTo f (j : Int) m)
theorem pw_zero (f : Nat → Int) : ∀ j, pwSum f 0 j = 0 := by
  intro j
  induction j with
  | zero => rfl
  | succ j ih => rw [pwSum, ih]; split <;> simp [cwTo]
theorem pw_succ (f : Nat → Int) (m : Nat) : ∀ j, pwSum f (m + 1) j = pwSum f m j + (if 1 ≤ f (m + 1) ∧ f (m + 1) < (j : Int) then (f (m + 1)).toNat else 0) := by
  intro j
  induction j with
  | zero => rw [if_neg (by omega)]; rfl
  | succ j ih =>
    rw [pwSum, pwSum, ih]
    by_cases h0 : j = 0
    · subst h0
      have e : ¬ (1 ≤ f (m + 1) ∧ f (m + 1) < ((0 : Nat) : Int)) := by omega
      have e2 : ¬ (1 ≤ f (m + 1) ∧ f (m + 1) < ((0 + 1 : Nat) : Int)) := by omega
      rw [if_neg e, if_neg e2, Nat.zero_mul, Nat.zero_mul]
    · rw [if_neg h0, if_neg h0]
      by_cases h : f (m + 1) = (j : Int)
      · rw [cw_yes h, if_neg (by omega), if_pos (by omega), Nat.mul_succ]; omega
      · rw [cw_no h]
        by_cases h2 : 1 ≤ f (m + 1) ∧ f (m + 1) < (j : Int)
        · rw [if_pos h2, if_pos (by omega)]; omega
        · rw [if_neg h2, if_neg (by omega), Nat.add_zero, Nat.add_zero]
theorem pw_all {f : Nat → Int} {j : Nat} (h : ∀ i, f i < (j : Int)) : ∀ m, pwSum f m j = swTo f m := by
  intro m
  induction m with
  | zero => exact pw_zero f j
  | succ m ih =>
    rw [pw_succ, ih, swTo]
    have := h (m + 1)
    by_cases h2 : 1 ≤ f (m + 1)
    · rw [if_pos (by omega)]; omega
    · rw [if_neg (by omega)]; omega
theorem pw_le (f : Nat → Int) (m : Nat) : ∀ j, pwSum f m j ≤ m * (j * j) := by
  intro j
  induction j with
  | zero => exact Nat.zero_le _
  | succ j ih =>
    have hc := cw_le (f := f) (w := (j : Int)) m
    have h1 : j * (if j = 0 then 0 else cwTo f (j : Int) m) ≤ j * m := Nat.mul_le_mul_left j (by split <;> omega)
    have e : m * ((j + 1) * (j + 1)) = m * (j * j) + m * (2 * j + 1) := by rw [← Nat.mul_add]; congr 1; rw [Nat.mul_succ, Nat.succ_mul]; omega
    have h2 : j * m ≤ m * (2 * j + 1) := by rw [Nat.mul_comm]; exact Nat.mul_le_mul_left m (by omega)
    rw [pwSum, e]
    omega
end

/-- What LongOf answers, as a function. -/
def lngF (t : Tg) (k : Nat) : Int := longOf t (k : Int)
theorem lng_bd (t : Tg) (k : Nat) : -1 ≤ lngF t k ∧ lngF t k ≤ 31 ∧ lngF t k ≠ 0 := ⟨(longOf_bd t k).1, long_31 t k, long_nz t k⟩
def okM (t : Tg) (m : Int) : Bool := t.ok && decide (1 ≤ m ∧ m ≤ 3000)
def leastA (t : Tg) (w : Int) : Int := if t.ok && decide (1 ≤ w) && decide (lwTo (lngF t) w 3000 ≠ 0) then lwTo (lngF t) w 3000 else -1
def cntA (t : Tg) (m w : Int) : Int := if okM t m && decide (1 ≤ w) then cwTo (lngF t) w m.toNat else -1
def mostA (t : Tg) (m : Int) : Int := if okM t m then twTo (lngF t) m.toNat else -1
def mostAt (t : Tg) (m : Int) : Int := if okM t m then taTo (lngF t) m.toNat else -1
def allA (t : Tg) (m : Int) : Int := if okM t m then swTo (lngF t) m.toNat else -1
end Go.Proofs.Ytebfoofiaokhdaa
