/-
  Names with the unit first, as plain mathematics.
-/
import Derived.Test.YtebfoofiaokhdaaGN
namespace Go.Proofs.Ytebfoofiaokhdaa
open Go.RowKit

/-- The bases as plain numbers. -/
def bN (t : Tg) (k : Nat) : Nat := (t.bs.getD k 0).toNat
/-- The third base, or what no number reaches. -/
def modT (t : Tg) : Nat := if 3 ≤ t.bs.length then bN t 2 else 1000000
def lowU (t : Tg) (n : Nat) : Nat := n % bN t 1
def tensU (t : Tg) (n : Nat) : Nat := n % modT t
/-- Has what is left by the third base both a unit and the second base? -/
def isT (t : Tg) (n : Nat) : Prop := lowU t n ≠ 0 ∧ tensU t n ≠ lowU t n
instance (t : Tg) (n : Nat) : Decidable (isT t n) := inferInstanceAs (Decidable (_ ∧ _))
def frontU (t : Tg) (n : Nat) : List ByteArray := if tensU t n < n then nameT t (n - tensU t n) else []
def metU (t : Tg) (n : Nat) : List ByteArray := nameT t (tensU t n - lowU t n)
def unitU (t : Tg) (n : Nat) : ByteArray := t.us.getD (lowU t n - 1) ByteArray.empty
def noT (t : Tg) (n : Nat) : Prop := (tensU t n < n ∧ nameT t (n - tensU t n) = []) ∨ metU t n = []
instance (t : Tg) (n : Nat) : Decidable (noT t n) := inferInstanceAs (Decidable (_ ∨ _))
/-- The words of a number, the unit first. -/
def turnT (t : Tg) (x : ByteArray) (n : Nat) : List ByteArray := if isT t n then (if noT t n then [] else frontU t n ++ [unitU t n, x] ++ metU t n) else nameT t n

section
variable {t : Tg}
theorem bN_int (hb : basesOk t.bs = true) {k : Nat} (hk : k < t.bs.length) : (bN t k : Int) = t.bs.getD k 0 ∧ 1 ≤ bN t k := by
  have := bases_pos hb k hk
  unfold bN; omega
theorem bN_dvd (hn : nested t.bs = true) {j k : Nat} (hjk : j ≤ k) (hk : k < t.bs.length) : bN t j ∣ bN t k := by
  have hb : basesOk t.bs = true := by simp only [nested, Bool.and_eq_true] at hn; exact hn.1
  have hne : nestTo t.bs (t.bs.length - 1) = true := by simp only [nested, Bool.and_eq_true] at hn; exact hn.2
  induction k with
  | zero => obtain rfl : j = 0 := by omega
            exact Nat.dvd_refl _
  | succ k ih =>
    by_cases e : j = k + 1
    · subst e; exact Nat.dvd_refl _
    · refine Nat.dvd_trans (ih (by omega) (by omega)) ?_
      have h := nestTo_at hne (j := k) (by omega)
      have h1 := bN_int hb (k := k) (by omega)
      have h2 := bN_int hb hk
      rw [← h1.1, ← h2.1] at h
      exact Nat.dvd_of_mod_eq_zero (by omega)
theorem b1_us (hok : t.ok = true) (h2 : 2 ≤ t.bs.length) : bN t 1 = t.us.length + 1 := by
  have hs := ok_shape hok
  have := hs.two h2
  unfold bN; omega
theorem b1_ge (hok : t.ok = true) (h2 : 2 ≤ t.bs.length) : 2 ≤ bN t 1 := by
  have hs := ok_shape hok
  have := hs.us
  rw [b1_us hok h2]; omega
theorem modT_pos (hok : t.ok = true) : 1 ≤ modT t := by
  unfold modT
  split
  · exact (bN_int (ok_shape hok).bs (by omega)).2
  · omega
theorem tens_le (t : Tg) (n : Nat) : tensU t n ≤ n := Nat.mod_le _ _
theorem tens_low (hn : nested t.bs = true) {n : Nat} (h : n ≤ 999999) : tensU t n % bN t 1 = lowU t n := by
  unfold tensU lowU modT
  split
  · exact Nat.mod_mod_of_dvd n (bN_dvd hn (by omega) (by omega))
  · rw [Nat.mod_eq_of_lt (show n < 1000000 by omega)]
theorem low_le (hn : nested t.bs = true) {n : Nat} (h : n ≤ 999999) : lowU t n ≤ tensU t n := by
  rw [← tens_low hn h]; exact Nat.mod_le _ _
theorem low_lt (hok : t.ok = true) (h2 : 2 ≤ t.bs.length) (n : Nat) : lowU t n < bN t 1 := Nat.mod_lt _ (by have := b1_ge hok h2; omega)
/-- With a unit and the second base there is more than the second base. -/
theorem tens_big (_hok : t.ok = true) (_h2 : 2 ≤ t.bs.length) (hn : nested t.bs = true) {n : Nat} (h : n ≤ 999999) (hi : isT t n) : bN t 1 + lowU t n ≤ tensU t n := by
  have h1 := tens_low hn h
  have h3 := low_le hn h
  have h4 := Nat.div_add_mod (tensU t n) (bN t 1)
  rw [h1] at h4
  have h5 : tensU t n / bN t 1 ≠ 0 := fun e => by rw [e, Nat.mul_zero] at h4; exact hi.2 (by omega)
  have h6 : bN t 1 * 1 ≤ bN t 1 * (tensU t n / bN t 1) := Nat.mul_le_mul_left _ (Nat.one_le_iff_ne_zero.2 h5)
  omega
theorem name_low (hok : t.ok = true) (h2 : 2 ≤ t.bs.length) {n : Nat} (_h0 : lowU t n ≠ 0) : nameT t (lowU t n) = [unitU t n] := by
  have hb := (ok_shape hok).bs
  have h1 := low_lt hok h2 n
  have hb1 := b1_us hok h2
  have hi := bN_int hb (k := 1) (by omega)
  have ht : topOf t.bs (lowU t n : Nat) = 0 := topOf_zero fun i h1' hi' => by
    by_cases e : i = 1
    · subst e; omega
    · have := bases_mono hb 1 i (by omega) hi'
      omega
  rw [nameT, name_unit ht, if_neg (by omega)]; rfl

theorem top_one_lt (hb : basesOk t.bs = true) {n : Nat} (ht : topOf t.bs n ≤ 1) (h3 : 3 ≤ t.bs.length) : n < bN t 2 := by
  have h := topTo_above t.bs n t.bs.length 2 (by show topOf t.bs n < 2; omega) (by omega)
  have hi := bN_int hb (k := 2) (by omega)
  omega
theorem tens_all (hb : basesOk t.bs = true) {n : Nat} (hn : n ≤ 999999) (ht : topOf t.bs n ≤ 1) : tensU t n = n := by
  unfold tensU modT
  split
  · exact Nat.mod_eq_of_lt (top_one_lt hb ht (by omega))
  · exact Nat.mod_eq_of_lt (by omega)

/-- The name of a number with a unit and the second base: the name of what is more, then that of what is left without the unit, then the unit. -/
theorem name_turn (hok : t.ok = true) (h2 : 2 ≤ t.bs.length) (hn : nested t.bs = true) : ∀ n : Nat, 1 ≤ n → n ≤ 99999 → isT t n → nameT t n = if noT t n then [] else frontU t n ++ metU t n ++ [unitU t n] := by
  have hb := (ok_shape hok).bs
  have hb1 := b1_us hok h2
  have hb1g := b1_ge hok h2
  intro n
  induction n using Nat.strongRecOn with
  | _ n ih =>
    intro hn1 hn2 hi
    have hbig := tens_big hok h2 hn (n := n) (by omega) hi
    have hll := low_lt hok h2 n
    have hnl := name_low hok h2 hi.1
    have hi1 := bN_int hb (k := 1) (by omega)
    have htl := tens_le t n
    have ht1 : 1 ≤ topOf t.bs n := by
      rcases Nat.lt_or_ge (topOf t.bs n) 1 with h | h
      · have := topTo_above t.bs n t.bs.length 1 h (by omega)
        omega
      · exact h
    have ht0 : topOf t.bs n ≠ 0 := by omega
    have hf := base_facts hb ht0
    have hd := div_pos' hf.1 hf.2.1
    by_cases h1 : topOf t.bs n = 1
    · have htn := tens_all hb (n := n) (by omega) (by omega)
      have hbe : baseN t.bs n = bN t 1 := by unfold baseN bN; rw [h1]
      have hdm := Nat.div_add_mod n (bN t 1)
      have hlow : n % bN t 1 = lowU t n := rfl
      have hm0 : (n - lowU t n) % bN t 1 = 0 := by
        have : n - lowU t n = bN t 1 * (n / bN t 1) := by omega
        rw [this, Nat.mul_mod_right]
      have hmq : (n - lowU t n) / bN t 1 = n / bN t 1 := by
        have : n - lowU t n = bN t 1 * (n / bN t 1) := by omega
        rw [this, Nat.mul_div_cancel_left _ (by omega)]
      have hmt : topOf t.bs (n - lowU t n : Nat) = 1 := topOf_eq (Nat.le_refl _) (by omega) (by omega) (fun i hi1' hl => by
        have := topTo_above t.bs n t.bs.length i (by show topOf t.bs n < i; omega) hl
        omega)
      have hbm : baseN t.bs (n - lowU t n) = bN t 1 := by unfold baseN bN; rw [hmt]
      have hN := name_top (us := t.us) (ns := t.ns) hb ht0
      have hM := name_top (us := t.us) (ns := t.ns) (n := n - lowU t n) hb (by rw [hmt]; omega)
      rw [hbe, h1, hlow] at hN
      rw [hbm, hmt, hmq, hm0] at hM
      have hno : noT t n ↔ nameN t.us t.bs t.ns (n - lowU t n) = [] := by
        unfold noT metU nameT
        rw [htn]
        exact ⟨fun h => h.elim (fun h => absurd h.1 (by omega)) id, fun h => .inr h⟩
      have hfr : frontU t n = [] := by unfold frontU; rw [htn, if_neg (by omega)]
      have hme : metU t n = nameN t.us t.bs t.ns (n - lowU t n) := by unfold metU nameT; rw [htn]
      have hnl' : nameN t.us t.bs t.ns (lowU t n) = [unitU t n] := hnl
      rw [hnl'] at hN
      rw [nameT, hfr, hme, hN]
      by_cases c1 : bN t 1 ≤ n / bN t 1
      · rw [if_pos c1] at hM ⊢
        rw [if_pos (hno.2 hM)]
      · rw [if_neg c1] at hM ⊢
        by_cases c2 : 1 < n / bN t 1 ∧ nameN t.us t.bs t.ns (n / bN t 1) = []
        · rw [if_pos c2] at hM ⊢
          rw [if_pos (hno.2 hM)]
        · rw [if_neg c2] at hM ⊢
          rw [if_neg (fun h => h.1 rfl), if_pos (show (0 : Nat) = 0 from rfl), List.append_nil] at hM
          rw [if_neg (show ¬ (lowU t n ≠ 0 ∧ [unitU t n] = []) from fun h => by simp at h), if_neg hi.1]
          rw [if_neg (show ¬ noT t n from fun h => by have := hno.1 h; rw [hM] at this; simp at this), hM, List.nil_append]
    · have h3 : 3 ≤ t.bs.length := by have := hf.2.2.2.1; omega
      have hmod : modT t = bN t 2 := by unfold modT; rw [if_pos h3]
      have hbk : baseN t.bs n = bN t (topOf t.bs n) := rfl
      have hdv : bN t 2 ∣ baseN t.bs n := by rw [hbk]; exact bN_dvd hn (by omega) hf.2.2.2.1
      have hdv1 : bN t 1 ∣ baseN t.bs n := by rw [hbk]; exact bN_dvd hn (by omega) hf.2.2.2.1
      have hdm := Nat.div_add_mod n (baseN t.bs n)
      have hrb : n % baseN t.bs n < baseN t.bs n := Nat.mod_lt _ (by omega)
      have hrt : tensU t (n % baseN t.bs n) = tensU t n := by unfold tensU; rw [hmod, Nat.mod_mod_of_dvd n hdv]
      have hrl : lowU t (n % baseN t.bs n) = lowU t n := by unfold lowU; rw [Nat.mod_mod_of_dvd n hdv1]
      have htr : tensU t n ≤ n % baseN t.bs n := by rw [← hrt]; exact tens_le t _
      have hir : isT t (n % baseN t.bs n) := by unfold isT; rw [hrt, hrl]; exact hi
      have IH := ih (n % baseN t.bs n) hd.2.2.1 (by omega) (by omega) hir
      have hmb : (n - tensU t n) / baseN t.bs n = n / baseN t.bs n ∧ (n - tensU t n) % baseN t.bs n = n % baseN t.bs n - tensU t n := by
        have e : n - tensU t n = (n % baseN t.bs n - tensU t n) + baseN t.bs n * (n / baseN t.bs n) := by omega
        rw [e, Nat.add_mul_div_left _ _ (by omega), Nat.add_mul_mod_self_left, Nat.div_eq_of_lt (by omega), Nat.mod_eq_of_lt (by omega), Nat.zero_add]
        exact ⟨rfl, rfl⟩
      have hmge : baseN t.bs n ≤ n - tensU t n := by
        have : baseN t.bs n * 1 ≤ baseN t.bs n * (n / baseN t.bs n) := Nat.mul_le_mul_left _ hd.1
        omega
      have hmt : topOf t.bs (n - tensU t n : Nat) = topOf t.bs n := topOf_eq ht1 hf.2.2.2.1 (by rw [← hf.2.2.1]; omega) (fun i hi1' hl => by
        have := topTo_above t.bs n t.bs.length i hi1' hl
        omega)
      have hbm : baseN t.bs (n - tensU t n) = baseN t.bs n := by unfold baseN; rw [hmt]
      have hN := name_top (us := t.us) (ns := t.ns) hb ht0
      have hM := name_top (us := t.us) (ns := t.ns) (n := n - tensU t n) hb (by rw [hmt]; exact ht0)
      rw [hbm, hmt, hmb.1, hmb.2] at hM
      have hr0 : n % baseN t.bs n ≠ 0 := by omega
      have hno : noT t n ↔ nameN t.us t.bs t.ns (n - tensU t n) = [] ∨ metU t n = [] := by
        unfold noT nameT
        exact ⟨fun h => h.elim (fun h => .inl h.2) .inr, fun h => h.elim (fun h => .inl ⟨by omega, h⟩) .inr⟩
      have hfr : frontU t n = nameN t.us t.bs t.ns (n - tensU t n) := by unfold frontU; rw [if_pos (by omega)]
      have hmer : metU t (n % baseN t.bs n) = metU t n := by unfold metU; rw [hrt, hrl]
      have hunr : unitU t (n % baseN t.bs n) = unitU t n := by unfold unitU; rw [hrl]
      have hnor : noT t (n % baseN t.bs n) ↔ (tensU t n < n % baseN t.bs n ∧ nameN t.us t.bs t.ns (n % baseN t.bs n - tensU t n) = []) ∨ metU t n = [] := by
        unfold noT; rw [hrt, hmer]
      have hfrr : frontU t (n % baseN t.bs n) = if tensU t n < n % baseN t.bs n then nameN t.us t.bs t.ns (n % baseN t.bs n - tensU t n) else [] := by unfold frontU; rw [hrt]
      rw [hmer, hunr, hfrr] at IH
      have IH' : nameN t.us t.bs t.ns (n % baseN t.bs n) = _ := IH
      rw [nameT, hfr, hN]
      by_cases c1 : baseN t.bs n ≤ n / baseN t.bs n
      · rw [if_pos c1] at hM ⊢
        rw [if_pos (hno.2 (.inl hM))]
      · rw [if_neg c1] at hM ⊢
        by_cases c2 : 1 < n / baseN t.bs n ∧ nameN t.us t.bs t.ns (n / baseN t.bs n) = []
        · rw [if_pos c2] at hM ⊢
          rw [if_pos (hno.2 (.inl hM))]
        · rw [if_neg c2] at hM ⊢
          rw [if_neg hr0]
          by_cases c3 : noT t (n % baseN t.bs n)
          · rw [if_pos c3] at IH'
            rw [if_pos ⟨hr0, IH'⟩]
            rw [if_pos]
            rcases hnor.1 c3 with ⟨c4, c5⟩ | c5
            · rw [if_pos ⟨by omega, c5⟩] at hM
              exact hno.2 (.inl hM)
            · exact hno.2 (.inr c5)
          · rw [if_neg c3] at IH'
            have c6 : metU t n ≠ [] := fun e => c3 (hnor.2 (.inr e))
            rw [if_neg (show ¬ (n % baseN t.bs n ≠ 0 ∧ nameN t.us t.bs t.ns (n % baseN t.bs n) = []) from fun h => by have := h.2; rw [IH'] at this; simp at this), IH']
            by_cases c4 : tensU t n < n % baseN t.bs n
            · have c5 : nameN t.us t.bs t.ns (n % baseN t.bs n - tensU t n) ≠ [] := fun e => c3 (hnor.2 (.inl ⟨c4, e⟩))
              rw [if_neg (fun h => c5 h.2), if_neg (show ¬ n % baseN t.bs n - tensU t n = 0 by omega)] at hM
              rw [if_pos c4, if_neg (show ¬ noT t n from fun h => (hno.1 h).elim (fun e => by rw [hM] at e; simp at e) c6), hM]
              simp only [List.append_assoc]
            · rw [if_neg (fun h => h.1 (by omega)), if_pos (show n % baseN t.bs n - tensU t n = 0 by omega), List.append_nil] at hM
              rw [if_neg c4, if_neg (show ¬ noT t n from fun h => (hno.1 h).elim (fun e => by rw [hM] at e; simp at e) c6), hM]
              simp only [List.nil_append, List.append_assoc]
end
end Go.Proofs.Ytebfoofiaokhdaa
