/-
  What the promises of chapter 3 ask of names, as plain mathematics.
-/
import Derived.Test.YteemgkabhkdeaaaDoorN6
namespace Go.Proofs.YteemgkabhkdeaaaDoor
open Go.RowKit

theorem okN_of {t : Tg} (hok : t.ok = true) {m : Nat} (h1 : 1 ≤ m) (h2 : m ≤ 99999) : okN t m = true := by
  unfold okN; rw [hok, decide_eq_true (by omega)]; rfl
theorem named_of {t : Tg} (hok : t.ok = true) {m : Nat} (h1 : 1 ≤ m) (h2 : m ≤ 99999) (h : nameT t m ≠ []) : namedB t m = true := by
  unfold namedB
  rw [nameOf_yes (okN_of hok h1 h2)]
  exact decide_eq_true (by have : (nameT t m).length ≠ 0 := fun e => h (List.eq_nil_of_length_eq_zero e); omega)
theorem named_not {t : Tg} {m : Nat} (h : nameT t m = []) : namedB t m = false := by
  cases ho : okN t m
  · exact (nameOf_no ho).2
  · unfold namedB; rw [nameOf_yes ho, h]; rfl
theorem named_out {t : Tg} {n : Int} (h : 99999 < n) : namedB t n = false :=
  (nameOf_no (by unfold okN; rw [decide_eq_false (by omega), Bool.and_false])).2

theorem greatest_named {t : Tg} (hok : t.ok = true) : 1 ≤ greatest t ∧ namedB t (greatest t) = true ∧ namedB t (greatest t + 1) = false ∧ namedB t 1 = true := by
  have hs := ok_shape hok
  have hu := hs.us
  have hb := hs.bs
  have hbl := bases_len hb
  have h1 : namedB t 1 = true := named_of (m := 1) hok (by omega) (by omega) (named_one hok)
  have hg : greatest t = greatestN t.us t.bs := by unfold greatest; rw [hok]; rfl
  by_cases hl : t.bs.length = 1
  · have hg' : greatest t = t.us.length := by rw [hg]; unfold greatestN; rw [if_pos hl]
    have ht : ∀ n : Int, topOf t.bs n = 0 := fun n => topOf_zero fun i h1 hi => by omega
    refine ⟨by omega, ?_, ?_, h1⟩
    · rw [hg']
      refine named_of hok (by omega) (by omega) ?_
      rw [nameT, name_unit (ht _), if_neg (by omega)]
      simp
    · rw [hg']
      have : ((t.us.length : Int) + 1) = ((t.us.length + 1 : Nat) : Int) := by omega
      rw [this]
      exact named_not (by rw [nameT, name_unit (ht _), if_pos (by omega)])
  · have h2 : 2 ≤ t.bs.length := by omega
    have hg' : greatest t = min (t.bs.getD (grAt t.bs) 0 * t.bs.getD (grAt t.bs) 0 - 1) 99999 := by rw [hg]; unfold greatestN; rw [if_neg hl]
    have hgr := (gr_at h2).1
    have hp := bases_pos hb _ hgr.2.1
    have hm := bases_mono hb 0 (grAt t.bs) (by have := hgr.1; omega) hgr.2.1
    rw [bases_one hb] at hm
    have hq := Int.mul_le_mul_of_nonneg_right (show (2 : Int) ≤ t.bs.getD (grAt t.bs) 0 by omega) (show (0 : Int) ≤ t.bs.getD (grAt t.bs) 0 by omega)
    have hbel := named_below (us := t.us) (ns := t.ns) hb h2 (hs.two h2)
    have hun := fun n => unnamed_at (us := t.us) (ns := t.ns) hb h2 (n := n)
    generalize t.bs.getD (grAt t.bs) 0 * t.bs.getD (grAt t.bs) 0 = B at *
    obtain ⟨m, hm'⟩ : ∃ m : Nat, greatest t = m := ⟨(greatest t).toNat, by omega⟩
    refine ⟨by omega, ?_, ?_, h1⟩
    · rw [hm']
      exact named_of hok (by omega) (by omega) (hbel m (by omega) (by omega))
    · by_cases hB : B - 1 ≤ 99999
      · have e : greatest t + 1 = ((m + 1 : Nat) : Int) := by omega
        rw [e]
        exact named_not (hun (m + 1) (by omega))
      · exact named_out (by omega)
theorem greatest_no {t : Tg} (hok : t.ok = false) : greatest t = -1 := by unfold greatest; rw [hok]; rfl

/-- The name of the second base and one more. -/
theorem long_two {t : Tg} (hok : t.ok = true) (h2 : 2 ≤ t.bs.length) : (3 ≤ t.bs.length ∧ t.bs.getD 2 0 = t.bs.getD 1 0 + 1) ∨ longOf t (t.bs.getD 1 0 + 1) = 2 := by
  have hs := ok_shape hok
  have hu := hs.us
  have hb := hs.bs
  have hns := hs.ns
  have hb1 := hs.two h2
  by_cases h3 : 3 ≤ t.bs.length ∧ t.bs.getD 2 0 = t.bs.getD 1 0 + 1
  · exact .inl h3
  · right
    have e : t.bs.getD 1 0 + 1 = ((t.us.length + 2 : Nat) : Int) := by omega
    have ht : topOf t.bs ((t.us.length + 2 : Nat) : Int) = 1 := topOf_eq (Nat.le_refl _) (by omega) (by omega) (fun i hi hl => by
      have hm := bases_mono hb 1 i hi hl
      by_cases e2 : i = 2
      · subst e2
        have : ¬ t.bs.getD 2 0 = t.bs.getD 1 0 + 1 := fun h => h3 ⟨by omega, h⟩
        omega
      · have hm2 := bases_mono hb 2 i (by omega) hl
        have hm1 := bases_mono hb 1 2 (by omega) (by omega)
        omega)
    have hbn : baseN t.bs (t.us.length + 2) = t.us.length + 1 := by unfold baseN; rw [ht, hb1]; rfl
    have hq : (t.us.length + 2) / (t.us.length + 1) = 1 := Nat.div_eq_of_lt_le (by omega) (by omega)
    have hr : (t.us.length + 2) % (t.us.length + 1) = 1 := by
      have := Nat.div_add_mod (t.us.length + 2) (t.us.length + 1)
      rw [hq] at this
      omega
    have h0 : topOf t.bs ((t.us.length + 2 : Nat) : Int) ≠ 0 := by omega
    have hone := named_one hok
    have ht1 : topOf t.bs ((1 : Nat) : Int) = 0 := topOf_zero fun i h1 hl => by
      have := bases_mono hb 0 i (by omega) hl
      rw [bases_one hb] at this
      simpa using this
    have hn1 : nameN t.us t.bs t.ns 1 = [t.us.getD 0 ByteArray.empty] := by rw [name_unit ht1, if_neg (by omega)]
    have hN : nameT t (t.us.length + 2) = [t.ns.getD 0 ByteArray.empty, t.us.getD 0 ByteArray.empty] := by
      rw [nameT, name_parts hb h0 (by rw [hbn, hq]; omega) (by rw [hbn, hq]; omega) (by rw [hbn, hr, hn1]; simp), hbn, hq, hr, if_neg (by omega), if_neg (by omega), hn1, ht]
      rfl
    have hk := okN_of hok (m := t.us.length + 2) (by omega) (by omega)
    rw [e]
    unfold longOf
    rw [named_of hok (by omega) (by omega) (by rw [hN]; simp), if_pos rfl, nameOf_yes hk, hN]
    rfl
theorem longOf_yes {t : Tg} {n : Int} (h : namedB t n = true) : longOf t n = (nameOf t n).length := by unfold longOf; rw [h, if_pos rfl]
theorem longOf_no {t : Tg} {n : Int} (h : namedB t n = false) : longOf t n = -1 := by unfold longOf; rw [h]; rfl
theorem named_ok {t : Tg} {n : Int} (h : namedB t n = true) : t.ok = true ∧ 1 ≤ n ∧ n ≤ 99999 := by
  have := (named_ne h).1
  unfold okN at this
  rw [Bool.and_eq_true, decide_eq_true_eq] at this
  exact this

/-- How many letters the first k words have. -/
def lettersTo' (l : List ByteArray) : Nat → Nat
  | 0 => 0
  | k + 1 => lettersTo' l k + (l.getD k ByteArray.empty).size
theorem joinW_letters (l : List ByteArray) : ∀ k, (joinW l k).size + (if 0 < k then 1 else 0) = lettersTo' l k + k := by
  intro k
  induction k with
  | zero => rfl
  | succ k ih =>
    have h1 : (⟨#[32]⟩ : ByteArray).size = 1 := rfl
    have hk : 0 < k + 1 := by omega
    by_cases h0 : 0 < k
    · rw [joinW, lettersTo', if_pos h0, ByteArray.size_append, ByteArray.size_append, h1, if_pos hk]
      rw [if_pos h0] at ih
      omega
    · rw [joinW, lettersTo', if_neg h0, ByteArray.size_append, if_pos hk]
      rw [if_neg h0] at ih
      omega
theorem lettersTo_le {l : List ByteArray} (h : ∀ k, (l.getD k ByteArray.empty).size ≤ 8) : ∀ k, lettersTo' l k ≤ 8 * k := by
  intro k
  induction k with
  | zero => exact Nat.le_refl _
  | succ k ih => rw [lettersTo']; have := h k; omega
/-- The text of a base alone. -/
theorem text_base {t : Tg} (hok : t.ok = true) {k : Nat} (h1 : 1 ≤ k) (hk : k < t.bs.length) (hn : t.bs.getD k 0 ≤ 99999) : textOf t (t.bs.getD k 0) = t.ns.getD (k - 1) ByteArray.empty := by
  have hs := ok_shape hok
  have hb := hs.bs
  have hp := bases_pos hb k hk
  obtain ⟨m, hm⟩ : ∃ m : Nat, t.bs.getD k 0 = m := ⟨(t.bs.getD k 0).toNat, by omega⟩
  have hN := (name_base (us := t.us) (ns := t.ns) hb h1 hk hm).1
  rw [hm]
  unfold textOf
  rw [nameOf_yes (okN_of hok (by omega) (by omega)), nameT, hN]
  show joinW [t.ns.getD (k - 1) ByteArray.empty] 1 = _
  rw [joinW, if_neg (by omega)]
  show (⟨#[]⟩ : ByteArray) ++ _ = _
  rw [show (⟨#[]⟩ : ByteArray) = ByteArray.empty from rfl, ByteArray.empty_append]
  rfl
theorem text_no {t : Tg} {n : Int} (h : namedB t n = false) : nameOf t n = [] ∧ textOf t n = ⟨#[]⟩ := by
  have e : nameOf t n = [] := List.eq_nil_of_length_eq_zero (by unfold namedB at h; have := of_decide_eq_false h; omega)
  exact ⟨e, by unfold textOf; rw [e]; rfl⟩
end Go.Proofs.YteemgkabhkdeaaaDoor
