/-
  Contracts of chapter 2: words.
-/
import Derived.Test.YteemgkabhkdeaaaDoorC1
import Derived.Test.YteemgkabhkdeaaaDoorStrs
import Derived.Test.YteemgkabhkdeaaaDoorMathT
namespace Go.Proofs.YteemgkabhkdeaaaDoor
open Go.RowKit

/-- The first k letters are letters. -/
def lettersTo (s : ByteArray) (k : Nat) : Bool := (s.data.toList.take k).all letterOk
theorem lettersTo_zero (s : ByteArray) : lettersTo s 0 = true := by simp [lettersTo]
theorem take_snoc (s : ByteArray) (k : Nat) (h : k < s.size) : s.data.toList.take (k + 1) = s.data.toList.take k ++ [s[k]] := by
  rw [List.take_succ_eq_append_getElem (by simpa using h)]; rfl
theorem letterOk_iff (b : UInt8) : letterOk b = true ↔ 97 ≤ (b.toNat : Int) ∧ (b.toNat : Int) ≤ 122 := by
  simp [letterOk]; omega
theorem lettersTo_go {s : ByteArray} {k : Nat} (h : k < s.size) (hu : lettersTo s k = true) : 97 ≤ (s[k].toNat : Int) ∧ (s[k].toNat : Int) ≤ 122 → lettersTo s (k+1) = true := by
  intro hb
  unfold lettersTo at hu ⊢
  rw [take_snoc s k h, List.all_append, hu]
  simp [(letterOk_iff _).2 hb]
theorem wordOk_no {s : ByteArray} {k : Nat} (h : k < s.size) : ¬ (97 ≤ (s[k].toNat : Int) ∧ (s[k].toNat : Int) ≤ 122) → wordOk s = false := by
  intro hb
  have hm : s[k] ∈ s.data.toList := by
    have h2 : k < s.data.toList.length := by simpa using h
    exact List.getElem_mem h2
  by_cases hw : wordOk s = true
  · simp only [wordOk, Bool.and_eq_true, List.all_eq_true] at hw
    exact absurd ((letterOk_iff _).1 (hw.2 _ hm)) hb
  · simpa using hw
theorem wordOk_end {s : ByteArray} (hu : lettersTo s s.size = true) : wordOk s = decide (1 ≤ (s.size : Int) ∧ (s.size : Int) ≤ 8) := by
  unfold lettersTo at hu
  rw [List.take_of_length_le (by simp)] at hu
  unfold wordOk
  rw [hu, Bool.and_true]
  by_cases h : 1 ≤ s.size ∧ s.size ≤ 8
  · rw [decide_eq_true h, decide_eq_true (by omega)]
  · rw [decide_eq_false h, decide_eq_false (by omega)]
theorem wordOk_out {s : ByteArray} (h : ¬ (1 ≤ s.size ∧ s.size ≤ 8)) : wordOk s = false := by
  unfold wordOk; rw [decide_eq_false h]; rfl

theorem implWordOk_any (s : ByteArray) (w : World) (hs : s.size ≤ maxLen) :
    Calls Tryd.prog 54 #[.string s] w fun e w' => e = .returned (.bool (wordOk s)) ∧ w = w' := by
  unfold maxLen at hs
  by_cases h : 1 ≤ s.size ∧ s.size ≤ 8
  · obtain ⟨h1, h2⟩ := h
    have HE := Lib.hid (wordOk_end (s := s))
    go_enter Tryd.func54, Tryd.ntmps54
    go_wp2
    go_loop [14] (fun i => ∃ k : Nat, k ≤ s.size ∧ i = .int .i64 k ∧ lettersTo s k = true) (fun i => s.size - (intOf i).toNat)
    case atStart => exact ⟨0, Nat.zero_le _, rfl, lettersTo_zero s⟩
    case round =>
      obtain ⟨k, hk, rfl, hu⟩ := hrel
      by_cases hlt : k < s.size
      · have HU := Lib.hid (lettersTo_go hlt hu)
        have HN := Lib.hid (wordOk_no hlt)
        clear hu
        go_wp2
        all_goals first
          | (go_ret; exact ⟨ret_bool (HN.out (by omega)).symm, rfl⟩)
          | (go_round
             case rel => exact ⟨k+1, by omega, by go_num, HU.out (by omega)⟩
             case measure => simp [intOf]; omega)
      · obtain rfl : k = s.size := by omega
        have HF := HE.out hu
        rw [decide_eq_true (by omega)] at HF
        replace HF := Lib.hid HF
        clear hu
        go_wp2
        go_ret
        exact ⟨ret_bool HF.out.symm, rfl⟩
  · have HO := Lib.hid (wordOk_out h)
    by_cases h1 : s.size < 1
    all_goals
      go_enter Tryd.func54, Tryd.ntmps54
      go_wp2
      go_ret
      exact ⟨ret_bool HO.out.symm, rfl⟩

theorem specWordOk_any (s : ByteArray) (w : World) (hs : s.size ≤ maxLen) :
    Calls Tryd.prog 62 #[.string s] w fun e w' => e = .returned (.bool (wordOk s)) ∧ w = w' := by
  unfold maxLen at hs
  have HE := Lib.hid (wordOk_end (s := s))
  go_enter Tryd.func62, Tryd.ntmps62
  go_wp2
  go_loop [3] (fun i => ∃ k : Nat, k ≤ s.size ∧ i = .int .i64 k ∧ lettersTo s k = true) (fun i => s.size - (intOf i).toNat)
  case atStart => exact ⟨0, Nat.zero_le _, rfl, lettersTo_zero s⟩
  case round =>
    obtain ⟨k, hk, rfl, hu⟩ := hrel
    by_cases hlt : k < s.size
    · have HU := Lib.hid (lettersTo_go hlt hu)
      have HN := Lib.hid (wordOk_no hlt)
      clear hu
      have h0 : 0 ≤ (s[k].toNat : Int) := by omega
      have h255 : (s[k].toNat : Int) ≤ 255 := by have := s[k].toNat_lt; omega
      by_cases hb : 97 ≤ (s[k].toNat : Int) ∧ (s[k].toNat : Int) ≤ 122
      · have hd : decide (97 ≤ (s[k].toNat : Int) ∧ (s[k].toNat : Int) ≤ 122) = true := decide_eq_true hb
        go_wp2_with ((go_at_call 31; refine (in_any _ _ _ _).mono ?_; rintro e _ ⟨rfl, rfl⟩))
        go_round
        case rel => exact ⟨k+1, by omega, by go_num, HU.out hb⟩
        case measure => simp [intOf]; omega
      · have hd : decide (97 ≤ (s[k].toNat : Int) ∧ (s[k].toNat : Int) ≤ 122) = false := decide_eq_false hb
        go_wp2_with ((go_at_call 31; refine (in_any _ _ _ _).mono ?_; rintro e _ ⟨rfl, rfl⟩))
        go_ret
        exact ⟨ret_bool (HN.out hb).symm, rfl⟩
    · obtain rfl : k = s.size := by omega
      have HF := Lib.hid (HE.out hu)
      clear hu
      go_wp2_with ((go_at_call 31; refine (in_any _ _ _ _).mono ?_; rintro e _ ⟨rfl, rfl⟩))
      go_ret
      exact ⟨ret_bool (by rw [HF.out, Bool.decide_and]), rfl⟩
end Go.Proofs.YteemgkabhkdeaaaDoor
