/-
  Contracts of the laws' helpers on numbers: hasInt, ascend.
-/
import Derived.Test.YtjggdlnbfoglaaaLK
import Derived.Test.YtjggdlnbfoglaaaGA
namespace Go.Proofs.Ytjggdlnbfoglaaa
open Go.RowKit

theorem hasInt_any (A : Option Addr) (n c : Nat) (xs : List Int) (x : Int) (w : World) (h : Ints w .i64 A n c xs) (hn : n ≤ 1048576) :
    Calls Try.prog 24 #[.slice A n c, .int .i64 x] w fun e w' => e = .returned (.bool (decide (x ∈ xs))) ∧ w = w' := by
  obtain ⟨rfl, hcap, h⟩ := h
  have HN := Lib.hid (fun (hh : ∀ i, i < xs.length → xs.getD i 0 ≠ x) => show ¬ x ∈ xs from fun hm => by obtain ⟨i, hi, e⟩ := getD_of_mem hm; exact hh i hi e)
  have HY := Lib.hid (fun i (hi : i < xs.length) => mem_getD hi)
  go_enter Try.func24, Try.ntmps24
  go_wp2
  go_loop [5] (fun i => ∃ k : Nat, k ≤ xs.length ∧ i = .int .i64 k ∧ ∀ i, i < k → xs.getD i 0 ≠ x) (fun i => xs.length - (intOf i).toNat)
  case atStart => exact ⟨0, Nat.zero_le _, rfl, fun i hi => by omega⟩
  case round =>
    obtain ⟨k, hk, rfl, hu⟩ := hrel
    by_cases hlt : k < xs.length
    · obtain ⟨b, o, rfl, _, h⟩ := h (by omega)
      have c1 := h k hlt
      have hm := HY.out k hlt
      by_cases hx : xs.getD k 0 = x
      · have hxx : (x == x) = true := by simp
        rw [hx] at c1 hm
        replace hm := Lib.hid hm
        clear hu hx h
        go_wp2
        go_ret
        exact ⟨ret_bool (by rw [decide_eq_true hm.out]), rfl⟩
      · have hxx : (xs.getD k 0 == x) = false := by rw [beq_eq_false_iff_ne]; exact hx
        have hu2 : Hid (∀ i, i < k + 1 → xs.getD i 0 ≠ x) := fun i hi => by
          by_cases e : i = k
          · subst e; exact hx
          · exact hu i (by omega)
        generalize xs.getD k 0 = y at *
        clear hu h
        go_wp2
        go_round
        case rel => exact ⟨k + 1, by omega, by go_num, hu2.out⟩
        case measure => simp [intOf]; omega
    · have hno := Lib.hid (HN.out (fun i hi => hu i (by omega)))
      clear hu h
      go_wp2
      go_ret
      exact ⟨ret_bool (by rw [decide_eq_false hno.out]), rfl⟩
end Go.Proofs.Ytjggdlnbfoglaaa
