/-
  Names are short: a name has fewer than 2 to the power of its greatest base's place, doubled.
-/
import Derived.Test.YteemgkabhkdeaaaDoorMathR
import Derived.Test.YteemgkabhkdeaaaDoorN4
namespace Go.Proofs.YteemgkabhkdeaaaDoor
open Go.RowKit

theorem two_le {a b : Nat} (h : a < b) : 2 ^ (a + 1) ≤ 2 ^ b := Nat.pow_le_pow_right (by omega) h
theorem name_short (us : List ByteArray) (bs : List Int) (ns : List ByteArray) (hb : basesOk bs = true) : ∀ n : Nat, 1 ≤ n → (nameN us bs ns n).length + 1 ≤ 2 ^ (topOf bs n + 1) := by
  intro n
  induction n using Nat.strongRecOn with
  | _ n ih =>
    intro hn
    by_cases ht : topOf bs n = 0
    · rw [name_unit ht, ht]; split <;> simp
    · have hf := base_facts hb ht
      have hd := div_pos' hf.1 hf.2.1
      have hp : 1 ≤ 2 ^ (topOf bs n) := Nat.one_le_two_pow
      have he : 2 ^ (topOf bs n + 1) = 2 * 2 ^ (topOf bs n) := by rw [Nat.pow_succ]; omega
      have h4 : 2 ≤ 2 ^ (topOf bs n) := by have := two_le (a := 0) (b := topOf bs n) (by omega); simpa using this
      rw [name_top hb ht, he]
      split
      · simp; omega
      · rename_i h0
        have hq : topOf bs (n / baseN bs n : Nat) < topOf bs n := topOf_lt hb hf.2.2.2.1 hf.2.2.2.2 (by rw [← hf.2.2.1]; omega)
        have hr : topOf bs (n % baseN bs n : Nat) < topOf bs n := topOf_lt hb hf.2.2.2.1 hf.2.2.2.2 (by rw [← hf.2.2.1]; have := Nat.mod_lt n (show 0 < baseN bs n by omega); omega)
        have i1 := ih _ hd.2.1 hd.1
        have p1 := two_le hq
        have p2 := two_le hr
        split
        · simp; omega
        · split
          · simp; omega
          · by_cases h0 : n % baseN bs n = 0
            · rw [if_pos h0]
              split <;> simp <;> omega
            · have i2 := ih _ hd.2.2.1 (by omega)
              rw [if_neg h0]
              split <;> simp <;> omega
theorem nameOf_short (t : Tg) (n : Int) : (nameOf t n).length ≤ 40 := by
  by_cases ho : okN t n = true
  · have hh := ho
    unfold okN at hh
    rw [Bool.and_eq_true, decide_eq_true_eq] at hh
    obtain ⟨hok, h1, h2⟩ := hh
    obtain ⟨m, rfl⟩ : ∃ m : Nat, n = m := ⟨n.toNat, by omega⟩
    have hs := ok_shape hok
    rw [nameOf_yes ho]
    have hb := hs.bs
    have hl := bases_len hb
    have h := name_short t.us t.bs t.ns hb m (by omega)
    have htop : topOf t.bs m ≤ 4 := by
      by_cases ht : topOf t.bs m = 0
      · omega
      · have := (base_facts hb ht).2.2.2.1; omega
    have hp : 2 ^ (topOf t.bs m + 1) ≤ 2 ^ 5 := Nat.pow_le_pow_right (by omega) (by omega)
    have h5 : (2 : Nat) ^ 5 = 32 := rfl
    unfold nameT
    omega
  · rw [(nameOf_no (by simpa using ho)).1]; simp
end Go.Proofs.YteemgkabhkdeaaaDoor
