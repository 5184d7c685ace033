/-
  What the promises of chapter 5 ask of names, as plain mathematics; how much room an own row may have.
-/
import Derived.Test.YtbckckicffjccaaV1
namespace Go.Proofs.Ytbckckicffjccaa
open Go.RowKit

theorem turned_law {t : Tg} {n : Int} {x : ByteArray} (h : turnedB t n x = true) :
    namedB t n = true ∧ ((isTurnedB t n x = true → (turnedOf t n x).length = (nameOf t n).length + 1 ∧ ∃ k : Nat, n = k ∧ 2 ≤ t.bs.length ∧ 1 ≤ lowU t k ∧ bN t 1 < k ∧ (1 ≤ bN t 1) ∧ (bN t 1 : Int) = t.bs.getD 1 0 ∧ lowU t k ≤ 99999) ∧ (isTurnedB t n x = false → turnedOf t n x = nameOf t n)) := by
  refine ⟨(plain_turned h).2.2, ?_⟩
  have hi := isTurned_iff h
  obtain ⟨m, rfl, h1, h2, hf, -, hc⟩ := turned_form h
  obtain ⟨hok, hl2, hn, hw, hx⟩ := fits_parts hf
  rw [Int.toNat_natCast] at hi
  have hbi := bN_int (ok_shape hok).bs (k := 1) (by omega)
  have hll := low_lt hok hl2 m
  have hb1 := b1_us hok hl2
  have hus := (ok_shape hok).us
  refine ⟨fun hb => ?_, fun hb => ?_⟩
  · have hT := hi.1 hb
    rcases hc with ⟨hnT, -, -⟩ | ⟨-, -, e, e2⟩
    · exact absurd hT hnT
    · have hbig := tens_big hok hl2 hn (n := m) (by omega) hT
      have htl := tens_le t m
      have h0 := hT.1
      exact ⟨by rw [e, e2]; simp; omega, m, rfl, hl2, by omega, by omega, hbi.2, hbi.1, by omega⟩
  · rcases hc with ⟨-, e, -⟩ | ⟨hT, -, -, -⟩
    · exact e
    · have := hi.2 hT
      rw [this] at hb; cases hb
theorem own_cap {w : World} {B : Nat} {A : Option Addr} {n c : Nat} {xs : List ByteArray} (h : OwnStrs w B (.slice A n c) xs) : c ≤ maxLen := by
  rcases h.2 with ⟨e, -⟩ | ⟨g, cap, cur, e, -, -, -, hcm, -⟩
  · cases e; exact Nat.zero_le _
  · cases e; exact hcm
end Go.Proofs.Ytbckckicffjccaa
