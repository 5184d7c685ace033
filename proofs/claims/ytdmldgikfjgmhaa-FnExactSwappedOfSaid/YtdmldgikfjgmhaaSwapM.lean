/-
  Tongues with two words exchanged, as plain mathematics: exchanged again they are as before.
-/
import Derived.Test.YtdmldgikfjgmhaaSwapped
namespace Go.Proofs.Ytdmldgikfjgmhaa
open Go.RowKit

theorem fine_noTg : noTg.Fine := ⟨Nat.zero_le _, Nat.zero_le _, Nat.zero_le _, Fits.of_small (xs := []) (by simp), fun x hx => by simp [noTg] at hx⟩
theorem swT_fine {t : Tg} (hf : t.Fine) (a b : Int) : (swT t a b).Fine := by
  unfold swT
  cases ho : t.ok
  · exact fine_noTg
  · rw [if_pos rfl]
    unfold exT
    by_cases hin : inPl t a b
    · rw [if_pos hin]
      have hl : t.words.length = t.us.length + t.ns.length := words_length t
      have hu := hf.us
      have hn := hf.ns
      unfold inPl at hin
      refine ⟨?_, hf.bs, ?_, hf.fits, fun x hx => ?_⟩
      · show (List.take _ _).length ≤ _
        rw [List.length_take]; omega
      · show (List.drop _ _).length ≤ _
        rw [List.length_drop, swapAt_length]; omega
      · have hx' : x ∈ swapAt t.words a.toNat b.toNat := by rw [← List.take_append_drop t.us.length (swapAt t.words a.toNat b.toNat)]; exact hx
        exact hf.size x (swapAt_perm (l := t.words) (by omega) (by omega) x hx')
    · rw [if_neg hin]; exact fine_noTg
theorem swT_yes {t : Tg} {a b : Int} (h : swB t a b = true) : (swT t a b).ok = true ∧ (swT t a b).bs = t.bs ∧ swB (swT t a b) a b = true ∧ swT (swT t a b) a b = t := by
  unfold swB at h
  rw [Bool.and_eq_true, decide_eq_true_eq] at h
  obtain ⟨hok, hin⟩ := h
  have e : swT t a b = ⟨(swapAt t.words a.toNat b.toNat).take t.us.length, t.bs, (swapAt t.words a.toNat b.toNat).drop t.us.length⟩ := by
    unfold swT exT; rw [if_pos hok, if_pos hin]
  have hl : t.words.length = t.us.length + t.ns.length := words_length t
  have hi : a.toNat < t.words.length := by unfold inPl at hin; omega
  have hj : b.toNat < t.words.length := by unfold inPl at hin; omega
  have ho : (swT t a b).ok = true := by rw [e]; exact tongueOk_swap hok (by omega) (by omega)
  have hw : (swT t a b).words = swapAt t.words a.toNat b.toNat := by rw [e]; exact List.take_append_drop _ _
  have hul : (swT t a b).us.length = t.us.length := by rw [e]; show (List.take _ _).length = _; rw [List.length_take, swapAt_length]; omega
  have hbs : (swT t a b).bs = t.bs := by rw [e]
  have hin2 : inPl (swT t a b) a b := by unfold inPl at hin ⊢; rw [hw, swapAt_length]; exact hin
  refine ⟨ho, hbs, by unfold swB; rw [ho, decide_eq_true hin2]; rfl, ?_⟩
  have e2 : swT (swT t a b) a b = ⟨(swapAt (swT t a b).words a.toNat b.toNat).take (swT t a b).us.length, (swT t a b).bs, (swapAt (swT t a b).words a.toNat b.toNat).drop (swT t a b).us.length⟩ := by
    show (if (swT t a b).ok then exT (swT t a b) a b else noTg) = _
    rw [if_pos ho]; unfold exT; rw [if_pos hin2]
  rw [e2, hw, hul, hbs, swapAt_twice hi hj]
  show (⟨(t.us ++ t.ns).take t.us.length, t.bs, (t.us ++ t.ns).drop t.us.length⟩ : Tg) = t
  simp
end Go.Proofs.Ytdmldgikfjgmhaa
