/-
  Contracts of the generic helpers: slices.Clone, slices.Equal, basesIn, sameIn.
-/
import Derived.Test.YtdmldgikfjgmhaaUnits
import Derived.WalkSpells
import Derived.Lib.QuietBelow
import Derived.Deep.RegionWith
namespace Go.Proofs.Ytdmldgikfjgmhaa
open Go.RowKit


theorem cloneStr_any (A : Option Addr) (n c : Nat) (xs : List ByteArray) (w : World) (h : Strs w A n c xs) (hn : n ≤ 1048576) :
    Calls Try.prog 68 #[.slice A n c] w fun e w' => ∃ v, e = .returned v ∧ OwnStrs w' w.heap.size v xs ∧ Below w.heap.size w w' := by
  obtain ⟨i0, hi, hz0, hz1, hz2⟩ := info_parts str_info
  have hlen := Lib.hid h.len
  have HS := Lib.hid (h.src.alloc' (.cells #[] 9))
  have HR : ∀ v w', w'.ownsRow w.heap.size 9 1 v (0 + n) ([] ++ xs.map Value.string) → Below w.heap.size w w' → ∃ v', Ending.returned v = .returned v' ∧ OwnStrs w' w.heap.size v' xs ∧ Below w.heap.size w w' := fun v w' ho hb => ⟨v, rfl, by unfold OwnStrs; rw [hlen.out]; simpa using ho, hb⟩
  replace HR := Lib.hid HR
  have hnil := fun (W : World) => Lib.run_eql_slice_nil (P := Try.prog) W 27 9 A n c 0 0 Try.underlying27
  cases A with
  | none =>
    have h0 : n = 0 := by
      rcases Nat.eq_zero_or_pos n with h0 | h0
      · exact h0
      · obtain ⟨b, o, e, _⟩ := h.at_ h0; cases e
    subst h0
    have hx : xs = [] := List.eq_nil_of_length_eq_zero hlen.out
    have HF := Lib.hid (HR.out (.slice none 0 0) w (by rw [hx]; exact owns_none _ _ _) (Below.refl _ _))
    simp only [Option.isNone_none] at hnil
    clear h
    go_enter Try.func68, Try.ntmps68
    go_wp2
    go_ret
    exact HF.out
  | some ad =>
    simp only [Option.isNone_some] at hnil
    clear h
    have k1 := Lib.hid (show 0 + n ≤ maxLen by unfold maxLen; omega)
    have k2 := Lib.hid (show (0 + n) * 16 ≤ 140737488355328 by omega)
    have HO := Lib.hid (owns_empty (w := w.alloc (.cells #[] 9)) (B := w.heap.size) (Blk.new w 9 #[]) (Nat.le_refl _))
    have HB := Lib.hid ((Below.refl w.heap.size w).alloc (Nat.le_refl _) (.cells #[] 9))
    go_enter Try.func68, Try.ntmps68
    go_wp2_with (at_builtin; refine wpList_app _ rfl (.tmp 5) (.tmp 6) _ rfl w.heap.size 9 i0 _ 16 Try.underlying27 hi hz0 hz1 hz2 rfl _ 0 [] rfl HO.out (some ad) n c _ rfl HS.out k1.out k2.out (by simp) ?_; intro v5 w5 ho5 hg5 _)
    have HF := Lib.hid (HR.out v5 w5 ho5 (below_own HB.out HO.out hg5 (by simp) (Nat.le_refl _)))
    clear ho5 hg5
    go_wp2
    go_ret
    exact HF.out

theorem cloneInt_any (A : Option Addr) (n c : Nat) (xs : List Int) (w : World) (h : Ints w .i64 A n c xs) (hn : n ≤ 1048576) :
    Calls Try.prog 69 #[.slice A n c] w fun e w' => ∃ v, e = .returned v ∧ OwnI w' w.heap.size v xs ∧ Below w.heap.size w w' := by
  obtain ⟨i0, hi, hz0, hz1, hz2⟩ := info_parts int_info0
  have hlen := Lib.hid h.len
  have HS := Lib.hid (h.src.alloc' (.cells #[] 3))
  have HR : ∀ v w', w'.ownsRow w.heap.size 3 1 v (0 + n) ([] ++ xs.map (Value.int .i64)) → Below w.heap.size w w' → ∃ v', Ending.returned v = .returned v' ∧ OwnI w' w.heap.size v' xs ∧ Below w.heap.size w w' := fun v w' ho hb => ⟨v, rfl, by unfold OwnI; rw [hlen.out]; simpa using ho, hb⟩
  replace HR := Lib.hid HR
  have hnil := fun (W : World) => Lib.run_eql_slice_nil (P := Try.prog) W 28 3 A n c 0 0 Try.underlying28
  cases A with
  | none =>
    have h0 : n = 0 := by
      rcases Nat.eq_zero_or_pos n with h0 | h0
      · exact h0
      · obtain ⟨b, o, e, _⟩ := h.at_ h0; cases e
    subst h0
    have hx : xs = [] := List.eq_nil_of_length_eq_zero hlen.out
    have HF := Lib.hid (HR.out (.slice none 0 0) w (by rw [hx]; exact owns_none _ _ _) (Below.refl _ _))
    simp only [Option.isNone_none] at hnil
    clear h
    go_enter Try.func69, Try.ntmps69
    go_wp2
    go_ret
    exact HF.out
  | some ad =>
    simp only [Option.isNone_some] at hnil
    clear h
    have k1 := Lib.hid (show 0 + n ≤ maxLen by unfold maxLen; omega)
    have k2 := Lib.hid (show (0 + n) * 8 ≤ 140737488355328 by omega)
    have HO := Lib.hid (owns_empty (w := w.alloc (.cells #[] 3)) (B := w.heap.size) (Blk.new w 3 #[]) (Nat.le_refl _))
    have HB := Lib.hid ((Below.refl w.heap.size w).alloc (Nat.le_refl _) (.cells #[] 3))
    go_enter Try.func69, Try.ntmps69
    go_wp2_with (at_builtin; refine wpList_app _ rfl (.tmp 5) (.tmp 6) _ rfl w.heap.size 3 i0 _ 8 Try.underlying28 hi hz0 hz1 hz2 rfl _ 0 [] rfl HO.out (some ad) n c _ rfl HS.out k1.out k2.out (by simp) ?_; intro v5 w5 ho5 hg5 _)
    have HF := Lib.hid (HR.out v5 w5 ho5 (below_own HB.out HO.out hg5 (by simp) (Nat.le_refl _)))
    clear ho5 hg5
    go_wp2
    go_ret
    exact HF.out

set_option maxHeartbeats 1000000 in
theorem equalInt_any (A A' : Option Addr) (n c n' c' : Nat) (xs ys : List Int) (w : World) (h : Ints w .i64 A n c xs) (h' : Ints w .i64 A' n' c' ys) (hn : n ≤ 1048576) (hn' : n' ≤ 1048576) :
    Calls Try.prog 70 #[.slice A n c, .slice A' n' c'] w fun e w' => e = .returned (.bool (decide (xs = ys))) ∧ ∃ m, w' = w.drewN m := by
  obtain ⟨rfl, hcap, h⟩ := h
  obtain ⟨rfl, hcap', h'⟩ := h'
  by_cases hl : xs.length = ys.length
  · rw [← hl] at h' hcap' ⊢
    replace hl := Lib.hid hl
    have heq : ((xs.length : Int) != xs.length) = false := by simp
    go_enter Try.func70, Try.ntmps70
    go_wp2
    go_loopw [13] (fun i wr => ∃ k m : Nat, k ≤ xs.length ∧ i = .int .i64 k ∧ xs.take k = ys.take k ∧ wr = w.drewN m) (fun i _ => xs.length - (intOf i).toNat)
    case atStart => exact ⟨0, 0, Nat.zero_le _, rfl, by simp, rfl⟩
    case round =>
      obtain ⟨k, m, hk, rfl, hu, rfl⟩ := hrel
      by_cases hlt : k < xs.length
      · obtain ⟨b, o, rfl, _, h⟩ := h (by omega)
        obtain ⟨b', o', rfl, _, h'⟩ := h' (by omega)
        have c1 := h k hlt
        have c2 := h' k hlt
        have HU := take_go (k := k) xs ys hlt hl.out hu
        have HN := take_no (k := k) xs ys hlt hl.out
        generalize xs.getD k 0 = x1 at *
        generalize ys.getD k 0 = x2 at *
        replace HU := Lib.hid HU
        replace HN := Lib.hid HN
        clear h h' hu
        by_cases hx : x1 = x2
        · have hx1 : (x1 != x2) = false := by simpa using hx
          replace hx := Lib.hid hx
          go_wp2
          go_quiet (fail)
          go_wp2
          go_roundw
          case rel => exact ⟨k+1, m+nq, by omega, by go_num, HU.out hx.out, by simp⟩
          case measure => simp [intOf]; omega
        · have hx1 : (x1 != x2) = true := by simpa using hx
          go_wp2
          go_quiet (fail)
          go_wp2
          go_ret
          exact ⟨ret_bool (by rw [decide_eq_false (HN.out hx)]), m+nq, by simp⟩
      · have HE := Lib.hid (take_end xs ys (by omega) hl.out hu)
        clear h h' hu
        go_wp2
        go_ret
        exact ⟨ret_bool (by rw [decide_eq_true HE.out]), m, rfl⟩
  · have hne : xs ≠ ys := fun e => hl (by rw [e])
    have HN := Lib.hid hne
    have hneq : ((xs.length : Int) != ys.length) = true := by rw [bne_iff_ne]; omega
    clear hne
    go_enter Try.func70, Try.ntmps70
    go_wp2
    go_ret
    exact ⟨ret_bool (by rw [decide_eq_false HN.out]), 0, rfl⟩

theorem basesIn_any (x0 x1 x2 : Value) (w : World) (_h1 : x1.oneCell' = true) :
    Calls Try.prog 56 #[.agg #[x0, x1, x2]] w fun e w' => e = .returned x1 ∧ Below w.heap.size w w' := by
  go_enter Try.func56, Try.ntmps56
  go_wp2
  go_ret
  exact ⟨rfl, (Below.refl _ _).alloc (Nat.le_refl _) _⟩
end Go.Proofs.Ytdmldgikfjgmhaa
