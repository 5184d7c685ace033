/-
  Contracts of the exact laws' helpers for tongues: sizes, copies, comparisons.
-/
import Derived.Test.YteemgkabhkdeaaaDoorOwnT
import Derived.Test.YteemgkabhkdeaaaDoorHold
namespace Go.Proofs.YteemgkabhkdeaaaDoor
open Go.RowKit

theorem toStringS_any (A : Option Addr) (n c : Nat) (xs : List ByteArray) (w : World) (h : Strs w A n c xs) (hn : n ≤ 1048576) :
    Calls Tryd.prog 34 #[.slice A n c] w fun e w' => e = .returned (.slice (some ⟨w.heap.size, 0, none⟩) n n) ∧ w'.ownsRow w.heap.size 9 1 (.slice (some ⟨w.heap.size, 0, none⟩) n n) n (xs.map Value.string) ∧ Below w.heap.size w w' := by
  obtain ⟨i0, hi, hz0, hz1, hz2⟩ := info_parts str_info
  obtain ⟨rfl, hcap, h⟩ := h
  have hmk := fun W => run_make_rowN (P := Tryd.prog) 23 9 i0 _ Tryd.underlying23 hi hz0 .i64 .i64 xs.length xs.length (Nat.le_refl _) (by rw [hz2]; omega) (by omega) W
  rw [hz1] at hmk
  go_enter Tryd.func34, Tryd.ntmps34
  go_wp2
  go_loopw [4] (fun i wr => ∃ (k : Nat) (cs : Array Value), k ≤ xs.length ∧ i = .int .i64 k ∧ cs.size = xs.length ∧ (∀ j, j < k → cs[j]? = some (.string (xs.getD j ByteArray.empty))) ∧ Blk wr w.heap.size 9 cs ∧ Below w.heap.size w wr) (fun i _ => xs.length - (intOf i).toNat)
  case atStart => exact ⟨0, _, Nat.zero_le _, rfl, size_madeCells _ _, fun j hj => absurd hj (by omega), Blk.new _ _ _, (Below.refl _ _).alloc (Nat.le_refl _) _⟩
  case round =>
    obtain ⟨k, cs, hk, rfl, hcs, hj, hb, hB⟩ := hrel
    by_cases hlt : k < xs.length
    · obtain ⟨b, o, rfl, hbo, h⟩ := h (by omega)
      have c1 := (hB.cell (p := ⟨b, o + k, none⟩) hbo).trans (h k hlt)
      have c2 := hb.cell k
      have f2 := hb.frozen k
      rw [Array.getElem?_eq_getElem (by omega)] at c2
      have HB := hb.set_ k (.string (xs.getD k ByteArray.empty))
      have HJ : ∀ j, j < k + 1 → (cs.setIfInBounds k (.string (xs.getD k ByteArray.empty)))[j]? = some (.string (xs.getD j ByteArray.empty)) := by
        intro j hjk
        rw [Array.getElem?_setIfInBounds]
        by_cases he : k = j
        · subst he; simp [show k < cs.size by omega]
        · rw [if_neg he]; exact hj j (by omega)
      have HBel := hB.setCell (p := ⟨w.heap.size, k, none⟩) (Nat.le_refl _) (.string (xs.getD k ByteArray.empty))
      generalize xs.getD k ByteArray.empty = x at *
      replace HB := Lib.hid HB
      replace HJ := Lib.hid HJ
      replace HBel := Lib.hid HBel
      clear h hj hb hmk
      go_wp2
      go_roundw
      case rel => exact ⟨k+1, _, by omega, by go_num, by simpa using hcs, HJ.out, HB.out, HBel.out⟩
      case measure => simp [intOf]; omega
    · obtain rfl : k = xs.length := by omega
      have hcs2 : cs = (xs.map Value.string).toArray := by
        apply Array.ext_getElem?
        intro i
        by_cases hi : i < xs.length
        · rw [hj i hi]; simp [hi]
        · rw [Array.getElem?_eq_none (by omega), Array.getElem?_eq_none (by simp; omega)]
      subst hcs2
      have HO := Lib.hid (owns_blk (B := w.heap.size) (n := xs.length) hb (by simp) (Nat.le_refl _) (by unfold maxLen; omega))
      replace hB := Lib.hid hB
      clear h hj hb hmk
      go_wp2
      go_ret
      exact ⟨rfl, HO.out, hB.out⟩

theorem takeS_go {k : Nat} (xs ys : List ByteArray) (hk : k < xs.length) (hl : xs.length = ys.length) (h : xs.take k = ys.take k) : xs.getD k ByteArray.empty = ys.getD k ByteArray.empty → xs.take (k+1) = ys.take (k+1) := by
  intro he
  rw [List.take_succ_eq_append_getElem hk, List.take_succ_eq_append_getElem (by omega : k < ys.length), h]
  simp only [List.getD_eq_getElem?_getD, List.getElem?_eq_getElem hk, List.getElem?_eq_getElem (by omega : k < ys.length), Option.getD_some] at he
  rw [he]
theorem takeS_end {k : Nat} (xs ys : List ByteArray) (hk : xs.length ≤ k) (hl : xs.length = ys.length) (h : xs.take k = ys.take k) : xs = ys := by
  rwa [List.take_of_length_le hk, List.take_of_length_le (by omega)] at h

set_option maxHeartbeats 1000000 in
theorem eqStringS_any (A A' : Option Addr) (n c n' c' : Nat) (xs ys : List ByteArray) (w : World) (h : Strs w A n c xs) (h' : Strs w A' n' c' ys) (hn : n ≤ 2097152) (hn' : n' ≤ 2097152) :
    Calls Tryd.prog 36 #[.slice A n c, .slice A' n' c'] w fun e w' => e = .returned (.bool (decide (xs = ys))) ∧ ∃ m, w' = w.drewN m := by
  obtain ⟨rfl, hcap, h⟩ := h
  obtain ⟨rfl, hcap', h'⟩ := h'
  by_cases hl : xs.length = ys.length
  · rw [← hl] at h' hcap' ⊢
    replace hl := Lib.hid hl
    have heq : ((xs.length : Int) != xs.length) = false := by simp
    go_enter Tryd.func36, Tryd.ntmps36
    go_wp2
    go_loopw [5] (fun i wr => ∃ k m : Nat, k ≤ xs.length ∧ i = .int .i64 k ∧ xs.take k = ys.take k ∧ wr = w.drewN m) (fun i _ => xs.length - (intOf i).toNat)
    case atStart => exact ⟨0, 0, Nat.zero_le _, rfl, by simp, rfl⟩
    case round =>
      obtain ⟨k, m, hk, rfl, hu, rfl⟩ := hrel
      by_cases hlt : k < xs.length
      · obtain ⟨b, o, rfl, _, h⟩ := h (by omega)
        obtain ⟨b', o', rfl, _, h'⟩ := h' (by omega)
        have c1 := h k hlt
        have c2 := h' k hlt
        have HU := takeS_go (k := k) xs ys hlt hl.out hu
        have HN : ¬ xs.getD k ByteArray.empty = ys.getD k ByteArray.empty → ¬ xs = ys := fun hn he => hn (by rw [he])
        generalize xs.getD k ByteArray.empty = x1 at *
        generalize ys.getD k ByteArray.empty = x2 at *
        replace HU := Lib.hid HU
        replace HN := Lib.hid HN
        clear h h' hu
        by_cases hx : x1 = x2
        · have hx1 : (x1.toList == x2.toList) = true := by rw [str_eq]; exact decide_eq_true hx
          have hx2 : (x1.toList != x2.toList) = false := by rw [bne, hx1]; rfl
          replace hx := Lib.hid hx
          go_wp2
          go_quiet (fail)
          go_wp2
          go_roundw
          case rel => exact ⟨k+1, m+nq, by omega, by go_num, HU.out hx.out, by simp⟩
          case measure => simp [intOf]; omega
        · have hx1 : (x1.toList == x2.toList) = false := by rw [str_eq]; exact decide_eq_false hx
          have hx2 : (x1.toList != x2.toList) = true := by rw [bne, hx1]; rfl
          go_wp2
          go_quiet (fail)
          go_wp2
          go_ret
          exact ⟨ret_bool (by rw [decide_eq_false (HN.out hx)]), m+nq, by simp⟩
      · have HE := Lib.hid (takeS_end xs ys (by omega) hl.out hu)
        clear h h' hu
        go_wp2
        go_ret
        exact ⟨ret_bool (by rw [decide_eq_true HE.out]), m, rfl⟩
  · have hne : xs ≠ ys := fun e => hl (by rw [e])
    have HN := Lib.hid hne
    have hneq : ((xs.length : Int) != ys.length) = true := by rw [bne_iff_ne]; omega
    clear hne
    go_enter Tryd.func36, Tryd.ntmps36
    go_wp2
    go_ret
    exact ⟨ret_bool (by rw [decide_eq_false HN.out]), 0, rfl⟩

/-- How much is left behind strings: either nothing (-1), or they were not too long. -/
def Left (left : Int) (n : Nat) (xs : List ByteArray) (r : Int) : Prop := r = -1 ∨ (0 ≤ r ∧ r ≤ left ∧ n ≤ left ∧ ∀ x ∈ xs, (x.size : Int) ≤ left)
def RetLeft (left : Int) (n : Nat) (xs : List ByteArray) (w : World) (e : Ending) (w' : World) : Prop := ∃ r, e = .returned (.int .i64 r) ∧ Left left n xs r ∧ w = w'

set_option maxHeartbeats 1000000 in
theorem szStringS_any (A : Option Addr) (n c : Nat) (xs : List ByteArray) (left : Int) (w : World) (h : Strs w A n c xs) (hc : c ≤ maxLen) (hs : ∀ x ∈ xs, x.size ≤ maxLen) (h0 : 0 ≤ left) (h1 : left ≤ 1048576) :
    Calls Tryd.prog 32 #[.slice A n c, .int .i64 left] w (RetLeft left n xs w) := by
  unfold maxLen at hc
  obtain ⟨rfl, hcap, h⟩ := h
  have hsz : ∀ k, (xs.getD k ByteArray.empty).size ≤ 9223372036854775807 := fun k => by
    by_cases hk : k < xs.length
    · have := hs _ (List.getElem_mem hk)
      simp only [List.getD_eq_getElem?_getD, List.getElem?_eq_getElem hk, Option.getD_some]
      unfold maxLen at this; omega
    · rw [List.getD, List.getElem?_eq_none (by omega)]; exact Nat.zero_le _
  replace hsz := Lib.hid hsz
  clear hs
  by_cases hl : (xs.length : Int) ≤ left
  · go_enter Tryd.func32, Tryd.ntmps32
    go_wp2
    go_loop [1, 5] (fun s1 i => ∃ (k : Nat) (r : Int), k ≤ xs.length ∧ i = .int .i64 k ∧ s1 = .int .i64 r ∧ 0 ≤ r ∧ r ≤ left ∧ (∀ j, j < k → ((xs.getD j ByteArray.empty).size : Int) ≤ left)) (fun _ i => xs.length - (intOf i).toNat)
    case atStart => exact ⟨0, left - xs.length, Nat.zero_le _, rfl, rfl, by omega, by omega, fun j hj => absurd hj (by omega)⟩
    case round =>
      obtain ⟨k, r, hk, rfl, rfl, hr0, hr1, hj⟩ := hrel
      by_cases hlt : k < xs.length
      · obtain ⟨b, o, rfl, hbo, hc⟩ := h (by omega)
        have ck := hc k hlt
        have hz := hsz.out k
        have HJ : ((xs.getD k ByteArray.empty).size : Int) ≤ left → ∀ j, j < k + 1 → ((xs.getD j ByteArray.empty).size : Int) ≤ left := fun hx j hjk => by
          by_cases e : j = k
          · subst e; exact hx
          · exact hj j (by omega)
        generalize xs.getD k ByteArray.empty = x at *
        replace HJ := Lib.hid HJ
        clear hc hj h
        by_cases hx : (x.size : Int) ≤ r
        · go_wp2
          go_round
          case rel => exact ⟨k+1, r - x.size, by omega, by go_num, rfl, by omega, by omega, HJ.out (by omega)⟩
          case measure => simp [intOf]; omega
        · go_wp2
          go_ret
          exact ⟨-1, rfl, .inl rfl, rfl⟩
      · obtain rfl : k = xs.length := by omega
        have HL : Left left xs.length xs r := .inr ⟨hr0, hr1, hl, fun x hx => by
          obtain ⟨j, hjl, rfl⟩ := List.mem_iff_getElem.1 hx
          have := hj j hjl
          simpa [List.getD_eq_getElem?_getD, hjl] using this⟩
        replace HL := Lib.hid HL
        clear hj h
        go_wp2
        go_ret
        exact ⟨r, rfl, HL.out, rfl⟩
  · go_enter Tryd.func32, Tryd.ntmps32
    go_wp2
    go_ret
    exact ⟨-1, rfl, .inl rfl, rfl⟩

theorem szIntS_any (A : Option Addr) (n c : Nat) (left : Int) (w : World) (hn : n ≤ 9223372036854775807) (h0 : 0 ≤ left) (h1 : left ≤ 1048576) :
    Calls Tryd.prog 33 #[.slice A n c, .int .i64 left] w (RetLeft left n [] w) := by
  by_cases hl : (n : Int) ≤ left
  · go_enter Tryd.func33, Tryd.ntmps33
    go_wp2
    go_ret
    exact ⟨left - n, rfl, .inr ⟨by omega, by omega, hl, by simp⟩, rfl⟩
  · go_enter Tryd.func33, Tryd.ntmps33
    go_wp2
    go_ret
    exact ⟨-1, rfl, .inl rfl, rfl⟩
end Go.Proofs.YteemgkabhkdeaaaDoor
