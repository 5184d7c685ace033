/-
  The program's TwoWays: sorting, the first text that is there twice, the texts of one letter more.
-/
import Derived.Test.YtbghgpgpljdjkaaSortS
import Derived.Test.YtbghgpgpljdjkaaZ1
import Derived.Test.YtbghgpgpljdjkaaQ7
import Derived.Test.YtbghgpgpljdjkaaMathI
import Derived.Sort.OwnSorted
namespace Go.Proofs.Ytbghgpgpljdjkaa
open Go.RowKit

theorem unList (xs : List ByteArray) : ((xs.map tl).map fun b => (⟨b.toArray⟩ : ByteArray)) = xs := by
  rw [List.map_map]
  conv => rhs; rw [← List.map_id xs]
  exact List.map_congr_left fun x _ => tl_inj (by simp [tl])
theorem encOf (ls : List (List UInt8)) : ls.map encStr = (ls.map fun b => (⟨b.toArray⟩ : ByteArray)).map Value.string := by
  rw [List.map_map]; rfl
/-- A row of the call's own, sorted. -/
theorem sort_any {w wr : World} {A : Option Addr} {c : Nat} {xs : List ByteArray} (h : LW w (.slice A xs.length c) xs wr) (hn : xs.length ≤ 1000000) :
    Calls Try.prog 70 #[.slice A xs.length c] wr fun e w' => e = .returned (.tuple #[]) ∧ ∃ ys : List ByteArray, ys.length = xs.length ∧ LW w (.slice A xs.length c) ys w' ∧ ys.map tl = (xs.map tl).mergeSort fun x y => decide (x ≤ y) := by
  have hsl : ((xs.map tl).mergeSort fun x y => decide (x ≤ y)).length = xs.length := by rw [List.length_mergeSort, List.length_map]
  rcases h.own.2 with ⟨e, h0⟩ | ⟨g, cap, cur, e, hb, hg, hnc, hcm, hcs, htake⟩
  · have hx : xs = [] := List.eq_nil_of_length_eq_zero h0
    subst hx
    refine (Any.slices_Sort_string_none sortLays A c wr).mono fun e w' ⟨he, hw⟩ => ⟨he, [], rfl, by rw [hw]; exact h, by simp⟩
  · cases e
    have ht : cur.toList.take (xs.map tl).length = (xs.map tl).map encStr := by
      rw [List.length_map, encOf, unList]
      rw [Nat.mul_one] at htake
      exact htake
    have K := Any.slices_Sort_string sortLays g 0 c (xs.map tl) wr (holds_of_block hg ht) (Array.getElem?_eq_some_iff.1 hg).1 (by rw [List.length_map]; omega)
    rw [List.length_map] at K
    refine K.mono fun e w' ⟨he, n, os, hw⟩ => ⟨he, ((xs.map tl).mergeSort fun x y => decide (x ≤ y)).map fun b => ⟨b.toArray⟩, by rw [List.length_map, hsl], ?_, ?_⟩
    · have ho := ownsRow_sorted (n := n) (os := os) (ss := xs.map tl) (ts := (xs.map tl).mergeSort fun x y => decide (x ≤ y)) (by rw [hsl, List.length_map]) hb hg (by rw [List.length_map]; exact hnc) hcm hcs
      rw [List.length_map, ← hw, encOf] at ho
      refine h.turn ?_ (by rw [hw]; exact grownBy_sorted _)
      unfold OwnStrs
      rw [List.length_map, hsl]
      exact ho
    · rw [List.map_map]
      conv => rhs; rw [← List.map_id (List.mergeSort _ _)]
      exact List.map_congr_left fun x _ => by simp [tl]
theorem sorted_of {xs ys : List (List UInt8)} (h : ys = xs.mergeSort fun x y => decide (x ≤ y)) : ys.Perm xs ∧ ys.Pairwise (· ≤ ·) := by
  subst h
  refine ⟨List.mergeSort_perm _ _, ?_⟩
  have := List.pairwise_mergeSort (le := fun (x y : List UInt8) => decide (x ≤ y)) (fun a b c h1 h2 => by
    simp only [decide_eq_true_eq] at *
    exact List.le_trans h1 h2) (fun a b => by
    simp only [Bool.or_eq_true, decide_eq_true_eq]
    exact List.le_total a b) xs
  exact this.imp fun h => by simpa using h

theorem tl_getD (T : List ByteArray) (i : Nat) : (T.map tl).getD i [] = tl (T.getD i ByteArray.empty) := by
  by_cases h : i < T.length
  · simp [List.getD_eq_getElem?_getD, h]
  · simp [List.getD_eq_getElem?_getD, List.getElem?_eq_none (show T.length ≤ i by omega), tl_empty]
set_option maxRecDepth 100000 in
set_option maxHeartbeats 1000000 in
theorem firstTwice_any (A : Option Addr) (n c : Nat) (T : List ByteArray) (w : World) (h : Strs w A n c T) (hn : n ≤ 1000000) :
    Calls Try.prog 57 #[.slice A n c] w fun e w' => ∃ x b, e = .returned (.tuple #[.string x, .bool b]) ∧ FtIs (T.map tl) (tl x) b ∧ ∃ m, w' = w.drewN m := by
  obtain ⟨rfl, hcap, hat⟩ := h
  replace hat := Lib.hid hat
  go_enter Try.func57, Try.ntmps57
  go_wp2
  go_loopw [4] (fun s4 wr => ∃ k m : Nat, 1 ≤ k ∧ (k ≤ T.length ∨ k = 1) ∧ s4 = .int .i64 k ∧ wr = w.drewN m ∧ ∀ j, 1 ≤ j → j < k → T.getD j ByteArray.empty ≠ T.getD (j - 1) ByteArray.empty) (fun i _ => T.length - (intOf i).toNat)
  case atStart => exact ⟨1, 0, Nat.le_refl _, .inr rfl, rfl, rfl, fun j h1 h2 => by omega⟩
  case round =>
    obtain ⟨k, m, hk1, hk, rfl, rfl, hd⟩ := hrel
    by_cases hlt : k < T.length
    · obtain ⟨b, o, rfl, hbo, hc⟩ := hat.out (by omega)
      have ck := hc k hlt
      have cm := hc (k - 1) (by omega)
      have HG : Hid (T.getD k ByteArray.empty ≠ T.getD (k - 1) ByteArray.empty → ∀ j, 1 ≤ j → j < k + 1 → T.getD j ByteArray.empty ≠ T.getD (j - 1) ByteArray.empty) := fun hh j h1 h2 => by
        by_cases e : j = k
        · subst e; exact hh
        · exact hd j h1 (by omega)
      have HY : Hid (T.getD k ByteArray.empty = T.getD (k - 1) ByteArray.empty → FtIs (T.map tl) (tl (T.getD k ByteArray.empty)) true) := fun hh =>
        .inl ⟨rfl, k, hk1, by rw [List.length_map]; exact hlt, tl_getD T k, by rw [tl_getD, hh], fun j h1 h2 e => by
          rw [tl_getD, tl_getD] at e
          exact hd j h1 h2 (tl_inj e)⟩
      clear hc hd
      have w2 : (0 : Int) ≤ (k : Int) - 1 := by omega
      have w3 : ((k : Int) - 1).toNat = k - 1 := by omega
      have w4 : (k : Int) - 1 < (T.length : Int) := by omega
      have w5 : (k : Int) < (T.length : Int) := by omega
      have w6 : k - 1 < T.length := by omega
      generalize T.getD k ByteArray.empty = x at *
      generalize T.getD (k - 1) ByteArray.empty = y at *
      have w1 : IntKind.i64.wrap ((k : Int) - 1) = (k : Int) - 1 := IntWalk.i64_in _ (by omega)
      by_cases e : x = y
      · have he : (x.toList == y.toList) = true := by rw [str_eq]; exact decide_eq_true e
        have hr := Lib.hid (HY.out e)
        replace e := Lib.hid e
        go_upto_region 4 with (fail)
        go_quiet (fail)
        clear cm w1 w2 w3 w4
        go_wp2
        go_ret2
        exact ⟨x, true, rfl, hr.out, m + nq, by simp⟩
      · have he : (x.toList == y.toList) = false := by rw [str_eq]; exact decide_eq_false e
        have hg := Lib.hid (HG.out e)
        replace e := Lib.hid e
        go_upto_region 4 with (fail)
        go_quiet (fail)
        clear w1 w2 w3 w4
        go_wp2
        go_roundw
        case rel => exact ⟨k+1, m + nq, by omega, by omega, by go_num, by simp, hg.out⟩
        case measure => simp [intOf]; omega
    · have hr : Hid (FtIs (T.map tl) (tl ByteArray.empty) false) := .inr ⟨rfl, rfl, fun j h1 h2 e => by
        rw [List.length_map] at h2
        rw [tl_getD, tl_getD] at e
        exact hd j h1 (by omega) (tl_inj e)⟩
      clear hd
      go_wp2
      go_ret2
      exact ⟨_, _, rfl, hr.out, m, rfl⟩
end Go.Proofs.Ytbghgpgpljdjkaa
