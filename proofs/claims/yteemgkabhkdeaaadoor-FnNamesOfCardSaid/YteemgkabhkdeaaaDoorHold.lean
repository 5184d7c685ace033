import Derived.Test.YteemgkabhkdeaaaDoorC1
namespace Go.Proofs.YteemgkabhkdeaaaDoor
open Go.RowKit

theorem int_info : (Tryd.prog.info? 3).map (fun i => (i.zero, i.size, i.bytes)) = some (some (.int .i64 0), 1, 8) := by kernel_rfl

theorem toIntS_any (A : Option Addr) (n c : Nat) (xs : List Int) (w : World) (h : Ints w .i64 A n c xs) (hn : n ≤ 1048576) :
    Calls Tryd.prog 35 #[.slice A n c] w fun e w' => ∃ g, e = .returned (.slice (some ⟨g, 0, none⟩) n n) ∧ OwnInts w' w.heap.size 3 .i64 g n xs ∧ Below w.heap.size w w' := by
  obtain ⟨i0, hi, hz0, hz1, hz2⟩ := info_parts int_info
  obtain ⟨rfl, hcap, h⟩ := h
  have hmk := fun W => run_make_rowN (P := Tryd.prog) 24 3 i0 _ Tryd.underlying24 hi hz0 .i64 .i64 xs.length xs.length (Nat.le_refl _) (by rw [hz2]; omega) (by omega) W
  rw [hz1] at hmk
  go_enter Tryd.func35, Tryd.ntmps35
  go_wp2
  go_loopw [4] (fun i wr => ∃ (k : Nat) (cs : Array Value), k ≤ xs.length ∧ i = .int .i64 k ∧ cs.size = xs.length ∧ (∀ j, j < k → cs[j]? = some (.int .i64 (xs.getD j 0))) ∧ Blk wr w.heap.size 3 cs ∧ Below w.heap.size w wr) (fun i _ => xs.length - (intOf i).toNat)
  case atStart => exact ⟨0, _, Nat.zero_le _, rfl, size_madeCells _ _, fun j hj => absurd hj (by omega), Blk.new _ _ _, (Below.refl _ _).alloc (Nat.le_refl _) _⟩
  case round =>
    obtain ⟨k, cs, hk, rfl, hcs, hj, hb, hB⟩ := hrel
    by_cases hlt : k < xs.length
    · obtain ⟨b, o, rfl, hbo, h⟩ := h (by omega)
      have c1 := (hB.cell (p := ⟨b, o + k, none⟩) hbo).trans (h k hlt)
      have c2 := hb.cell k
      have f2 := hb.frozen k
      rw [Array.getElem?_eq_getElem (by omega)] at c2
      have HB := hb.set_ k (.int .i64 (xs.getD k 0))
      have HJ := cells_set xs cs k (by omega) hj
      have HBel := hB.setCell (p := ⟨w.heap.size, k, none⟩) (Nat.le_refl _) (.int .i64 (xs.getD k 0))
      generalize xs.getD k 0 = x at *
      replace HB := Lib.hid HB
      replace HJ := Lib.hid HJ
      replace HBel := Lib.hid HBel
      clear h hj hb hmk
      go_wp2
      go_roundw
      case rel => exact ⟨k+1, _, by omega, by go_num, by simpa using hcs, HJ.out, HB.out, HBel.out⟩
      case measure => simp [intOf]; omega
    · obtain rfl : k = xs.length := by omega
      have HO := Lib.hid (OwnInts.of_cells (B := w.heap.size) hb hcs hj (Nat.le_refl _))
      replace hB := Lib.hid hB
      clear h hj hb hmk
      go_wp2
      go_ret
      exact ⟨_, rfl, HO.out, hB.out⟩

theorem eqIntS_any (A A' : Option Addr) (n c n' c' : Nat) (xs ys : List Int) (w : World) (h : Ints w .i64 A n c xs) (h' : Ints w .i64 A' n' c' ys) (hn : n ≤ 1048576) (hn' : n' ≤ 1048576) :
    Calls Tryd.prog 37 #[.slice A n c, .slice A' n' c'] w fun e w' => e = .returned (.bool (decide (xs = ys))) ∧ ∃ m, w' = w.drewN m := by
  obtain ⟨rfl, hcap, h⟩ := h
  obtain ⟨rfl, hcap', h'⟩ := h'
  by_cases hl : xs.length = ys.length
  · rw [← hl] at h' hcap' ⊢
    replace hl := Lib.hid hl
    have heq : ((xs.length : Int) != xs.length) = false := by simp
    go_enter Tryd.func37, Tryd.ntmps37
    go_wp2
    go_loopw [5] (fun i wr => ∃ k m : Nat, k ≤ xs.length ∧ i = .int .i64 k ∧ xs.take k = ys.take k ∧ wr = w.drewN m) (fun i _ => xs.length - (intOf i).toNat)
    case atStart => exact ⟨0, 0, Nat.zero_le _, rfl, by simp, rfl⟩
    case round =>
      obtain ⟨k, m, hk, rfl, hu, rfl⟩ := hrel
      by_cases hlt : k < xs.length
      · obtain ⟨b, o, rfl, _, h⟩ := h (by omega)
        obtain ⟨b', o', rfl, _, h'⟩ := h' (by omega)
        have c1 := h k hlt
        have c2 := h' k hlt
        have HU := take_go (k := k) xs ys hlt hl.out hu
        have HN := take_no (k := k) xs ys hlt hl.out
        generalize xs.getD k 0 = x1 at *
        generalize ys.getD k 0 = x2 at *
        replace HU := Lib.hid HU
        replace HN := Lib.hid HN
        clear h h' hu
        by_cases hx : x1 = x2
        · have hx1 : (x1 != x2) = false := by simpa using hx
          replace hx := Lib.hid hx
          go_wp2
          go_quiet (fail)
          go_wp2
          go_roundw
          case rel => exact ⟨k+1, m+nq, by omega, by go_num, HU.out hx.out, by simp⟩
          case measure => simp [intOf]; omega
        · have hx1 : (x1 != x2) = true := by simpa using hx
          go_wp2
          go_quiet (fail)
          go_wp2
          go_ret
          exact ⟨ret_bool (by rw [decide_eq_false (HN.out hx)]), m+nq, by simp⟩
      · have HE := Lib.hid (take_end xs ys (by omega) hl.out hu)
        clear h h' hu
        go_wp2
        go_ret
        exact ⟨ret_bool (by rw [decide_eq_true HE.out]), m, rfl⟩
  · have hne : xs ≠ ys := fun e => hl (by rw [e])
    have HN := Lib.hid hne
    have hneq : ((xs.length : Int) != ys.length) = true := by rw [bne_iff_ne]; omega
    clear hne
    go_enter Tryd.func37, Tryd.ntmps37
    go_wp2
    go_ret
    exact ⟨ret_bool (by rw [decide_eq_false HN.out]), 0, rfl⟩
end Go.Proofs.YteemgkabhkdeaaaDoor
