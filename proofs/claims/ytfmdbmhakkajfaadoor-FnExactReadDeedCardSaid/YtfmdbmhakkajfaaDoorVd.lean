/-
  The place of a word among the deeds' words, and the contract of ReadDeed of the program.
-/
import Derived.Test.YtfmdbmhakkajfaaDoorVc
import Derived.Test.YtfmdbmhakkajfaaDoorGA
namespace Go.Proofs.YtfmdbmhakkajfaaDoor
open Go.RowKit Go.Sort

theorem kind_at {l : List UInt8} {k : Nat} (hk : k < 5) (h : ∀ j : Nat, j < k → wordL (j : Int) ≠ l) (e : wordL (k : Int) = l) : kindL l = k := by
  subst e
  exact kind_word ⟨by omega, by omega⟩
theorem kind_none {l : List UInt8} (h : ∀ j : Nat, j < 5 → wordL (j : Int) ≠ l) : kindL l = -1 := by
  have h0 := h 0 (by omega)
  have h1 := h 1 (by omega)
  have h2 := h 2 (by omega)
  have h3 := h 3 (by omega)
  have h4 := h 4 (by omega)
  unfold kindL
  rw [if_neg (fun e => h0 e.symm), if_neg (fun e => h1 e.symm), if_neg (fun e => h2 e.symm), if_neg (fun e => h3 e.symm), if_neg (fun e => h4 e.symm)]
theorem word_cell {W : World} {g k : Nat} (h : Blk W g 9 wordCells) (hk : k < 5) : ∃ s : ByteArray, tl s = wordL (k : Int) ∧ W.cell? ⟨g, k, none⟩ = some (.string s) := by
  obtain rfl | rfl | rfl | rfl | rfl : k = 0 ∨ k = 1 ∨ k = 2 ∨ k = 3 ∨ k = 4 := by omega
  · exact ⟨_, rfl, h.cell 0⟩
  · exact ⟨_, rfl, h.cell 1⟩
  · exact ⟨_, rfl, h.cell 2⟩
  · exact ⟨_, rfl, h.cell 3⟩
  · exact ⟨_, rfl, h.cell 4⟩

set_option maxRecDepth 100000 in
set_option maxHeartbeats 1000000 in
theorem index5_any (g : Nat) (x : ByteArray) (w : World) (h : Blk w g 9 wordCells) :
    Calls Tryd.prog 39 #[.slice (some ⟨g, 0, none⟩) 5 5, .string x] w fun e w' => e = .returned (.int .i64 (kindL (tl x))) ∧ w = w' := by
  have HN := Lib.hid (kind_none (l := tl x))
  have HY := Lib.hid (fun k hk h e => kind_at (l := tl x) (k := k) hk h e)
  have hc := Lib.hid (fun k hk => word_cell (k := k) h hk)
  clear h
  go_enter Tryd.func39, Tryd.ntmps39
  go_wp2
  go_loop [8] (fun i => ∃ k : Nat, k ≤ 5 ∧ i = .int .i64 k ∧ ∀ j : Nat, j < k → wordL (j : Int) ≠ tl x) (fun i => 5 - (intOf i).toNat)
  case atStart => exact ⟨0, Nat.zero_le _, rfl, fun i hi => absurd hi (by omega)⟩
  case round =>
    obtain ⟨k, hk, rfl, hno⟩ := hrel
    by_cases hlt : k < 5
    · obtain ⟨y, hy, ck⟩ := hc.out k hlt
      have HYk := Lib.hid (HY.out k hlt hno)
      replace hno := Lib.hid hno
      have hk5 : (k : Int) < 5 := by omega
      by_cases e : y = x
      · have he : (x.toList == y.toList) = true := by rw [str_eq]; exact decide_eq_true e.symm
        have hr := Lib.hid (HYk.out (by rw [← e]; exact hy.symm))
        replace e := Lib.hid e
        replace hy := Lib.hid hy
        go_wp2
        go_ret
        exact ⟨ret_int hr.out.symm, rfl⟩
      · have he : (x.toList == y.toList) = false := by rw [str_eq]; exact decide_eq_false (fun h => e h.symm)
        have hg : ∀ j : Nat, j < k + 1 → wordL (j : Int) ≠ tl x := fun j hj => by
          by_cases hjk : j = k
          · subst hjk
            rw [← hy]
            exact fun h => e (tl_inj h)
          · exact hno.out j (by omega)
        replace hg := Lib.hid hg
        replace e := Lib.hid e
        replace hy := Lib.hid hy
        go_wp2
        go_round
        case rel => exact ⟨k + 1, by omega, by go_num, hg.out⟩
        case measure => simp [intOf]; omega
    · obtain rfl : k = 5 := by omega
      have hr := Lib.hid (HN.out hno)
      clear hno
      go_wp2
      go_ret
      exact ⟨ret_int hr.out.symm, rfl⟩

theorem emp_iff (s : ByteArray) : s.toList.isEmpty = decide (s = ⟨#[]⟩) := by
  rw [Lib.toList_data]
  by_cases h : s = ⟨#[]⟩
  · subst h; rfl
  · rw [decide_eq_false h]
    cases e : s.data.toList with
    | nil => exact absurd (tl_inj (b := ⟨#[]⟩) e) h
    | cons a l => rfl
/-- What reading a deed returns. -/
def RetRd (w : World) (s : ByteArray) (e : Ending) (w' : World) : Prop := e = .returned (.tuple #[.agg #[.int .i64 (rdV (tl s)).kind, .int .i64 (rdV (tl s)).n], .bool (rdB (tl s))]) ∧ Below w.heap.size w w'
theorem rd_empty {s : ByteArray} (h : s = ⟨#[]⟩) : rdB (tl s) = false := by subst h; unfold rdB; exact decide_eq_false (fun h => h.1 rfl)
theorem rd_diff {s : ByteArray} (h : deedT (candP (tl s)) ≠ s) : rdB (tl s) = false := by
  unfold rdB
  exact decide_eq_false (fun h2 => h (tl_inj h2.2))
theorem rd_same {s : ByteArray} (h0 : s ≠ ⟨#[]⟩) (h : deedT (candP (tl s)) = s) : rdB (tl s) = true := by
  unfold rdB
  refine decide_eq_true ⟨fun e => h0 (tl_inj e), ?_⟩
  have := congrArg tl h
  exact this
theorem below_dd2 {w w1 : World} {g B : Nat} {u0 u1 : Value} (h : Below B w w1) (hg : B ≤ g) : Below B w ((w1.setCell ⟨g, 0, none⟩ u0).setCell ⟨g, 1, none⟩ u1) :=
  (h.setCell (by simpa using hg) _).setCell (by simpa using hg) _

set_option maxRecDepth 100000 in
set_option maxHeartbeats 4000000 in
theorem implReadDeed_any (s : ByteArray) (w : World) (hs : s.size ≤ 4000000) (hT : LibT w) (hE : LibE w) :
    Calls Tryd.prog 14 #[.string s] w (RetRd w s) := by
  have hB := Lib.hid ((Below.refl w.heap.size w).alloc (Nat.le_refl _) (.cells #[.int .i64 0, .int .i64 0] 24))
  have HZ := Lib.hid (Blk.new w 24 #[.int .i64 0, .int .i64 0])
  go_enter Tryd.func14, Tryd.ntmps14
  go_upto_region 1 with (fail)
  generalize w.alloc (.cells #[.int .i64 0, .int .i64 0] 24) = W at *
  go_wp2_with (fail)
  refine (cut_any s W hs).mono ?_
  rintro e _ ⟨bf, rfl, m, rfl⟩
  have hB1 := Lib.hid (below_drewN hB.out m)
  have HZ1 := Lib.hid (HZ.out.below (below_drewN (Below.refl _ _) m) HZ.out.lt)
  clear hB HZ
  generalize W.drewN m = W1 at *
  go_wp2_with (fail)
  refine (atoi_any (cutT2 s) W1 (Nat.le_trans (cutT2_size s) hs) (hE.below hB1.out (Nat.le_refl _))).mono ?_
  rintro e W2 ⟨ev, rfl, hb2⟩
  have hB2 := Lib.hid (hB1.out.trans (hb2.mono hB1.out.size))
  have HZ2 := Lib.hid (HZ1.out.below hb2 HZ1.out.lt)
  clear hb2 hB1 HZ1
  go_wp2_with (fail)
  refine (deedWords_any W2).mono ?_
  rintro e _ ⟨rfl, rfl⟩
  have hA := (Below.refl W2.heap.size W2).alloc (Nat.le_refl _) (.cells wordCells 9)
  have HW := Lib.hid (Blk.new W2 9 wordCells)
  have hB3 := Lib.hid (hB2.out.trans (hA.mono hB2.out.size))
  have HZ3 := Lib.hid (HZ2.out.below hA HZ2.out.lt)
  clear hA hB2 HZ2
  generalize hgg : W2.heap.size = g at *
  replace hgg := Lib.hid hgg
  generalize W2.alloc (.cells wordCells 9) = W3 at *
  have hz := HZ3.out.lt
  go_wp2_with (fail)
  refine (index5_any g (cutT1 s) W3 HW.out).mono ?_
  rintro e _ ⟨rfl, rfl⟩
  have hcd : candP (tl s) = ⟨kindL (tl (cutT1 s)), atoiV (tl (cutT2 s))⟩ := rfl
  have hno := Lib.hid (rd_no (l := tl s))
  have hem := Lib.hid (rd_empty (s := s))
  have hdf := Lib.hid (rd_diff (s := s))
  have hsm := Lib.hid (rd_same (s := s))
  have hyv : rdB (tl s) = true → rdV (tl s) = candP (tl s) := fun h => by unfold rdV; rw [if_pos h]
  rw [hcd] at hdf hsm hyv
  replace hyv := Lib.hid hyv
  clear hcd HW
  generalize kindL (tl (cutT1 s)) = kk at *
  generalize atoiV (tl (cutT2 s)) = nn at *
  have hA := (Below.refl W3.heap.size W3).alloc (Nat.le_refl _) (.cells #[.int .i64 kk, .int .i64 nn] 24)
  have HD := Lib.hid (Blk.new W3 24 #[.int .i64 kk, .int .i64 nn])
  have hB4 := Lib.hid (hB3.out.trans (hA.mono hB3.out.size))
  have HZ4 := Lib.hid (HZ3.out.below hA HZ3.out.lt)
  have hfin : ∀ V u0 u1, Below w.heap.size w V → Below w.heap.size w ((V.setCell ⟨w.heap.size, 0, none⟩ u0).setCell ⟨w.heap.size, 1, none⟩ u1) := fun V u0 u1 h => below_dd2 h (Nat.le_refl _)
  replace hfin := Lib.hid hfin
  clear hA hB3 HZ3
  go_upto_region 4 with (fail)
  generalize W3.alloc (.cells #[.int .i64 kk, .int .i64 nn] 24) = W4 at *
  generalize W3.heap.size = q at *
  have d0 : W4.cell? ⟨q, 0, none⟩ = some (.int .i64 kk) := HD.out.cell 0
  have d1 : W4.cell? ⟨q, 1, none⟩ = some (.int .i64 nn) := HD.out.cell 1
  by_cases he : s = ⟨#[]⟩
  · have hse : s.toList.isEmpty = true := by rw [emp_iff]; exact decide_eq_true he
    have hf := hem.out he
    have hv := hno.out hf
    have hg : RetRd w s (.returned (.tuple #[.agg #[.int .i64 0, .int .i64 0], .bool false])) ((W4.setCell ⟨w.heap.size, 0, none⟩ (.int .i64 0)).setCell ⟨w.heap.size, 1, none⟩ (.int .i64 0)) := ⟨by rw [hf, hv], hfin.out _ _ _ hB4.out⟩
    replace hg := Lib.hid hg
    replace he := Lib.hid he
    replace hf := Lib.hid hf
    replace hv := Lib.hid hv
    have z0 : W4.cell? ⟨w.heap.size, 0, none⟩ = some (.int .i64 0) := HZ4.out.cell 0
    have z1 : W4.cell? ⟨w.heap.size, 1, none⟩ = some (.int .i64 0) := HZ4.out.cell 1
    have f0 := HZ4.out.frozen 0
    have f1 := HZ4.out.frozen 1
    clear HD HZ4 hem hdf hsm hyv hno
    go_wp2
    refine bodyPost_ret (v := .tuple #[.agg #[.int .i64 0, .int .i64 0], .bool false]) (by simp [results, Tryd.results14, go_sem, z0, z1]) rfl ?_
    exact hg.out
  · have hse : s.toList.isEmpty = false := by rw [emp_iff]; exact decide_eq_false he
    have KD := Lib.hid (implDeedText_any ⟨kk, nn⟩ W4 (hT.below hB4.out (Nat.le_refl _)))
    go_wp2_with (fail)
    refine KD.out.mono ?_
    rintro e W5 ⟨rfl, hb5⟩
    have hB5 := Lib.hid (hB4.out.trans (hb5.mono hB4.out.size))
    have HZ5 := Lib.hid (HZ4.out.below hb5 HZ4.out.lt)
    have HD5 := Lib.hid (HD.out.below hb5 HD.out.lt)
    clear hb5 hB4 HZ4 HD d0 d1 KD
    have d0 : W5.cell? ⟨q, 0, none⟩ = some (.int .i64 kk) := HD5.out.cell 0
    have d1 : W5.cell? ⟨q, 1, none⟩ = some (.int .i64 nn) := HD5.out.cell 1
    have z0 : W5.cell? ⟨w.heap.size, 0, none⟩ = some (.int .i64 0) := HZ5.out.cell 0
    have z1 : W5.cell? ⟨w.heap.size, 1, none⟩ = some (.int .i64 0) := HZ5.out.cell 1
    have f0 := HZ5.out.frozen 0
    have f1 := HZ5.out.frozen 1
    by_cases hd : deedT ⟨kk, nn⟩ = s
    · have hq : ((deedT ⟨kk, nn⟩).toList == s.toList) = true := by rw [str_eq]; exact decide_eq_true hd
      have hf := hsm.out he hd
      have hv := hyv.out hf
      have hg : RetRd w s (.returned (.tuple #[.agg #[.int .i64 kk, .int .i64 nn], .bool true])) ((W5.setCell ⟨w.heap.size, 0, none⟩ (.int .i64 kk)).setCell ⟨w.heap.size, 1, none⟩ (.int .i64 nn)) := ⟨by rw [hf, hv], hfin.out _ _ _ hB5.out⟩
      replace hg := Lib.hid hg
      replace he := Lib.hid he
      replace hf := Lib.hid hf
      replace hv := Lib.hid hv
      replace hd := Lib.hid hd
      clear HD5 HZ5 hem hdf hsm hyv hno
      go_wp2
      refine bodyPost_ret (v := .tuple #[.agg #[.int .i64 kk, .int .i64 nn], .bool true]) (by simp [results, Tryd.results14, go_sem, z0, z1]) rfl ?_
      exact hg.out
    · have hq : ((deedT ⟨kk, nn⟩).toList == s.toList) = false := by rw [str_eq]; exact decide_eq_false hd
      have hf := hdf.out hd
      have hv := hno.out hf
      have hg : RetRd w s (.returned (.tuple #[.agg #[.int .i64 0, .int .i64 0], .bool false])) ((W5.setCell ⟨w.heap.size, 0, none⟩ (.int .i64 0)).setCell ⟨w.heap.size, 1, none⟩ (.int .i64 0)) := ⟨by rw [hf, hv], hfin.out _ _ _ hB5.out⟩
      replace hg := Lib.hid hg
      replace he := Lib.hid he
      replace hf := Lib.hid hf
      replace hv := Lib.hid hv
      replace hd := Lib.hid hd
      clear HD5 HZ5 hem hdf hsm hyv hno
      go_wp2
      refine bodyPost_ret (v := .tuple #[.agg #[.int .i64 0, .int .i64 0], .bool false]) (by simp [results, Tryd.results14, go_sem, z0, z1]) rfl ?_
      exact hg.out
end Go.Proofs.YtfmdbmhakkajfaaDoor
