/-
  The library's numbers as texts, and the contract of DeedText of the program.
-/
import Derived.Lib.QuietBelow
import Derived.Lib.SmallJoins
import Derived.Lib.AppendIntMem
import Derived.Test.YtfmdbmhakkajfaaDoorSc
import Derived.Test.YtfmdbmhakkajfaaDoorMathX
import Derived.Test.YtfmdbmhakkajfaaDoorMathD
namespace Go.Proofs.YtfmdbmhakkajfaaDoor
open Go.RowKit Go.Sort

/-- The table of the powers of ten stands as the library lays it. -/
structure LibT (w : World) : Prop where
  tab : Lib.TabIs Tryd.prog w "internal/strconv.uint64pow10" .u64 Lib.pow10Tab
theorem LibT.below {w w' : World} {B : Nat} (h : LibT w) (hb : Below B w w') (hB : w.heap.size ≤ B) : LibT w' :=
  ⟨Joins.var_stays (g := 3) (by kernel_rfl) h.tab hb hB⟩
/-- So do the library's two errors. -/
structure LibE (w : World) : Prop where
  es : ∃ tp p, w.var? Tryd.prog "strconv.ErrSyntax" = some #[.iface tp p]
  er : ∃ tp p, w.var? Tryd.prog "strconv.ErrRange" = some #[.iface tp p]
theorem LibE.below {w w' : World} {B : Nat} (h : LibE w) (hb : Below B w w') (hB : w.heap.size ≤ B) : LibE w' := by
  obtain ⟨t1, p1, e1⟩ := h.es
  obtain ⟨t2, p2, e2⟩ := h.er
  exact ⟨⟨t1, p1, Joins.var_stays (g := 1) (by kernel_rfl) e1 hb hB⟩, ⟨t2, p2, Joins.var_stays (g := 2) (by kernel_rfl) e2 hb hB⟩⟩
theorem ret_str {a b : ByteArray} (h : a = b) : Ending.returned (.string a) = .returned (.string b) := by rw [h]
/-- The text of a number from 0 on. -/
def numT (n : Int) : ByteArray := ⟨(Lib.decDigits n.toNat).toArray⟩
theorem num_size {n : Int} (h0 : 0 ≤ n) (h1 : n ≤ 999999) : (numT n).size ≤ 6 := dig_len 6 n.toNat (by omega) (by omega)
theorem itoa_any (n : Int) (h0 : 0 ≤ n) (h1 : n ≤ 9223372036854775807) (w : World) (hT : LibT w) :
    Calls Tryd.prog 33 #[.int .i64 n] w fun e w' => e = .returned (.string (numT n)) ∧ Below w.heap.size w w' := by
  refine (Go.Proofs.Any.strconv_Itoa itoaLays n (by omega) h1 w hT.tab).mono ?_
  rintro e w' ⟨rfl, k, os, rfl⟩
  refine ⟨?_, Lib.below_grow _ w (Nat.le_refl _) k os⟩
  unfold numT Lib.itoa
  rw [if_neg (by omega)]
theorem deedT_tl (a : Dd) : tl (deedT a) = deedL a := rfl
theorem bad_deed {k n : Int} (h : k < 0 ∨ 5 ≤ k ∨ n < 0 ∨ 999999 < n) : deedT ⟨k, n⟩ = ⟨#[]⟩ := by
  refine tl_inj ?_
  rw [deedT_tl]
  unfold deedL
  dsimp only
  rw [if_neg (by omega), if_neg (by omega)]
theorem deed_num {k n : Int} (hk : 0 ≤ k ∧ k ≤ 2) (hn : 0 ≤ n ∧ n ≤ 999999) : deedL ⟨k, n⟩ = wordL k ++ 32 :: Lib.decDigits n.toNat := by
  unfold deedL
  rw [if_pos ⟨hk, hn⟩]
theorem deed_word {k n : Int} (hk : k = 3 ∨ k = 4) (hn : n = 0) : deedL ⟨k, n⟩ = wordL k := by
  unfold deedL
  dsimp only
  rw [if_neg (by omega), if_pos ⟨hk, hn⟩]
theorem deed_none {k n : Int} (hk : k = 3 ∨ k = 4) (hn : ¬ n = 0) : deedT ⟨k, n⟩ = ⟨#[]⟩ := by
  refine tl_inj ?_
  rw [deedT_tl]
  unfold deedL
  dsimp only
  rw [if_neg (by omega), if_neg (by omega)]

/-- The words of the deeds. -/
def wordCells : Array Value := #[.string ⟨#[116, 111]⟩, .string ⟨#[109, 111, 114, 101]⟩, .string ⟨#[108, 101, 115, 115]⟩, .string ⟨#[108, 101, 116, 116, 101, 114, 115]⟩, .string ⟨#[98, 97, 99, 107]⟩]
theorem deedWords_any (w : World) : Calls Tryd.prog 32 #[] w fun e w' => e = .returned (.slice (some ⟨w.heap.size, 0, none⟩) 5 5) ∧ w' = w.alloc (.cells wordCells 9) := by
  go_enter Tryd.func32, Tryd.ntmps32
  go_wp2
  go_ret
  exact ⟨rfl, rfl⟩
set_option maxRecDepth 100000 in
set_option maxHeartbeats 4000000 in
theorem implDeedText_any (a : Dd) (w : World) (hT : LibT w) :
    Calls Tryd.prog 11 #[.agg #[.int .i64 a.kind, .int .i64 a.n]] w fun e w' => e = .returned (.string (deedT a)) ∧ Below w.heap.size w w' := by
  obtain ⟨k, n⟩ := a
  dsimp only
  have hB := ((Below.refl w.heap.size w).alloc (Nat.le_refl _) (.cells #[.int .i64 k, .int .i64 n] 24)).alloc (by simp) (.cells wordCells 9)
  have HX := (Blk.new w 24 #[.int .i64 k, .int .i64 n]).alloc (.cells wordCells 9)
  have HW : Blk ((w.alloc (.cells #[.int .i64 k, .int .i64 n] 24)).alloc (.cells wordCells 9)) (w.heap.size + 1) 9 wordCells := blk_new_at _ (by simp)
  have hT2 := Lib.hid (hT.below hB (Nat.le_refl _))
  have hsz : (w.alloc (.cells #[.int .i64 k, .int .i64 n] 24)).heap.size = w.heap.size + 1 := by simp
  replace hB := Lib.hid hB
  replace HX := Lib.hid HX
  replace HW := Lib.hid HW
  clear hT
  go_enter Tryd.func11, Tryd.ntmps11
  go_wp2_with (fail)
  refine (deedWords_any _).mono ?_
  rintro e _ ⟨rfl, rfl⟩
  rw [hsz]
  replace hsz := Lib.hid hsz
  generalize (w.alloc (.cells #[.int .i64 k, .int .i64 n] 24)).alloc (.cells wordCells 9) = W at *
  have x0 : W.cell? ⟨w.heap.size, 0, none⟩ = some (.int .i64 k) := HX.out.cell 0
  have x1 : W.cell? ⟨w.heap.size, 1, none⟩ = some (.int .i64 n) := HX.out.cell 1
  have y0 : W.cell? ⟨w.heap.size + 1, 0, none⟩ = some (.string ⟨#[116, 111]⟩) := HW.out.cell 0
  have y1 : W.cell? ⟨w.heap.size + 1, 1, none⟩ = some (.string ⟨#[109, 111, 114, 101]⟩) := HW.out.cell 1
  have y2 : W.cell? ⟨w.heap.size + 1, 2, none⟩ = some (.string ⟨#[108, 101, 115, 115]⟩) := HW.out.cell 2
  have y3 : W.cell? ⟨w.heap.size + 1, 3, none⟩ = some (.string ⟨#[108, 101, 116, 116, 101, 114, 115]⟩) := HW.out.cell 3
  have y4 : W.cell? ⟨w.heap.size + 1, 4, none⟩ = some (.string ⟨#[98, 97, 99, 107]⟩) := HW.out.cell 4
  clear HX HW
  by_cases c1 : k < 0
  · have g1 : decide (k < 0) = true := decide_eq_true c1
    have hg := Lib.hid (bad_deed (k := k) (n := n) (.inl c1))
    go_wp2
    go_ret
    exact ⟨ret_str hg.out.symm, hB.out⟩
  · have g1 : decide (k < 0) = false := decide_eq_false c1
    by_cases c2 : 5 ≤ k
    · have g2 : decide ((5 : Int) ≤ k) = true := decide_eq_true c2
      have hg := Lib.hid (bad_deed (k := k) (n := n) (.inr (.inl c2)))
      go_wp2
      go_ret
      exact ⟨ret_str hg.out.symm, hB.out⟩
    · have g2 : decide ((5 : Int) ≤ k) = false := decide_eq_false c2
      by_cases c3 : n < 0
      · have g3 : decide (n < 0) = true := decide_eq_true c3
        have hg := Lib.hid (bad_deed (k := k) (n := n) (.inr (.inr (.inl c3))))
        go_wp2
        go_ret
        exact ⟨ret_str hg.out.symm, hB.out⟩
      · have g3 : decide (n < 0) = false := decide_eq_false c3
        by_cases c4 : 999999 < n
        · have g4 : decide ((999999 : Int) < n) = true := decide_eq_true c4
          have hg := Lib.hid (bad_deed (k := k) (n := n) (.inr (.inr (.inr c4))))
          go_wp2
          go_ret
          exact ⟨ret_str hg.out.symm, hB.out⟩
        · have g4 : decide ((999999 : Int) < n) = false := decide_eq_false c4
          have hT3 := Lib.hid (fun d os => itoa_any n (by omega) (by omega) (grow (redrawn W d) os) (hT2.out.below (below_regrown W d os) (Nat.le_refl _)))
          by_cases hk3 : k ≤ 2
          · have hg := Lib.hid (deed_num (k := k) (n := n) ⟨by omega, hk3⟩ ⟨by omega, by omega⟩)
            have q3 : (k == 3) = false := by rw [beq_eq_false_iff_ne]; omega
            have q4 : (k == 4) = false := by rw [beq_eq_false_iff_ne]; omega
            have n3 : (k != 3) = true := by rw [bne, q3]; rfl
            have n4 : (k != 4) = true := by rw [bne, q4]; rfl
            have hcat : ∀ s : ByteArray, tl s = wordL k → (s ++ ⟨#[32]⟩) ++ numT n = deedT ⟨k, n⟩ := fun s hs => by
              refine tl_inj ?_
              rw [tl_app, tl_app, deedT_tl, hg.out, hs]
              show wordL k ++ [32] ++ Lib.decDigits n.toNat = _
              simp
            replace hcat := Lib.hid hcat
            have z0 := fun d os => cell_regrown x0 d os
            have z1 := fun d os => cell_regrown x1 d os
            have kk0 : (0 : Int) ≤ k := by omega
            have kk1 : k < 5 := by omega
            obtain ⟨s, hs, hs7, ys⟩ : ∃ s : ByteArray, tl s = wordL k ∧ s.size ≤ 7 ∧ W.cell? ⟨w.heap.size + 1, k.toNat, none⟩ = some (.string s) := by
              obtain rfl | rfl | rfl : k = 0 ∨ k = 1 ∨ k = 2 := by omega
              · exact ⟨_, rfl, by decide, y0⟩
              · exact ⟨_, rfl, by decide, y1⟩
              · exact ⟨_, rfl, by decide, y2⟩
            have hfin := Lib.hid (hcat.out s hs)
            have hnt : (numT n).size ≤ 6 := num_size (by omega) (by omega)
            have hz1 : ¬ 9223372036854775807 < s.size + 1 := by omega
            have hz2 : ¬ 9223372036854775807 < s.size + 1 + (numT n).size := by omega
            have hz3 : ¬ 9223372036854775807 < (s ++ (⟨#[32]⟩ : ByteArray)).size + (numT n).size := by rw [ByteArray.size_append]; exact hz2
            have z2 := fun d os => cell_regrown ys d os
            clear y0 y1 y2 y3 y4 ys hs hcat
            go_upto_region 5 with (fail)
            refine wp_region_quiet_below (by kernel_rfl) (by kernel_rfl) ?_
            repeat (go_big_quiet_step (first | (go_at_call 33; exact Calls.regrown_of (hT3.out _ _))))
            refine wpQuiet_nil ?_
            intro _ hw'
            obtain ⟨pq, hw''⟩ := hw'
            have HBq := hB.out.trans ((below_regrown W pq.d pq.os).mono hB.out.size)
            subst hw''
            replace HBq := Lib.hid HBq
            clear z0 z1 z2
            go_wp2
            go_ret
            exact ⟨ret_str hfin.out, HBq.out⟩
          · by_cases h0 : n = 0
            · subst h0
              have hq0 : ((0 : Int) != 0) = false := rfl
              obtain rfl | rfl : k = 3 ∨ k = 4 := by omega
              · have hg : (⟨#[108, 101, 116, 116, 101, 114, 115]⟩ : ByteArray) = deedT ⟨3, 0⟩ := tl_inj (by rw [deedT_tl, deed_word (.inl rfl) rfl]; rfl)
                replace hg := Lib.hid hg
                go_wp2
                go_ret
                exact ⟨ret_str hg.out, hB.out⟩
              · have hg : (⟨#[98, 97, 99, 107]⟩ : ByteArray) = deedT ⟨4, 0⟩ := tl_inj (by rw [deedT_tl, deed_word (.inr rfl) rfl]; rfl)
                replace hg := Lib.hid hg
                go_wp2
                go_ret
                exact ⟨ret_str hg.out, hB.out⟩
            · have hq0 : (n != 0) = true := by simpa using h0
              have hq1 : (n == 0) = false := by simpa using h0
              have hg := Lib.hid (deed_none (k := k) (n := n) (by omega) h0)
              obtain rfl | rfl : k = 3 ∨ k = 4 := by omega
              all_goals
                go_wp2
                go_ret
                exact ⟨ret_str hg.out.symm, hB.out⟩
end Go.Proofs.YtfmdbmhakkajfaaDoor
