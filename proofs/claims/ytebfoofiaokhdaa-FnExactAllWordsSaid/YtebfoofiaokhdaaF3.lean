/-
  LeastOf, CountOf, MostWords and AllWords of the program.
-/
import Derived.Test.YtebfoofiaokhdaaF2
import Derived.Test.YtebfoofiaokhdaaE1
namespace Go.Proofs.Ytebfoofiaokhdaa
open Go.RowKit

theorem under_tab : Try.prog.underlying 55 = some (.array 32 3) := by kernel_rfl
theorem agg_int (w : World) : (isAgg 3 : Sem Bool).run Try.prog w = .ok false w := by
  unfold isAgg
  rw [Sem.run_bind, run_underlying Try.underlying3 w]
  rfl
/-- A table is indexed. -/
theorem run_index_tab (l : List Int) (hl : l.length = 32) (i : Nat) (hi : i < 32) (w : World) : (Instr.index 55 (.agg (tabV l)) (.int .i64 (i : Int))).run Try.prog w = .ok (.int .i64 (l.getD i 0)) w := by
  have h1 : (0 : Int) ≤ (i : Int) ∧ (i : Int) < ((32 : Nat) : Int) := by omega
  have h2 : (tabV l)[i]? = some (.int .i64 (l.getD i 0)) := tabV_at (by omega)
  have h3 : ∀ w, (part 3 (tabV l) i).run Try.prog w = .ok (.int .i64 (l.getD i 0)) w := fun w => by
    unfold part
    rw [Sem.run_bind, agg_int]
    simp [h2]
  simp [Instr.index, run_underlying under_tab, asIntOf, hi, h3]
theorem tabC_bd (f : Nat → Int) (k i : Nat) : 0 ≤ (tabC f k).getD i 0 ∧ (tabC f k).getD i 0 ≤ (k : Int) := by
  by_cases h1 : 1 ≤ i ∧ i < 32
  · rw [tabC_at h1.1 h1.2]
    have := cw_le (f := f) (w := (i : Int)) k
    omega
  · by_cases h0 : i = 0
    · subst h0; rw [tabC_zero]; omega
    · have : (tabC f k).getD i 0 = 0 := by
        have hl : (tabC f k).length ≤ i := by rw [tabC_len]; omega
        simp [List.getD_eq_getElem?_getD, List.getElem?_eq_none hl]
      omega

set_option maxRecDepth 100000 in
set_option maxHeartbeats 4000000 in
theorem implLeastOf_any (v : Value) (t : Tg) (x : Int) (w : World) (h : Tng w v t) (hf : t.Fine) (hx : -9223372036854775808 ≤ x ∧ x ≤ 9223372036854775807) :
    Calls Try.prog 17 #[v, .int .i64 x] w fun e w' => e = .returned (.int .i64 (leastA t x)) ∧ Below w.heap.size w w' := by
  obtain ⟨A1, c1, A2, c2, A3, c3, rfl, -⟩ := h.ex
  have hB := (Below.refl w.heap.size w).alloc (Nat.le_refl _) (.cells #[.slice A1 t.us.length c1, .slice A2 t.bs.length c2, .slice A3 t.ns.length c3] 26)
  have HX := Blk.new w 26 #[.slice A1 t.us.length c1, .slice A2 t.bs.length c2, .slice A3 t.ns.length c3]
  have HT := h.below hB (Nat.le_refl _)
  have K1 := seen_any _ t 3000 _ HT hf (by omega)

  generalize hCC : tabC (lngF t) (if okM t 3000 then (3000 : Int).toNat else 0) = CC at *
  generalize hLL : tabL (lngF t) (if okM t 3000 then (3000 : Int).toNat else 0) = LL at *
  have hCl : CC.length = 32 := by rw [← hCC]; exact tabC_len
  have hLl : LL.length = 32 := by rw [← hLL]; exact tabL_len
  generalize hRB : okM t 3000 = RB at *
  replace hB := Lib.hid hB
  replace HX := Lib.hid HX
  replace K1 := Lib.hid K1
  replace hCC := Lib.hid hCC
  replace hLL := Lib.hid hLL
  replace hRB := Lib.hid hRB
  replace hCl := Lib.hid hCl
  replace hLl := Lib.hid hLl
  clear h hf HT
  go_enter Try.func17, Try.ntmps17
  go_upto_region 1 with (fail)
  generalize w.alloc (.cells #[.slice A1 t.us.length c1, .slice A2 t.bs.length c2, .slice A3 t.ns.length c3] 26) = W at *
  obtain ⟨x0, x1, x2, -, -, -⟩ := blk3 HX.out
  go_wp2_with (fail)
  refine K1.out.mono ?_
  rintro e w1 ⟨rfl, b1⟩
  replace hB := hB.out.trans (b1.mono hB.out.size)
  clear b1 x0 x1 x2 K1 HX
  have B1 : Blk ((w1.alloc (.cells #[.int .i64 0, .int .i64 0, .int .i64 0, .int .i64 0, .int .i64 0, .int .i64 0, .int .i64 0, .int .i64 0, .int .i64 0, .int .i64 0, .int .i64 0, .int .i64 0, .int .i64 0, .int .i64 0, .int .i64 0, .int .i64 0, .int .i64 0, .int .i64 0, .int .i64 0, .int .i64 0, .int .i64 0, .int .i64 0, .int .i64 0, .int .i64 0, .int .i64 0, .int .i64 0, .int .i64 0, .int .i64 0, .int .i64 0, .int .i64 0, .int .i64 0, .int .i64 0] 55)).alloc (.cells #[.int .i64 0, .int .i64 0, .int .i64 0, .int .i64 0, .int .i64 0, .int .i64 0, .int .i64 0, .int .i64 0, .int .i64 0, .int .i64 0, .int .i64 0, .int .i64 0, .int .i64 0, .int .i64 0, .int .i64 0, .int .i64 0, .int .i64 0, .int .i64 0, .int .i64 0, .int .i64 0, .int .i64 0, .int .i64 0, .int .i64 0, .int .i64 0, .int .i64 0, .int .i64 0, .int .i64 0, .int .i64 0, .int .i64 0, .int .i64 0, .int .i64 0, .int .i64 0] 55)) w1.heap.size 55 (tabV (List.replicate 32 0)) := by rw [zero_tab]; exact (Blk.new _ _ _).alloc _
  have B2 : Blk (((w1.alloc (.cells #[.int .i64 0, .int .i64 0, .int .i64 0, .int .i64 0, .int .i64 0, .int .i64 0, .int .i64 0, .int .i64 0, .int .i64 0, .int .i64 0, .int .i64 0, .int .i64 0, .int .i64 0, .int .i64 0, .int .i64 0, .int .i64 0, .int .i64 0, .int .i64 0, .int .i64 0, .int .i64 0, .int .i64 0, .int .i64 0, .int .i64 0, .int .i64 0, .int .i64 0, .int .i64 0, .int .i64 0, .int .i64 0, .int .i64 0, .int .i64 0, .int .i64 0, .int .i64 0] 55)).alloc (.cells #[.int .i64 0, .int .i64 0, .int .i64 0, .int .i64 0, .int .i64 0, .int .i64 0, .int .i64 0, .int .i64 0, .int .i64 0, .int .i64 0, .int .i64 0, .int .i64 0, .int .i64 0, .int .i64 0, .int .i64 0, .int .i64 0, .int .i64 0, .int .i64 0, .int .i64 0, .int .i64 0, .int .i64 0, .int .i64 0, .int .i64 0, .int .i64 0, .int .i64 0, .int .i64 0, .int .i64 0, .int .i64 0, .int .i64 0, .int .i64 0, .int .i64 0, .int .i64 0] 55)).setRow w1.heap.size (tabV CC)) (w1.heap.size + 1) 55 (tabV (List.replicate 32 0)) := by
    refine Blk.rowFar ?_ (by omega) _
    rw [zero_tab]; exact blk_new_at _ (by simp)
  have B3 := (B1.row (tabV CC)).rowFar (b := w1.heap.size + 1) (by omega) (tabV LL)
  have B4 := B2.row (tabV LL)
  have hBf : Below w.heap.size w ((((w1.alloc (.cells #[.int .i64 0, .int .i64 0, .int .i64 0, .int .i64 0, .int .i64 0, .int .i64 0, .int .i64 0, .int .i64 0, .int .i64 0, .int .i64 0, .int .i64 0, .int .i64 0, .int .i64 0, .int .i64 0, .int .i64 0, .int .i64 0, .int .i64 0, .int .i64 0, .int .i64 0, .int .i64 0, .int .i64 0, .int .i64 0, .int .i64 0, .int .i64 0, .int .i64 0, .int .i64 0, .int .i64 0, .int .i64 0, .int .i64 0, .int .i64 0, .int .i64 0, .int .i64 0] 55)).alloc (.cells #[.int .i64 0, .int .i64 0, .int .i64 0, .int .i64 0, .int .i64 0, .int .i64 0, .int .i64 0, .int .i64 0, .int .i64 0, .int .i64 0, .int .i64 0, .int .i64 0, .int .i64 0, .int .i64 0, .int .i64 0, .int .i64 0, .int .i64 0, .int .i64 0, .int .i64 0, .int .i64 0, .int .i64 0, .int .i64 0, .int .i64 0, .int .i64 0, .int .i64 0, .int .i64 0, .int .i64 0, .int .i64 0, .int .i64 0, .int .i64 0, .int .i64 0, .int .i64 0] 55)).setRow w1.heap.size (tabV CC)).setRow (w1.heap.size + 1) (tabV LL)) :=
    below_setRow (below_setRow ((hB.alloc hB.size _).alloc (by have := hB.size; simp; omega) _) hB.size _) (by have := hB.size; omega) _
  replace B1 := Lib.hid B1
  replace B2 := Lib.hid B2
  replace B3 := Lib.hid B3
  replace B4 := Lib.hid B4
  replace hBf := Lib.hid hBf
  clear hB
  go_upto_region 2 with (first
    | (refine wpList_store_row rfl 55 (.tmp 5) (.tmp 11) rfl w1.heap.size (tabV CC) rfl rfl 55 _ B1.out (by rw [tabV_size, hCl.out]; exact info_tab) (by rw [tabV_size, tabV_size, hCl.out]; rfl) (tabV_one _) ?_)
    | (refine wpList_store_row rfl 55 (.tmp 6) (.tmp 12) rfl (w1.heap.size + 1) (tabV LL) rfl rfl 55 _ B2.out (by rw [tabV_size, hLl.out]; exact info_tab) (by rw [tabV_size, tabV_size, hLl.out]; rfl) (tabV_one _) ?_))
  generalize (((w1.alloc (.cells #[.int .i64 0, .int .i64 0, .int .i64 0, .int .i64 0, .int .i64 0, .int .i64 0, .int .i64 0, .int .i64 0, .int .i64 0, .int .i64 0, .int .i64 0, .int .i64 0, .int .i64 0, .int .i64 0, .int .i64 0, .int .i64 0, .int .i64 0, .int .i64 0, .int .i64 0, .int .i64 0, .int .i64 0, .int .i64 0, .int .i64 0, .int .i64 0, .int .i64 0, .int .i64 0, .int .i64 0, .int .i64 0, .int .i64 0, .int .i64 0, .int .i64 0, .int .i64 0] 55)).alloc (.cells #[.int .i64 0, .int .i64 0, .int .i64 0, .int .i64 0, .int .i64 0, .int .i64 0, .int .i64 0, .int .i64 0, .int .i64 0, .int .i64 0, .int .i64 0, .int .i64 0, .int .i64 0, .int .i64 0, .int .i64 0, .int .i64 0, .int .i64 0, .int .i64 0, .int .i64 0, .int .i64 0, .int .i64 0, .int .i64 0, .int .i64 0, .int .i64 0, .int .i64 0, .int .i64 0, .int .i64 0, .int .i64 0, .int .i64 0, .int .i64 0, .int .i64 0, .int .i64 0] 55)).setRow w1.heap.size (tabV CC)).setRow (w1.heap.size + 1) (tabV LL) = W2 at *
  generalize w1.heap.size = g at *
  cases RB
  · have HV := Lib.hid (show leastA t x = -1 by
      have : t.ok = false := by
        have h := hRB.out
        unfold okM at h
        simpa using h
      unfold leastA
      rw [this]
      rfl)
    go_wp2
    go_ret
    exact ⟨ret_int HV.out.symm, hBf.out⟩
  · have hok : t.ok = true := by
      have h := hRB.out
      unfold okM at h
      rw [Bool.and_eq_true] at h
      exact h.1
    by_cases h1 : x < 1
    · have HV := Lib.hid (show leastA t x = -1 by unfold leastA; rw [decide_eq_false (show ¬ 1 ≤ x by omega), Bool.and_false]; rfl)
      replace hok := Lib.hid hok
      go_wp2
      go_ret
      exact ⟨ret_int HV.out.symm, hBf.out⟩
    · obtain ⟨j, rfl⟩ : ∃ j : Nat, x = j := ⟨x.toNat, by omega⟩
      by_cases h2 : 32 ≤ (j : Int)
      · have HV := Lib.hid (show leastA t (j : Int) = -1 by
          have h0 : lwTo (lngF t) (j : Int) 3000 = 0 := Classical.byContradiction fun h => by
            have := lw_at h
            have := (lng_bd t (lwTo (lngF t) (j : Int) 3000)).2.1
            omega
          unfold leastA
          rw [h0, decide_eq_false (show ¬ ((0 : Nat) ≠ 0) from fun h => h rfl), Bool.and_false]
          rfl)
        replace hok := Lib.hid hok
        go_wp2
        go_ret
        exact ⟨ret_int HV.out.symm, hBf.out⟩
      · have hat : LL.getD j 0 = (lwTo (lngF t) (j : Int) 3000 : Int) := by
          rw [← hLL.out]
          exact tabL_at (f := lngF t) (k := 3000) (by omega) (by omega)
        have ck := (B4.out.cell j).trans (tabV_at (by rw [hLl.out]; omega))
        rw [hat] at ck
        have HA : leastA t (j : Int) = if lwTo (lngF t) (j : Int) 3000 = 0 then -1 else (lwTo (lngF t) (j : Int) 3000 : Int) := by
          unfold leastA
          rw [hok, decide_eq_true (show (1 : Int) ≤ (j : Int) by omega)]
          by_cases h0 : lwTo (lngF t) (j : Int) 3000 = 0
          · rw [h0]; rfl
          · rw [decide_eq_true h0, if_neg h0]; rfl
        generalize lwTo (lngF t) (j : Int) 3000 = z at *
        replace hok := Lib.hid hok
        replace hat := Lib.hid hat
        have j0 : (0 : Int) ≤ (j : Int) := by omega
        have j1 : (j : Int) < 32 := by omega
        by_cases h0 : z = 0
        · subst h0
          rw [if_pos rfl] at HA
          have HV := Lib.hid HA
          clear HA
          go_wp2
          go_ret
          exact ⟨ret_int HV.out.symm, hBf.out⟩
        · have g1 : ((z : Int) == 0) = false := by rw [beq_eq_false_iff_ne]; omega
          rw [if_neg h0] at HA
          have HV := Lib.hid HA
          clear HA
          go_wp2
          go_ret
          exact ⟨ret_int HV.out.symm, hBf.out⟩

set_option maxRecDepth 100000 in
set_option maxHeartbeats 4000000 in
theorem implCountOf_any (v : Value) (t : Tg) (m : Int) (x : Int) (w : World) (h : Tng w v t) (hf : t.Fine) (hm : -9223372036854775808 ≤ m ∧ m ≤ 9223372036854775807) (hx : -9223372036854775808 ≤ x ∧ x ≤ 9223372036854775807) :
    Calls Try.prog 22 #[v, .int .i64 m, .int .i64 x] w fun e w' => e = .returned (.int .i64 (cntA t m x)) ∧ Below w.heap.size w w' := by
  obtain ⟨A1, c1, A2, c2, A3, c3, rfl, -⟩ := h.ex
  have hB := (Below.refl w.heap.size w).alloc (Nat.le_refl _) (.cells #[.slice A1 t.us.length c1, .slice A2 t.bs.length c2, .slice A3 t.ns.length c3] 26)
  have HX := Blk.new w 26 #[.slice A1 t.us.length c1, .slice A2 t.bs.length c2, .slice A3 t.ns.length c3]
  have HT := h.below hB (Nat.le_refl _)
  have K1 := seen_any _ t m _ HT hf (by omega)

  generalize hCC : tabC (lngF t) (if okM t m then (m : Int).toNat else 0) = CC at *
  generalize hLL : tabL (lngF t) (if okM t m then (m : Int).toNat else 0) = LL at *
  have hCl : CC.length = 32 := by rw [← hCC]; exact tabC_len
  have hLl : LL.length = 32 := by rw [← hLL]; exact tabL_len
  generalize hRB : okM t m = RB at *
  replace hB := Lib.hid hB
  replace HX := Lib.hid HX
  replace K1 := Lib.hid K1
  replace hCC := Lib.hid hCC
  replace hLL := Lib.hid hLL
  replace hRB := Lib.hid hRB
  replace hCl := Lib.hid hCl
  replace hLl := Lib.hid hLl
  clear h hf HT
  go_enter Try.func22, Try.ntmps22
  go_upto_region 1 with (fail)
  generalize w.alloc (.cells #[.slice A1 t.us.length c1, .slice A2 t.bs.length c2, .slice A3 t.ns.length c3] 26) = W at *
  obtain ⟨x0, x1, x2, -, -, -⟩ := blk3 HX.out
  go_wp2_with (fail)
  refine K1.out.mono ?_
  rintro e w1 ⟨rfl, b1⟩
  replace hB := hB.out.trans (b1.mono hB.out.size)
  clear b1 x0 x1 x2 K1 HX
  have B1 : Blk ((w1.alloc (.cells #[.int .i64 0, .int .i64 0, .int .i64 0, .int .i64 0, .int .i64 0, .int .i64 0, .int .i64 0, .int .i64 0, .int .i64 0, .int .i64 0, .int .i64 0, .int .i64 0, .int .i64 0, .int .i64 0, .int .i64 0, .int .i64 0, .int .i64 0, .int .i64 0, .int .i64 0, .int .i64 0, .int .i64 0, .int .i64 0, .int .i64 0, .int .i64 0, .int .i64 0, .int .i64 0, .int .i64 0, .int .i64 0, .int .i64 0, .int .i64 0, .int .i64 0, .int .i64 0] 55)).alloc (.cells #[.int .i64 0, .int .i64 0, .int .i64 0, .int .i64 0, .int .i64 0, .int .i64 0, .int .i64 0, .int .i64 0, .int .i64 0, .int .i64 0, .int .i64 0, .int .i64 0, .int .i64 0, .int .i64 0, .int .i64 0, .int .i64 0, .int .i64 0, .int .i64 0, .int .i64 0, .int .i64 0, .int .i64 0, .int .i64 0, .int .i64 0, .int .i64 0, .int .i64 0, .int .i64 0, .int .i64 0, .int .i64 0, .int .i64 0, .int .i64 0, .int .i64 0, .int .i64 0] 55)) w1.heap.size 55 (tabV (List.replicate 32 0)) := by rw [zero_tab]; exact (Blk.new _ _ _).alloc _
  have B2 : Blk (((w1.alloc (.cells #[.int .i64 0, .int .i64 0, .int .i64 0, .int .i64 0, .int .i64 0, .int .i64 0, .int .i64 0, .int .i64 0, .int .i64 0, .int .i64 0, .int .i64 0, .int .i64 0, .int .i64 0, .int .i64 0, .int .i64 0, .int .i64 0, .int .i64 0, .int .i64 0, .int .i64 0, .int .i64 0, .int .i64 0, .int .i64 0, .int .i64 0, .int .i64 0, .int .i64 0, .int .i64 0, .int .i64 0, .int .i64 0, .int .i64 0, .int .i64 0, .int .i64 0, .int .i64 0] 55)).alloc (.cells #[.int .i64 0, .int .i64 0, .int .i64 0, .int .i64 0, .int .i64 0, .int .i64 0, .int .i64 0, .int .i64 0, .int .i64 0, .int .i64 0, .int .i64 0, .int .i64 0, .int .i64 0, .int .i64 0, .int .i64 0, .int .i64 0, .int .i64 0, .int .i64 0, .int .i64 0, .int .i64 0, .int .i64 0, .int .i64 0, .int .i64 0, .int .i64 0, .int .i64 0, .int .i64 0, .int .i64 0, .int .i64 0, .int .i64 0, .int .i64 0, .int .i64 0, .int .i64 0] 55)).setRow w1.heap.size (tabV CC)) (w1.heap.size + 1) 55 (tabV (List.replicate 32 0)) := by
    refine Blk.rowFar ?_ (by omega) _
    rw [zero_tab]; exact blk_new_at _ (by simp)
  have B3 := (B1.row (tabV CC)).rowFar (b := w1.heap.size + 1) (by omega) (tabV LL)
  have B4 := B2.row (tabV LL)
  have hBf : Below w.heap.size w ((((w1.alloc (.cells #[.int .i64 0, .int .i64 0, .int .i64 0, .int .i64 0, .int .i64 0, .int .i64 0, .int .i64 0, .int .i64 0, .int .i64 0, .int .i64 0, .int .i64 0, .int .i64 0, .int .i64 0, .int .i64 0, .int .i64 0, .int .i64 0, .int .i64 0, .int .i64 0, .int .i64 0, .int .i64 0, .int .i64 0, .int .i64 0, .int .i64 0, .int .i64 0, .int .i64 0, .int .i64 0, .int .i64 0, .int .i64 0, .int .i64 0, .int .i64 0, .int .i64 0, .int .i64 0] 55)).alloc (.cells #[.int .i64 0, .int .i64 0, .int .i64 0, .int .i64 0, .int .i64 0, .int .i64 0, .int .i64 0, .int .i64 0, .int .i64 0, .int .i64 0, .int .i64 0, .int .i64 0, .int .i64 0, .int .i64 0, .int .i64 0, .int .i64 0, .int .i64 0, .int .i64 0, .int .i64 0, .int .i64 0, .int .i64 0, .int .i64 0, .int .i64 0, .int .i64 0, .int .i64 0, .int .i64 0, .int .i64 0, .int .i64 0, .int .i64 0, .int .i64 0, .int .i64 0, .int .i64 0] 55)).setRow w1.heap.size (tabV CC)).setRow (w1.heap.size + 1) (tabV LL)) :=
    below_setRow (below_setRow ((hB.alloc hB.size _).alloc (by have := hB.size; simp; omega) _) hB.size _) (by have := hB.size; omega) _
  replace B1 := Lib.hid B1
  replace B2 := Lib.hid B2
  replace B3 := Lib.hid B3
  replace B4 := Lib.hid B4
  replace hBf := Lib.hid hBf
  clear hB
  go_upto_region 2 with (first
    | (refine wpList_store_row rfl 55 (.tmp 7) (.tmp 14) rfl w1.heap.size (tabV CC) rfl rfl 55 _ B1.out (by rw [tabV_size, hCl.out]; exact info_tab) (by rw [tabV_size, tabV_size, hCl.out]; rfl) (tabV_one _) ?_)
    | (refine wpList_store_row rfl 55 (.tmp 8) (.tmp 15) rfl (w1.heap.size + 1) (tabV LL) rfl rfl 55 _ B2.out (by rw [tabV_size, hLl.out]; exact info_tab) (by rw [tabV_size, tabV_size, hLl.out]; rfl) (tabV_one _) ?_))
  generalize (((w1.alloc (.cells #[.int .i64 0, .int .i64 0, .int .i64 0, .int .i64 0, .int .i64 0, .int .i64 0, .int .i64 0, .int .i64 0, .int .i64 0, .int .i64 0, .int .i64 0, .int .i64 0, .int .i64 0, .int .i64 0, .int .i64 0, .int .i64 0, .int .i64 0, .int .i64 0, .int .i64 0, .int .i64 0, .int .i64 0, .int .i64 0, .int .i64 0, .int .i64 0, .int .i64 0, .int .i64 0, .int .i64 0, .int .i64 0, .int .i64 0, .int .i64 0, .int .i64 0, .int .i64 0] 55)).alloc (.cells #[.int .i64 0, .int .i64 0, .int .i64 0, .int .i64 0, .int .i64 0, .int .i64 0, .int .i64 0, .int .i64 0, .int .i64 0, .int .i64 0, .int .i64 0, .int .i64 0, .int .i64 0, .int .i64 0, .int .i64 0, .int .i64 0, .int .i64 0, .int .i64 0, .int .i64 0, .int .i64 0, .int .i64 0, .int .i64 0, .int .i64 0, .int .i64 0, .int .i64 0, .int .i64 0, .int .i64 0, .int .i64 0, .int .i64 0, .int .i64 0, .int .i64 0, .int .i64 0] 55)).setRow w1.heap.size (tabV CC)).setRow (w1.heap.size + 1) (tabV LL) = W2 at *
  generalize w1.heap.size = g at *
  cases RB
  · have HV := Lib.hid (show cntA t m x = -1 by unfold cntA; rw [hRB.out]; rfl)
    go_wp2
    go_ret
    exact ⟨ret_int HV.out.symm, hBf.out⟩
  · by_cases h1 : x < 1
    · have HV := Lib.hid (show cntA t m x = -1 by unfold cntA; rw [decide_eq_false (show ¬ 1 ≤ x by omega), Bool.and_false]; rfl)
      go_wp2
      go_ret
      exact ⟨ret_int HV.out.symm, hBf.out⟩
    · obtain ⟨j, rfl⟩ : ∃ j : Nat, x = j := ⟨x.toNat, by omega⟩
      have HA : cntA t m (j : Int) = cwTo (lngF t) (j : Int) m.toNat := by unfold cntA; rw [hRB.out, decide_eq_true (show (1 : Int) ≤ (j : Int) by omega)]; rfl
      by_cases h2 : 32 ≤ (j : Int)
      · have HV := Lib.hid (show cntA t m (j : Int) = 0 by
          rw [HA, cw_none (fun i => by have := (lng_bd t i).2.1; omega)]
          rfl)
        clear HA
        go_wp2
        go_ret
        exact ⟨ret_int HV.out.symm, hBf.out⟩
      · have hat : CC.getD j 0 = (cwTo (lngF t) (j : Int) m.toNat : Int) := by
          rw [← hCC.out]
          exact tabC_at (f := lngF t) (k := m.toNat) (by omega) (by omega)
        have ck := (B3.out.cell j).trans (tabV_at (by rw [hCl.out]; omega))
        rw [hat] at ck
        generalize cwTo (lngF t) (j : Int) m.toNat = z at *
        replace HA := Lib.hid HA
        replace hat := Lib.hid hat
        have j0 : (0 : Int) ≤ (j : Int) := by omega
        have j1 : (j : Int) < 32 := by omega
        go_wp2
        go_ret
        exact ⟨ret_int HA.out.symm, hBf.out⟩

set_option maxRecDepth 100000 in
set_option maxHeartbeats 4000000 in
theorem implMostWords_any (v : Value) (t : Tg) (m : Int) (w : World) (h : Tng w v t) (hf : t.Fine) (hm : -9223372036854775808 ≤ m ∧ m ≤ 9223372036854775807) :
    Calls Try.prog 24 #[v, .int .i64 m] w fun e w' => e = .returned (.tuple #[.int .i64 (mostA t m), .int .i64 (mostAt t m), .bool (okM t m)]) ∧ Below w.heap.size w w' := by
  obtain ⟨A1, c1, A2, c2, A3, c3, rfl, -⟩ := h.ex
  have hB := (Below.refl w.heap.size w).alloc (Nat.le_refl _) (.cells #[.slice A1 t.us.length c1, .slice A2 t.bs.length c2, .slice A3 t.ns.length c3] 26)
  have HX := Blk.new w 26 #[.slice A1 t.us.length c1, .slice A2 t.bs.length c2, .slice A3 t.ns.length c3]
  have HT := h.below hB (Nat.le_refl _)
  have K1 := seen_any _ t m _ HT hf (by omega)
  have HE1 : okM t m = false → mostA t m = -1 ∧ mostAt t m = -1 := fun h => by unfold mostA mostAt; rw [h]; exact ⟨rfl, rfl⟩
  have HE2 : okM t m = true → mostA t m = twTo (lngF t) m.toNat ∧ mostAt t m = taTo (lngF t) m.toNat := fun h => by unfold mostA mostAt; rw [h]; exact ⟨rfl, rfl⟩
  have HT2 : okM t m = true → 1 ≤ m.toNat ∧ 1 ≤ lngF t 1 := fun h => by
    unfold okM at h
    rw [Bool.and_eq_true, decide_eq_true_eq] at h
    have := (long_one h.1).1
    exact ⟨by omega, by unfold lngF; rw [show ((1 : Nat) : Int) = 1 from rfl, this]; omega⟩
  generalize mostA t m = a1 at *
  generalize mostAt t m = a2 at *
  generalize hCC : tabC (lngF t) (if okM t m then (m : Int).toNat else 0) = CC at *
  generalize hLL : tabL (lngF t) (if okM t m then (m : Int).toNat else 0) = LL at *
  have hCl : CC.length = 32 := by rw [← hCC]; exact tabC_len
  have hLl : LL.length = 32 := by rw [← hLL]; exact tabL_len
  generalize hRB : okM t m = RB at *
  replace hB := Lib.hid hB
  replace HX := Lib.hid HX
  replace K1 := Lib.hid K1
  replace hCC := Lib.hid hCC
  replace hLL := Lib.hid hLL
  replace hRB := Lib.hid hRB
  replace hCl := Lib.hid hCl
  replace HE1 := Lib.hid HE1
  replace HE2 := Lib.hid HE2
  replace HT2 := Lib.hid HT2
  replace hLl := Lib.hid hLl
  clear h hf HT
  go_enter Try.func24, Try.ntmps24
  go_upto_region 1 with (fail)
  generalize w.alloc (.cells #[.slice A1 t.us.length c1, .slice A2 t.bs.length c2, .slice A3 t.ns.length c3] 26) = W at *
  obtain ⟨x0, x1, x2, -, -, -⟩ := blk3 HX.out
  go_wp2_with (fail)
  refine K1.out.mono ?_
  rintro e w1 ⟨rfl, b1⟩
  replace hB := hB.out.trans (b1.mono hB.out.size)
  clear b1 x0 x1 x2 K1 HX
  have B1 : Blk ((w1.alloc (.cells #[.int .i64 0, .int .i64 0, .int .i64 0, .int .i64 0, .int .i64 0, .int .i64 0, .int .i64 0, .int .i64 0, .int .i64 0, .int .i64 0, .int .i64 0, .int .i64 0, .int .i64 0, .int .i64 0, .int .i64 0, .int .i64 0, .int .i64 0, .int .i64 0, .int .i64 0, .int .i64 0, .int .i64 0, .int .i64 0, .int .i64 0, .int .i64 0, .int .i64 0, .int .i64 0, .int .i64 0, .int .i64 0, .int .i64 0, .int .i64 0, .int .i64 0, .int .i64 0] 55)).alloc (.cells #[.int .i64 0, .int .i64 0, .int .i64 0, .int .i64 0, .int .i64 0, .int .i64 0, .int .i64 0, .int .i64 0, .int .i64 0, .int .i64 0, .int .i64 0, .int .i64 0, .int .i64 0, .int .i64 0, .int .i64 0, .int .i64 0, .int .i64 0, .int .i64 0, .int .i64 0, .int .i64 0, .int .i64 0, .int .i64 0, .int .i64 0, .int .i64 0, .int .i64 0, .int .i64 0, .int .i64 0, .int .i64 0, .int .i64 0, .int .i64 0, .int .i64 0, .int .i64 0] 55)) w1.heap.size 55 (tabV (List.replicate 32 0)) := by rw [zero_tab]; exact (Blk.new _ _ _).alloc _
  have B2 : Blk (((w1.alloc (.cells #[.int .i64 0, .int .i64 0, .int .i64 0, .int .i64 0, .int .i64 0, .int .i64 0, .int .i64 0, .int .i64 0, .int .i64 0, .int .i64 0, .int .i64 0, .int .i64 0, .int .i64 0, .int .i64 0, .int .i64 0, .int .i64 0, .int .i64 0, .int .i64 0, .int .i64 0, .int .i64 0, .int .i64 0, .int .i64 0, .int .i64 0, .int .i64 0, .int .i64 0, .int .i64 0, .int .i64 0, .int .i64 0, .int .i64 0, .int .i64 0, .int .i64 0, .int .i64 0] 55)).alloc (.cells #[.int .i64 0, .int .i64 0, .int .i64 0, .int .i64 0, .int .i64 0, .int .i64 0, .int .i64 0, .int .i64 0, .int .i64 0, .int .i64 0, .int .i64 0, .int .i64 0, .int .i64 0, .int .i64 0, .int .i64 0, .int .i64 0, .int .i64 0, .int .i64 0, .int .i64 0, .int .i64 0, .int .i64 0, .int .i64 0, .int .i64 0, .int .i64 0, .int .i64 0, .int .i64 0, .int .i64 0, .int .i64 0, .int .i64 0, .int .i64 0, .int .i64 0, .int .i64 0] 55)).setRow w1.heap.size (tabV CC)) (w1.heap.size + 1) 55 (tabV (List.replicate 32 0)) := by
    refine Blk.rowFar ?_ (by omega) _
    rw [zero_tab]; exact blk_new_at _ (by simp)
  have B3 := (B1.row (tabV CC)).rowFar (b := w1.heap.size + 1) (by omega) (tabV LL)
  have B4 := B2.row (tabV LL)
  have hBf : Below w.heap.size w ((((w1.alloc (.cells #[.int .i64 0, .int .i64 0, .int .i64 0, .int .i64 0, .int .i64 0, .int .i64 0, .int .i64 0, .int .i64 0, .int .i64 0, .int .i64 0, .int .i64 0, .int .i64 0, .int .i64 0, .int .i64 0, .int .i64 0, .int .i64 0, .int .i64 0, .int .i64 0, .int .i64 0, .int .i64 0, .int .i64 0, .int .i64 0, .int .i64 0, .int .i64 0, .int .i64 0, .int .i64 0, .int .i64 0, .int .i64 0, .int .i64 0, .int .i64 0, .int .i64 0, .int .i64 0] 55)).alloc (.cells #[.int .i64 0, .int .i64 0, .int .i64 0, .int .i64 0, .int .i64 0, .int .i64 0, .int .i64 0, .int .i64 0, .int .i64 0, .int .i64 0, .int .i64 0, .int .i64 0, .int .i64 0, .int .i64 0, .int .i64 0, .int .i64 0, .int .i64 0, .int .i64 0, .int .i64 0, .int .i64 0, .int .i64 0, .int .i64 0, .int .i64 0, .int .i64 0, .int .i64 0, .int .i64 0, .int .i64 0, .int .i64 0, .int .i64 0, .int .i64 0, .int .i64 0, .int .i64 0] 55)).setRow w1.heap.size (tabV CC)).setRow (w1.heap.size + 1) (tabV LL)) :=
    below_setRow (below_setRow ((hB.alloc hB.size _).alloc (by have := hB.size; simp; omega) _) hB.size _) (by have := hB.size; omega) _
  replace B1 := Lib.hid B1
  replace B2 := Lib.hid B2
  replace B3 := Lib.hid B3
  replace B4 := Lib.hid B4
  replace hBf := Lib.hid hBf
  clear hB
  go_upto_region 2 with (first
    | (refine wpList_store_row rfl 55 (.tmp 7) (.tmp 15) rfl w1.heap.size (tabV CC) rfl rfl 55 _ B1.out (by rw [tabV_size, hCl.out]; exact info_tab) (by rw [tabV_size, tabV_size, hCl.out]; rfl) (tabV_one _) ?_)
    | (refine wpList_store_row rfl 55 (.tmp 8) (.tmp 16) rfl (w1.heap.size + 1) (tabV LL) rfl rfl 55 _ B2.out (by rw [tabV_size, hLl.out]; exact info_tab) (by rw [tabV_size, tabV_size, hLl.out]; rfl) (tabV_one _) ?_))
  generalize (((w1.alloc (.cells #[.int .i64 0, .int .i64 0, .int .i64 0, .int .i64 0, .int .i64 0, .int .i64 0, .int .i64 0, .int .i64 0, .int .i64 0, .int .i64 0, .int .i64 0, .int .i64 0, .int .i64 0, .int .i64 0, .int .i64 0, .int .i64 0, .int .i64 0, .int .i64 0, .int .i64 0, .int .i64 0, .int .i64 0, .int .i64 0, .int .i64 0, .int .i64 0, .int .i64 0, .int .i64 0, .int .i64 0, .int .i64 0, .int .i64 0, .int .i64 0, .int .i64 0, .int .i64 0] 55)).alloc (.cells #[.int .i64 0, .int .i64 0, .int .i64 0, .int .i64 0, .int .i64 0, .int .i64 0, .int .i64 0, .int .i64 0, .int .i64 0, .int .i64 0, .int .i64 0, .int .i64 0, .int .i64 0, .int .i64 0, .int .i64 0, .int .i64 0, .int .i64 0, .int .i64 0, .int .i64 0, .int .i64 0, .int .i64 0, .int .i64 0, .int .i64 0, .int .i64 0, .int .i64 0, .int .i64 0, .int .i64 0, .int .i64 0, .int .i64 0, .int .i64 0, .int .i64 0, .int .i64 0] 55)).setRow w1.heap.size (tabV CC)).setRow (w1.heap.size + 1) (tabV LL) = W2 at *
  generalize w1.heap.size = g at *
  cases RB
  · obtain ⟨rfl, rfl⟩ := HE1.out rfl
    clear HE2 HT2
    go_wp2
    go_ret3
    exact ⟨rfl, hBf.out⟩
  · obtain ⟨ha1, ha2⟩ := HE2.out rfl
    obtain ⟨hm1, hf1⟩ := HT2.out rfl
    obtain ⟨q1, q2, q3, q4⟩ := tw_low hm1 hf1
    have q5 := tw_le (f := lngF t) (M := 31) (by omega) (fun j => (lng_bd t j).2.1) m.toNat
    have hat := fun (i : Nat) (h1 : 1 ≤ i) (h2 : i < 32) => show LL.getD i 0 = (lwTo (lngF t) (i : Int) m.toNat : Int) by
      rw [← hLL.out]
      exact tabL_at (f := lngF t) (k := m.toNat) h1 h2
    have ht1 := hat _ q1 (by omega)
    rw [q2] at ht1
    have ht2 := fun (i : Nat) (h1 : twTo (lngF t) m.toNat < i) (h2 : i < 32) => show LL.getD i 0 = 0 by
      rw [hat i (by omega) h2, q4 (i : Int) (by omega)]
      rfl
    generalize twTo (lngF t) m.toNat = tw at *
    generalize taTo (lngF t) m.toNat = ta at *
    have CK := Lib.hid (fun (i : Nat) (h2 : i < 32) => (B4.out.cell i).trans (tabV_at (by rw [hLl.out]; omega)))
    replace ha1 := Lib.hid ha1
    replace ha2 := Lib.hid ha2
    replace ht1 := Lib.hid ht1
    replace ht2 := Lib.hid ht2
    clear HE1 hat q2 q4 hf1
    go_wp2
    go_loop [10] (fun s10 => ∃ k : Nat, tw ≤ k ∧ k < 32 ∧ s10 = .int .i64 (k : Int)) (fun s10 => (intOf s10).toNat)
    case atStart => exact ⟨31, by omega, by omega, rfl⟩
    case round =>
      obtain ⟨k, hk1, hk2, rfl⟩ := hrel
      have ck := CK.out k hk2
      have j0 : (0 : Int) ≤ (k : Int) := by omega
      have j1 : (k : Int) < 32 := by omega
      by_cases hk : k = tw
      · subst hk
        rw [ht1.out] at ck
        have g1 : ((ta : Int) == 0) = false := by rw [beq_eq_false_iff_ne]; omega
        have ck' := fun nq => show (W2.drewN nq).cell? ⟨g + 1, k, none⟩ = some (.int .i64 (ta : Int)) from ck
        go_upto_region 7 with (fail)
        go_quiet (fail)
        go_wp2
        go_ret3
        exact ⟨ret_iib ha1.out.symm ha2.out.symm rfl, below_drewN hBf.out _⟩
      · rw [ht2.out k (by omega) hk2] at ck
        have e1 : IntKind.i64.wrap ((k : Int) - 1) = ((k - 1 : Nat) : Int) := by rw [show (k : Int) - 1 = ((k - 1 : Nat) : Int) by omega]; exact IntWalk.i64_in _ (by omega)
        go_wp2
        go_round
        case rel => exact ⟨k - 1, by omega, by omega, rfl⟩
        case measure => simp [intOf]; omega

set_option maxRecDepth 100000 in
set_option maxHeartbeats 4000000 in
theorem implAllWords_any (v : Value) (t : Tg) (m : Int) (w : World) (h : Tng w v t) (hf : t.Fine) (hm : -9223372036854775808 ≤ m ∧ m ≤ 9223372036854775807) :
    Calls Try.prog 29 #[v, .int .i64 m] w fun e w' => e = .returned (.int .i64 (allA t m)) ∧ Below w.heap.size w w' := by
  obtain ⟨A1, c1, A2, c2, A3, c3, rfl, -⟩ := h.ex
  have hB := (Below.refl w.heap.size w).alloc (Nat.le_refl _) (.cells #[.slice A1 t.us.length c1, .slice A2 t.bs.length c2, .slice A3 t.ns.length c3] 26)
  have HX := Blk.new w 26 #[.slice A1 t.us.length c1, .slice A2 t.bs.length c2, .slice A3 t.ns.length c3]
  have HT := h.below hB (Nat.le_refl _)
  have K1 := seen_any _ t m _ HT hf (by omega)
  have HE1 : okM t m = false → allA t m = -1 := fun h => by unfold allA; rw [h]; rfl
  have HE2 : okM t m = true → allA t m = pwSum (lngF t) m.toNat 32 ∧ m.toNat ≤ 3000 := fun h => by
    unfold allA
    rw [h, pw_all (fun i => by have := (lng_bd t i).2.1; omega)]
    unfold okM at h
    rw [Bool.and_eq_true, decide_eq_true_eq] at h
    exact ⟨rfl, by omega⟩
  generalize allA t m = a1 at *
  generalize hCC : tabC (lngF t) (if okM t m then (m : Int).toNat else 0) = CC at *
  generalize hLL : tabL (lngF t) (if okM t m then (m : Int).toNat else 0) = LL at *
  have hCl : CC.length = 32 := by rw [← hCC]; exact tabC_len
  have hLl : LL.length = 32 := by rw [← hLL]; exact tabL_len
  generalize hRB : okM t m = RB at *
  replace hB := Lib.hid hB
  replace HX := Lib.hid HX
  replace K1 := Lib.hid K1
  replace hCC := Lib.hid hCC
  replace hLL := Lib.hid hLL
  replace hRB := Lib.hid hRB
  replace hCl := Lib.hid hCl
  replace HE1 := Lib.hid HE1
  replace HE2 := Lib.hid HE2
  replace hLl := Lib.hid hLl
  clear h hf HT
  go_enter Try.func29, Try.ntmps29
  go_upto_region 1 with (fail)
  generalize w.alloc (.cells #[.slice A1 t.us.length c1, .slice A2 t.bs.length c2, .slice A3 t.ns.length c3] 26) = W at *
  obtain ⟨x0, x1, x2, -, -, -⟩ := blk3 HX.out
  go_wp2_with (fail)
  refine K1.out.mono ?_
  rintro e w1 ⟨rfl, b1⟩
  replace hB := hB.out.trans (b1.mono hB.out.size)
  clear b1 x0 x1 x2 K1 HX
  have B1 : Blk ((w1.alloc (.cells #[.int .i64 0, .int .i64 0, .int .i64 0, .int .i64 0, .int .i64 0, .int .i64 0, .int .i64 0, .int .i64 0, .int .i64 0, .int .i64 0, .int .i64 0, .int .i64 0, .int .i64 0, .int .i64 0, .int .i64 0, .int .i64 0, .int .i64 0, .int .i64 0, .int .i64 0, .int .i64 0, .int .i64 0, .int .i64 0, .int .i64 0, .int .i64 0, .int .i64 0, .int .i64 0, .int .i64 0, .int .i64 0, .int .i64 0, .int .i64 0, .int .i64 0, .int .i64 0] 55)).alloc (.cells #[.int .i64 0, .int .i64 0, .int .i64 0, .int .i64 0, .int .i64 0, .int .i64 0, .int .i64 0, .int .i64 0, .int .i64 0, .int .i64 0, .int .i64 0, .int .i64 0, .int .i64 0, .int .i64 0, .int .i64 0, .int .i64 0, .int .i64 0, .int .i64 0, .int .i64 0, .int .i64 0, .int .i64 0, .int .i64 0, .int .i64 0, .int .i64 0, .int .i64 0, .int .i64 0, .int .i64 0, .int .i64 0, .int .i64 0, .int .i64 0, .int .i64 0, .int .i64 0] 55)) w1.heap.size 55 (tabV (List.replicate 32 0)) := by rw [zero_tab]; exact (Blk.new _ _ _).alloc _
  have B2 : Blk (((w1.alloc (.cells #[.int .i64 0, .int .i64 0, .int .i64 0, .int .i64 0, .int .i64 0, .int .i64 0, .int .i64 0, .int .i64 0, .int .i64 0, .int .i64 0, .int .i64 0, .int .i64 0, .int .i64 0, .int .i64 0, .int .i64 0, .int .i64 0, .int .i64 0, .int .i64 0, .int .i64 0, .int .i64 0, .int .i64 0, .int .i64 0, .int .i64 0, .int .i64 0, .int .i64 0, .int .i64 0, .int .i64 0, .int .i64 0, .int .i64 0, .int .i64 0, .int .i64 0, .int .i64 0] 55)).alloc (.cells #[.int .i64 0, .int .i64 0, .int .i64 0, .int .i64 0, .int .i64 0, .int .i64 0, .int .i64 0, .int .i64 0, .int .i64 0, .int .i64 0, .int .i64 0, .int .i64 0, .int .i64 0, .int .i64 0, .int .i64 0, .int .i64 0, .int .i64 0, .int .i64 0, .int .i64 0, .int .i64 0, .int .i64 0, .int .i64 0, .int .i64 0, .int .i64 0, .int .i64 0, .int .i64 0, .int .i64 0, .int .i64 0, .int .i64 0, .int .i64 0, .int .i64 0, .int .i64 0] 55)).setRow w1.heap.size (tabV CC)) (w1.heap.size + 1) 55 (tabV (List.replicate 32 0)) := by
    refine Blk.rowFar ?_ (by omega) _
    rw [zero_tab]; exact blk_new_at _ (by simp)
  have B3 := (B1.row (tabV CC)).rowFar (b := w1.heap.size + 1) (by omega) (tabV LL)
  have B4 := B2.row (tabV LL)
  have hBf : Below w.heap.size w ((((w1.alloc (.cells #[.int .i64 0, .int .i64 0, .int .i64 0, .int .i64 0, .int .i64 0, .int .i64 0, .int .i64 0, .int .i64 0, .int .i64 0, .int .i64 0, .int .i64 0, .int .i64 0, .int .i64 0, .int .i64 0, .int .i64 0, .int .i64 0, .int .i64 0, .int .i64 0, .int .i64 0, .int .i64 0, .int .i64 0, .int .i64 0, .int .i64 0, .int .i64 0, .int .i64 0, .int .i64 0, .int .i64 0, .int .i64 0, .int .i64 0, .int .i64 0, .int .i64 0, .int .i64 0] 55)).alloc (.cells #[.int .i64 0, .int .i64 0, .int .i64 0, .int .i64 0, .int .i64 0, .int .i64 0, .int .i64 0, .int .i64 0, .int .i64 0, .int .i64 0, .int .i64 0, .int .i64 0, .int .i64 0, .int .i64 0, .int .i64 0, .int .i64 0, .int .i64 0, .int .i64 0, .int .i64 0, .int .i64 0, .int .i64 0, .int .i64 0, .int .i64 0, .int .i64 0, .int .i64 0, .int .i64 0, .int .i64 0, .int .i64 0, .int .i64 0, .int .i64 0, .int .i64 0, .int .i64 0] 55)).setRow w1.heap.size (tabV CC)).setRow (w1.heap.size + 1) (tabV LL)) :=
    below_setRow (below_setRow ((hB.alloc hB.size _).alloc (by have := hB.size; simp; omega) _) hB.size _) (by have := hB.size; omega) _
  replace B1 := Lib.hid B1
  replace B2 := Lib.hid B2
  replace B3 := Lib.hid B3
  replace B4 := Lib.hid B4
  replace hBf := Lib.hid hBf
  clear hB
  go_upto_region 2 with (first
    | (refine wpList_store_row rfl 55 (.tmp 5) (.tmp 15) rfl w1.heap.size (tabV CC) rfl rfl 55 _ B1.out (by rw [tabV_size, hCl.out]; exact info_tab) (by rw [tabV_size, tabV_size, hCl.out]; rfl) (tabV_one _) ?_)
    | (refine wpList_store_row rfl 55 (.tmp 6) (.tmp 16) rfl (w1.heap.size + 1) (tabV LL) rfl rfl 55 _ B2.out (by rw [tabV_size, hLl.out]; exact info_tab) (by rw [tabV_size, tabV_size, hLl.out]; rfl) (tabV_one _) ?_))
  generalize (((w1.alloc (.cells #[.int .i64 0, .int .i64 0, .int .i64 0, .int .i64 0, .int .i64 0, .int .i64 0, .int .i64 0, .int .i64 0, .int .i64 0, .int .i64 0, .int .i64 0, .int .i64 0, .int .i64 0, .int .i64 0, .int .i64 0, .int .i64 0, .int .i64 0, .int .i64 0, .int .i64 0, .int .i64 0, .int .i64 0, .int .i64 0, .int .i64 0, .int .i64 0, .int .i64 0, .int .i64 0, .int .i64 0, .int .i64 0, .int .i64 0, .int .i64 0, .int .i64 0, .int .i64 0] 55)).alloc (.cells #[.int .i64 0, .int .i64 0, .int .i64 0, .int .i64 0, .int .i64 0, .int .i64 0, .int .i64 0, .int .i64 0, .int .i64 0, .int .i64 0, .int .i64 0, .int .i64 0, .int .i64 0, .int .i64 0, .int .i64 0, .int .i64 0, .int .i64 0, .int .i64 0, .int .i64 0, .int .i64 0, .int .i64 0, .int .i64 0, .int .i64 0, .int .i64 0, .int .i64 0, .int .i64 0, .int .i64 0, .int .i64 0, .int .i64 0, .int .i64 0, .int .i64 0, .int .i64 0] 55)).setRow w1.heap.size (tabV CC)).setRow (w1.heap.size + 1) (tabV LL) = W2 at *
  generalize w1.heap.size = g at *
  cases RB
  · obtain rfl := HE1.out rfl
    clear HE2
    go_wp2
    go_ret
    exact ⟨rfl, hBf.out⟩
  · obtain ⟨ha1, hm⟩ := HE2.out rfl
    have hat := fun (i : Nat) (h2 : i < 32) => show pwSum (lngF t) m.toNat (i + 1) = pwSum (lngF t) m.toNat i + i * (CC.getD i 0).toNat by
      rw [← hCC.out, pwSum]
      by_cases h0 : i = 0
      · subst h0; rfl
      · rw [if_neg h0]
        have := tabC_at (f := lngF t) (k := m.toNat) (i := i) (by omega) h2
        rw [show (if true = true then m.toNat else 0) = m.toNat from rfl, this]
        rfl
    have hbd := fun i => tabC_bd (lngF t) m.toNat i
    rw [show tabC (lngF t) m.toNat = CC from hCC.out] at hbd
    have hpl := fun i => pw_le (lngF t) m.toNat i
    generalize hpw : pwSum (lngF t) m.toNat = pw at *
    replace hpw := Lib.hid hpw
    replace ha1 := Lib.hid ha1
    have IX := Lib.hid (fun i h w => run_index_tab CC hCl.out i h w)
    replace hat := Lib.hid hat
    replace hbd := Lib.hid hbd
    have hp0 : pw 0 = 0 := by rw [← hpw.out]; rfl
    replace hp0 := Lib.hid hp0
    replace hpl := Lib.hid hpl
    clear HE1
    go_upto_region 5 with (fail)
    go_upto_region 6 with (refine wpList_load_row rfl 55 (.tmp 5) rfl g rfl 55 (tabV CC) (0, 0) _ B3.out under_tab rfl (by rw [tabV_size, hCl.out]; exact info_tab) ?_)
    go_loop [8, 9, 10, 21] (fun s8 s9 s10 s21 => ∃ k : Nat, k ≤ 32 ∧ s21 = .int .i64 (k : Int) ∧ s8 = .int .i64 (pw k : Int)) (fun _ _ _ s21 => 32 - (intOf s21).toNat)
    case atStart => exact ⟨0, by omega, rfl, by rw [hp0.out]; rfl⟩
    case round =>
      obtain ⟨k, hk, rfl, rfl⟩ := hrel
      by_cases hlt : k < 32
      · have hlt' : (k : Int) < 32 := by omega
        have hix := IX.out k hlt
        have hst := hat.out k hlt
        obtain ⟨b1, b2⟩ := hbd.out k
        have hp1 := hpl.out k
        have hkk : m.toNat * (k * k) ≤ 3000 * (32 * 32) := Nat.mul_le_mul hm (Nat.mul_le_mul (by omega) (by omega))
        obtain ⟨y, hy⟩ : ∃ y : Nat, CC.getD k 0 = y := ⟨(CC.getD k 0).toNat, by omega⟩
        rw [hy] at hix hst b2
        rw [Int.toNat_natCast] at hst
        have hky : k * y ≤ 32 * 3000 := Nat.mul_le_mul (by omega) (by omega)
        have hq : (k : Int) * (y : Int) = ((k * y : Nat) : Int) := by push_cast; rfl
        have e1 : IntKind.i64.wrap ((k : Int) * (y : Int)) = (k : Int) * (y : Int) := IntWalk.i64_in _ (by omega)
        have e2 : IntKind.i64.wrap ((pw k : Int) + (k : Int) * (y : Int)) = (pw k : Int) + (k : Int) * (y : Int) := IntWalk.i64_in _ (by omega)
        have e3 : IntKind.i64.wrap ((k : Int) + 1) = (k : Int) + 1 := IntWalk.i64_in _ (by omega)
        have hfin : (pw (k + 1) : Int) = (pw k : Int) + (k : Int) * (y : Int) := by rw [hst, hq]; push_cast; rfl
        replace hfin := Lib.hid hfin
        replace hy := Lib.hid hy
        replace hq := Lib.hid hq
        replace hst := Lib.hid hst
        clear hp1 hkk hky b1 b2
        go_wp2
        go_round
        case rel => exact ⟨k + 1, by omega, by go_num, by rw [hfin.out]⟩
        case measure => simp [intOf]; omega
      · obtain rfl : k = 32 := by omega
        go_wp2
        go_ret
        exact ⟨ret_int ha1.out.symm, hBf.out⟩
end Go.Proofs.Ytebfoofiaokhdaa
