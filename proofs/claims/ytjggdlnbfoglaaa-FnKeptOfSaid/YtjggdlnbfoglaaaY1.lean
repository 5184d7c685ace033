/-
  BeforeOk of the program; its texts to be put in order.
-/
import Derived.Test.YtjggdlnbfoglaaaGP
import Derived.Test.YtjggdlnbfoglaaaO1
import Derived.Lib.QuietBelow
namespace Go.Proofs.Ytjggdlnbfoglaaa
open Go.RowKit Go.Sort

set_option maxRecDepth 100000 in
set_option maxHeartbeats 2000000 in
theorem implBeforeOk_any (v : Value) (t : Tg) (a b : Int) (w : World) (h : Tng w v t) (hf : t.Fine) (ha : -9223372036854775808 ≤ a ∧ a ≤ 9223372036854775807) (hb : -9223372036854775808 ≤ b ∧ b ≤ 9223372036854775807) :
    Calls Try.prog 16 #[v, .int .i64 a, .int .i64 b] w fun e w' => e = .returned (.bool (beforeB t a b)) ∧ Below w.heap.size w w' := by
  obtain ⟨A1, c1, A2, c2, A3, c3, rfl, -⟩ := h.ex
  have hB := (Below.refl w.heap.size w).alloc (Nat.le_refl _) (.cells #[.slice A1 t.us.length c1, .slice A2 t.bs.length c2, .slice A3 t.ns.length c3] 26)
  have HX := Blk.new w 26 #[.slice A1 t.us.length c1, .slice A2 t.bs.length c2, .slice A3 t.ns.length c3]
  have HT := h.below hB (Nat.le_refl _)
  have KT := fun n (hn : -9223372036854775808 ≤ n ∧ n ≤ 9223372036854775807) d os => implTextOf_any (.agg #[.slice A1 t.us.length c1, .slice A2 t.bs.length c2, .slice A3 t.ns.length c3]) t n (grow (redrawn (w.alloc (.cells #[.slice A1 t.us.length c1, .slice A2 t.bs.length c2, .slice A3 t.ns.length c3] 26)) d) os) (HT.below (below_regrown _ d os) (Nat.le_refl _)) hf hn
  have s1 := txt_seen t a
  have s2 := txt_seen t b
  have s3 := txt_lt (textOf t a) (textOf t b)
  have e1 : (textOf t a).data.toList = tx t a := rfl
  have e2 : (textOf t b).data.toList = tx t b := rfl
  rw [e1, e2] at s3
  have hno := before_no (t := t) (a := a) (b := b)
  have hyes := before_of (t := t) (a := a) (b := b)
  clear e1 e2
  replace s1 := Lib.hid s1
  replace s2 := Lib.hid s2
  replace s3 := Lib.hid s3
  replace hno := Lib.hid hno
  replace hyes := Lib.hid hyes
  replace KT := Lib.hid KT
  replace hB := Lib.hid hB
  replace HX := Lib.hid HX
  clear h hf HT
  go_enter Try.func16, Try.ntmps16
  go_upto_region 1 with (fail)
  generalize w.alloc (.cells #[.slice A1 t.us.length c1, .slice A2 t.bs.length c2, .slice A3 t.ns.length c3] 26) = W at *
  obtain ⟨x0, x1, x2, -, -, -⟩ := blk3 HX.out
  have y0' := fun d os => cell_regrown x0 d os
  have y1' := fun d os => cell_regrown x1 d os
  have y2' := fun d os => cell_regrown x2 d os
  refine wp_region_quiet_below (by kernel_rfl) (by kernel_rfl) ?_
  repeat (go_big_quiet_step (first | (go_at_call 47; exact Calls.regrown_of (KT.out _ (by first | exact ha | exact hb) _ _))))
  refine wpQuiet_nil ?_
  intro _ hw'
  obtain ⟨pq, hw''⟩ := hw'
  have bq := Lib.hid (below_regrown W pq.d pq.os)
  subst hw''
  replace hB := Lib.hid (hB.out.trans (bq.out.mono hB.out.size))
  clear y0' y1' y2' x0 x1 x2 KT HX bq
  have s1 := s1.out
  have s2 := s2.out
  have s3 := s3.out
  generalize textOf t a = x at *
  generalize textOf t b = y at *
  generalize decide (tx t a < tx t b) = q at *
  generalize namedB t a = na at *
  generalize namedB t b = nb at *
  cases na
  · have hr := Lib.hid (hno.out (.inl rfl))
    simp only [Bool.not_false] at s1
    clear hno hyes
    go_wp2
    go_ret
    exact ⟨ret_bool hr.out.symm, hB.out⟩
  · have hr := Lib.hid (hyes.out rfl)
    simp only [Bool.not_true] at s1
    clear hno hyes
    cases q
    all_goals
      go_wp2
      go_ret
      exact ⟨ret_bool hr.out.symm, hB.out⟩
set_option maxRecDepth 100000 in
set_option maxHeartbeats 2000000 in
theorem implTexts_any (v : Value) (t : Tg) (m : Int) (w : World) (h : Tng w v t) (hf : t.Fine) (hm : -9223372036854775808 ≤ m ∧ m ≤ 9223372036854775807) :
    Calls Try.prog 53 #[v, .int .i64 m] w (RetStrs w (textsF t m)) := by
  obtain ⟨A1, c1, A2, c2, A3, c3, rfl, -⟩ := h.ex
  have hB := (Below.refl w.heap.size w).alloc (Nat.le_refl _) (.cells #[.slice A1 t.us.length c1, .slice A2 t.bs.length c2, .slice A3 t.ns.length c3] 26)
  have HX := Blk.new w 26 #[.slice A1 t.us.length c1, .slice A2 t.bs.length c2, .slice A3 t.ns.length c3]
  have HT := h.below hB (Nat.le_refl _)
  have K1 := implNamesOf_any _ t 1 m _ HT hf (by omega) hm
  have hyes : 150 < m → textsF t m = [] := fun hh => by unfold textsF; rw [if_pos hh]
  have hno : ¬ 150 < m → textsF t m = namesOf t 1 m := fun hh => by unfold textsF; rw [if_neg hh]
  generalize namesOf t 1 m = xs at *
  replace hyes := Lib.hid hyes
  replace hno := Lib.hid hno
  replace K1 := Lib.hid K1
  replace hB := Lib.hid hB
  replace HX := Lib.hid HX
  clear h hf HT
  go_enter Try.func53, Try.ntmps53
  go_upto_region 1 with (fail)
  generalize w.alloc (.cells #[.slice A1 t.us.length c1, .slice A2 t.bs.length c2, .slice A3 t.ns.length c3] 26) = W at *
  obtain ⟨x0, x1, x2, -, -, -⟩ := blk3 HX.out
  by_cases h1 : 150 < m
  · have hr := Lib.hid (hyes.out h1)
    clear x0 x1 x2 K1 HX
    go_wp2
    go_ret
    exact ⟨_, rfl, by rw [hr.out]; exact owns_none _ _ _, hB.out⟩
  · have hr := Lib.hid (hno.out h1)
    go_wp2_with (fail)
    refine K1.out.mono ?_
    rintro e w1 ⟨v1, rfl, o1, b1⟩
    obtain ⟨A, c, rfl, -⟩ := o1.strs
    have hBf := Lib.hid (hB.out.trans (b1.mono hB.out.size))
    have ho := Lib.hid (o1.mono hB.out.size)
    clear x0 x1 x2 K1 HX b1 o1
    go_wp2
    go_ret
    exact ⟨_, rfl, by rw [hr.out]; exact ho.out, hBf.out⟩
end Go.Proofs.Ytjggdlnbfoglaaa
