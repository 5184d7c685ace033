/-
  The contract of BeforeOk of the model.
-/
import Derived.Test.YtjggdlnbfoglaaaMathO
import Derived.Sort.Walk0
namespace Go.Proofs.Ytjggdlnbfoglaaa
open Go.RowKit

theorem txt_lt (x y : ByteArray) : Op.bytesLess x.toList y.toList = decide (x.data.toList < y.data.toList) := by
  rw [bytesLess_eq, ByteArray.toList_eq, ByteArray.toList_eq]
theorem txt_gt (x y : ByteArray) : (!Op.bytesLess y.toList x.toList && !(y.toList == x.toList)) = Op.bytesLess x.toList y.toList := by
  rw [txt_lt, txt_lt, ByteArray.toList_eq, ByteArray.toList_eq]
  by_cases h1 : x.data.toList < y.data.toList
  · have h2 : ¬ y.data.toList < x.data.toList := ltl_asym h1
    have h3 : ¬ y.data.toList = x.data.toList := fun e => by rw [e] at h1; exact ltl_no h1
    rw [decide_eq_true h1, decide_eq_false h2, beq_eq_false_iff_ne.2 h3]; rfl
  · by_cases h2 : y.data.toList < x.data.toList
    · rw [decide_eq_true h2, decide_eq_false h1]; rfl
    · have h3 : y.data.toList = x.data.toList := ltl_tri h2 h1
      rw [decide_eq_false h1, decide_eq_false h2, beq_iff_eq.2 h3]; rfl
/-- What is seen of a text. -/
theorem txt_seen (t : Tg) (n : Int) : (textOf t n).toList.isEmpty = !namedB t n := by
  rw [empty_list]
  cases hb : namedB t n
  · exact decide_eq_true (text_empty.2 hb)
  · exact decide_eq_false (text_named hb)

set_option maxRecDepth 100000 in
set_option maxHeartbeats 2000000 in
theorem specBeforeOk_any (v : Value) (t : Tg) (a b : Int) (w : World) (h : Tng w v t) (hf : t.Fine) (ha : -9223372036854775808 ≤ a ∧ a ≤ 9223372036854775807) (hb : -9223372036854775808 ≤ b ∧ b ≤ 9223372036854775807) :
    Calls Try.prog 17 #[v, .int .i64 a, .int .i64 b] w fun e w' => e = .returned (.bool (beforeB t a b)) ∧ Below w.heap.size w w' := by
  obtain ⟨A1, c1, A2, c2, A3, c3, rfl, -⟩ := h.ex
  have hB := (Below.refl w.heap.size w).alloc (Nat.le_refl _) (.cells #[.slice A1 t.us.length c1, .slice A2 t.bs.length c2, .slice A3 t.ns.length c3] 26)
  have HX := Blk.new w 26 #[.slice A1 t.us.length c1, .slice A2 t.bs.length c2, .slice A3 t.ns.length c3]
  have HT := h.below hB (Nat.le_refl _)
  have K1 := specTextOf_any _ t a _ HT hf ha
  have K2 := fun W hT => specTextOf_any (.agg #[.slice A1 t.us.length c1, .slice A2 t.bs.length c2, .slice A3 t.ns.length c3]) t b W hT hf hb
  have s1 := txt_seen t a
  have s2 := txt_seen t b
  have s3 := txt_lt (textOf t a) (textOf t b)
  have e1 : (textOf t a).data.toList = tx t a := rfl
  have e2 : (textOf t b).data.toList = tx t b := rfl
  rw [e1, e2] at s3
  have hno := before_no (t := t) (a := a) (b := b)
  have hyes := before_of (t := t) (a := a) (b := b)
  clear e1 e2
  generalize textOf t a = x at *
  generalize textOf t b = y at *
  generalize decide (tx t a < tx t b) = q at *
  generalize beforeB t a b = r at *
  generalize namedB t a = na at *
  generalize namedB t b = nb at *
  replace K1 := Lib.hid K1
  replace K2 := Lib.hid K2
  replace hB := Lib.hid hB
  replace HX := Lib.hid HX
  replace HT := Lib.hid HT
  clear h hf
  go_enter Try.func17, Try.ntmps17
  go_upto_region 1 with (fail)
  generalize w.alloc (.cells #[.slice A1 t.us.length c1, .slice A2 t.bs.length c2, .slice A3 t.ns.length c3] 26) = W at *
  obtain ⟨x0, x1, x2, -, -, -⟩ := blk3 HX.out
  go_wp2_with (fail)
  refine K1.out.mono ?_
  rintro e w1 ⟨rfl, b1⟩
  have K3 := Lib.hid (K2.out w1 (HT.out.below b1 (Nat.le_refl _)))
  replace HX := Lib.hid (HX.out.below b1 HX.out.lt)
  replace hB := Lib.hid (hB.out.trans (b1.mono hB.out.size))
  clear b1 x0 x1 x2 K1 K2 HT
  obtain ⟨x0, x1, x2, -, -, -⟩ := blk3 HX.out
  go_wp2_with (fail)
  refine K3.out.mono ?_
  rintro e w2 ⟨rfl, b2⟩
  replace hB := Lib.hid (hB.out.trans (b2.mono hB.out.size))
  clear b2 x0 x1 x2 K3 HX
  cases na
  · have hr := Lib.hid (hno (.inl rfl))
    simp only [Bool.not_false] at s1
    clear hno hyes
    go_wp2
    go_ret
    exact ⟨ret_bool hr.out.symm, hB.out⟩
  · cases nb
    · have hr := Lib.hid (hno (.inr rfl))
      simp only [Bool.not_false, Bool.not_true] at s1 s2
      clear hno hyes
      go_wp2
      go_ret
      exact ⟨ret_bool hr.out.symm, hB.out⟩
    · have hr := Lib.hid (hyes rfl)
      simp only [Bool.not_true] at s1 s2
      clear hno hyes
      cases q
      all_goals
        go_wp2
        go_ret
        exact ⟨ret_bool hr.out.symm, hB.out⟩
end Go.Proofs.Ytjggdlnbfoglaaa
