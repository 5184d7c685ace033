/-
  FirstOf, LastOf and KeptOf of the program.
-/
import Derived.Test.YtjggdlnbfoglaaaY3
namespace Go.Proofs.Ytjggdlnbfoglaaa
open Go.RowKit

set_option maxRecDepth 100000 in
set_option maxHeartbeats 4000000 in
theorem implFirstOf_any (v : Value) (t : Tg) (m : Int) (w : World) (h : Tng w v t) (hf : t.Fine) (hm : -9223372036854775808 ≤ m ∧ m ≤ 9223372036854775807) :
    Calls Try.prog 26 #[v, .int .i64 m] w fun e w' => e = .returned (.int .i64 (firstF t m)) ∧ Below w.heap.size w w' := by
  obtain ⟨A1, c1, A2, c2, A3, c3, rfl, -⟩ := h.ex
  have hB := (Below.refl w.heap.size w).alloc (Nat.le_refl _) (.cells #[.slice A1 t.us.length c1, .slice A2 t.bs.length c2, .slice A3 t.ns.length c3] 26)
  have HX := Blk.new w 26 #[.slice A1 t.us.length c1, .slice A2 t.bs.length c2, .slice A3 t.ns.length c3]
  have HT := h.below hB (Nat.le_refl _)
  have K1 := implSortedOf_any _ t m _ HT hf hm
  have hln := sorted_len t m
  have hno := Lib.hid (fun h => (first_no (t := t) (m := m) h))
  have hyes := Lib.hid (fun h => (first_yes (t := t) (m := m) h))
  generalize firstF t m = r at *
  generalize sortedF t m = xs at *
  replace K1 := Lib.hid K1
  replace hB := Lib.hid hB
  replace HX := Lib.hid HX
  clear h hf HT
  go_enter Try.func26, Try.ntmps26
  go_upto_region 1 with (fail)
  generalize w.alloc (.cells #[.slice A1 t.us.length c1, .slice A2 t.bs.length c2, .slice A3 t.ns.length c3] 26) = W at *
  obtain ⟨x0, x1, x2, -, -, -⟩ := blk3 HX.out
  go_wp2_with (fail)
  refine K1.out.mono ?_
  rintro e w1 ⟨v1, rfl, ho, b1⟩
  replace hB := Lib.hid (hB.out.trans (b1.mono hB.out.size))
  obtain ⟨A, c, rfl, hI⟩ := ho.ints
  clear b1 x0 x1 x2 K1 ho HX
  by_cases h0 : xs.length = 0
  · have hr := Lib.hid (hno.out h0)
    have h0' : ((xs.length : Int) == 0) = true := by rw [beq_iff_eq]; omega
    clear hI hyes hno
    generalize xs.length = L at *
    subst h0
    go_wp2
    go_ret
    exact ⟨ret_int hr.out.1.symm, hB.out⟩
  · have hr := Lib.hid (hyes.out h0)
    have h0' : ((xs.length : Int) == 0) = false := by rw [beq_eq_false_iff_ne]; omega
    obtain ⟨b, o, rfl, -, hc⟩ := hI.at_ (by omega)
    clear hI hyes hno
    have ck := hc 0 (by omega)
    rw [Nat.add_zero] at ck
    have hp : (0 : Int) < (xs.length : Int) := by omega
    have hp' : 0 < xs.length := by omega
    generalize xs.getD 0 0 = y at *
    clear hc
    go_wp2
    go_ret
    exact ⟨ret_int hr.out.1.symm, hB.out⟩
set_option maxRecDepth 100000 in
set_option maxHeartbeats 4000000 in
theorem implLastOf_any (v : Value) (t : Tg) (m : Int) (w : World) (h : Tng w v t) (hf : t.Fine) (hm : -9223372036854775808 ≤ m ∧ m ≤ 9223372036854775807) :
    Calls Try.prog 29 #[v, .int .i64 m] w fun e w' => e = .returned (.int .i64 (lastF t m)) ∧ Below w.heap.size w w' := by
  obtain ⟨A1, c1, A2, c2, A3, c3, rfl, -⟩ := h.ex
  have hB := (Below.refl w.heap.size w).alloc (Nat.le_refl _) (.cells #[.slice A1 t.us.length c1, .slice A2 t.bs.length c2, .slice A3 t.ns.length c3] 26)
  have HX := Blk.new w 26 #[.slice A1 t.us.length c1, .slice A2 t.bs.length c2, .slice A3 t.ns.length c3]
  have HT := h.below hB (Nat.le_refl _)
  have K1 := implSortedOf_any _ t m _ HT hf hm
  have hln := sorted_len t m
  have hno := Lib.hid (fun h => (first_no (t := t) (m := m) h))
  have hyes := Lib.hid (fun h => (first_yes (t := t) (m := m) h))
  generalize lastF t m = r at *
  generalize sortedF t m = xs at *
  replace K1 := Lib.hid K1
  replace hB := Lib.hid hB
  replace HX := Lib.hid HX
  clear h hf HT
  go_enter Try.func29, Try.ntmps29
  go_upto_region 1 with (fail)
  generalize w.alloc (.cells #[.slice A1 t.us.length c1, .slice A2 t.bs.length c2, .slice A3 t.ns.length c3] 26) = W at *
  obtain ⟨x0, x1, x2, -, -, -⟩ := blk3 HX.out
  go_wp2_with (fail)
  refine K1.out.mono ?_
  rintro e w1 ⟨v1, rfl, ho, b1⟩
  replace hB := Lib.hid (hB.out.trans (b1.mono hB.out.size))
  obtain ⟨A, c, rfl, hI⟩ := ho.ints
  clear b1 x0 x1 x2 K1 ho HX
  by_cases h0 : xs.length = 0
  · have hr := Lib.hid (hno.out h0)
    have h0' : ((xs.length : Int) == 0) = true := by rw [beq_iff_eq]; omega
    clear hI hyes hno
    generalize xs.length = L at *
    subst h0
    go_wp2
    go_ret
    exact ⟨ret_int hr.out.2.1.symm, hB.out⟩
  · have hr := Lib.hid (hyes.out h0)
    have h0' : ((xs.length : Int) == 0) = false := by rw [beq_eq_false_iff_ne]; omega
    obtain ⟨b, o, rfl, -, hc⟩ := hI.at_ (by omega)
    clear hI hyes hno
    have ck := hc (xs.length - 1) (by omega)
    have q1 : IntKind.i64.wrap ((xs.length : Int) - 1) = (xs.length : Int) - 1 := IntWalk.i64_in _ (by omega)
    have q2 : (0 : Int) ≤ (xs.length : Int) - 1 := by omega
    have q3 : (xs.length : Int) - 1 < (xs.length : Int) := by omega
    have q4 : ((xs.length : Int) - 1).toNat = xs.length - 1 := by omega
    have q5 : xs.length - 1 < xs.length := by omega
    generalize xs.getD (xs.length - 1) 0 = y at *
    clear hc
    go_wp2
    go_ret
    exact ⟨ret_int hr.out.2.1.symm, hB.out⟩
set_option maxRecDepth 100000 in
set_option maxHeartbeats 4000000 in
theorem implKeptOf_any (v : Value) (t : Tg) (m : Int) (w : World) (h : Tng w v t) (hf : t.Fine) (hm : -9223372036854775808 ≤ m ∧ m ≤ 9223372036854775807) :
    Calls Try.prog 35 #[v, .int .i64 m] w fun e w' => e = .returned (.int .i64 (keptF t m)) ∧ Below w.heap.size w w' := by
  obtain ⟨A1, c1, A2, c2, A3, c3, rfl, -⟩ := h.ex
  have hB := (Below.refl w.heap.size w).alloc (Nat.le_refl _) (.cells #[.slice A1 t.us.length c1, .slice A2 t.bs.length c2, .slice A3 t.ns.length c3] 26)
  have HX := Blk.new w 26 #[.slice A1 t.us.length c1, .slice A2 t.bs.length c2, .slice A3 t.ns.length c3]
  have HT := h.below hB (Nat.le_refl _)
  have K1 := implSortedOf_any _ t m _ HT hf hm
  have hln := sorted_len t m
  have hno := Lib.hid (fun h => (first_no (t := t) (m := m) h))
  have hyes := Lib.hid (fun h => (first_yes (t := t) (m := m) h))
  have hbd := Lib.hid (sorted_bd t m)
  generalize keptF t m = r at *
  generalize sortedF t m = xs at *
  replace K1 := Lib.hid K1
  replace hB := Lib.hid hB
  replace HX := Lib.hid HX
  clear h hf HT
  go_enter Try.func35, Try.ntmps35
  go_upto_region 1 with (fail)
  generalize w.alloc (.cells #[.slice A1 t.us.length c1, .slice A2 t.bs.length c2, .slice A3 t.ns.length c3] 26) = W at *
  obtain ⟨x0, x1, x2, -, -, -⟩ := blk3 HX.out
  go_wp2_with (fail)
  refine K1.out.mono ?_
  rintro e w1 ⟨v1, rfl, ho, b1⟩
  replace hB := Lib.hid (hB.out.trans (b1.mono hB.out.size))
  obtain ⟨A, c, rfl, hI⟩ := ho.ints
  clear b1 x0 x1 x2 K1 ho HX
  by_cases h0 : xs.length = 0
  · have hr := Lib.hid (hno.out h0)
    have h0' : ((xs.length : Int) == 0) = true := by rw [beq_iff_eq]; omega
    clear hI hyes hno
    generalize xs.length = L at *
    subst h0
    go_wp2
    go_ret
    exact ⟨ret_int hr.out.2.2.symm, hB.out⟩
  · have hr := Lib.hid (hyes.out h0)
    have h0' : ((xs.length : Int) == 0) = false := by rw [beq_eq_false_iff_ne]; omega
    obtain ⟨b, o, rfl, -, hc⟩ := hI.at_ (by omega)
    clear hI hyes hno
    have hw : Hid (∀ k, k ≤ xs.length → keptTo xs k ≤ k) := fun k _ => keptTo_le xs k
    have KY := Lib.hid (fun k h => kept_yes (l := xs) (k := k) h)
    have KN := Lib.hid (fun k h => kept_no (l := xs) (k := k) h)
    obtain ⟨L, hL⟩ : ∃ L, xs.length = L := ⟨_, rfl⟩
    rw [hL] at hr hc hw hln h0 h0' ⊢
    replace hL := Lib.hid hL
    replace hc := Lib.hid hc
    go_wp2
    go_loop [6, 7, 8, 17] (fun s6 _ _ s17 => ∃ k : Nat, k ≤ L ∧ s17 = .int .i64 k ∧ s6 = .int .i64 (keptTo xs k)) (fun _ _ _ s17 => L - (intOf s17).toNat)
    case atStart => exact ⟨0, Nat.zero_le _, rfl, rfl⟩
    case round =>
      obtain ⟨k, hk, rfl, rfl⟩ := hrel
      by_cases hlt : k < L
      · have ck := hc.out k hlt
        have hle := hw.out k hk
        have hlt' : (k : Int) < (L : Int) := by omega
        have hky := KY.out k
        have hkn := KN.out k
        have hbk := hbd.out k
        have e1 : IntKind.i64.wrap ((k : Int) + 1) = (k : Int) + 1 := IntWalk.i64_in _ (by omega)
        by_cases he : xs.getD k 0 = (k : Int) + 1
        · have hv := hky he
          rw [he] at ck
          generalize keptTo xs k = a1 at *
          have e2 : IntKind.i64.wrap ((a1 : Int) + 1) = (a1 : Int) + 1 := IntWalk.i64_in _ (by omega)
          have hq : (((k : Int) + 1) == ((k : Int) + 1)) = true := by rw [beq_iff_eq]
          replace hv := Lib.hid hv
          clear hky hkn hbk he
          go_wp2
          go_round
          case rel => exact ⟨k + 1, by omega, by go_num, by rw [hv.out]; rfl⟩
          case measure => simp [intOf]; omega
        · have hv := hkn he
          have hq : (xs.getD k 0 == ((k : Int) + 1)) = false := by rw [beq_eq_false_iff_ne]; exact he
          generalize keptTo xs k = a1 at *
          generalize xs.getD k 0 = y at *
          replace hv := Lib.hid hv
          clear hky hkn he
          go_wp2
          go_round
          case rel => exact ⟨k + 1, by omega, by go_num, by rw [hv.out]⟩
          case measure => simp [intOf]; omega
      · obtain rfl : k = L := by omega
        have hlt' : ¬ (k : Int) < (k : Int) := by omega
        go_wp2
        go_ret
        exact ⟨ret_int hr.out.2.2.symm, hB.out⟩
end Go.Proofs.Ytjggdlnbfoglaaa
