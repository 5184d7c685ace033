/-
  Contracts of chapter 1: SumOf, GreedyOk, of the program and of the model.
-/
import Derived.Test.YtkjcbahdpmhfgaaC1b
namespace Go.Proofs.Ytkjcbahdpmhfgaa
open Go.RowKit

theorem ret_sum {b c : List Int} {v : Int} {t : Bool} (h : sumOk b c = t) (hv : sumVal b c = v) : Ending.returned (.tuple #[.int .i64 v, .bool t]) = .returned (.tuple #[.int .i64 (sumVal b c), .bool (sumOk b c)]) := by rw [h, hv]
theorem ret_sum_no {b c : List Int} (h : sumOk b c = false) : Ending.returned (.tuple #[.int .i64 (-1), .bool false]) = .returned (.tuple #[.int .i64 (sumVal b c), .bool (sumOk b c)]) := by rw [h, sumVal_off h]
theorem ret_sum_yes {b c : List Int} (h : sumOk b c = true) : Ending.returned (.tuple #[.int .i64 (sumTo b c b.length), .bool true]) = .returned (.tuple #[.int .i64 (sumVal b c), .bool (sumOk b c)]) := by rw [h, sumVal_yes h]

set_option maxHeartbeats 400000 in
theorem implSumOf_any (A A' : Option Addr) (n c n' c' : Nat) (xs ys : List Int) (w : World) (h : Ints w .i64 A n c xs) (h' : Ints w .i64 A' n' c' ys) (hn : n ≤ 1048576) (hn' : n' ≤ 1048576) (hwf : Fits xs) (hwf' : Fits ys) :
    Calls Try.prog 21 #[.slice A n c, .slice A' n' c'] w fun e w' => e = .returned (.tuple #[.int .i64 (sumVal xs ys), .bool (sumOk xs ys)]) ∧ w = w' := by
  have HB := Lib.hid (implBasesOk_any A n c xs w h hn hwf)
  obtain ⟨rfl, hcap, h⟩ := h
  obtain ⟨rfl, hcap', h'⟩ := h'
  cases hb : basesOk xs
  · have HO := Lib.hid (ret_sum_no (sumOk_off (c := ys) (.inl hb)))
    go_enter Try.func21, Try.ntmps21
    go_wp2_with (fail)
    refine HB.out.mono ?_
    rintro e _ ⟨rfl, rfl⟩
    go_wp2
    go_ret2
    exact ⟨HO.out, rfl⟩
  · by_cases hl : ys.length = xs.length
    · have hlen := bases_len hb
      have hpos := bases_pos hb
      obtain ⟨b, o, rfl, _, h⟩ := h (by omega)
      obtain ⟨b', o', rfl, _, h'⟩ := h' (by omega)
      rw [hl] at hcap' ⊢
      have hneq : ((xs.length : Int) != xs.length) = false := by simp
      replace hl := Lib.hid hl
      go_enter Try.func21, Try.ntmps21
      go_wp2_with (fail)
      refine HB.out.mono ?_
      rintro e _ ⟨rfl, rfl⟩
      rw [hb]
      go_wp2
      go_loop [6, 21] (fun s i => ∃ k : Nat, k ≤ xs.length ∧ i = .int .i64 k ∧ s = .int .i64 (sumTo xs ys k) ∧ inAll ys k = true ∧ sumTo xs ys k ≤ 999999) (fun _ i => xs.length - (intOf i).toNat)
      case atStart => exact ⟨0, by omega, rfl, rfl, inAll_zero ys, by simp [sumTo]⟩
      case round =>
        obtain ⟨k, hk, rfl, rfl, hu, hs⟩ := hrel
        by_cases hlt : k < xs.length
        · have c1 := h k hlt
          have c2 := h' k (by rw [hl.out]; exact hlt)
          have p1 := hpos k hlt
          have p2 := hwf' k
          have ps := sumTo_bd hb hk hu
          have HN := sumOk_past (c := ys) hb hlt
          have HU := sum_go (b := xs) (k := k) hu
          have HD := div_iff (y := ys.getD k 0) (s := sumTo xs ys k) p1.1
          have hm : 0 ≤ ys.getD k 0 → sumTo xs ys k + xs.getD k 0 * ys.getD k 0 ≤ 999999 → ys.getD k 0 ≤ 999999 ∧ 0 ≤ xs.getD k 0 * ys.getD k 0 := sum_fit ps.1 p1.1
          have HS' : Hid (sumTo xs ys k + xs.getD k 0 * ys.getD k 0 = sumTo xs ys (k+1)) := rfl
          generalize sumTo xs ys k = s at *
          generalize xs.getD k 0 = x at *
          generalize ys.getD k 0 = y at *
          have ps0 := ps.1
          replace HU := Lib.hid HU
          replace HN := Lib.hid HN
          clear h h' hpos hu ps hwf hwf'
          by_cases hy : 0 ≤ y
          · by_cases hf : s + x * y ≤ 999999
            · have hd := HD.2 hf
              have hm := hm hy hf
              clear HD
              go_wp2
              go_round
              case rel => exact ⟨k+1, by omega, by go_num, by rw [HS'.out], HU.out ⟨hy, hm.1⟩, by rw [← HS'.out]; exact hf⟩
              case measure => simp [intOf]; omega
            · have hd : ¬ y ≤ (999999 - s) / x := fun e => hf (HD.1 e)
              clear HD hm
              go_wp2
              go_ret2
              exact ⟨ret_sum_no (HN.out (.inr hf)), rfl⟩
          · clear HD hm
            go_wp2
            go_ret2
            exact ⟨ret_sum_no (HN.out (.inl (by omega))), rfl⟩
        · obtain rfl : k = xs.length := by omega
          have HO := Lib.hid (ret_sum_yes (sumOk_yes hb hl.out hu hs))
          clear h h' hpos hu hwf hwf'
          go_wp2
          go_ret2
          exact ⟨HO.out, rfl⟩
    · have HO := Lib.hid (ret_sum_no (sumOk_off (b := xs) (c := ys) (.inr hl)))
      have hneq : ((ys.length : Int) != xs.length) = true := by rw [bne_iff_ne]; omega
      replace hl := Lib.hid hl
      go_enter Try.func21, Try.ntmps21
      go_wp2_with (fail)
      refine HB.out.mono ?_
      rintro e _ ⟨rfl, rfl⟩
      rw [hb]
      go_wp2
      go_ret2
      exact ⟨HO.out, rfl⟩

set_option maxHeartbeats 400000 in
theorem specSumOf_any (A A' : Option Addr) (n c n' c' : Nat) (xs ys : List Int) (w : World) (h : Ints w .i64 A n c xs) (h' : Ints w .i64 A' n' c' ys) (hn : n ≤ 1048576) (hn' : n' ≤ 1048576) (hwf : Fits xs) (hwf' : Fits ys) :
    Calls Try.prog 24 #[.slice A n c, .slice A' n' c'] w fun e w' => e = .returned (.tuple #[.int .i64 (sumVal xs ys), .bool (sumOk xs ys)]) ∧ ∃ m, w' = w.drewN m := by
  have HB := Lib.hid (specBasesOk_any A n c xs w h hn hwf)
  obtain ⟨rfl, hcap, h⟩ := h
  obtain ⟨rfl, hcap', h'⟩ := h'
  cases hb : basesOk xs
  · have HO := Lib.hid (ret_sum_no (sumOk_off (c := ys) (.inl hb)))
    go_enter Try.func24, Try.ntmps24
    go_wp2_with (fail)
    refine HB.out.mono ?_
    rintro e _ ⟨rfl, m, rfl⟩
    go_wp2
    go_ret2
    exact ⟨HO.out, ex1⟩
  · by_cases hl : ys.length = xs.length
    · have hlen := bases_len hb
      have hpos := bases_pos hb
      obtain ⟨b, o, rfl, _, h⟩ := h (by omega)
      obtain ⟨b', o', rfl, _, h'⟩ := h' (by omega)
      rw [hl] at hcap' ⊢
      have hneq : ((xs.length : Int) != xs.length) = false := by simp
      replace hl := Lib.hid hl
      go_enter Try.func24, Try.ntmps24
      go_wp2_with (fail)
      refine HB.out.mono ?_
      rintro e _ ⟨rfl, m0, rfl⟩
      rw [hb]
      go_wp2
      go_loopw [6, 7] (fun s i wr => ∃ k m : Nat, k ≤ xs.length ∧ i = .int .i64 k ∧ s = .int .i64 (sumTo xs ys k) ∧ inAll ys k = true ∧ wr = w.drewN m) (fun _ i _ => xs.length - (intOf i).toNat)
      case atStart => exact ⟨0, m0, by omega, rfl, rfl, inAll_zero ys, rfl⟩
      case round =>
        obtain ⟨k, m, hk, rfl, rfl, hu, rfl⟩ := hrel
        have ps := sumTo_bd hb hk hu
        by_cases hlt : k < xs.length
        · have c1 := h k hlt
          have c2 := h' k (by rw [hl.out]; exact hlt)
          have p1 := hpos k hlt
          have p2 := hwf' k
          have HN := sumOk_no (b := xs) (c := ys) hlt
          have HU := sum_go (b := xs) (k := k) hu
          have hm : 0 ≤ ys.getD k 0 → ys.getD k 0 ≤ 999999 → 0 ≤ ys.getD k 0 * xs.getD k 0 ∧ ys.getD k 0 * xs.getD k 0 ≤ 999998000001 := fun a b => by
            have := mul_bd p1 ⟨a, b⟩
            rw [Int.mul_comm]; omega
          have HS' : Hid (sumTo xs ys k + ys.getD k 0 * xs.getD k 0 = sumTo xs ys (k+1)) := by show _ = sumTo xs ys k + _; rw [Int.mul_comm]
          generalize sumTo xs ys k = s at *
          generalize xs.getD k 0 = x at *
          generalize ys.getD k 0 = y at *
          have ps0 := ps.1
          have ps1 : s ≤ 5 * 999998000001 := by omega
          replace HU := Lib.hid HU
          replace HN := Lib.hid HN
          clear h h' hpos hu ps hwf hwf'
          by_cases hy : 0 ≤ y ∧ y ≤ 999999
          · have hm := hm hy.1 hy.2
            have hd : decide (0 ≤ y ∧ y ≤ 999999) = true := decide_eq_true hy
            go_wp2_with ((go_at_call 36; refine (in_any _ _ _ _).mono ?_; rintro e _ ⟨rfl, rfl⟩))
            go_quiet (fail)
            go_wp2
            go_roundw
            case rel => exact ⟨k+1, _, by omega, by go_num, by rw [HS'.out], HU.out hy, by first | rfl | exact World.drewN_drewN _ _ _⟩
            case measure => simp [intOf]; omega
          · clear hm
            have hd : decide (0 ≤ y ∧ y ≤ 999999) = false := decide_eq_false hy
            go_wp2_with ((go_at_call 36; refine (in_any _ _ _ _).mono ?_; rintro e _ ⟨rfl, rfl⟩))
            go_ret2
            exact ⟨ret_sum_no (HN.out hy), ex1⟩
        · obtain rfl : k = xs.length := by omega
          by_cases hs : sumTo xs ys xs.length ≤ 999999
          · have HO := Lib.hid (ret_sum_yes (sumOk_yes hb hl.out hu hs))
            clear h h' hpos hu hwf hwf'
            go_wp2
            go_ret2
            exact ⟨HO.out, ex1⟩
          · have HO := Lib.hid (ret_sum_no (sumOk_big hs))
            clear h h' hpos hu hwf hwf'
            go_wp2
            go_ret2
            exact ⟨HO.out, ex1⟩
    · have HO := Lib.hid (ret_sum_no (sumOk_off (b := xs) (c := ys) (.inr hl)))
      have hneq : ((ys.length : Int) != xs.length) = true := by rw [bne_iff_ne]; omega
      replace hl := Lib.hid hl
      go_enter Try.func24, Try.ntmps24
      go_wp2_with (fail)
      refine HB.out.mono ?_
      rintro e _ ⟨rfl, m, rfl⟩
      rw [hb]
      go_wp2
      go_ret2
      exact ⟨HO.out, ex1⟩

set_option maxHeartbeats 400000 in
theorem implGreedyOk_any (A A' : Option Addr) (n c n' c' : Nat) (xs ys : List Int) (w : World) (h : Ints w .i64 A n c xs) (h' : Ints w .i64 A' n' c' ys) (hn : n ≤ 1048576) (hn' : n' ≤ 1048576) (hwf : Fits xs) (hwf' : Fits ys) :
    Calls Try.prog 22 #[.slice A n c, .slice A' n' c'] w fun e w' => e = .returned (.bool (greedy xs ys)) ∧ ∃ m, w' = w.drewN m := by
  have HB := Lib.hid (implSumOf_any A A' n c n' c' xs ys w h h' hn hn' hwf hwf')
  obtain ⟨rfl, hcap, h⟩ := h
  obtain ⟨rfl, hcap', h'⟩ := h'
  generalize hv : sumVal xs ys = v at *
  clear hv
  cases hb : sumOk xs ys
  · have HO := Lib.hid (greedy_off hb)
    go_enter Try.func22, Try.ntmps22
    go_wp2_with (fail)
    refine HB.out.mono ?_
    rintro e _ ⟨rfl, rfl⟩
    go_wp2
    go_ret
    exact ⟨ret_bool HO.out.symm, ex0⟩
  · have hbs := (sumOk_iff xs ys).1 hb
    have hlen := bases_len hbs.1
    have hsum := fun k => sum_at hb (k := k)
    have hl := hbs.2.1
    have HL := Lib.hid hl
    clear hbs
    obtain ⟨b, o, rfl, _, h⟩ := h (by omega)
    obtain ⟨b', o', rfl, _, h'⟩ := h' (by omega)
    by_cases hc1 : c = 1
    · subst hc1
      have HO := Lib.hid (greedy_yes (k := 0) hb (by omega) (grTo_zero xs ys))
      clear h h' hsum hl
      go_enter Try.func22, Try.ntmps22
      go_wp2_with (fail)
      refine HB.out.mono ?_
      rintro e _ ⟨rfl, rfl⟩
      rw [hb]
      go_wp2
      refine wp_loop_rounds 1 ?_
      rw [rounds_succ]
      go_wp2
      go_ret
      exact ⟨ret_bool HO.out.symm, ex0⟩
    · rw [hl] at hcap' h' ⊢
      clear hl
      go_enter Try.func22, Try.ntmps22
      go_wp2_with (fail)
      rw [HL.out] at HB
      refine HB.out.mono ?_
      rintro e _ ⟨rfl, rfl⟩
      rw [hb]
      go_wp2
      go_loopw [7, 21] (fun s i wr => ∃ k m : Nat, k + 1 ≤ xs.length ∧ i = .int .i64 k ∧ s = .int .i64 (sumTo xs ys k) ∧ grTo xs ys k = true ∧ wr = w.drewN m) (fun _ i _ => xs.length - (intOf i).toNat)
      case atStart => exact ⟨0, 0, by omega, rfl, rfl, grTo_zero xs ys, rfl⟩
      case round =>
        obtain ⟨k, m, hk, rfl, rfl, hu, rfl⟩ := hrel
        by_cases hlt : k + 1 < xs.length
        · have c1 := h k (by omega)
          have c3 := at_succ (h (k+1)) hlt
          have c2 := h' k (by omega)
          obtain ⟨p1, p2, p3, p4, p5⟩ := hsum k (by omega)
          have p6 := (hsum (k+1) hlt).1
          have HN := greedy_no (b := xs) (c := ys) hlt
          have HU := grTo_go hu
          have HS' : Hid (sumTo xs ys k + xs.getD k 0 * ys.getD k 0 = sumTo xs ys (k+1)) := rfl
          generalize sumTo xs ys k = s at *
          generalize xs.getD (k+1) 0 = x1 at *
          generalize xs.getD k 0 = x at *
          generalize ys.getD k 0 = y at *
          obtain ⟨q1, q2⟩ := p1
          obtain ⟨q3, q4⟩ := p3
          replace HU := Lib.hid HU
          replace HN := Lib.hid HN
          clear h h' hsum hu hwf hwf'
          by_cases hf : s + x * y < x1
          · go_wp2
            go_quiet (fail)
            go_wp2
            go_roundw
            case rel => exact ⟨k+1, _, by omega, by go_num, by rw [HS'.out], HU.out hf, by first | rfl | exact World.drewN_drewN _ _ _⟩
            case measure => simp [intOf]; omega
          · go_wp2
            go_quiet (fail)
            go_wp2
            go_ret
            exact ⟨ret_bool (HN.out hf).symm, by first | exact ex1 | exact ex2⟩
        · have HO := Lib.hid (greedy_yes hb (by omega) hu)
          clear h h' hsum hu hwf hwf'
          go_wp2
          go_ret
          exact ⟨ret_bool HO.out.symm, ex1⟩

set_option maxHeartbeats 400000 in
theorem specGreedyOk_any (A A' : Option Addr) (n c n' c' : Nat) (xs ys : List Int) (w : World) (h : Ints w .i64 A n c xs) (h' : Ints w .i64 A' n' c' ys) (hn : n ≤ 1048576) (hn' : n' ≤ 1048576) (hwf : Fits xs) (hwf' : Fits ys) :
    Calls Try.prog 26 #[.slice A n c, .slice A' n' c'] w fun e w' => e = .returned (.bool (greedy xs ys)) ∧ ∃ m, w' = w.drewN m := by
  have HB := Lib.hid (specSumOf_any A A' n c n' c' xs ys w h h' hn hn' hwf hwf')
  obtain ⟨rfl, hcap, h⟩ := h
  obtain ⟨rfl, hcap', h'⟩ := h'
  generalize hv : sumVal xs ys = v at *
  clear hv
  cases hb : sumOk xs ys
  · have HO := Lib.hid (greedy_off hb)
    by_cases h1 : 1 < xs.length
    all_goals
      go_enter Try.func26, Try.ntmps26
      go_wp2_with (fail)
      refine HB.out.mono ?_
      rintro e _ ⟨rfl, m, rfl⟩
      rw [hb]
      go_wp2
      refine wp_loop_rounds 1 ?_
      rw [rounds_succ]
      go_wp2
      go_ret
      exact ⟨ret_bool HO.out.symm, ex1⟩
  · have hbs := (sumOk_iff xs ys).1 hb
    have hlen := bases_len hbs.1
    have hsum := fun k => sum_at hb (k := k)
    have hl := hbs.2.1
    have HL := Lib.hid hl
    clear hbs
    obtain ⟨b, o, rfl, _, h⟩ := h (by omega)
    obtain ⟨b', o', rfl, _, h'⟩ := h' (by omega)
    rw [hl] at hcap' h' ⊢
    clear hl
    go_enter Try.func26, Try.ntmps26
    go_wp2_with (fail)
    rw [HL.out] at HB
    refine HB.out.mono ?_
    rintro e _ ⟨rfl, m0, rfl⟩
    rw [hb]
    go_wp2
    go_loopw [7, 8] (fun s i wr => ∃ k m : Nat, k + 1 ≤ xs.length ∧ i = .int .i64 k ∧ s = .int .i64 (sumTo xs ys k) ∧ grTo xs ys k = true ∧ wr = w.drewN m) (fun _ i _ => xs.length - (intOf i).toNat)
    case atStart => exact ⟨0, m0, by omega, rfl, rfl, grTo_zero xs ys, rfl⟩
    case round =>
      obtain ⟨k, m, hk, rfl, rfl, hu, rfl⟩ := hrel
      by_cases hlt : k + 1 < xs.length
      · have c1 := h k (by omega)
        have c3 := h (k+1) hlt
        have c2 := h' k (by omega)
        obtain ⟨p1, p2, p3, p4, p5⟩ := hsum k (by omega)
        have p6 := (hsum (k+1) hlt).1
        have HN := greedy_no (b := xs) (c := ys) hlt
        have HU := grTo_go hu
        have HS' : Hid (sumTo xs ys k + xs.getD k 0 * ys.getD k 0 = sumTo xs ys (k+1)) := rfl
        rw [Int.mul_comm (xs.getD k 0)] at HS' HN HU p4 p5
        generalize sumTo xs ys k = s at *
        generalize xs.getD (k+1) 0 = x1 at *
        generalize xs.getD k 0 = x at *
        generalize ys.getD k 0 = y at *
        obtain ⟨q1, q2⟩ := p1
        obtain ⟨q3, q4⟩ := p3
        replace HU := Lib.hid HU
        replace HN := Lib.hid HN
        clear h h' hsum hu hwf hwf'
        by_cases hf : s + y * x < x1
        · go_wp2
          go_quiet (fail)
          go_wp2
          go_roundw
          case rel => exact ⟨k+1, _, by omega, by go_num, by rw [HS'.out], HU.out hf, by first | rfl | exact World.drewN_drewN _ _ _⟩
          case measure => simp [intOf]; omega
        · go_wp2
          go_quiet (fail)
          go_wp2
          go_ret
          exact ⟨ret_bool (HN.out hf).symm, by first | exact ex1 | exact ex2⟩
      · have HO := Lib.hid (greedy_yes hb (by omega) hu)
        clear h h' hsum hu hwf hwf'
        go_wp2
        go_ret
        exact ⟨ret_bool (by rw [HO.out]), ex1⟩
end Go.Proofs.Ytkjcbahdpmhfgaa
