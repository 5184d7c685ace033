/-
  LeastOf, CountOf, MostWords and AllWords of the model.
-/
import Derived.Test.YtebfoofiaokhdaaMathM
import Derived.Test.YtebfoofiaokhdaaGN
namespace Go.Proofs.Ytebfoofiaokhdaa
open Go.RowKit

theorem ret_iib {a a' b b' : Int} {c c' : Bool} (h1 : a = a') (h2 : b = b') (h3 : c = c') : Ending.returned (.tuple #[.int .i64 a, .int .i64 b, .bool c]) = .returned (.tuple #[.int .i64 a', .int .i64 b', .bool c']) := by rw [h1, h2, h3]

set_option maxRecDepth 100000 in
set_option maxHeartbeats 4000000 in
theorem specLeastOf_any (v : Value) (t : Tg) (x : Int) (w : World) (h : Tng w v t) (hf : t.Fine) (hx : -9223372036854775808 ≤ x ∧ x ≤ 9223372036854775807) :
    Calls Try.prog 18 #[v, .int .i64 x] w fun e w' => e = .returned (.int .i64 (leastA t x)) ∧ Below w.heap.size w w' := by
  obtain ⟨A1, c1, A2, c2, A3, c3, rfl, -⟩ := h.ex
  have hB := (Below.refl w.heap.size w).alloc (Nat.le_refl _) (.cells #[.slice A1 t.us.length c1, .slice A2 t.bs.length c2, .slice A3 t.ns.length c3] 26)
  have HX := Blk.new w 26 #[.slice A1 t.us.length c1, .slice A2 t.bs.length c2, .slice A3 t.ns.length c3]
  have HT := h.below hB (Nat.le_refl _)
  have KT := Lib.hid (fun W' (hT : Tng W' (.agg #[.slice A1 t.us.length c1, .slice A2 t.bs.length c2, .slice A3 t.ns.length c3]) t) => specTongueOk_any _ t W' hT hf)
  have KL := Lib.hid (fun (k : Nat) W' (hT : Tng W' (.agg #[.slice A1 t.us.length c1, .slice A2 t.bs.length c2, .slice A3 t.ns.length c3]) t) (hk : k ≤ 4000) => specLongOf_any _ t (k : Int) W' hT hf (by omega))
  have FB := Lib.hid (fun (k : Nat) => lng_bd t k)
  replace hB := Lib.hid hB
  replace HX := Lib.hid HX
  replace HT := Lib.hid HT
  clear h hf
  go_enter Try.func18, Try.ntmps18
  go_upto_region 1 with (fail)
  generalize w.alloc (.cells #[.slice A1 t.us.length c1, .slice A2 t.bs.length c2, .slice A3 t.ns.length c3] 26) = W at *
  by_cases hx1 : 1 ≤ x
  · cases hok : t.ok
    · have HN := Lib.hid (show leastA t x = -1 by unfold leastA; rw [hok]; rfl)
      go_wp2
      refine wp_loop_rounds 1 ?_
      rw [rounds_succ]
      obtain ⟨x0, x1, x2, -, -, -⟩ := blk3 HX.out
      go_wp2_with (fail)
      refine (KT.out _ HT.out).mono ?_
      rintro e w1 ⟨rfl, b1⟩
      replace hB := Lib.hid (hB.out.trans (b1.mono hB.out.size))
      replace HX := Lib.hid (HX.out.below b1 HX.out.lt)
      replace HT := Lib.hid (HT.out.below b1 (Nat.le_refl _))
      clear b1 x0 x1 x2
      rw [hok]
      replace hok := Lib.hid hok
      go_wp2
      go_ret
      exact ⟨ret_int HN.out.symm, hB.out⟩
    · have HA := Lib.hid (fun (j : Nat) (h0 : j < 3000) (h1 : lwTo (lngF t) x j = 0) (h2 : lngF t (j + 1) = x) => show leastA t x = (j : Int) + 1 by
        have h3 := lw_new h1 h2
        have h4 := lw_stay (m := 3000) (show lwTo (lngF t) x (j + 1) ≠ 0 by omega) (by omega)
        unfold leastA
        rw [hok, decide_eq_true hx1, h4, h3, decide_eq_true (by omega)]
        rfl)
      have HN := Lib.hid (fun (h1 : lwTo (lngF t) x 3000 = 0) => show leastA t x = -1 by
        unfold leastA
        rw [h1, decide_eq_false (show ¬ ((0 : Nat) ≠ 0) from fun h => h rfl), Bool.and_false]
        rfl)
      replace KT := KT.out
      rw [hok] at KT
      replace KT := Lib.hid KT
      replace hok := Lib.hid hok
      go_wp2
      go_loopw [5] (fun s5 wr => ∃ k : Nat, k ≤ 3000 ∧ s5 = .int .i64 ((k : Int) + 1) ∧ lwTo (lngF t) x k = 0 ∧ Below W.heap.size W wr) (fun s5 _ => 3001 - (intOf s5).toNat)
      case atStart => exact ⟨0, Nat.zero_le _, rfl, rfl, Below.refl _ _⟩
      case round =>
        obtain ⟨k, hk, rfl, hlw, hbr⟩ := hrel
        replace hlw := Lib.hid hlw
        by_cases hlt : k < 3000
        · obtain ⟨x0, x1, x2, -, -, -⟩ := blk3 (HX.out.below hbr HX.out.lt)
          have hlt' : (k : Int) + 1 ≤ 3000 := by omega
          have e1 : IntKind.i64.wrap ((k : Int) + 1 + 1) = (k : Int) + 1 + 1 := IntWalk.i64_in _ (by omega)
          have K1 := Lib.hid (KT.out wr (HT.out.below hbr (Nat.le_refl _)))
          replace hbr := Lib.hid hbr
          go_wp2_with (fail)
          refine K1.out.mono ?_
          rintro e w1 ⟨rfl, b1⟩
          have hB1 := hbr.out.trans (b1.mono hbr.out.size)
          clear b1 x0 x1 x2 K1 hbr
          obtain ⟨x0, x1, x2, -, -, -⟩ := blk3 (HX.out.below hB1 HX.out.lt)
          have K2 := KL.out (k + 1) w1 (HT.out.below hB1 (Nat.le_refl _)) (by omega)
          have e0 : ((k + 1 : Nat) : Int) = (k : Int) + 1 := by omega
          rw [e0] at K2
          replace K2 := Lib.hid K2
          replace hB1 := Lib.hid hB1
          have fb := FB.out (k + 1)
          have HAk := HA.out k hlt hlw.out
          have HSk := fun h => (lw_same (f := lngF t) (w := x) (k := k) h).trans hlw.out
          have hfk : lngF t (k + 1) = longOf t ((k : Int) + 1) := by unfold lngF; rw [e0]
          rw [hfk] at HAk HSk fb
          generalize longOf t ((k : Int) + 1) = y at *
          replace HAk := Lib.hid HAk
          replace HSk := Lib.hid HSk
          replace hfk := Lib.hid hfk
          clear e0
          go_wp2_with (fail)
          refine K2.out.mono ?_
          rintro e w2 ⟨rfl, b2⟩
          have hB2 := Lib.hid (hB1.out.trans (b2.mono hB1.out.size))
          clear b2 x0 x1 x2 K2
          by_cases hy : y = x
          · have g1 : (y == x) = true := by rw [beq_iff_eq]; exact hy
            have hr := Lib.hid (HAk.out hy)
            have hBf := Lib.hid (hB.out.trans (hB2.out.mono hB.out.size))
            replace hy := Lib.hid hy
            go_wp2
            go_ret
            exact ⟨ret_int hr.out.symm, hBf.out⟩
          · have g1 : (y == x) = false := by rw [beq_eq_false_iff_ne]; exact hy
            have hr := Lib.hid (HSk.out hy)
            replace hy := Lib.hid hy
            go_wp2
            go_roundw
            case rel => exact ⟨k + 1, by omega, by go_num, hr.out, hB2.out⟩
            case measure => simp [intOf]; omega
        · obtain rfl : k = 3000 := by omega
          have hr := Lib.hid (HN.out hlw.out)
          have hBf := Lib.hid (hB.out.trans (hbr.mono hB.out.size))
          clear hbr
          go_wp2
          go_ret
          exact ⟨ret_int hr.out.symm, hBf.out⟩
  · have HN := Lib.hid (show leastA t x = -1 by unfold leastA; rw [decide_eq_false hx1, Bool.and_false]; rfl)
    go_wp2
    refine wp_loop_rounds 1 ?_
    rw [rounds_succ]
    obtain ⟨x0, x1, x2, -, -, -⟩ := blk3 HX.out
    go_wp2_with (fail)
    refine (KT.out _ HT.out).mono ?_
    rintro e w1 ⟨rfl, b1⟩
    replace hB := Lib.hid (hB.out.trans (b1.mono hB.out.size))
    replace HX := Lib.hid (HX.out.below b1 HX.out.lt)
    replace HT := Lib.hid (HT.out.below b1 (Nat.le_refl _))
    clear b1 x0 x1 x2
    cases hok : t.ok
    all_goals
      replace hok := Lib.hid hok
      go_wp2
      go_ret
      exact ⟨ret_int HN.out.symm, hB.out⟩
set_option maxRecDepth 100000 in
set_option maxHeartbeats 4000000 in
theorem specCountOf_any (v : Value) (t : Tg) (m : Int) (x : Int) (w : World) (h : Tng w v t) (hf : t.Fine) (hm : -9223372036854775808 ≤ m ∧ m ≤ 9223372036854775807) (hx : -9223372036854775808 ≤ x ∧ x ≤ 9223372036854775807) :
    Calls Try.prog 23 #[v, .int .i64 m, .int .i64 x] w fun e w' => e = .returned (.int .i64 (cntA t m x)) ∧ Below w.heap.size w w' := by
  obtain ⟨A1, c1, A2, c2, A3, c3, rfl, -⟩ := h.ex
  have hB := (Below.refl w.heap.size w).alloc (Nat.le_refl _) (.cells #[.slice A1 t.us.length c1, .slice A2 t.bs.length c2, .slice A3 t.ns.length c3] 26)
  have HX := Blk.new w 26 #[.slice A1 t.us.length c1, .slice A2 t.bs.length c2, .slice A3 t.ns.length c3]
  have HT := h.below hB (Nat.le_refl _)
  have KT := Lib.hid (fun W' (hT : Tng W' (.agg #[.slice A1 t.us.length c1, .slice A2 t.bs.length c2, .slice A3 t.ns.length c3]) t) => specTongueOk_any _ t W' hT hf)
  have KL := Lib.hid (fun (k : Nat) W' (hT : Tng W' (.agg #[.slice A1 t.us.length c1, .slice A2 t.bs.length c2, .slice A3 t.ns.length c3]) t) (hk : k ≤ 4000) => specLongOf_any _ t (k : Int) W' hT hf (by omega))
  have FB := Lib.hid (fun (k : Nat) => lng_bd t k)
  replace hB := Lib.hid hB
  replace HX := Lib.hid HX
  replace HT := Lib.hid HT
  clear h hf
  go_enter Try.func23, Try.ntmps23
  go_upto_region 1 with (fail)
  generalize w.alloc (.cells #[.slice A1 t.us.length c1, .slice A2 t.bs.length c2, .slice A3 t.ns.length c3] 26) = W at *
  obtain ⟨x0, x1, x2, -, -, -⟩ := blk3 HX.out
  go_wp2_with (fail)
  refine (KT.out _ HT.out).mono ?_
  rintro e w1 ⟨rfl, b1⟩
  replace hB := Lib.hid (hB.out.trans (b1.mono hB.out.size))
  replace HX := Lib.hid (HX.out.below b1 HX.out.lt)
  replace HT := Lib.hid (HT.out.below b1 (Nat.le_refl _))
  clear b1 x0 x1 x2
  cases hok : t.ok
  · have HN := Lib.hid (show cntA t m x = -1 by unfold cntA; rw [show okM t m = false from by unfold okM; rw [hok]; rfl]; rfl)
    replace hok := Lib.hid hok
    go_wp2
    go_ret
    exact ⟨ret_int HN.out.symm, hB.out⟩
  · go_wp2_with (fail)
    refine (in_any _ _ _ _).mono ?_
    rintro e _ ⟨rfl, rfl⟩
    by_cases hm : 1 ≤ m ∧ m ≤ 3000
    · rw [decide_eq_true hm]
      have hol : okM t m = true := by unfold okM; rw [hok, decide_eq_true hm]; rfl
      obtain ⟨hm1, hm2⟩ := hm
      obtain ⟨M, rfl⟩ : ∃ M : Nat, m = M := ⟨m.toNat, by omega⟩
      by_cases hx1 : 1 ≤ x
      · have HE := Lib.hid (show cntA t (M : Int) x = cwTo (lngF t) x M by unfold cntA; rw [hol, decide_eq_true hx1]; rfl)
        replace hol := Lib.hid hol
        replace hok := Lib.hid hok
        go_wp2
        go_loopw [7, 8] (fun s7 s8 wr => ∃ k : Nat, k ≤ M ∧ s8 = .int .i64 ((k : Int) + 1) ∧ s7 = .int .i64 (cwTo (lngF t) x k) ∧ Below w1.heap.size w1 wr) (fun _ s8 _ => M + 1 - (intOf s8).toNat)
        case atStart => exact ⟨0, Nat.zero_le _, rfl, rfl, Below.refl _ _⟩
        case round =>
          obtain ⟨k, hk, rfl, rfl, hbr⟩ := hrel
          obtain ⟨x0, x1, x2, -, -, -⟩ := blk3 (HX.out.below hbr HX.out.lt)
          have HTr := Lib.hid (HT.out.below hbr (Nat.le_refl _))
          by_cases hlt : k < M
          · have hlt' : (k : Int) + 1 ≤ (M : Int) := by omega
            have e1 : IntKind.i64.wrap ((k : Int) + 1 + 1) = (k : Int) + 1 + 1 := IntWalk.i64_in _ (by omega)
            have K2 := KL.out (k + 1) wr HTr.out (by omega)
            have fb := FB.out (k + 1)
            have e0 : ((k + 1 : Nat) : Int) = (k : Int) + 1 := by omega
            rw [e0] at K2
            replace K2 := Lib.hid K2
            replace hbr := Lib.hid hbr
            have hcy := cw_yes (f := lngF t) (w := x) (k := k)
            have hcn := cw_no (f := lngF t) (w := x) (k := k)
            have hle := cw_le (f := lngF t) (w := x) k
            have hfk : lngF t (k + 1) = longOf t ((k : Int) + 1) := by unfold lngF; rw [e0]
            rw [hfk] at hcy hcn fb
            generalize longOf t ((k : Int) + 1) = y at *
            generalize cwTo (lngF t) x k = a at *
            have e2 : IntKind.i64.wrap ((a : Int) + 1) = (a : Int) + 1 := IntWalk.i64_in _ (by omega)
            replace hcy := Lib.hid hcy
            replace hcn := Lib.hid hcn
            replace hfk := Lib.hid hfk
            clear e0
            go_wp2_with (fail)
            refine K2.out.mono ?_
            rintro e w2 ⟨rfl, b2⟩
            have hB2 := Lib.hid (hbr.out.trans (b2.mono hbr.out.size))
            clear b2 x0 x1 x2 K2
            by_cases hy : y = x
            · have g1 : (y == x) = true := by rw [beq_iff_eq]; exact hy
              have hr := Lib.hid (hcy.out hy)
              replace hy := Lib.hid hy
              go_wp2
              go_roundw
              case rel => exact ⟨k + 1, by omega, by go_num, by rw [hr.out]; rfl, hB2.out⟩
              case measure => simp [intOf]; omega
            · have g1 : (y == x) = false := by rw [beq_eq_false_iff_ne]; exact hy
              have hr := Lib.hid (hcn.out hy)
              replace hy := Lib.hid hy
              go_wp2
              go_roundw
              case rel => exact ⟨k + 1, by omega, by go_num, by rw [hr.out], hB2.out⟩
              case measure => simp [intOf]; omega
          · obtain rfl : k = M := by omega
            have hlt' : ¬ (k : Int) + 1 ≤ (k : Int) := by omega
            have hBf := Lib.hid (hB.out.trans (hbr.mono hB.out.size))
            clear hbr
            go_wp2
            go_ret
            exact ⟨ret_int HE.out.symm, hBf.out⟩
      · have HN := Lib.hid (show cntA t (M : Int) x = -1 by unfold cntA; rw [decide_eq_false hx1, Bool.and_false]; rfl)
        replace hol := Lib.hid hol
        replace hok := Lib.hid hok
        go_wp2
        go_ret
        exact ⟨ret_int HN.out.symm, hB.out⟩
    · rw [decide_eq_false hm]
      have HN := Lib.hid (show cntA t m x = -1 by unfold cntA; rw [show okM t m = false from by unfold okM; rw [decide_eq_false hm, Bool.and_false]]; rfl)
      replace hm := Lib.hid hm
      replace hok := Lib.hid hok
      go_wp2
      go_ret
      exact ⟨ret_int HN.out.symm, hB.out⟩
set_option maxRecDepth 100000 in
set_option maxHeartbeats 4000000 in
theorem specAllWords_any (v : Value) (t : Tg) (m : Int) (w : World) (h : Tng w v t) (hf : t.Fine) (hm : -9223372036854775808 ≤ m ∧ m ≤ 9223372036854775807) :
    Calls Try.prog 30 #[v, .int .i64 m] w fun e w' => e = .returned (.int .i64 (allA t m)) ∧ Below w.heap.size w w' := by
  obtain ⟨A1, c1, A2, c2, A3, c3, rfl, -⟩ := h.ex
  have hB := (Below.refl w.heap.size w).alloc (Nat.le_refl _) (.cells #[.slice A1 t.us.length c1, .slice A2 t.bs.length c2, .slice A3 t.ns.length c3] 26)
  have HX := Blk.new w 26 #[.slice A1 t.us.length c1, .slice A2 t.bs.length c2, .slice A3 t.ns.length c3]
  have HT := h.below hB (Nat.le_refl _)
  have KT := Lib.hid (fun W' (hT : Tng W' (.agg #[.slice A1 t.us.length c1, .slice A2 t.bs.length c2, .slice A3 t.ns.length c3]) t) => specTongueOk_any _ t W' hT hf)
  have KL := Lib.hid (fun (k : Nat) W' (hT : Tng W' (.agg #[.slice A1 t.us.length c1, .slice A2 t.bs.length c2, .slice A3 t.ns.length c3]) t) (hk : k ≤ 4000) => specLongOf_any _ t (k : Int) W' hT hf (by omega))
  have FB := Lib.hid (fun (k : Nat) => lng_bd t k)
  replace hB := Lib.hid hB
  replace HX := Lib.hid HX
  replace HT := Lib.hid HT
  clear h hf
  go_enter Try.func30, Try.ntmps30
  go_upto_region 1 with (fail)
  generalize w.alloc (.cells #[.slice A1 t.us.length c1, .slice A2 t.bs.length c2, .slice A3 t.ns.length c3] 26) = W at *
  obtain ⟨x0, x1, x2, -, -, -⟩ := blk3 HX.out
  go_wp2_with (fail)
  refine (KT.out _ HT.out).mono ?_
  rintro e w1 ⟨rfl, b1⟩
  replace hB := Lib.hid (hB.out.trans (b1.mono hB.out.size))
  replace HX := Lib.hid (HX.out.below b1 HX.out.lt)
  replace HT := Lib.hid (HT.out.below b1 (Nat.le_refl _))
  clear b1 x0 x1 x2
  cases hok : t.ok
  · have HN := Lib.hid (show allA t m = -1 by unfold allA; rw [show okM t m = false from by unfold okM; rw [hok]; rfl]; rfl)
    replace hok := Lib.hid hok
    go_wp2
    go_ret
    exact ⟨ret_int HN.out.symm, hB.out⟩
  · go_wp2_with (fail)
    refine (in_any _ _ _ _).mono ?_
    rintro e _ ⟨rfl, rfl⟩
    by_cases hm : 1 ≤ m ∧ m ≤ 3000
    · rw [decide_eq_true hm]
      have hol : okM t m = true := by unfold okM; rw [hok, decide_eq_true hm]; rfl
      obtain ⟨hm1, hm2⟩ := hm
      obtain ⟨M, rfl⟩ : ∃ M : Nat, m = M := ⟨m.toNat, by omega⟩
      have HE := Lib.hid (show allA t (M : Int) = swTo (lngF t) M by unfold allA; rw [hol]; rfl)
      replace hol := Lib.hid hol
      replace hok := Lib.hid hok
      go_wp2
      go_loopw [5, 6] (fun s5 s6 wr => ∃ k : Nat, k ≤ M ∧ s6 = .int .i64 ((k : Int) + 1) ∧ s5 = .int .i64 (swTo (lngF t) k) ∧ Below w1.heap.size w1 wr) (fun _ s6 _ => M + 1 - (intOf s6).toNat)
      case atStart => exact ⟨0, Nat.zero_le _, rfl, rfl, Below.refl _ _⟩
      case round =>
        obtain ⟨k, hk, rfl, rfl, hbr⟩ := hrel
        obtain ⟨x0, x1, x2, -, -, -⟩ := blk3 (HX.out.below hbr HX.out.lt)
        have HTr := Lib.hid (HT.out.below hbr (Nat.le_refl _))
        by_cases hlt : k < M
        · have hlt' : (k : Int) + 1 ≤ (M : Int) := by omega
          have e1 : IntKind.i64.wrap ((k : Int) + 1 + 1) = (k : Int) + 1 + 1 := IntWalk.i64_in _ (by omega)
          have K2 := KL.out (k + 1) wr HTr.out (by omega)
          have fb := FB.out (k + 1)
          have e0 : ((k + 1 : Nat) : Int) = (k : Int) + 1 := by omega
          rw [e0] at K2
          replace K2 := Lib.hid K2
          replace hbr := Lib.hid hbr
          have hsw : swTo (lngF t) (k + 1) = swTo (lngF t) k + (max (lngF t (k + 1)) 0).toNat := rfl
          have hle := sw_le (f := lngF t) (M := 31) (by omega) (fun j => (lng_bd t j).2.1) k
          have hfk : lngF t (k + 1) = longOf t ((k : Int) + 1) := by unfold lngF; rw [e0]
          rw [hfk] at hsw fb
          generalize longOf t ((k : Int) + 1) = y at *
          generalize swTo (lngF t) k = a at *
          replace hsw := Lib.hid hsw
          replace hfk := Lib.hid hfk
          clear e0
          by_cases hy : 0 < y
          · obtain ⟨z, rfl⟩ : ∃ z : Nat, y = z := ⟨y.toNat, by omega⟩
            have hr := Lib.hid (show swTo (lngF t) (k + 1) = a + z by rw [hsw.out]; omega)
            have e2 : IntKind.i64.wrap ((a : Int) + (z : Int)) = (a : Int) + (z : Int) := IntWalk.i64_in _ (by omega)
            have hy2 : ¬ (z : Int) < 0 := by omega
            go_wp2_with (fail)
            refine K2.out.mono ?_
            rintro e w2 ⟨rfl, b2⟩
            have hB2 := Lib.hid (hbr.out.trans (b2.mono hbr.out.size))
            clear b2 x0 x1 x2 K2
            go_wp2
            go_roundw
            case rel => exact ⟨k + 1, by omega, by go_num, by rw [hr.out]; rfl, hB2.out⟩
            case measure => simp [intOf]; omega
          · have hr := Lib.hid (show swTo (lngF t) (k + 1) = a by rw [hsw.out]; omega)
            have e2 : IntKind.i64.wrap ((a : Int) + 0) = (a : Int) := by rw [Int.add_zero]; exact IntWalk.i64_in _ (by omega)
            have e3 : IntKind.i64.wrap (a : Int) = (a : Int) := IntWalk.i64_in _ (by omega)
            have hy2 : y < 0 := by omega
            go_wp2_with (fail)
            refine K2.out.mono ?_
            rintro e w2 ⟨rfl, b2⟩
            have hB2 := Lib.hid (hbr.out.trans (b2.mono hbr.out.size))
            clear b2 x0 x1 x2 K2
            go_wp2
            go_roundw
            case rel => exact ⟨k + 1, by omega, by go_num, by rw [hr.out], hB2.out⟩
            case measure => simp [intOf]; omega
        · obtain rfl : k = M := by omega
          have hlt' : ¬ (k : Int) + 1 ≤ (k : Int) := by omega
          have hBf := Lib.hid (hB.out.trans (hbr.mono hB.out.size))
          clear hbr
          go_wp2
          go_ret
          exact ⟨ret_int HE.out.symm, hBf.out⟩
    · rw [decide_eq_false hm]
      have HN := Lib.hid (show allA t m = -1 by unfold allA; rw [show okM t m = false from by unfold okM; rw [decide_eq_false hm, Bool.and_false]]; rfl)
      replace hm := Lib.hid hm
      replace hok := Lib.hid hok
      go_wp2
      go_ret
      exact ⟨ret_int HN.out.symm, hB.out⟩
set_option maxRecDepth 100000 in
set_option maxHeartbeats 4000000 in
theorem specMostWords_any (v : Value) (t : Tg) (m : Int) (w : World) (h : Tng w v t) (hf : t.Fine) (hm : -9223372036854775808 ≤ m ∧ m ≤ 9223372036854775807) :
    Calls Try.prog 27 #[v, .int .i64 m] w fun e w' => e = .returned (.tuple #[.int .i64 (mostA t m), .int .i64 (mostAt t m), .bool (okM t m)]) ∧ Below w.heap.size w w' := by
  obtain ⟨A1, c1, A2, c2, A3, c3, rfl, -⟩ := h.ex
  have hB := (Below.refl w.heap.size w).alloc (Nat.le_refl _) (.cells #[.slice A1 t.us.length c1, .slice A2 t.bs.length c2, .slice A3 t.ns.length c3] 26)
  have HX := Blk.new w 26 #[.slice A1 t.us.length c1, .slice A2 t.bs.length c2, .slice A3 t.ns.length c3]
  have HT := h.below hB (Nat.le_refl _)
  have KT := Lib.hid (fun W' (hT : Tng W' (.agg #[.slice A1 t.us.length c1, .slice A2 t.bs.length c2, .slice A3 t.ns.length c3]) t) => specTongueOk_any _ t W' hT hf)
  have KL := Lib.hid (fun (k : Nat) W' (hT : Tng W' (.agg #[.slice A1 t.us.length c1, .slice A2 t.bs.length c2, .slice A3 t.ns.length c3]) t) (hk : k ≤ 4000) => specLongOf_any _ t (k : Int) W' hT hf (by omega))
  have FB := Lib.hid (fun (k : Nat) => lng_bd t k)
  replace hB := Lib.hid hB
  replace HX := Lib.hid HX
  replace HT := Lib.hid HT
  clear h hf
  go_enter Try.func27, Try.ntmps27
  go_upto_region 1 with (fail)
  generalize w.alloc (.cells #[.slice A1 t.us.length c1, .slice A2 t.bs.length c2, .slice A3 t.ns.length c3] 26) = W at *
  obtain ⟨x0, x1, x2, -, -, -⟩ := blk3 HX.out
  go_wp2_with (fail)
  refine (KT.out _ HT.out).mono ?_
  rintro e w1 ⟨rfl, b1⟩
  replace hB := Lib.hid (hB.out.trans (b1.mono hB.out.size))
  replace HX := Lib.hid (HX.out.below b1 HX.out.lt)
  replace HT := Lib.hid (HT.out.below b1 (Nat.le_refl _))
  clear b1 x0 x1 x2
  cases hok : t.ok
  · have HN := Lib.hid (show okM t m = false ∧ mostA t m = -1 ∧ mostAt t m = -1 by unfold mostA mostAt; rw [show okM t m = false from by unfold okM; rw [hok]; rfl]; exact ⟨rfl, rfl, rfl⟩)
    replace hok := Lib.hid hok
    go_wp2
    go_ret3
    exact ⟨ret_iib HN.out.2.1.symm HN.out.2.2.symm HN.out.1.symm, hB.out⟩
  · go_wp2_with (fail)
    refine (in_any _ _ _ _).mono ?_
    rintro e _ ⟨rfl, rfl⟩
    by_cases hm : 1 ≤ m ∧ m ≤ 3000
    · rw [decide_eq_true hm]
      have hol : okM t m = true := by unfold okM; rw [hok, decide_eq_true hm]; rfl
      obtain ⟨hm1, hm2⟩ := hm
      obtain ⟨M, rfl⟩ : ∃ M : Nat, m = M := ⟨m.toNat, by omega⟩
      have HE1 := Lib.hid (show mostA t (M : Int) = twTo (lngF t) M by unfold mostA; rw [hol]; rfl)
      have HE2 := Lib.hid (show mostAt t (M : Int) = taTo (lngF t) M by unfold mostAt; rw [hol]; rfl)
      replace hol := Lib.hid hol
      replace hok := Lib.hid hok
      go_wp2
      go_loopw [7, 8, 9] (fun s7 s8 s9 wr => ∃ k : Nat, k ≤ M ∧ s9 = .int .i64 ((k : Int) + 1) ∧ s7 = .int .i64 (twTo (lngF t) k) ∧ s8 = .int .i64 (taTo (lngF t) k) ∧ Below w1.heap.size w1 wr) (fun _ _ s9 _ => M + 1 - (intOf s9).toNat)
      case atStart => exact ⟨0, Nat.zero_le _, rfl, rfl, rfl, Below.refl _ _⟩
      case round =>
        obtain ⟨k, hk, rfl, rfl, rfl, hbr⟩ := hrel
        obtain ⟨x0, x1, x2, -, -, -⟩ := blk3 (HX.out.below hbr HX.out.lt)
        have HTr := Lib.hid (HT.out.below hbr (Nat.le_refl _))
        by_cases hlt : k < M
        · have hlt' : (k : Int) + 1 ≤ (M : Int) := by omega
          have e1 : IntKind.i64.wrap ((k : Int) + 1 + 1) = (k : Int) + 1 + 1 := IntWalk.i64_in _ (by omega)
          have K2 := KL.out (k + 1) wr HTr.out (by omega)
          have fb := FB.out (k + 1)
          have e0 : ((k + 1 : Nat) : Int) = (k : Int) + 1 := by omega
          rw [e0] at K2
          replace K2 := Lib.hid K2
          replace hbr := Lib.hid hbr
          have hty := tw_yes (f := lngF t) (k := k)
          have htn := tw_no (f := lngF t) (k := k)
          have hle := tw_le (f := lngF t) (M := 31) (by omega) (fun j => (lng_bd t j).2.1) k
          have hfk : lngF t (k + 1) = longOf t ((k : Int) + 1) := by unfold lngF; rw [e0]
          have K3' := fun W' hT => KL.out (k + 1) W' hT (by omega)
          rw [e0] at K3'
          rw [hfk] at hty htn fb
          generalize longOf t ((k : Int) + 1) = y at *
          generalize twTo (lngF t) k = a at *
          generalize taTo (lngF t) k = b at *
          replace hty := Lib.hid hty
          replace htn := Lib.hid htn
          replace hfk := Lib.hid hfk
          replace K3' := Lib.hid K3'
          clear e0
          go_wp2_with (fail)
          refine K2.out.mono ?_
          rintro e w2 ⟨rfl, b2⟩
          have hB2 := hbr.out.trans (b2.mono hbr.out.size)
          clear b2 x0 x1 x2 K2
          by_cases hy : (a : Int) < y
          · obtain ⟨hr1, hr2⟩ := hty.out hy
            obtain ⟨x0, x1, x2, -, -, -⟩ := blk3 (HX.out.below hB2 HX.out.lt)
            have K3 := Lib.hid (K3'.out w2 (HT.out.below hB2 (Nat.le_refl _)))
            replace hB2 := Lib.hid hB2
            replace hr1 := Lib.hid hr1
            replace hr2 := Lib.hid hr2
            go_wp2_with (fail)
            refine K3.out.mono ?_
            rintro e w3 ⟨rfl, b3⟩
            have hB3 := Lib.hid (hB2.out.trans (b3.mono hB2.out.size))
            clear b3 x0 x1 x2 K3
            go_wp2
            go_roundw
            case rel => exact ⟨k + 1, by omega, by go_num, by rw [hr1.out], by rw [hr2.out]; rfl, hB3.out⟩
            case measure => simp [intOf]; omega
          · obtain ⟨hr1, hr2⟩ := htn.out (by omega)
            replace hB2 := Lib.hid hB2
            replace hr1 := Lib.hid hr1
            replace hr2 := Lib.hid hr2
            go_wp2
            go_roundw
            case rel => exact ⟨k + 1, by omega, by go_num, by rw [hr1.out], by rw [hr2.out], hB2.out⟩
            case measure => simp [intOf]; omega
        · obtain rfl : k = M := by omega
          have hlt' : ¬ (k : Int) + 1 ≤ (k : Int) := by omega
          have hBf := Lib.hid (hB.out.trans (hbr.mono hB.out.size))
          clear hbr
          go_wp2
          go_ret3
          exact ⟨ret_iib HE1.out.symm HE2.out.symm hol.out.symm, hBf.out⟩
    · rw [decide_eq_false hm]
      have HN := Lib.hid (show okM t m = false ∧ mostA t m = -1 ∧ mostAt t m = -1 by unfold mostA mostAt; rw [show okM t m = false from by unfold okM; rw [decide_eq_false hm, Bool.and_false]]; exact ⟨rfl, rfl, rfl⟩)
      replace hm := Lib.hid hm
      replace hok := Lib.hid hok
      go_wp2
      go_ret3
      exact ⟨ret_iib HN.out.2.1.symm HN.out.2.2.symm HN.out.1.symm, hB.out⟩
end Go.Proofs.Ytebfoofiaokhdaa
