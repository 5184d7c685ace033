/-
  PlaceOf of the program.
-/
import Derived.Test.YtjggdlnbfoglaaaY3
namespace Go.Proofs.Ytjggdlnbfoglaaa
open Go.RowKit Go.Sort

/-- What the program counts: the numbers whose texts are before that of one among them. -/
theorem place_of (t : Tg) (n m : Int) : placeF t n m = if 1 ≤ n ∧ n ≤ ((textsF t m).length : Int) then (cntF (tx t) n (textsF t m).length : Int) else -1 := by
  rcases texts_cases t m with ⟨h1, h2⟩ | ⟨M, rfl, h1, h2, h3, h4, h5, -⟩
  · rw [h1, place_no (by rw [h2]; simp), if_neg (by simp; omega)]
  · rw [h5]
    by_cases hn : 1 ≤ n ∧ n ≤ (M : Int)
    · rw [if_pos hn, place_yes (h4.mem.2 hn), h4.len]
    · rw [if_neg hn, place_no (fun hh => hn (h4.mem.1 hh))]

set_option maxRecDepth 100000 in
set_option maxHeartbeats 4000000 in
theorem implPlaceOf_any (v : Value) (t : Tg) (n m : Int) (w : World) (h : Tng w v t) (hf : t.Fine) (hn : -9223372036854775808 ≤ n ∧ n ≤ 9223372036854775807) (hm : -9223372036854775808 ≤ m ∧ m ≤ 9223372036854775807) :
    Calls Try.prog 32 #[v, .int .i64 n, .int .i64 m] w fun e w' => e = .returned (.int .i64 (placeF t n m)) ∧ Below w.heap.size w w' := by
  obtain ⟨A1, c1, A2, c2, A3, c3, rfl, -⟩ := h.ex
  have hB := (Below.refl w.heap.size w).alloc (Nat.le_refl _) (.cells #[.slice A1 t.us.length c1, .slice A2 t.bs.length c2, .slice A3 t.ns.length c3] 26)
  have HX := Blk.new w 26 #[.slice A1 t.us.length c1, .slice A2 t.bs.length c2, .slice A3 t.ns.length c3]
  have HT := h.below hB (Nat.le_refl _)
  have K1 := implTexts_any _ t m _ HT hf hm
  have hTl := texts_len t m
  have hP := place_of t n m
  have hat := fun j hj => texts_at t m (j := j) hj
  generalize textsF t m = T at *
  generalize placeF t n m = r at *
  replace hP := Lib.hid hP
  replace hat := Lib.hid hat
  replace K1 := Lib.hid K1
  replace hB := Lib.hid hB
  replace HX := Lib.hid HX
  clear h hf HT
  go_enter Try.func32, Try.ntmps32
  go_upto_region 1 with (fail)
  generalize w.alloc (.cells #[.slice A1 t.us.length c1, .slice A2 t.bs.length c2, .slice A3 t.ns.length c3] 26) = W at *
  obtain ⟨x0, x1, x2, -, -, -⟩ := blk3 HX.out
  go_wp2_with (fail)
  refine K1.out.mono ?_
  rintro e w1 ⟨v1, rfl, o1, b1⟩
  obtain ⟨A, c, rfl, hs⟩ := o1.strs
  have hB1 := Lib.hid (hB.out.trans (b1.mono hB.out.size))
  clear b1 x0 x1 x2 K1 o1 HX hB
  obtain ⟨L, hL⟩ : ∃ L, T.length = L := ⟨_, rfl⟩
  rw [hL] at hs hP hat hTl ⊢
  replace hs := Lib.hid hs
  replace hL := Lib.hid hL
  by_cases h1 : n < 1
  · have hr : Hid (r = -1) := Lib.hid (by rw [hP.out, if_neg (by omega)])
    go_wp2
    go_ret
    exact ⟨ret_int hr.out.symm, hB1.out⟩
  · by_cases h2 : (L : Int) < n
    · have hr : Hid (r = -1) := Lib.hid (by rw [hP.out, if_neg (by omega)])
      go_wp2
      go_ret
      exact ⟨ret_int hr.out.symm, hB1.out⟩
    · obtain ⟨p, rfl⟩ : ∃ p : Nat, n = (p : Int) + 1 := ⟨(n - 1).toNat, by omega⟩
      have hp : p < L := by omega
      have hr : Hid (r = (cntF (tx t) ((p : Int) + 1) L : Int)) := Lib.hid (by rw [hP.out, if_pos (by omega)])
      have e1 : IntKind.i64.wrap ((p : Int) + 1 - 1) = (p : Int) := by rw [show (p : Int) + 1 - 1 = (p : Int) by omega]; exact IntWalk.i64_in _ (by omega)
      have e2 : IntKind.i64.wrap (p : Int) = (p : Int) := IntWalk.i64_in _ (by omega)
      have f1 : (p : Int) < (L : Int) := by omega
      obtain ⟨b, o, rfl, -, hc⟩ := hs.out.at_ (by omega)
      have cp := hc p hp
      have hlts := fun k (hk : k < L) => (txt_lt (T.getD k ByteArray.empty) (T.getD p ByteArray.empty)).trans (show _ = decide (tx t ((k : Int) + 1) < tx t ((p : Int) + 1)) by rw [hat.out k hk, hat.out p hp]; rfl)
      have hcl := Lib.hid (fun k => cntF_le (tx t) ((p : Int) + 1) k)
      have KY := Lib.hid (fun k h => cntF_yes (f := tx t) (n := (p : Int) + 1) (k := k) h)
      have KN := Lib.hid (fun k h => cntF_no (f := tx t) (n := (p : Int) + 1) (k := k) h)
      replace hc := Lib.hid hc
      replace hlts := Lib.hid hlts
      clear hP hat h1 hn hm
      generalize hy : T.getD p ByteArray.empty = y at *
      replace hy := Lib.hid hy
      go_wp2
      go_loop [8, 10, 24] (fun s8 _ s24 => ∃ k : Nat, k ≤ L ∧ s24 = .int .i64 k ∧ s8 = .int .i64 (cntF (tx t) ((p : Int) + 1) k)) (fun _ _ s24 => L - (intOf s24).toNat)
      case atStart => exact ⟨0, Nat.zero_le _, rfl, rfl⟩
      case round =>
        obtain ⟨k, hk, rfl, rfl⟩ := hrel
        by_cases hlt : k < L
        · have ck := hc.out k hlt
          have hle := hcl.out k
          have hq := hlts.out k hlt
          have hky := KY.out k
          have hkn := KN.out k
          have hlt' : (k : Int) < (L : Int) := by omega
          have e3 : IntKind.i64.wrap ((k : Int) + 1) = (k : Int) + 1 := IntWalk.i64_in _ (by omega)
          by_cases he : tx t ((k : Int) + 1) < tx t ((p : Int) + 1)
          · have hv := hky he
            rw [decide_eq_true he] at hq
            generalize T.getD k ByteArray.empty = x at *
            generalize cntF (tx t) ((p : Int) + 1) k = a1 at *
            have e4 : IntKind.i64.wrap ((a1 : Int) + 1) = (a1 : Int) + 1 := IntWalk.i64_in _ (by omega)
            replace hv := Lib.hid hv
            clear hky hkn he
            go_wp2
            go_round
            case rel => exact ⟨k + 1, by omega, by go_num, by rw [hv.out]; rfl⟩
            case measure => simp [intOf]; omega
          · have hv := hkn he
            rw [decide_eq_false he] at hq
            generalize T.getD k ByteArray.empty = x at *
            generalize cntF (tx t) ((p : Int) + 1) k = a1 at *
            replace hv := Lib.hid hv
            clear hky hkn he
            go_wp2
            go_round
            case rel => exact ⟨k + 1, by omega, by go_num, by rw [hv.out]⟩
            case measure => simp [intOf]; omega
        · obtain rfl : k = L := by omega
          have hlt' : ¬ (k : Int) < (k : Int) := by omega
          go_wp2
          go_ret
          exact ⟨ret_int hr.out.symm, hB1.out⟩
end Go.Proofs.Ytjggdlnbfoglaaa
