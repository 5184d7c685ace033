/-
  Contracts of TurnedName and IsTurned of the model.
-/
import Derived.Test.YtbckckicffjccaaU2
namespace Go.Proofs.Ytbckckicffjccaa
open Go.RowKit

theorem turned_none2 {w w1 : World} {t : Tg} {n : Int} {x : ByteArray} (hb : Below w.heap.size w w1) (h : askT t n x = false) : RetStrs2 w (turnedOf t n x) (turnedB t n x) (.returned (.tuple #[.slice (some ⟨w1.heap.size, 0, none⟩) 0 0, .bool false])) (w1.alloc (.cells #[] 9)) :=
  ⟨_, by rw [(ask_no h).2.1], by rw [(ask_no h).1]; exact owns_empty (Blk.new _ _ _) hb.size, hb.alloc hb.size _⟩

set_option maxRecDepth 100000 in
set_option maxHeartbeats 2000000 in
theorem specTurnedName_any (v : Value) (t : Tg) (n : Int) (x : ByteArray) (w : World) (h : Tng w v t) (hf : t.Fine) (_hn : -9223372036854775808 ≤ n ∧ n ≤ 9223372036854775807) (hx : x.size ≤ maxLen) :
    Calls Try.prog 11 #[v, .int .i64 n, .string x] w (RetStrs2 w (turnedOf t n x) (turnedB t n x)) := by
  obtain ⟨A1, c1, A2, c2, A3, c3, rfl, -⟩ := h.ex
  have hB := (Below.refl w.heap.size w).alloc (Nat.le_refl _) (.cells #[.slice A1 t.us.length c1, .slice A2 t.bs.length c2, .slice A3 t.ns.length c3] 26)
  have HX := Blk.new w 26 #[.slice A1 t.us.length c1, .slice A2 t.bs.length c2, .slice A3 t.ns.length c3]
  have HT := h.below hB (Nat.le_refl _)
  have K1 := Lib.hid (specFits_any _ t x _ HT hf hx)
  replace hB := Lib.hid hB
  replace HX := Lib.hid HX
  replace HT := Lib.hid HT
  clear h hf
  go_enter Try.func11, Try.ntmps11
  go_upto_region 1 with (fail)
  generalize w.alloc (.cells #[.slice A1 t.us.length c1, .slice A2 t.bs.length c2, .slice A3 t.ns.length c3] 26) = W at *
  obtain ⟨x0, x1, x2, -, -, -⟩ := blk3 HX.out
  go_wp2_with (fail)
  refine K1.out.mono ?_
  rintro e w1 ⟨rfl, b1⟩
  replace hB := Lib.hid (hB.out.trans (b1.mono hB.out.size))
  replace HX := Lib.hid (HX.out.below b1 HX.out.lt)
  replace HT := Lib.hid (HT.out.below b1 (Nat.le_refl _))
  clear b1 x0 x1 x2 K1
  obtain ⟨x0, x1, x2, -, -, -⟩ := blk3 HX.out
  cases hfi : fitsT t x
  · have hno : askT t n x = false := ask_of hfi rfl
    replace hno := Lib.hid hno
    replace hfi := Lib.hid hfi
    go_wp2
    go_ret2
    exact turned_none2 hB.out hno.out
  · by_cases hd : 1 ≤ n ∧ n ≤ 99999
    · obtain ⟨hd1, hd2⟩ := hd
      obtain ⟨m, rfl⟩ : ∃ m : Nat, n = m := ⟨n.toNat, by omega⟩
      obtain ⟨hok, hl2, hne, -, -⟩ := fits_parts hfi
      have hyes : askT t m x = true := ask_of hfi (decide_eq_true ⟨hd1, hd2⟩)
      have K2 := Lib.hid (specTurn_any hok hl2 hne m (by omega) (by omega) _ x w1 HT.out)
      have hdb : decide (1 ≤ (m : Int) ∧ (m : Int) ≤ 99999) = true := decide_eq_true ⟨hd1, hd2⟩
      replace hyes := Lib.hid hyes
      replace hok := Lib.hid hok
      replace hne := Lib.hid hne
      replace hfi := Lib.hid hfi
      go_wp2_with (fail)
      refine (in_any _ _ _ _).mono ?_
      rintro e _ ⟨rfl, rfl⟩
      rw [hdb]
      clear hdb
      go_wp2_with (fail)
      refine K2.out.mono ?_
      rintro e w3 ⟨v3, rfl, o3, b3⟩
      obtain ⟨A, c, rfl, -⟩ := o3.strs
      have HR : RetStrs2 w (turnedOf t m x) (turnedB t m x) (.returned (.tuple #[.slice A (turnT t x m).length c, .bool (decide (0 < (turnT t x m).length))])) w3 :=
        ⟨_, by unfold turnedB; rw [ask_yes hyes.out], by rw [ask_yes hyes.out]; exact o3.mono hB.out.size, hB.out.trans (b3.mono hB.out.size)⟩
      replace HR := Lib.hid HR
      clear o3 b3 x0 x1 x2
      generalize turnT t x m = xs at *
      generalize xs.length = L at *
      go_wp2
      go_ret2
      exact HR.out
    · have hno : askT t n x = false := ask_of hfi (decide_eq_false hd)
      have hdb := decide_eq_false hd
      replace hno := Lib.hid hno
      replace hfi := Lib.hid hfi
      replace hd := Lib.hid hd
      go_wp2_with (fail)
      refine (in_any _ _ _ _).mono ?_
      rintro e _ ⟨rfl, rfl⟩
      rw [hdb]
      clear hdb
      go_wp2
      go_ret2
      exact turned_none2 hB.out hno.out

theorem has_go {l : List ByteArray} {x : ByteArray} {k : Nat} (h : noneTo l x k) (e : ¬ l.getD k ByteArray.empty = x) : noneTo l x (k + 1) := none_go h e
theorem has_end {l : List ByteArray} {x : ByteArray} (h : noneTo l x l.length) : hasB l x = false := by unfold hasB; rw [place_none h]; simp
theorem has_at {l : List ByteArray} {x : ByteArray} {k : Nat} (hk : k < l.length) (e : l.getD k ByteArray.empty = x) : hasB l x = true := by
  rw [hasB_iff, ← e, List.getD_eq_getElem?_getD, List.getElem?_eq_getElem hk]; exact List.getElem_mem hk

set_option maxRecDepth 100000 in
set_option maxHeartbeats 2000000 in
theorem specIsTurned_any (v : Value) (t : Tg) (n : Int) (x : ByteArray) (w : World) (h : Tng w v t) (hf : t.Fine) (hn : -9223372036854775808 ≤ n ∧ n ≤ 9223372036854775807) (hx : x.size ≤ maxLen) :
    Calls Try.prog 20 #[v, .int .i64 n, .string x] w fun e w' => e = .returned (.bool (isTurnedB t n x)) ∧ Below w.heap.size w w' := by
  obtain ⟨A1, c1, A2, c2, A3, c3, rfl, -⟩ := h.ex
  have hB := (Below.refl w.heap.size w).alloc (Nat.le_refl _) (.cells #[.slice A1 t.us.length c1, .slice A2 t.bs.length c2, .slice A3 t.ns.length c3] 26)
  have HX := Blk.new w 26 #[.slice A1 t.us.length c1, .slice A2 t.bs.length c2, .slice A3 t.ns.length c3]
  have HT := h.below hB (Nat.le_refl _)
  have K1 := Lib.hid (specTurnedName_any _ t n x _ HT hf hn hx)
  have hlen := turned_len t n x
  replace hB := Lib.hid hB
  replace HX := Lib.hid HX
  have HI : isTurnedB t n x = hasB (turnedOf t n x) x := rfl
  replace HI := Lib.hid HI
  clear h hf HT
  go_enter Try.func20, Try.ntmps20
  go_upto_region 1 with (fail)
  generalize w.alloc (.cells #[.slice A1 t.us.length c1, .slice A2 t.bs.length c2, .slice A3 t.ns.length c3] 26) = W at *
  obtain ⟨x0, x1, x2, -, -, -⟩ := blk3 HX.out
  go_wp2_with (fail)
  refine K1.out.mono ?_
  rintro e w1 ⟨v1, rfl, o1, b1⟩
  obtain ⟨A4, c4, rfl, s4⟩ := o1.strs
  replace hB := Lib.hid (hB.out.trans (b1.mono hB.out.size))
  have HA := Lib.hid s4.at_
  clear b1 x0 x1 x2 K1 o1 s4 HX
  generalize turnedOf t n x = l at *
  generalize turnedB t n x = tb at *
  have HN := Lib.hid (has_end (l := l) (x := x))
  have HY := Lib.hid (fun k hk e => has_at (l := l) (x := x) (k := k) hk e)
  generalize hL : l.length = L at *
  replace hL := Lib.hid hL
  go_wp2
  go_loop [9] (fun s9 => ∃ k : Nat, k ≤ L ∧ s9 = .int .i64 k ∧ noneTo l x k) (fun i => L - (intOf i).toNat)
  case atStart => exact ⟨0, Nat.zero_le _, rfl, fun i hi => absurd hi (by omega)⟩
  case round =>
    obtain ⟨k, hk, rfl, hno⟩ := hrel
    by_cases hlt : k < L
    · obtain ⟨b, o, rfl, -, hc⟩ := HA.out (by omega)
      have ck := hc k hlt
      have HNk := Lib.hid (has_go hno)
      have HYk := Lib.hid (HY.out k (by first | exact hlt | (rw [hL.out]; exact hlt)))
      generalize l.getD k ByteArray.empty = y at *
      clear hc hno
      by_cases e : y = x
      · have he : (y.toList == x.toList) = true := by rw [str_eq]; exact decide_eq_true e
        have hr : isTurnedB t n x = true := by rw [HI.out]; exact HYk.out e
        replace hr := Lib.hid hr
        replace e := Lib.hid e
        go_wp2
        go_ret
        exact ⟨ret_bool hr.out.symm, hB.out⟩
      · have he : (y.toList == x.toList) = false := by rw [str_eq]; exact decide_eq_false e
        have hg := Lib.hid (HNk.out e)
        replace e := Lib.hid e
        go_wp2
        go_round
        case rel => exact ⟨k + 1, by omega, by go_num, hg.out⟩
        case measure => simp [intOf]; omega
    · obtain rfl : k = L := by omega
      have hr : isTurnedB t n x = false := by rw [HI.out]; exact HN.out (by first | exact hno | (rw [hL.out]; exact hno))
      replace hr := Lib.hid hr
      clear hno
      go_wp2
      go_ret
      exact ⟨ret_bool hr.out.symm, hB.out⟩
end Go.Proofs.Ytbckckicffjccaa
