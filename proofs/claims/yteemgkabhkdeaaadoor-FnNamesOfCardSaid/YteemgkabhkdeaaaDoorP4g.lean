/-
  The contract of the program's NamesOf.
-/
import Derived.Test.YteemgkabhkdeaaaDoorP3f
import Derived.Test.YteemgkabhkdeaaaDoorR9
namespace Go.Proofs.YteemgkabhkdeaaaDoor
open Go.RowKit

set_option maxRecDepth 100000 in
set_option maxHeartbeats 4000000 in
theorem implNamesOf_any (v : Value) (t : Tg) (a b : Int) (w : World) (h : Tng w v t) (hf : t.Fine) (ha : -9223372036854775808 ≤ a ∧ a ≤ 9223372036854775807) (hb : -9223372036854775808 ≤ b ∧ b ≤ 9223372036854775807) :
    Calls Tryd.prog 12 #[v, .int .i64 a, .int .i64 b] w (RetStrs w (namesOf t a b)) := by
  obtain ⟨i0, hi, hz0, hz1, hz2⟩ := info_parts str_info
  obtain ⟨A1, c1, A2, c2, A3, c3, rfl, -⟩ := h.ex
  have hB := (Below.refl w.heap.size w).alloc (Nat.le_refl _) (.cells #[.slice A1 t.us.length c1, .slice A2 t.bs.length c2, .slice A3 t.ns.length c3] 26)
  have HX := Blk.new w 26 #[.slice A1 t.us.length c1, .slice A2 t.bs.length c2, .slice A3 t.ns.length c3]
  have HT := h.below hB (Nat.le_refl _)
  replace hB := Lib.hid hB
  replace HX := Lib.hid HX
  replace HT := Lib.hid HT
  clear h
  go_enter Tryd.func12, Tryd.ntmps12
  go_upto_region 1 with (fail)
  generalize w.alloc (.cells #[.slice A1 t.us.length c1, .slice A2 t.bs.length c2, .slice A3 t.ns.length c3] 26) = W at *
  have hXc := Lib.hid (fun W' (h : Below W.heap.size W W') => blk3 (HX.out.below h HX.out.lt))
  have KT := Lib.hid (fun n W' (h : Below W.heap.size W W') hn => implTextOf_any _ t n W' (HT.out.below h (Nat.le_refl _)) hf hn)
  by_cases h1 : a < 1
  · have HN := Lib.hid (names_no (t := t) (show spanOk a b = false from decide_eq_false (by omega)))
    go_wp2
    go_ret
    exact ⟨_, rfl, by rw [HN.out]; exact owns_none _ _ _, hB.out⟩
  · by_cases h2 : 99999 < b
    · have HN := Lib.hid (names_no (t := t) (show spanOk a b = false from decide_eq_false (by omega)))
      go_wp2
      go_ret
      exact ⟨_, rfl, by rw [HN.out]; exact owns_none _ _ _, hB.out⟩
    · by_cases h4 : b < a
      · have HN := Lib.hid (names_no (t := t) (show spanOk a b = false from decide_eq_false (by omega)))
        go_wp2
        go_ret
        exact ⟨_, rfl, by rw [HN.out]; exact owns_none _ _ _, hB.out⟩
      · by_cases h3 : 200 ≤ b - a
        · have HN := Lib.hid (names_no (t := t) (show spanOk a b = false from decide_eq_false (by omega)))
          go_wp2
          go_ret
          exact ⟨_, rfl, by rw [HN.out]; exact owns_none _ _ _, hB.out⟩
        · have HY := Lib.hid (show spanOk a b = true from decide_eq_true (by omega))
          obtain ⟨L, hL⟩ : ∃ L : Nat, (b + 1 - a).toNat = L := ⟨_, rfl⟩
          have HG := Lib.hid (fun k (hk : k < L) => names_gap (t := t) (a := a) (b := b) (k := k) (by omega))
          have HW := Lib.hid (fun (h : fullTo t a L = true) => names_yes (t := t) (a := a) (b := b) HY.out (by rw [hL]; exact h))
          rw [hL] at HW
          have hL1 : (L : Int) = b + 1 - a := by omega
          have hL2 : L ≤ 200 := by omega
          have hmk := run_make_rowN (P := Tryd.prog) 23 9 i0 _ Tryd.underlying23 hi hz0 .i64 .i64 0 L (Nat.zero_le _) (by rw [hz2]; omega) (by omega) W
          have hw1 : IntKind.i64.wrap (b - a) = b - a := IntWalk.i64_in _ (by omega)
          have hw2 : IntKind.i64.wrap (b - a + 1) = b - a + 1 := IntWalk.i64_in _ (by omega)
          rw [show (L : Int) = b - a + 1 by omega] at hmk
          simp only [Int.natCast_zero] at hmk
          have hM0 := Lib.hid (World.ownsRow_made (base := W.heap.size) (e := 9) (size := 1) W (madeCells #[.string ByteArray.empty] L) L (Nat.le_refl _) (by unfold maxLen; omega) (by simp [madeCells]))
          replace hL1 := Lib.hid hL1
          go_upto_region 4 with (fail)
          go_wp2
          go_loopw [7, 8] (fun s7 s8 wr => ∃ k : Nat, k ≤ L ∧ s8 = .int .i64 (a + k) ∧ fullTo t a k = true ∧ OwnStrs wr W.heap.size s7 (namesTo t a k) ∧ Below W.heap.size W wr) (fun _ s8 _ => L - (intOf s8 - a).toNat)
          case atStart => exact ⟨0, Nat.zero_le _, by simp, rfl, hM0.out, (Below.refl _ _).alloc (Nat.le_refl _) _⟩
          case round =>
            obtain ⟨k, hk, rfl, hfk, ho, hBr⟩ := hrel
            obtain ⟨x0, x1, x2, -, -, -⟩ := hXc.out _ hBr
            by_cases hlt : k < L
            · have KT1 := Lib.hid (KT.out (a + k) wr hBr (by omega))
              have HG1 := Lib.hid (HG.out k hlt)
              have HF : fullTo t a (k + 1) = (fullTo t a k && decide (textOf t (a + k) ≠ ⟨#[]⟩)) := rfl
              have HN : namesTo t a (k + 1) = namesTo t a k ++ [textOf t (a + k)] := rfl
              have hlen := Lib.hid (namesTo_len t a k)
              rw [hfk, Bool.true_and] at HF
              generalize textOf t (a + k) = tx at *
              generalize namesTo t a k = out at *
              obtain ⟨A5, c5, rfl, -⟩ := ho.strs
              replace ho := Lib.hid ho
              replace hBr := Lib.hid hBr
              replace HF := Lib.hid HF
              replace HN := Lib.hid HN
              have m1 := Lib.hid (show out.length + 1 ≤ maxLen by have := hlen.out; unfold maxLen; omega)
              have m2 := Lib.hid (show (out.length + 1) * 16 ≤ 140737488355328 by have := hlen.out; omega)
              have hlt' : a + (k : Int) ≤ b := by omega
              go_wp2_with (fail)
              refine KT1.out.mono ?_
              rintro e w2 ⟨rfl, b2⟩
              have ho2 := Lib.hid (ho.out.below b2 (Nat.le_refl _))
              have hB2 := Lib.hid (hBr.out.trans (b2.mono hBr.out.size))
              clear b2
              by_cases he : tx = ⟨#[]⟩
              · have hx1 : tx.toList.isEmpty = true := by rw [empty_list]; exact decide_eq_true he
                have hno := Lib.hid (HG1.out he)
                replace he := Lib.hid he
                go_wp2
                go_ret
                exact ⟨_, rfl, by rw [hno.out]; exact owns_none _ _ _, hB.out.trans (hB2.out.mono hB.out.size)⟩
              · have hx1 : tx.toList.isEmpty = false := by rw [empty_list]; exact decide_eq_false he
                have hF1 := Lib.hid (show fullTo t a (k + 1) = true by rw [HF.out]; exact decide_eq_true he)
                replace he := Lib.hid he
                go_wp2_with (at_builtin; refine wpList_app _ rfl (.tmp 43) (.tmp 45) _ rfl W.heap.size 9 i0 _ 16 Tryd.underlying23 hi hz0 hz1 hz2 rfl (.slice A5 out.length c5) _ _ rfl (World.ownsRow.alloc ho2.out _) (some ⟨w2.heap.size, 0, none⟩) 1 1 [.string tx] rfl (Src.one (Blk.new _ _ _) rfl) m1.out m2.out (by have := hB2.out.size; simp; omega) ?_; intro v6 w6 ho6 hg6 _)
                have hB6 := Lib.hid (below_own (hB2.out.alloc hB2.out.size _) (World.ownsRow.alloc ho2.out _) hg6 (by have := hB2.out.size; simp; omega) (Nat.le_refl _))
                have ho7 := Lib.hid (own_snoc4 ho6)
                clear ho6 hg6
                go_wp2
                go_roundw
                case rel => exact ⟨k + 1, by omega, by go_num, hF1.out, by rw [HN.out]; exact ho7.out, hB6.out⟩
                case measure => simp [intOf]; omega
            · obtain rfl : k = L := by omega
              have hyes := Lib.hid (HW.out hfk)
              have hlt' : ¬ a + (k : Int) ≤ b := by omega
              obtain ⟨A5, c5, rfl, -⟩ := ho.strs
              replace ho := Lib.hid ho
              replace hBr := Lib.hid hBr
              go_wp2
              go_ret
              exact ⟨_, rfl, by rw [hyes.out]; exact ho.out.mono hB.out.size, hB.out.trans (hBr.out.mono hB.out.size)⟩
end Go.Proofs.YteemgkabhkdeaaaDoor
