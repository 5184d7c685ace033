/-
  The contract of TrueOnes of the program.
-/
import Derived.Test.YtfnpkmlgklameaaM1
import Derived.Test.YtfnpkmlgklameaaLK
namespace Go.Proofs.Ytfnpkmlgklameaa
open Go.RowKit

set_option maxRecDepth 100000 in
set_option maxHeartbeats 4000000 in
theorem implTrueOnes_any (v : Value) (t : Tg) (m : Int) (w : World) (h : Tng w v t) (hf : t.Fine) (_hn : -9223372036854775808 ≤ m ∧ m ≤ 9223372036854775807) :
    Calls Try.prog 30 #[v, .int .i64 m] w (RetO1 w (trueF (lettersOf t) m)) := by
  obtain ⟨i0, hi, hz0, hz1, hz2⟩ := info_parts int_info
  obtain ⟨A1, c1, A2, c2, A3, c3, rfl, -⟩ := h.ex
  have hB := (Below.refl w.heap.size w).alloc (Nat.le_refl _) (.cells #[.slice A1 t.us.length c1, .slice A2 t.bs.length c2, .slice A3 t.ns.length c3] 26)
  have HX := Blk.new w 26 #[.slice A1 t.us.length c1, .slice A2 t.bs.length c2, .slice A3 t.ns.length c3]
  have HT := h.below hB (Nat.le_refl _)
  have KL := Lib.hid (fun x W (hT : Tng W (.agg #[.slice A1 t.us.length c1, .slice A2 t.bs.length c2, .slice A3 t.ns.length c3]) t) hx => implLettersOf_any _ t x W hT hf hx)
  generalize lettersOf t = f at *
  replace hB := Lib.hid hB
  replace HX := Lib.hid HX
  replace HT := Lib.hid HT
  clear h hf
  go_enter Try.func30, Try.ntmps30
  go_upto_region 1 with (fail)
  generalize w.alloc (.cells #[.slice A1 t.us.length c1, .slice A2 t.bs.length c2, .slice A3 t.ns.length c3] 26) = W at *
  have HO := Lib.hid (owns_none W W.heap.size 3)
  by_cases hm : 1 ≤ m ∧ m ≤ 500
  · obtain ⟨hm1, hm2⟩ := hm
    obtain ⟨M, rfl⟩ : ∃ M : Nat, m = M := ⟨m.toNat, by omega⟩
    have hE := Lib.hid (trueF_in (f := f) (m := M) (by omega))
    have n1 : ¬ (M : Int) < 1 := by omega
    have n2 : ¬ 500 < (M : Int) := by omega
    go_wp2
    go_loopw [5, 6] (fun s5 s6 wr => ∃ k : Nat, k ≤ M ∧ s6 = .int .i64 ((k : Int) + 1) ∧ OwnI wr W.heap.size s5 (trueTo f k) ∧ Below W.heap.size W wr) (fun _ s6 _ => M + 1 - (intOf s6).toNat)
    case atStart => exact ⟨0, Nat.zero_le _, rfl, HO.out, Below.refl _ _⟩
    case round =>
      obtain ⟨k, hk, rfl, ho, hBr⟩ := hrel
      have hwB := hB.out.trans (hBr.mono hB.out.size)
      by_cases hlt : k < M
      · have KL1 := Lib.hid (KL.out ((k : Int) + 1) wr (HT.out.below hBr (Nat.le_refl _)) (by omega))
        obtain ⟨x0, x1, x2, -, -, -⟩ := blk3 (HX.out.below hBr HX.out.lt)
        obtain ⟨A5, c5, rfl, -⟩ := ho.ints
        have hY := Lib.hid (fun h => true_yes (f := f) (k := k) h)
        have hN := Lib.hid (fun h => true_no (f := f) (k := k) h)
        have hln := true_len f k
        generalize f ((k : Int) + 1) = y at *
        generalize hout : trueTo f k = out at *
        replace hout := Lib.hid hout
        replace ho := Lib.hid ho
        replace hBr := Lib.hid hBr
        have hlt' : (k : Int) + 1 ≤ (M : Int) := by omega
        have e1 : IntKind.i64.wrap ((k : Int) + 1 + 1) = (k : Int) + 1 + 1 := IntWalk.i64_in _ (by omega)
        clear hwB
        go_wp2_with (fail)
        refine KL1.out.mono ?_
        rintro e w2 ⟨rfl, b2⟩
        have ho2 := Lib.hid (ho.out.below b2 (Nat.le_refl _))
        have hB2 := Lib.hid (hBr.out.trans (b2.mono hBr.out.size))
        have hsz := hB2.out.size
        clear b2 ho hBr x0 x1 x2
        by_cases he : y = (k : Int) + 1
        · have hyy : (y == (k : Int) + 1) = true := by rw [beq_iff_eq]; exact he
          have hT1 := Lib.hid (hY.out he)
          have m1 := Lib.hid (show out.length + 1 ≤ maxLen by unfold maxLen; omega)
          have m2 := Lib.hid (show (out.length + 1) * 8 ≤ 140737488355328 by omega)
          have ho3 : Hid (w2.ownsRow W.heap.size 3 1 (.slice A5 out.length c5) out.length (out.map (Value.int .i64))) := ho2.out
          clear he
          go_wp2_with (at_builtin; refine wpList_app _ rfl (.tmp 23) (.tmp 25) _ rfl W.heap.size 3 i0 _ 8 Try.underlying24 hi hz0 hz1 hz2 rfl (.slice A5 out.length c5) _ _ rfl (World.ownsRow.alloc ho3.out _) (some ⟨w2.heap.size, 0, none⟩) 1 1 [.int .i64 ((k : Int) + 1)] rfl (Src.one (Blk.new _ _ _) rfl) m1.out m2.out (by simp; omega) ?_; intro v6 w6 ho6 hg6 _)
          have hB6 := Lib.hid (below_own (hB2.out.alloc hB2.out.size _) (World.ownsRow.alloc ho3.out _) hg6 (by simp; omega) (Nat.le_refl _))
          have ho7 := Lib.hid (own_snocW ho6)
          clear ho6 hg6
          go_wp2
          go_roundw
          case rel => exact ⟨k + 1, by omega, by go_num, by rw [hT1.out]; exact ho7.out, hB6.out⟩
          case measure => simp [intOf]; omega
        · have hyy : (y == (k : Int) + 1) = false := by rw [beq_eq_false_iff_ne]; exact he
          have hT1 := Lib.hid (hN.out he)
          clear he
          go_wp2
          go_roundw
          case rel => exact ⟨k + 1, by omega, by go_num, by rw [hT1.out]; exact ho2.out, hB2.out⟩
          case measure => simp [intOf]; omega
      · obtain rfl : k = M := by omega
        obtain ⟨A5, c5, rfl, -⟩ := ho.ints
        replace ho := Lib.hid ho
        replace hwB := Lib.hid hwB
        have hlt' : ¬ (k : Int) + 1 ≤ (k : Int) := by omega
        clear hBr
        go_wp2
        go_ret
        exact ⟨_, rfl, by rw [hE.out]; exact ho.out.mono hB.out.size, hwB.out⟩
  · have hE := Lib.hid (trueF_out (f := f) (m := m) (by omega))
    by_cases h1 : m < 1
    · clear hm
      go_wp2
      go_ret
      exact ⟨_, rfl, by rw [hE.out]; exact (HO.out : OwnI _ _ _ []).mono hB.out.size, hB.out⟩
    · have h2 : 500 < m := by omega
      clear hm
      go_wp2
      go_ret
      exact ⟨_, rfl, by rw [hE.out]; exact (HO.out : OwnI _ _ _ []).mono hB.out.size, hB.out⟩
end Go.Proofs.Ytfnpkmlgklameaa
