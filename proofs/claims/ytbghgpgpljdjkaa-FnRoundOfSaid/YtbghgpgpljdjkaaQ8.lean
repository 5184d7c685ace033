/-
  The model's RoundOf.
-/
import Derived.Test.YtbghgpgpljdjkaaQ3
namespace Go.Proofs.Ytbghgpgpljdjkaa
open Go.RowKit

/-- The last m letters, the last one first. -/
def revTo (u : ByteArray) (m : Nat) : ByteArray := ⟨((tl u).reverse.take m).toArray⟩
theorem revTo_tl (u : ByteArray) (m : Nat) : tl (revTo u m) = (tl u).reverse.take m := by simp [revTo, tl]
theorem revTo_zero (u : ByteArray) : revTo u 0 = ByteArray.empty := tl_inj (by rw [revTo_tl]; rfl)
theorem revTo_end (u : ByteArray) : revTo u u.size = rev u := tl_inj (by
  rw [revTo_tl, rev_tl, List.take_of_length_le]
  rw [List.length_reverse, tl_len]; exact Nat.le_refl _)
theorem revTo_size {u : ByteArray} {m : Nat} (h : m ≤ u.size) : (revTo u m).size = m := by
  rw [← tl_len, revTo_tl, List.length_take, List.length_reverse, tl_len]; omega
theorem revTo_go {u : ByteArray} {m : Nat} (h : m < u.size) : revTo u m ++ u.extract (u.size - 1 - m) (u.size - 1 - m + 1) = revTo u (m + 1) := tl_inj (by
  have hl : m < (tl u).reverse.length := by rw [List.length_reverse, tl_len]; exact h
  have h2 : u.size - 1 - m < (tl u).length := by rw [tl_len]; omega
  rw [tl_app, revTo_tl, revTo_tl, tl_ext, List.take_succ_eq_append_getElem hl, List.getElem_reverse, show u.size - 1 - m + 1 - (u.size - 1 - m) = 1 by omega, List.drop_eq_getElem_cons h2]
  simp)
theorem round_go {l : List ByteArray} {k : Nat} (hk : k < l.length) : (l.take k).map rev ++ [rev (l.getD k ByteArray.empty)] = (l.take (k + 1)).map rev := by
  rw [List.take_succ_eq_append_getElem hk, List.map_append]
  simp [List.getD_eq_getElem?_getD, hk]

set_option maxRecDepth 100000 in
set_option maxHeartbeats 2000000 in
theorem specRoundOf_any (A : Option Addr) (n c : Nat) (l : List ByteArray) (w : World) (h : Strs w A n c l) (hn : n ≤ 2097152) (hs : ∀ x ∈ l, x.size ≤ 1048576) :
    Calls Try.prog 44 #[.slice A n c] w (RetStrs w (roundOf l)) := by
  obtain ⟨i0, hi, hz0, hz1, hz2⟩ := info_parts str_info
  have HC := Lib.hid (fun W (hb : Below w.heap.size w W) => specCodeOk_any A n c l W (h.below hb (Nat.le_refl _)) hn hs)
  obtain ⟨rfl, hcap, hat⟩ := h
  replace hat := Lib.hid hat
  have hB0 : Below w.heap.size w (w.alloc (.cells #[] 9)) := (Below.refl _ _).alloc (Nat.le_refl _) _
  have hO0 : OwnStrs (w.alloc (.cells #[] 9)) w.heap.size (.slice (some ⟨w.heap.size, 0, none⟩) 0 0) [] := owns_empty (Blk.new _ _ _) (Nat.le_refl _)
  clear hs
  cases hok : codeOk l
  · have hr : roundOf l = [] := by unfold roundOf; rw [hok]; rfl
    rw [hr]
    have HC0 := HC.out _ hB0
    rw [hok] at HC0
    replace HC0 := Lib.hid HC0
    replace hok := Lib.hid hok
    replace hO0 := Lib.hid hO0
    replace hB0 := Lib.hid hB0
    replace hr := Lib.hid hr
    by_cases h0 : 0 < l.length
    · go_enter Try.func44, Try.ntmps44
      go_wp2
      refine wp_loop_rounds 1 ?_
      rw [rounds_succ]
      go_wp2_with (fail)
      refine HC0.out.mono ?_
      rintro e _ ⟨rfl, d, rfl⟩
      go_wp2
      go_ret
      exact ⟨_, rfl, hO0.out.below (below_drewN (Below.refl _ _) d) (Nat.le_refl _), below_drewN hB0.out d⟩
    · go_enter Try.func44, Try.ntmps44
      go_wp2
      refine wp_loop_rounds 1 ?_
      rw [rounds_succ]
      go_wp2
      go_ret
      exact ⟨_, rfl, hO0.out, hB0.out⟩
  · have hr : roundOf l = l.map rev := by unfold roundOf; rw [hok]; rfl
    have hl6 := (codeOk_iff.1 hok).1.2
    have HLn := Lib.hid (fun k (hk : k < l.length) => codeOk_len hok (getD_mem hk))
    have HCb := HC.out
    rw [hok] at HCb
    replace HCb := Lib.hid HCb
    replace hok := Lib.hid hok
    have hW0 : LW w (.slice (some ⟨w.heap.size, 0, none⟩) 0 0) [] (w.alloc (.cells #[] 9)) := ⟨hO0, hB0⟩
    replace hW0 := Lib.hid hW0
    rw [hr]
    replace hr := Lib.hid hr
    clear hB0 hO0 HC
    go_enter Try.func44, Try.ntmps44
    go_wp2
    go_loopw [3, 4] (fun s3 s4 wr => ∃ (k : Nat) (out : List ByteArray), k ≤ l.length ∧ s4 = .int .i64 k ∧ LW w s3 out wr ∧ out = (l.take k).map rev ∧ out.length = k) (fun _ i _ => l.length - (intOf i).toNat)
    case atStart => exact ⟨0, [], Nat.zero_le _, rfl, hW0.out, rfl, rfl⟩
    case round =>
      clear hW0
      obtain ⟨k, out, hk, rfl, hW, hout, hol⟩ := hrel
      replace hol := Lib.hid hol
      obtain ⟨A3, c3, rfl, -⟩ := hW.own.strs
      by_cases hlt : k < l.length
      · obtain ⟨b, o, rfl, hbo, hc⟩ := hat.out (by omega)
        have ckw := Lib.hid (hc k hlt)
        have hzk := HLn.out k hlt
        have hgo := Lib.hid (round_go hlt)
        have KC := Lib.hid (HCb.out wr hW.low)
        clear hc
        generalize l.getD k ByteArray.empty = u at *
        replace hout := Lib.hid hout
        replace hW := Lib.hid hW
        go_wp2_with (fail)
        refine KC.out.mono ?_
        rintro e _ ⟨rfl, d, rfl⟩
        have hW2 := hW.out.drewN d
        have ck : (wr.drewN d).cell? ⟨b, o + k, none⟩ = some (.string u) := (hW2.low.cell (p := ⟨b, o + k, none⟩) hbo).trans ckw.out
        clear KC hW
        replace hW2 := Lib.hid hW2
        generalize wr.drewN d = W at *
        go_wp2
        go_loop [5, 6] (fun s5 s6 => ∃ m : Nat, m ≤ u.size ∧ s5 = .string (revTo u m) ∧ s6 = .int .i64 ((u.size : Int) - 1 - m)) (fun _ i => (intOf i + 1).toNat)
        case atStart => exact ⟨0, Nat.zero_le _, by rw [revTo_zero]; rfl, by simp⟩
        case round =>
          obtain ⟨m, hm, rfl, rfl⟩ := hrel
          by_cases hmt : m < u.size
          · have hg := Lib.hid (revTo_go hmt)
            have hsz := revTo_size hm
            obtain ⟨j, hj⟩ : ∃ j : Nat, j = u.size - 1 - m := ⟨_, rfl⟩
            have e1 : (u.size : Int) - 1 - m = (j : Int) := by omega
            rw [e1]
            rw [← hj] at hg
            have f1 : (j : Int) ≤ (u.size : Int) := by omega
            have f2 : (j : Int) + 1 ≤ (u.size : Int) := by omega
            have f3 : (0 : Int) ≤ (j : Int) := by omega
            have f4 : j + 1 ≤ u.size := by omega
            have f5 : (j : Int) ≤ (j : Int) + 1 := by omega
            have hcat : ¬ (9223372036854775807 < (revTo u m).size + (u.extract j (j + 1)).size) := by rw [hsz, ByteArray.size_extract]; omega
            generalize revTo u m = r at *
            replace hj := Lib.hid hj
            replace e1 := Lib.hid e1
            replace hsz := Lib.hid hsz
            go_wp2
            go_round
            case rel => exact ⟨m + 1, by omega, by rw [← hg.out], by have := hj.out; simp <;> omega⟩
            case measure => simp [intOf] <;> omega
          · obtain rfl : m = u.size := by omega
            rw [revTo_end]
            have m1 := Lib.hid (show out.length + 1 ≤ maxLen by have := hol.out; unfold maxLen; omega)
            have m2 := Lib.hid (show (out.length + 1) * 16 ≤ 140737488355328 by have := hol.out; omega)
            have hWB := hW2.out.low.size
            rw [← hout.out] at hgo
            generalize rev u = r at *
            have hneg : ¬ (0 : Int) ≤ (u.size : Int) - 1 - (u.size : Int) := by omega
            clear ck
            go_upto_region 4 with (at_builtin; refine wpList_app _ rfl (.tmp 38) (.tmp 40) _ rfl w.heap.size 9 i0 _ 16 Try.underlying23 hi hz0 hz1 hz2 rfl (.slice A3 out.length c3) _ _ rfl (World.ownsRow.alloc hW2.out.own _) (some ⟨W.heap.size, 0, none⟩) 1 1 [.string r] rfl (Src.one (Blk.new _ _ _) rfl) m1.out m2.out (by simp; omega) ?_; intro v6 w6 ho6 hg6 hat6)
            have hg0 : W.grownBy (W.alloc (.cells #[.string r] 9)) (Value.slice A3 out.length c3).ownBlock := grown_of_below _ ((Below.refl _ _).alloc (Nat.le_refl _) _)
            have ho : OwnStrs w6 w.heap.size v6 (out ++ [r]) := by
              unfold OwnStrs
              simpa using ho6
            have hW6 := hW2.out.turn ho (hg0.trans hg6)
            have hl2 : (out ++ [r]).length = k + 1 := by simp [hol.out]
            have hgo2 := hgo.out
            generalize out ++ [r] = out2 at *
            replace hW6 := Lib.hid hW6
            replace hgo2 := Lib.hid hgo2
            replace hl2 := Lib.hid hl2
            clear ho hg0 ho6 hg6 hat6 hW2
            go_wp2
            go_roundw
            case rel => exact ⟨k + 1, out2, by omega, by go_num, hW6.out, hgo2.out, hl2.out⟩
            case measure => simp [intOf]; omega
      · obtain rfl : k = l.length := by omega
        have hf : out = l.map rev := by rw [hout, List.take_length]
        subst hf
        replace hW := Lib.hid hW
        replace hout := Lib.hid hout
        go_wp2
        go_ret
        exact ⟨_, rfl, hW.out.own, hW.out.low⟩
end Go.Proofs.Ytbghgpgpljdjkaa
