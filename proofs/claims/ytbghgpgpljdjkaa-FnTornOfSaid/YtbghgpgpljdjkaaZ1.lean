/-
  What a text and words leave of each other, of the program: prefixes, leftWith, leftOfPairs, ApartOk.
-/
import Derived.Test.YtbghgpgpljdjkaaQ3
import Derived.Test.YtbghgpgpljdjkaaGA
namespace Go.Proofs.Ytbghgpgpljdjkaa
open Go.RowKit

theorem begB (s h : ByteArray) (hle : h.size ≤ s.size) : ((s.extract 0 h.size).toList == h.toList) = beg s h := by
  rw [str_eq]
  cases hb : beg s h
  · exact decide_eq_false fun e => by rw [beg_take.2 ⟨hle, e⟩] at hb; cases hb
  · exact decide_eq_true (beg_take.1 hb).2
theorem begNo {s h : ByteArray} (hle : ¬ h.size ≤ s.size) : beg s h = false := by
  cases hb : beg s h
  · rfl
  · exact absurd (beg_le hb) hle
theorem liteHas_any (s h : ByteArray) (w : World) (_hs : s.size ≤ 1048576) (_hh : h.size ≤ 1048576) :
    Calls Try.prog 71 #[.string s, .string h] w fun e w' => e = .returned (.bool (beg s h)) ∧ w = w' := by
  by_cases hle : h.size ≤ s.size
  · have hd := Lib.hid (begB s h hle)
    go_enter Try.func71, Try.ntmps71
    go_wp2
    go_ret
    exact ⟨ret_bool hd.out, rfl⟩
  · have hd := Lib.hid (begNo hle)
    go_enter Try.func71, Try.ntmps71
    go_wp2
    go_ret
    exact ⟨ret_bool hd.out.symm, rfl⟩
theorem has_any (s h : ByteArray) (w : World) (hs : s.size ≤ 1048576) (hh : h.size ≤ 1048576) :
    Calls Try.prog 63 #[.string s, .string h] w fun e w' => e = .returned (.bool (beg s h)) ∧ w = w' := by
  have K := Lib.hid (liteHas_any s h w hs hh)
  go_enter Try.func63, Try.ntmps63
  go_wp2_with (fail)
  refine K.out.mono ?_
  rintro e _ ⟨rfl, rfl⟩
  go_wp2
  go_ret
  exact ⟨rfl, rfl⟩
theorem liteCut_any (s h : ByteArray) (w : World) (hs : s.size ≤ 1048576) (hh : h.size ≤ 1048576) :
    Calls Try.prog 72 #[.string s, .string h] w fun e w' => e = .returned (.tuple #[.string (if beg s h then rest s h else s), .bool (beg s h)]) ∧ w = w' := by
  have K := Lib.hid (liteHas_any s h w hs hh)
  cases hb : beg s h
  · rw [hb] at K
    replace hb := Lib.hid hb
    go_enter Try.func72, Try.ntmps72
    go_wp2_with (fail)
    refine K.out.mono ?_
    rintro e _ ⟨rfl, rfl⟩
    go_wp2
    go_ret2
    exact ⟨rfl, rfl⟩
  · rw [hb] at K
    have hle := beg_le hb
    replace hb := Lib.hid hb
    go_enter Try.func72, Try.ntmps72
    go_wp2_with (fail)
    refine K.out.mono ?_
    rintro e _ ⟨rfl, rfl⟩
    go_wp2
    go_ret2
    exact ⟨rfl, rfl⟩
theorem cut_any (s h : ByteArray) (w : World) (hs : s.size ≤ 1048576) (hh : h.size ≤ 1048576) :
    Calls Try.prog 69 #[.string s, .string h] w fun e w' => e = .returned (.tuple #[.string (if beg s h then rest s h else s), .bool (beg s h)]) ∧ w = w' := by
  have K := Lib.hid (liteCut_any s h w hs hh)
  generalize (if beg s h then rest s h else s) = r at *
  generalize beg s h = b at *
  go_enter Try.func69, Try.ntmps69
  go_wp2_with (fail)
  refine K.out.mono ?_
  rintro e _ ⟨rfl, rfl⟩
  go_wp2
  go_ret2
  exact ⟨rfl, rfl⟩

/-- What a text and a word leave of each other. -/
def leave1 (s u : ByteArray) : List ByteArray := if beg s u then [rest s u] else if beg u s then [rest u s] else []
def leftL (l : List ByteArray) (s : ByteArray) (k : Nat) : List ByteArray := (l.take k).flatMap (leave1 s)
theorem leftL_go {l : List ByteArray} (s : ByteArray) {k : Nat} (hk : k < l.length) : leftL l s (k + 1) = leftL l s k ++ leave1 s (l.getD k ByteArray.empty) := by
  unfold leftL
  rw [List.take_succ_eq_append_getElem hk, List.flatMap_append]
  simp [List.getD_eq_getElem?_getD, hk]
theorem leave1_len (s u : ByteArray) : (leave1 s u).length ≤ 1 := by
  unfold leave1; split
  · simp
  · split <;> simp
theorem leftL_len (l : List ByteArray) (s : ByteArray) : ∀ k, k ≤ l.length → (leftL l s k).length ≤ k
  | 0, _ => by simp [leftL]
  | k + 1, h => by
    rw [leftL_go s (by omega), List.length_append]
    have := leftL_len l s k (by omega)
    have := leave1_len s (l.getD k ByteArray.empty)
    omega

set_option maxRecDepth 100000 in
set_option maxHeartbeats 2000000 in
theorem leftWith_any (A : Option Addr) (n c : Nat) (l : List ByteArray) (s : ByteArray) (w : World) (h : Strs w A n c l) (hn : n ≤ 1048576) (hs : ∀ x ∈ l, x.size ≤ 1048576) (hz : s.size ≤ 1048576) :
    Calls Try.prog 54 #[.slice A n c, .string s] w (RetStrs w (leftL l s l.length)) := by
  obtain ⟨i0, hi, hz0, hz1, hz2⟩ := info_parts str_info
  have HSZ := Lib.hid (fun k => getD_size hs k)
  obtain ⟨rfl, hcap, hat⟩ := h
  replace hat := Lib.hid hat
  clear hs
  go_enter Try.func54, Try.ntmps54
  go_wp2
  go_loopw [5, 14] (fun s5 s14 wr => ∃ (k : Nat) (out : List ByteArray), k ≤ l.length ∧ s14 = .int .i64 k ∧ LW w s5 out wr ∧ out = leftL l s k ∧ out.length ≤ k) (fun _ i _ => l.length - (intOf i).toNat)
  case atStart => exact ⟨0, [], Nat.zero_le _, rfl, ⟨owns_none _ _ _, Below.refl _ _⟩, rfl, Nat.le_refl _⟩
  case round =>
    obtain ⟨k, out, hk, rfl, hW, hout, hol⟩ := hrel
    obtain ⟨A5, c5, rfl, -⟩ := hW.own.strs
    by_cases hlt : k < l.length
    · obtain ⟨b, o, rfl, hbo, hc⟩ := hat.out (by omega)
      have ck := (hW.low.cell (p := ⟨b, o + k, none⟩) hbo).trans (hc k hlt)
      have hzu := HSZ.out k
      have hgo := leftL_go s hlt
      rw [← hout] at hgo
      have hl1 := leave1_len s (l.getD k ByteArray.empty)
      unfold leave1 at hgo
      generalize l.getD k ByteArray.empty = u at *
      have K1 := cut_any s u wr hz hzu
      have K2 := cut_any u s wr hzu hz
      have m1 := Lib.hid (show out.length + 1 ≤ maxLen by unfold maxLen; omega)
      have m2 := Lib.hid (show (out.length + 1) * 16 ≤ 140737488355328 by omega)
      have hWB := hW.low.size
      replace hW := Lib.hid hW
      replace hout := Lib.hid hout
      clear hc hl1
      cases hb1 : beg s u
      · rw [hb1] at K1 hgo
        rw [if_neg (by simp)] at K1 hgo
        replace K1 := Lib.hid K1
        cases hb2 : beg u s
        · rw [hb2] at K2 hgo
          rw [if_neg (by simp)] at K2 hgo
          replace K2 := Lib.hid K2
          rw [List.append_nil] at hgo
          replace hgo := Lib.hid hgo
          replace hb1 := Lib.hid hb1
          replace hb2 := Lib.hid hb2
          go_wp2_with (fail)
          refine K1.out.mono ?_
          rintro e _ ⟨rfl, rfl⟩
          go_wp2_with (fail)
          refine K2.out.mono ?_
          rintro e _ ⟨rfl, rfl⟩
          go_wp2
          go_roundw
          case rel => exact ⟨k+1, out, by omega, by go_num, hW.out, hgo.out.symm, by omega⟩
          case measure => simp [intOf]; omega
        · rw [hb2] at K2 hgo
          rw [if_pos rfl] at K2 hgo
          replace K2 := Lib.hid K2
          generalize rest u s = r at *
          replace hgo := Lib.hid hgo
          replace hb1 := Lib.hid hb1
          replace hb2 := Lib.hid hb2
          go_wp2_with (fail)
          refine K1.out.mono ?_
          rintro e _ ⟨rfl, rfl⟩
          go_wp2_with (fail)
          refine K2.out.mono ?_
          rintro e _ ⟨rfl, rfl⟩
          go_upto_region 11 with (at_builtin; refine wpList_app _ rfl (.tmp 36) (.tmp 38) _ rfl w.heap.size 9 i0 _ 16 Try.underlying23 hi hz0 hz1 hz2 rfl (.slice A5 out.length c5) _ _ rfl (World.ownsRow.alloc hW.out.own _) (some ⟨wr.heap.size, 0, none⟩) 1 1 [.string r] rfl (Src.one (Blk.new _ _ _) rfl) m1.out m2.out (by simp; omega) ?_; intro v6 w6 ho6 hg6 hat6)
          have hg0 : wr.grownBy (wr.alloc (.cells #[.string r] 9)) (Value.slice A5 out.length c5).ownBlock := grown_of_below _ ((Below.refl _ _).alloc (Nat.le_refl _) _)
          have ho : OwnStrs w6 w.heap.size v6 (out ++ [r]) := by
            unfold OwnStrs
            simpa using ho6
          have hW6 := hW.out.turn ho (hg0.trans hg6)
          have hl2 : (out ++ [r]).length ≤ k + 1 := by simp; omega
          have hgo2 := hgo.out
          generalize out ++ [r] = out2 at *
          replace hW6 := Lib.hid hW6
          replace hgo2 := Lib.hid hgo2
          clear ho hg0 ho6 hg6 hat6
          go_wp2
          go_roundw
          case rel => exact ⟨k+1, out2, by omega, by go_num, hW6.out, hgo2.out.symm, hl2⟩
          case measure => simp [intOf]; omega
      · rw [hb1] at K1 hgo
        rw [if_pos rfl] at K1 hgo
        replace K1 := Lib.hid K1
        generalize rest s u = r at *
        replace hgo := Lib.hid hgo
        replace hb1 := Lib.hid hb1
        clear K2
        go_wp2_with (fail)
        refine K1.out.mono ?_
        rintro e _ ⟨rfl, rfl⟩
        go_upto_region 11 with (at_builtin; refine wpList_app _ rfl (.tmp 25) (.tmp 27) _ rfl w.heap.size 9 i0 _ 16 Try.underlying23 hi hz0 hz1 hz2 rfl (.slice A5 out.length c5) _ _ rfl (World.ownsRow.alloc hW.out.own _) (some ⟨wr.heap.size, 0, none⟩) 1 1 [.string r] rfl (Src.one (Blk.new _ _ _) rfl) m1.out m2.out (by simp; omega) ?_; intro v6 w6 ho6 hg6 hat6)
        have hg0 : wr.grownBy (wr.alloc (.cells #[.string r] 9)) (Value.slice A5 out.length c5).ownBlock := grown_of_below _ ((Below.refl _ _).alloc (Nat.le_refl _) _)
        have ho : OwnStrs w6 w.heap.size v6 (out ++ [r]) := by
          unfold OwnStrs
          simpa using ho6
        have hW6 := hW.out.turn ho (hg0.trans hg6)
        have hl2 : (out ++ [r]).length ≤ k + 1 := by simp; omega
        have hgo2 := hgo.out
        generalize out ++ [r] = out2 at *
        replace hW6 := Lib.hid hW6
        replace hgo2 := Lib.hid hgo2
        clear ho hg0 ho6 hg6 hat6
        go_wp2
        go_roundw
        case rel => exact ⟨k+1, out2, by omega, by go_num, hW6.out, hgo2.out.symm, hl2⟩
        case measure => simp [intOf]; omega
    · obtain rfl : k = l.length := by omega
      replace hW := Lib.hid hW
      subst hout
      clear hol
      generalize leftL l s l.length = out at *
      go_wp2
      go_ret
      exact ⟨_, rfl, hW.out.own, hW.out.low⟩
end Go.Proofs.Ytbghgpgpljdjkaa
