/-
  The texts of one letter more, and TwoWays, of the program.
-/
import Derived.Test.YtbghgpgpljdjkaaZ7
namespace Go.Proofs.Ytbghgpgpljdjkaa
open Go.RowKit

/-- A slice of rows of texts. -/
structure RowsAt (w : World) (A : Option Addr) (n : Nat) (Ts : List (List ByteArray)) : Prop where
  len : Ts.length = n
  at_ : 0 < n → ∃ b o, A = some ⟨b, o, none⟩ ∧ b < w.heap.size ∧ ∀ i, i < n → ∃ Ai ci, w.cell? ⟨b, o + i, none⟩ = some (.slice Ai (Ts.getD i []).length ci) ∧ Strs w Ai (Ts.getD i []).length ci (Ts.getD i [])
theorem RowsAt.below {w w' : World} {A : Option Addr} {n B : Nat} {Ts : List (List ByteArray)} (h : RowsAt w A n Ts) (hb : Below B w w') (hB : w.heap.size ≤ B) : RowsAt w' A n Ts :=
  ⟨h.len, fun h0 => by
    obtain ⟨b, o, e, hlt, hc⟩ := h.at_ h0
    refine ⟨b, o, e, Nat.lt_of_lt_of_le hlt hb.size, fun i hi => ?_⟩
    obtain ⟨Ai, ci, h1, h2⟩ := hc i hi
    exact ⟨Ai, ci, (hb.cell (p := ⟨b, o + i, none⟩) (Nat.lt_of_lt_of_le hlt hB)).trans h1, h2.below hb hB⟩⟩
theorem take_map_go (u : ByteArray) (out T : List ByteArray) {j : Nat} (hj : j < T.length) : out ++ (T.take j).map (u ++ ·) ++ [u ++ T.getD j ByteArray.empty] = out ++ (T.take (j + 1)).map (u ++ ·) := by
  rw [List.take_succ_eq_append_getElem hj, List.map_append]
  simp [List.getD_eq_getElem?_getD, hj]

set_option maxRecDepth 100000 in
set_option maxHeartbeats 2000000 in
theorem longerBy_any (A Am : Option Addr) (n c nm cm : Nat) (l : List ByteArray) (Ts : List (List ByteArray)) (w : World) (h : Strs w A n c l) (hM : RowsAt w Am nm Ts) (hn : n ≤ 6) (hnm : 0 < nm) (hnm6 : nm ≤ 6)
    (hu : ∀ u ∈ l, 1 ≤ u.size ∧ u.size ≤ 4) (hT : ∀ i, i < Ts.length → (Ts.getD i []).length ≤ 4096) (hz : ∀ i, i < Ts.length → ∀ x ∈ Ts.getD i [], x.size ≤ 6) :
    Calls Try.prog 56 #[.slice A n c, .slice Am nm cm] w fun e w' => ∃ v ys, e = .returned v ∧ OwnStrs w' w.heap.size v ys ∧ Below w.heap.size w w' ∧ ys.length = (longL l Ts l.length).length ∧ ys.map tl = ((longL l Ts l.length).map tl).mergeSort fun x y => decide (x ≤ y) := by
  obtain ⟨i0, hi, hz0, hz1, hz2⟩ := info_parts str_info
  obtain ⟨rfl, hcap, hat⟩ := h
  obtain ⟨hTl, hMat⟩ := hM
  obtain ⟨bm, om, rfl, hbm, hcm⟩ := hMat hnm
  subst hTl
  replace hat := Lib.hid hat
  replace hcm := Lib.hid hcm
  have HU := Lib.hid (fun k (hk : k < l.length) => hu _ (getD_mem hk))
  replace hT := Lib.hid hT
  replace hz := Lib.hid hz
  clear hu hMat
  go_enter Try.func56, Try.ntmps56
  go_wp2
  go_loopw [5, 12] (fun s5 s12 wr => ∃ (k : Nat) (out : List ByteArray), k ≤ l.length ∧ s12 = .int .i64 k ∧ LW w s5 out wr ∧ out = longL l Ts k ∧ out.length ≤ k * 4096) (fun _ i _ => l.length - (intOf i).toNat)
  case atStart => exact ⟨0, [], Nat.zero_le _, rfl, ⟨owns_none _ _ _, Below.refl _ _⟩, rfl, Nat.zero_le _⟩
  case round =>
    obtain ⟨k, out, hk, rfl, hW, hout, hol⟩ := hrel
    obtain ⟨A5, c5, rfl, -⟩ := hW.own.strs
    by_cases hlt : k < l.length
    · obtain ⟨b, o, rfl, hbo, hc⟩ := hat.out (by omega)
      have ck := (hW.low.cell (p := ⟨b, o + k, none⟩) hbo).trans (hc k hlt)
      have hzu := HU.out k hlt
      have hgo := longL_go Ts hlt
      rw [← hout] at hgo
      replace hout := Lib.hid hout
      clear hc
      generalize l.getD k ByteArray.empty = u at *
      by_cases hlong : Ts.length < u.size
      · rw [if_pos hlong, List.append_nil] at hgo
        have hl' : (Ts.length : Int) < (u.size : Int) := by omega
        replace hgo := Lib.hid hgo
        replace hW := Lib.hid hW
        go_wp2
        go_roundw
        case rel => exact ⟨k+1, out, by omega, by go_num, hW.out, hgo.out.symm, by omega⟩
        case measure => simp [intOf]; omega
      · rw [if_neg hlong] at hgo
        have hl' : ¬ (Ts.length : Int) < (u.size : Int) := by omega
        obtain ⟨i, hi'⟩ : ∃ i, i = Ts.length - u.size := ⟨_, rfl⟩
        rw [← hi'] at hgo
        have hil : i < Ts.length := by omega
        have e1 : (Ts.length : Int) - (u.size : Int) = (i : Int) := by omega
        obtain ⟨Ai, ci, cmi, hSi⟩ := hcm.out i hil
        have cmr := (hW.low.cell (p := ⟨bm, om + i, none⟩) hbm).trans cmi
        have hTi := hT.out i hil
        have hzi := Lib.hid (fun j (hj : j < (Ts.getD i []).length) => hz.out i hil _ (getD_mem hj))
        generalize Ts.getD i [] = T at *
        have hw1 : IntKind.i64.wrap ((Ts.length : Int) - (u.size : Int)) = (i : Int) := by rw [e1]; exact IntWalk.i64_in _ (by omega)
        have f0 : (0 : Int) ≤ (i : Int) := by omega
        have f1 : (i : Int) < (Ts.length : Int) := by omega
        replace hgo := Lib.hid hgo
        replace hW := Lib.hid hW
        replace hSi := Lib.hid hSi
        replace hi' := Lib.hid hi'
        go_wp2
        clear ck cmr cmi
        go_loopw [5, 30] (fun s5 s30 wr => ∃ (j : Nat) (out2 : List ByteArray), j ≤ T.length ∧ s30 = .int .i64 j ∧ LW w s5 out2 wr ∧ out2 = out ++ (T.take j).map (u ++ ·) ∧ out2.length ≤ k * 4096 + j) (fun _ i _ => T.length - (intOf i).toNat)
        case atStart => exact ⟨0, out, Nat.zero_le _, rfl, hW.out, by simp, hol⟩
        case round =>
          clear hW
          obtain ⟨j, out2, hj, rfl, hW, hout2, hol2⟩ := hrel
          obtain ⟨A6, c6, rfl, -⟩ := hW.own.strs
          by_cases hjt : j < T.length
          · obtain ⟨bi, oi, rfl, hbi, hci⟩ := hSi.out.at_ (by omega)
            have cj := (hW.low.cell (p := ⟨bi, oi + j, none⟩) hbi).trans (hci j hjt)
            have hzj := hzi.out j hjt
            have hg2 := take_map_go u out T hjt
            rw [← hout2] at hg2
            replace hout2 := Lib.hid hout2
            clear hci
            generalize T.getD j ByteArray.empty = t at *
            have hcat : ¬ (9223372036854775807 < u.size + t.size) := by omega
            have m1 := Lib.hid (show out2.length + 1 ≤ maxLen by unfold maxLen; omega)
            have m2 := Lib.hid (show (out2.length + 1) * 16 ≤ 140737488355328 by omega)
            have hWB := hW.low.size
            replace hg2 := Lib.hid hg2
            replace hW := Lib.hid hW
            go_upto_region 10 with (at_builtin; refine wpList_app _ rfl (.tmp 34) (.tmp 38) _ rfl w.heap.size 9 i0 _ 16 Try.underlying23 hi hz0 hz1 hz2 rfl (.slice A6 out2.length c6) _ _ rfl (World.ownsRow.alloc hW.out.own _) (some ⟨wr.heap.size, 0, none⟩) 1 1 [.string (u ++ t)] rfl (Src.one (Blk.new _ _ _) rfl) m1.out m2.out (by simp; omega) ?_; intro v6 w6 ho6 hg6 hat6)
            have hg0 : wr.grownBy (wr.alloc (.cells #[.string (u ++ t)] 9)) (Value.slice A6 out2.length c6).ownBlock := grown_of_below _ ((Below.refl _ _).alloc (Nat.le_refl _) _)
            have ho : OwnStrs w6 w.heap.size v6 (out2 ++ [u ++ t]) := by
              unfold OwnStrs
              simpa using ho6
            have hW6 := hW.out.turn ho (hg0.trans hg6)
            have hl2 : (out2 ++ [u ++ t]).length ≤ k * 4096 + (j + 1) := by simp; omega
            have hgo2 := hg2.out
            generalize out2 ++ [u ++ t] = out3 at *
            replace hW6 := Lib.hid hW6
            replace hgo2 := Lib.hid hgo2
            clear ho hg0 ho6 hg6 hat6
            go_wp2
            go_roundw
            case rel => exact ⟨j+1, out3, by omega, by go_num, hW6.out, hgo2.out, hl2⟩
            case measure => simp [intOf]; omega
          · obtain rfl : j = T.length := by omega
            have hg3 : out2 = longL l Ts (k + 1) := by rw [hgo.out, hout2, List.take_length]
            replace hg3 := Lib.hid hg3
            replace hout2 := Lib.hid hout2
            replace hW := Lib.hid hW
            go_wp2
            go_roundw
            case rel => exact ⟨k+1, out2, by omega, by go_num, hW.out, hg3.out, by omega⟩
            case measure => simp [intOf]; omega
    · obtain rfl : k = l.length := by omega
      subst hout
      generalize hgl : longL l Ts l.length = out at *
      replace hgl := Lib.hid hgl
      have KS := Lib.hid (sort_any hW (by omega))
      clear hW
      go_wp2_with (fail)
      refine KS.out.mono ?_
      rintro e w2 ⟨rfl, ys, hyl, hW2, hys⟩
      have hW3 := Lib.hid hW2
      clear hW2 KS
      rw [hyl.symm] at hW3
      replace hyl := Lib.hid hyl
      replace hys := Lib.hid hys
      go_wp2
      go_ret
      exact ⟨_, ys, rfl, by rw [hyl.out] at hW3; exact hW3.out.own, hW3.out.low, by rw [hgl.out]; exact hyl.out, by rw [hgl.out]; exact hys.out⟩
end Go.Proofs.Ytbghgpgpljdjkaa
