/-
  The contract of TongueOk of the program, for every tongue.
-/
import Derived.Test.YteemgkabhkdeaaaDoorTng
namespace Go.Proofs.YteemgkabhkdeaaaDoor
open Go.RowKit Go.WideMaps Go.Maps

theorem words_go {ws : List ByteArray} {k : Nat} (h : wordsTo ws k) (hx : wordOk (ws.getD k ByteArray.empty) = true) : wordsTo ws (k+1) := fun j hj => by
  by_cases e : j = k
  · subst e; exact hx
  · exact h j (by omega)

set_option maxRecDepth 100000 in
set_option maxHeartbeats 2000000 in
theorem implTongueOk_shape (v : Value) (t : Tg) (w : World) (h : Tng w v t) (hf : t.Fine) (hs : t.Shape) :
    Calls Tryd.prog 39 #[v] w fun e w' => e = .returned (.bool t.ok) ∧ Below w.heap.size w w' := by
  obtain ⟨A1, c1, A2, c2, A3, c3, rfl, h1, h2, h3⟩ := h.ex
  have hB := Lib.hid (fun W h => implBasesOk_any A2 t.bs.length c2 t.bs W h hf.bs hf.fits)
  have hBel : Below w.heap.size w (w.alloc (.cells #[.slice A1 t.us.length c1, .slice A2 t.bs.length c2, .slice A3 t.ns.length c3] 26)) := (Below.refl _ _).alloc (Nat.le_refl _) _
  have HI := Lib.hid (h2.below hBel (Nat.le_refl _))
  have H1 := Lib.hid h1
  have H3 := Lib.hid h3
  replace hBel := Lib.hid hBel
  have HF := Lib.hid hf
  have hu := hs.us
  obtain ⟨u1, u2⟩ := hu
  have hbs := Lib.hid hs.bs
  have hbl := bases_len hs.bs
  obtain ⟨b1, b5⟩ := hbl
  have hnb := hs.ns
  have hq : ((t.ns.length : Int) != (t.bs.length : Int) - 1) = false := by rw [bne_eq_false_iff_eq]; omega
  have hnl : t.ns.length ≤ 5 := by omega
  replace hnb := Lib.hid hnb
  have HE := Lib.hid (fun hw => ok_size hs hw)
  have HNO := Lib.hid (fun k hk h => ok_no_word (t := t) (k := k) hk h)
  have hwl := Lib.hid (words_length t)
  have HSZ := Lib.hid (words_size hf)
  have HWS := Lib.hid (show ∀ x ∈ t.words, x.size ≤ maxLen from fun x hx => by have := hf.size x hx; unfold maxLen; omega)
  have HX : ∀ nq, Blk ((w.alloc (.cells #[.slice A1 t.us.length c1, .slice A2 t.bs.length c2, .slice A3 t.ns.length c3] 26)).drewN nq) w.heap.size 26 #[.slice A1 t.us.length c1, .slice A2 t.bs.length c2, .slice A3 t.ns.length c3] := fun nq => (Blk.new _ _ _).drewN _
  have HZ : ∀ nq, ((w.alloc (.cells #[.slice A1 t.us.length c1, .slice A2 t.bs.length c2, .slice A3 t.ns.length c3] 26)).drewN nq).heap.size = w.heap.size + 1 := fun nq => by simp
  replace HX := Lib.hid HX
  replace HZ := Lib.hid HZ
  by_cases h2l : 1 < t.bs.length
  · obtain ⟨b, o, rfl, hbo, h2c⟩ := h2.at_ (by omega)
    have cx := h2c 1 (by omega)
    have hx := hs.two (by omega)
    rw [hx] at cx
    have hd1 : decide (1 < (t.bs.length : Int)) = true := decide_eq_true (by omega)
    have hw1 : IntKind.i64.wrap ((t.us.length : Int) + 1) = (t.us.length : Int) + 1 := IntWalk.i64_in _ (by omega)
    have hne : ((t.us.length : Int) + 1 != (t.us.length : Int) + 1) = false := by simp
    clear h h1 h2 h3 hs h2c hx hf
    go_enter Tryd.func39, Tryd.ntmps39
    go_wp2_with (fail)
    refine (hB.out _ HI.out).mono ?_
    rintro e _ ⟨rfl, rfl⟩
    rw [hbs.out]
    go_wp2
    go_quiet (fail)
    clear cx hne hw1 hd1
    have hX := HX.out nq
    have hZ := HZ.out nq
    have hY := below_drewN hBel.out nq
    clear HX HZ HI hbo
    generalize (w.alloc (.cells #[.slice A1 t.us.length c1, .slice (some ⟨b, o, none⟩) t.bs.length c2, .slice A3 t.ns.length c3] 26)).drewN nq = W at *
    have x0 : W.cell? ⟨w.heap.size, 0, none⟩ = some (.slice A1 t.us.length c1) := hX.cell 0
    have x2 : W.cell? ⟨w.heap.size, 2, none⟩ = some (.slice A3 t.ns.length c3) := hX.cell 2
    have hW1 : w.heap.size < W.heap.size := by omega
    replace hY := Lib.hid hY
    replace hZ := Lib.hid hZ
    clear hX
    go_wp2_with (fail)
    have hW2 : Below w.heap.size w (W.alloc (.cells #[.slice A1 t.us.length c1, .slice A3 t.ns.length c3] 23)) := hY.out.alloc (by omega) _
    have hC := concat_any A1 A3 W.heap.size _ c1 _ c3 t.us t.ns (W.alloc (.cells #[.slice A1 t.us.length c1, .slice A3 t.ns.length c3] 23)) (by simp) (by go_simp) (by go_simp) (H1.out.below hW2 (Nat.le_refl _)) (H3.out.below hW2 (Nat.le_refl _)) HF.out.us HF.out.ns
    refine hC.mono ?_
    rintro e w1 ⟨v1, rfl, ho1, hb1⟩
    have hW3 := hW2.trans (hb1.mono hW2.size)
    clear hC x0 x2 hW2 hb1 hY hZ hW1 H1 H3 hBel hB hbs
    obtain ⟨A, c, rfl, hS⟩ := strs_of_own ho1
    change Strs w1 A (t.us.length + t.ns.length) c t.words at hS
    clear ho1
    have hlen := hS.len
    have hWl : t.us.length + t.ns.length = t.words.length := hlen.symm
    rw [hWl] at hS
    have hnw : t.words.length ≤ 25 := by omega
    have hS0 := Lib.hid hS
    obtain ⟨-, -, hat⟩ := hS
    replace hat := Lib.hid hat
    replace hW3 := Lib.hid hW3
    rw [hWl]
    clear hlen hWl
    go_wp2
    go_loop [55] (fun i => ∃ k : Nat, k ≤ t.words.length ∧ i = .int .i64 k ∧ wordsTo t.words k) (fun i => t.words.length - (intOf i).toNat)
    case atStart => exact ⟨0, Nat.zero_le _, rfl, fun j hj => absurd hj (by omega)⟩
    case round =>
      obtain ⟨k, hk, rfl, hu⟩ := hrel
      by_cases hlt : k < t.words.length
      · obtain ⟨b, o, rfl, hbo, hc⟩ := hat.out (by omega)
        have ck := hc k hlt
        have hW := implWordOk_any _ w1 (HSZ.out k)
        have HU := Lib.hid (words_go hu)
        have HN := Lib.hid (HNO.out k hlt)
        generalize t.words.getD k ByteArray.empty = x at *
        clear hc hu
        go_wp2_with (fail)
        refine hW.mono ?_
        rintro e _ ⟨rfl, rfl⟩
        clear hW
        cases hx : wordOk x
        · replace HN := Lib.hid (HN.out hx)
          go_wp2
          go_ret
          exact ⟨ret_bool HN.out.symm, hW3.out⟩
        · replace HU := Lib.hid (HU.out hx)
          go_wp2
          go_round
          case rel => exact ⟨k+1, by omega, by go_num, HU.out⟩
          case measure => simp [intOf]; omega
      · obtain rfl : k = t.words.length := by omega
        have HE2 := Lib.hid (HE.out hu)
        clear hu hat HE
        go_wp2_with (fail)
        refine (places_any A _ c t.words w1 hS0.out (by omega) HWS.out).mono ?_
        rintro e w2 ⟨rfl, hp, hb⟩
        have hW4 := Lib.hid (hW3.out.trans (hb.mono hW3.out.size))
        replace hp := Lib.hid hp
        clear hb
        go_wp2_with (at_len; refine wpList_len_own _ rfl _ 85 rfl 9 3 Tryd.underlying85 _ w1.heap.size _ _ rfl hp.out ?_)
        go_ret
        exact ⟨ret_bool (by rw [HE2.out]; rfl), hW4.out⟩
  · have hd1 : decide (1 < (t.bs.length : Int)) = false := decide_eq_false (by omega)
    clear h h1 h2 h3 hs hf
    go_enter Tryd.func39, Tryd.ntmps39
    go_wp2_with (fail)
    refine (hB.out _ HI.out).mono ?_
    rintro e _ ⟨rfl, rfl⟩
    rw [hbs.out]
    go_wp2
    go_quiet (fail)
    clear hd1
    have hX := HX.out nq
    have hZ := HZ.out nq
    have hY := below_drewN hBel.out nq
    clear HX HZ HI
    generalize (w.alloc (.cells #[.slice A1 t.us.length c1, .slice A2 t.bs.length c2, .slice A3 t.ns.length c3] 26)).drewN nq = W at *
    have x0 : W.cell? ⟨w.heap.size, 0, none⟩ = some (.slice A1 t.us.length c1) := hX.cell 0
    have x2 : W.cell? ⟨w.heap.size, 2, none⟩ = some (.slice A3 t.ns.length c3) := hX.cell 2
    have hW1 : w.heap.size < W.heap.size := by omega
    replace hY := Lib.hid hY
    replace hZ := Lib.hid hZ
    clear hX
    go_wp2_with (fail)
    have hW2 : Below w.heap.size w (W.alloc (.cells #[.slice A1 t.us.length c1, .slice A3 t.ns.length c3] 23)) := hY.out.alloc (by omega) _
    have hC := concat_any A1 A3 W.heap.size _ c1 _ c3 t.us t.ns (W.alloc (.cells #[.slice A1 t.us.length c1, .slice A3 t.ns.length c3] 23)) (by simp) (by go_simp) (by go_simp) (H1.out.below hW2 (Nat.le_refl _)) (H3.out.below hW2 (Nat.le_refl _)) HF.out.us HF.out.ns
    refine hC.mono ?_
    rintro e w1 ⟨v1, rfl, ho1, hb1⟩
    have hW3 := hW2.trans (hb1.mono hW2.size)
    clear hC x0 x2 hW2 hb1 hY hZ hW1 H1 H3 hBel hB hbs
    obtain ⟨A, c, rfl, hS⟩ := strs_of_own ho1
    change Strs w1 A (t.us.length + t.ns.length) c t.words at hS
    clear ho1
    have hlen := hS.len
    have hWl : t.us.length + t.ns.length = t.words.length := hlen.symm
    rw [hWl] at hS
    have hnw : t.words.length ≤ 25 := by omega
    have hS0 := Lib.hid hS
    obtain ⟨-, -, hat⟩ := hS
    replace hat := Lib.hid hat
    replace hW3 := Lib.hid hW3
    rw [hWl]
    clear hlen hWl
    go_wp2
    go_loop [55] (fun i => ∃ k : Nat, k ≤ t.words.length ∧ i = .int .i64 k ∧ wordsTo t.words k) (fun i => t.words.length - (intOf i).toNat)
    case atStart => exact ⟨0, Nat.zero_le _, rfl, fun j hj => absurd hj (by omega)⟩
    case round =>
      obtain ⟨k, hk, rfl, hu⟩ := hrel
      by_cases hlt : k < t.words.length
      · obtain ⟨b, o, rfl, hbo, hc⟩ := hat.out (by omega)
        have ck := hc k hlt
        have hW := implWordOk_any _ w1 (HSZ.out k)
        have HU := Lib.hid (words_go hu)
        have HN := Lib.hid (HNO.out k hlt)
        generalize t.words.getD k ByteArray.empty = x at *
        clear hc hu
        go_wp2_with (fail)
        refine hW.mono ?_
        rintro e _ ⟨rfl, rfl⟩
        clear hW
        cases hx : wordOk x
        · replace HN := Lib.hid (HN.out hx)
          go_wp2
          go_ret
          exact ⟨ret_bool HN.out.symm, hW3.out⟩
        · replace HU := Lib.hid (HU.out hx)
          go_wp2
          go_round
          case rel => exact ⟨k+1, by omega, by go_num, HU.out⟩
          case measure => simp [intOf]; omega
      · obtain rfl : k = t.words.length := by omega
        have HE2 := Lib.hid (HE.out hu)
        clear hu hat HE
        go_wp2_with (fail)
        refine (places_any A _ c t.words w1 hS0.out (by omega) HWS.out).mono ?_
        rintro e w2 ⟨rfl, hp, hb⟩
        have hW4 := Lib.hid (hW3.out.trans (hb.mono hW3.out.size))
        replace hp := Lib.hid hp
        clear hb
        go_wp2_with (at_len; refine wpList_len_own _ rfl _ 85 rfl 9 3 Tryd.underlying85 _ w1.heap.size _ _ rfl hp.out ?_)
        go_ret
        exact ⟨ret_bool (by rw [HE2.out]; rfl), hW4.out⟩
end Go.Proofs.YteemgkabhkdeaaaDoor
