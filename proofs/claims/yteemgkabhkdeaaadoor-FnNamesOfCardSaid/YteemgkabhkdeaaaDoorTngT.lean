/-
  The contract of TongueOk of the model, for tongues of the right shape.
-/
import Derived.Test.YteemgkabhkdeaaaDoorTngS
namespace Go.Proofs.YteemgkabhkdeaaaDoor
open Go.RowKit Go.WideMaps Go.Maps

/-- The first k words are different. -/
def apartTo (ws : List ByteArray) (k : Nat) : Prop := ∀ j, j < k → ∀ i, i < j → ws.getD i ByteArray.empty ≠ ws.getD j ByteArray.empty
theorem apart_go {ws : List ByteArray} {k : Nat} (h : apartTo ws k) (hx : ∀ i, i < k → ws.getD i ByteArray.empty ≠ ws.getD k ByteArray.empty) : apartTo ws (k+1) := fun j hj i hi => by
  by_cases e : j = k
  · subst e; exact hx i hi
  · exact h j (by omega) i hi
theorem apart_nodup {ws : List ByteArray} (h : apartTo ws ws.length) : ws.Nodup := by
  refine List.pairwise_iff_getElem.2 fun i j hi hj hij => ?_
  have := h j hj i hij
  simpa [List.getD_eq_getElem?_getD, hi, hj] using this
theorem ok_no_twice {t : Tg} {j k : Nat} (hj : j < k) (hk : k < t.words.length) (h : t.words.getD j ByteArray.empty = t.words.getD k ByteArray.empty) : t.ok = false :=
  ok_no fun ⟨_, _, _, _, _, hd⟩ => by
    have := List.pairwise_iff_getElem.1 hd j k (by omega) hk hj
    simp only [List.getD_eq_getElem?_getD, List.getElem?_eq_getElem hk, List.getElem?_eq_getElem (show j < t.words.length by omega), Option.getD_some] at h
    exact this h
theorem ne_go {ws : List ByteArray} {j : Nat} {x : ByteArray} (h : ∀ i, i < j → ws.getD i ByteArray.empty ≠ x) (e : ws.getD j ByteArray.empty ≠ x) : ∀ i, i < j + 1 → ws.getD i ByteArray.empty ≠ x := fun i hi => by
  by_cases e' : i = j
  · subst e'; exact e
  · exact h i (by omega)

set_option maxRecDepth 100000 in
set_option maxHeartbeats 4000000 in
theorem specTongueOk_shape (v : Value) (t : Tg) (w : World) (h : Tng w v t) (hf : t.Fine) (hs : t.Shape) :
    Calls Tryd.prog 43 #[v] w fun e w' => e = .returned (.bool t.ok) ∧ Below w.heap.size w w' := by
  obtain ⟨i0, hi, hz0, hz1, hz2⟩ := info_parts str_info
  obtain ⟨A1, c1, A2, c2, A3, c3, rfl, h1, h2, h3⟩ := h.ex
  have hB := Lib.hid (fun W h => specBasesOk_any A2 t.bs.length c2 t.bs W h hf.bs hf.fits)
  have hBel : Below w.heap.size w (w.alloc (.cells #[.slice A1 t.us.length c1, .slice A2 t.bs.length c2, .slice A3 t.ns.length c3] 26)) := (Below.refl _ _).alloc (Nat.le_refl _) _
  have HI := Lib.hid (fun nq => (h2.below hBel (Nat.le_refl _)).drewN nq)
  have H1 := Lib.hid h1
  have H3 := Lib.hid h3
  replace hBel := Lib.hid hBel
  have HF := Lib.hid hf
  have hu := hs.us
  have hu2 : decide (1 ≤ (t.us.length : Int) ∧ (t.us.length : Int) ≤ 20) = true := decide_eq_true (by omega)
  obtain ⟨u1, u2⟩ := hu
  have hbs := hs.bs
  rw [hbs] at hB
  clear hbs
  have hbl := bases_len hs.bs
  obtain ⟨b1, b5⟩ := hbl
  have hnb := hs.ns
  have hq : ((t.ns.length : Int) != (t.bs.length : Int) - 1) = false := by rw [bne_eq_false_iff_eq]; omega
  have hw2 : IntKind.i64.wrap ((t.bs.length : Int) - 1) = (t.bs.length : Int) - 1 := IntWalk.i64_in _ (by omega)
  have hnl : t.ns.length ≤ 5 := by omega
  replace hnb := Lib.hid hnb
  have HNO := Lib.hid (fun k hk h => ok_no_word (t := t) (k := k) hk h)
  have hwl := Lib.hid (words_length t)
  have HSZ := Lib.hid (words_size hf)
  have HX : ∀ nq, Blk ((w.alloc (.cells #[.slice A1 t.us.length c1, .slice A2 t.bs.length c2, .slice A3 t.ns.length c3] 26)).drewN nq) w.heap.size 26 #[.slice A1 t.us.length c1, .slice A2 t.bs.length c2, .slice A3 t.ns.length c3] := fun nq => (Blk.new _ _ _).drewN _
  have HZ : ∀ nq, ((w.alloc (.cells #[.slice A1 t.us.length c1, .slice A2 t.bs.length c2, .slice A3 t.ns.length c3] 26)).drewN nq).heap.size = w.heap.size + 1 := fun nq => by simp
  replace HX := Lib.hid HX
  replace HZ := Lib.hid HZ
  have HS := Lib.hid hs
  by_cases h2l : 1 < t.bs.length
  · obtain ⟨b, o, rfl, hbo, h2c⟩ := h2.at_ (by omega)
    have cx := h2c 1 (by omega)
    have hx := hs.two (by omega)
    rw [hx] at cx
    have hd1 : decide (1 < (t.bs.length : Int)) = true := decide_eq_true (by omega)
    have hw1 : IntKind.i64.wrap ((t.us.length : Int) + 1) = (t.us.length : Int) + 1 := IntWalk.i64_in _ (by omega)
    have hne : ((t.us.length : Int) + 1 != (t.us.length : Int) + 1) = false := by simp
    clear h h1 h2 h3 hs h2c hx hf
    go_enter Tryd.func43, Tryd.ntmps43
    go_wp2
    go_quiet ((first | (go_at_call 31; exact quiet_same (in_any _ _ _ _)) | (go_at_call 61; exact Calls.quiet_of (hB.out _ (HI.out _)))))
    clear cx hne hw1 hd1
    have hX := HX.out nq
    have hZ := HZ.out nq
    have hY := below_drewN hBel.out nq
    clear HX HZ HI hbo
    generalize (w.alloc (.cells #[.slice A1 t.us.length c1, .slice (some ⟨b, o, none⟩) t.bs.length c2, .slice A3 t.ns.length c3] 26)).drewN nq = W at *
    have x0 : W.cell? ⟨w.heap.size, 0, none⟩ = some (.slice A1 t.us.length c1) := hX.cell 0
    have x2 : W.cell? ⟨w.heap.size, 2, none⟩ = some (.slice A3 t.ns.length c3) := hX.cell 2
    have hW1 : w.heap.size < W.heap.size := by omega
    replace hY := Lib.hid hY
    replace hZ := Lib.hid hZ
    clear hX
    have HB0 : Below W.heap.size W ((W.alloc (.cells #[] 9)).drew) := ((Below.refl _ _).alloc (Nat.le_refl _) _).drew
    have HO0 : ((W.alloc (.cells #[] 9)).drew).ownsRow W.heap.size 9 1 (.slice (some ⟨W.heap.size, 0, none⟩) 0 0) 0 [] := owns_empty ((Blk.new W 9 #[]).drew) (Nat.le_refl _)
    have HS1 := Lib.hid (((H1.out.below hY.out (Nat.le_refl _)).below HB0 (Nat.le_refl _)).src)
    have HS3 := Lib.hid ((H3.out.below hY.out (Nat.le_refl _)))
    replace HB0 := Lib.hid HB0
    replace HO0 := Lib.hid HO0
    go_wp2
    go_region_law (first
      | (refine step_app _ (by rfl) (.tmp 44) (.tmp 46) _ (by rfl) W.heap.size 9 i0 _ 16 Tryd.underlying23 hi hz0 hz1 hz2 rfl (.slice (some ⟨W.heap.size, 0, none⟩) 0 0) 0 [] (by rfl) HO0.out A1 _ c1 _ (by rfl) HS1.out (by unfold maxLen; omega) (by omega) (by simp) ?_; intro v5 w5 ho5 hg5 hat5; have hB5 := below_own HB0.out HO0.out hg5 (by simp) (Nat.le_refl _); have x2' : w5.cell? ⟨w.heap.size, 2, none⟩ = some (.slice A3 t.ns.length c3) := (hB5.cell (p := ⟨w.heap.size, 2, none⟩) hW1).trans x2; have hS5 := (HS3.out.below hB5 (Nat.le_refl _)).src; replace ho5 := Lib.hid ho5; replace hg5 := Lib.hid hg5; replace hB5 := Lib.hid hB5; replace hS5 := Lib.hid hS5)
      | (refine step_app _ (by rfl) (.tmp 47) (.tmp 49) _ (by rfl) W.heap.size 9 i0 _ 16 Tryd.underlying23 hi hz0 hz1 hz2 rfl v5 _ _ (by rfl) ho5.out A3 _ c3 _ (by rfl) hS5.out (by unfold maxLen; omega) (by omega) hB5.out.size ?_; intro v6 w6 ho6 hg6 hat6; have hB6 := below_own hB5.out ho5.out hg6 hB5.out.size (Nat.le_refl _); replace ho6 := Lib.hid ho6; replace hg6 := Lib.hid hg6; replace hB6 := Lib.hid hB6))
    all_goals
      have hB7 := hY.out.trans (hB6.out.mono hY.out.size)
      have ho7 : w6.ownsRow W.heap.size 9 1 v6 t.words.length (t.words.map Value.string) := by
        have := ho6.out
        rw [hwl.out]
        simpa [Tg.words] using this
      obtain ⟨A, c, rfl, hS⟩ := strs_of_own ho7
      obtain ⟨-, -, hat⟩ := hS
      replace hat := Lib.hid hat
      replace hB7 := Lib.hid hB7
      have hnw : t.words.length ≤ 25 := by have := hwl.out; omega
      clear ho7 ho6 ho5 hB6 hB5 hS5 x2' hg5 hg6 hat5 hat6 HB0 HO0 HS1 HS3 x0 x2 hW1 hY hZ H1 H3 hBel hB hw2 hq hu2
      go_wp2
      go_loopw [4] (fun i wr => ∃ k m : Nat, k ≤ t.words.length ∧ i = .int .i64 k ∧ wordsTo t.words k ∧ apartTo t.words k ∧ wr = w6.drewN m) (fun i _ => t.words.length - (intOf i).toNat)
      case atStart => exact ⟨0, 0, Nat.zero_le _, rfl, fun j hj => absurd hj (by omega), fun j hj => absurd hj (by omega), rfl⟩
      case round =>
        obtain ⟨k, m, hk, rfl, hu, ha, rfl⟩ := hrel
        by_cases hlt : k < t.words.length
        · obtain ⟨b, o, rfl, hbo, hc⟩ := hat.out (by omega)
          have ck := hc k hlt
          have hW := specWordOk_any _ (w6.drewN m) (HSZ.out k)
          have HU := Lib.hid (words_go hu)
          have HN := Lib.hid (HNO.out k hlt)
          have HA := Lib.hid (apart_go ha)
          have HD := Lib.hid (fun j hj => ok_no_twice (t := t) (j := j) hj hlt)
          replace hc := Lib.hid hc
          generalize hx : t.words.getD k ByteArray.empty = x at *
          replace hx := Lib.hid hx
          clear hu ha
          go_wp2_with (fail)
          refine hW.mono ?_
          rintro e _ ⟨rfl, rfl⟩
          clear hW
          cases hxo : wordOk x
          · replace HN := Lib.hid (HN.out hxo)
            go_wp2
            go_ret
            exact ⟨ret_bool HN.out.symm, below_drewN hB7.out m⟩
          · replace HU := Lib.hid (HU.out hxo)
            clear HN hxo
            go_wp2
            obtain ⟨wo, hwo⟩ : ∃ wo : World, wo = w6.drewN m := ⟨_, rfl⟩
            rw [← hwo]
            have ck' : w6.cell? ⟨b, o + k, none⟩ = some (.string x) := by rw [← hx.out]; exact hc.out k hlt
            replace ck' := Lib.hid ck'
            replace hwo := Lib.hid hwo
            clear ck
            go_loopw [5] (fun i wr => ∃ j m : Nat, j ≤ k ∧ i = .int .i64 j ∧ (∀ i, i < j → t.words.getD i ByteArray.empty ≠ x) ∧ wr = w6.drewN m) (fun i _ => k - (intOf i).toNat)
            case atStart => exact ⟨0, m, Nat.zero_le _, rfl, fun i hi => absurd hi (by omega), hwo.out⟩
            case round =>
              obtain ⟨j, m2, hj, rfl, hd, rfl⟩ := hrel
              by_cases hjt : j < k
              · have cj := hc.out j (by omega)
                have ck := ck'.out
                have hjl : j < t.words.length := by omega
                have HD2 := HD.out j hjt
                have HG := ne_go hd
                generalize t.words.getD j ByteArray.empty = y at *
                clear hd
                by_cases e : y = x
                · have he : (y.toList == x.toList) = true := by rw [str_eq]; exact decide_eq_true e
                  replace HD2 := Lib.hid (HD2 e)
                  replace e := Lib.hid e
                  clear HG
                  go_wp2
                  go_quiet (fail)
                  go_wp2
                  go_ret
                  exact ⟨ret_bool HD2.out.symm, below_drewN (below_drewN hB7.out _) _⟩
                · have he : (y.toList == x.toList) = false := by rw [str_eq]; exact decide_eq_false e
                  replace HG := Lib.hid (HG e)
                  replace e := Lib.hid e
                  clear HD2
                  go_wp2
                  go_quiet (fail)
                  go_wp2
                  go_roundw
                  case rel => exact ⟨j+1, m2+nq, by omega, by go_num, HG.out, by simp⟩
                  case measure => simp [intOf]; omega
              · obtain rfl : j = k := by omega
                replace HA := Lib.hid (HA.out hd)
                clear hd
                go_wp2
                go_roundw
                case rel => exact ⟨j+1, m2, by omega, by go_num, HU.out, HA.out, rfl⟩
                case measure => simp [intOf]; omega
        · obtain rfl : k = t.words.length := by omega
          have HO := Lib.hid (ok_of_words HS.out hu (apart_nodup ha))
          clear hu ha hat
          go_wp2
          go_ret
          exact ⟨ret_bool HO.out.symm, below_drewN hB7.out m⟩
  · have hd1 : decide (1 < (t.bs.length : Int)) = false := decide_eq_false (by omega)
    clear h h1 h2 h3 hs hf
    go_enter Tryd.func43, Tryd.ntmps43
    go_wp2
    go_quiet ((first | (go_at_call 31; exact quiet_same (in_any _ _ _ _)) | (go_at_call 61; exact Calls.quiet_of (hB.out _ (HI.out _)))))
    clear hd1
    have hX := HX.out nq
    have hZ := HZ.out nq
    have hY := below_drewN hBel.out nq
    clear HX HZ HI
    generalize (w.alloc (.cells #[.slice A1 t.us.length c1, .slice A2 t.bs.length c2, .slice A3 t.ns.length c3] 26)).drewN nq = W at *
    have x0 : W.cell? ⟨w.heap.size, 0, none⟩ = some (.slice A1 t.us.length c1) := hX.cell 0
    have x2 : W.cell? ⟨w.heap.size, 2, none⟩ = some (.slice A3 t.ns.length c3) := hX.cell 2
    have hW1 : w.heap.size < W.heap.size := by omega
    replace hY := Lib.hid hY
    replace hZ := Lib.hid hZ
    clear hX
    have HB0 : Below W.heap.size W ((W.alloc (.cells #[] 9)).drew) := ((Below.refl _ _).alloc (Nat.le_refl _) _).drew
    have HO0 : ((W.alloc (.cells #[] 9)).drew).ownsRow W.heap.size 9 1 (.slice (some ⟨W.heap.size, 0, none⟩) 0 0) 0 [] := owns_empty ((Blk.new W 9 #[]).drew) (Nat.le_refl _)
    have HS1 := Lib.hid (((H1.out.below hY.out (Nat.le_refl _)).below HB0 (Nat.le_refl _)).src)
    have HS3 := Lib.hid ((H3.out.below hY.out (Nat.le_refl _)))
    replace HB0 := Lib.hid HB0
    replace HO0 := Lib.hid HO0
    go_wp2
    go_region_law (first
      | (refine step_app _ (by rfl) (.tmp 44) (.tmp 46) _ (by rfl) W.heap.size 9 i0 _ 16 Tryd.underlying23 hi hz0 hz1 hz2 rfl (.slice (some ⟨W.heap.size, 0, none⟩) 0 0) 0 [] (by rfl) HO0.out A1 _ c1 _ (by rfl) HS1.out (by unfold maxLen; omega) (by omega) (by simp) ?_; intro v5 w5 ho5 hg5 hat5; have hB5 := below_own HB0.out HO0.out hg5 (by simp) (Nat.le_refl _); have x2' : w5.cell? ⟨w.heap.size, 2, none⟩ = some (.slice A3 t.ns.length c3) := (hB5.cell (p := ⟨w.heap.size, 2, none⟩) hW1).trans x2; have hS5 := (HS3.out.below hB5 (Nat.le_refl _)).src; replace ho5 := Lib.hid ho5; replace hg5 := Lib.hid hg5; replace hB5 := Lib.hid hB5; replace hS5 := Lib.hid hS5)
      | (refine step_app _ (by rfl) (.tmp 47) (.tmp 49) _ (by rfl) W.heap.size 9 i0 _ 16 Tryd.underlying23 hi hz0 hz1 hz2 rfl v5 _ _ (by rfl) ho5.out A3 _ c3 _ (by rfl) hS5.out (by unfold maxLen; omega) (by omega) hB5.out.size ?_; intro v6 w6 ho6 hg6 hat6; have hB6 := below_own hB5.out ho5.out hg6 hB5.out.size (Nat.le_refl _); replace ho6 := Lib.hid ho6; replace hg6 := Lib.hid hg6; replace hB6 := Lib.hid hB6))
    all_goals
      have hB7 := hY.out.trans (hB6.out.mono hY.out.size)
      have ho7 : w6.ownsRow W.heap.size 9 1 v6 t.words.length (t.words.map Value.string) := by
        have := ho6.out
        rw [hwl.out]
        simpa [Tg.words] using this
      obtain ⟨A, c, rfl, hS⟩ := strs_of_own ho7
      obtain ⟨-, -, hat⟩ := hS
      replace hat := Lib.hid hat
      replace hB7 := Lib.hid hB7
      have hnw : t.words.length ≤ 25 := by have := hwl.out; omega
      clear ho7 ho6 ho5 hB6 hB5 hS5 x2' hg5 hg6 hat5 hat6 HB0 HO0 HS1 HS3 x0 x2 hW1 hY hZ H1 H3 hBel hB hw2 hq hu2
      go_wp2
      go_loopw [4] (fun i wr => ∃ k m : Nat, k ≤ t.words.length ∧ i = .int .i64 k ∧ wordsTo t.words k ∧ apartTo t.words k ∧ wr = w6.drewN m) (fun i _ => t.words.length - (intOf i).toNat)
      case atStart => exact ⟨0, 0, Nat.zero_le _, rfl, fun j hj => absurd hj (by omega), fun j hj => absurd hj (by omega), rfl⟩
      case round =>
        obtain ⟨k, m, hk, rfl, hu, ha, rfl⟩ := hrel
        by_cases hlt : k < t.words.length
        · obtain ⟨b, o, rfl, hbo, hc⟩ := hat.out (by omega)
          have ck := hc k hlt
          have hW := specWordOk_any _ (w6.drewN m) (HSZ.out k)
          have HU := Lib.hid (words_go hu)
          have HN := Lib.hid (HNO.out k hlt)
          have HA := Lib.hid (apart_go ha)
          have HD := Lib.hid (fun j hj => ok_no_twice (t := t) (j := j) hj hlt)
          replace hc := Lib.hid hc
          generalize hx : t.words.getD k ByteArray.empty = x at *
          replace hx := Lib.hid hx
          clear hu ha
          go_wp2_with (fail)
          refine hW.mono ?_
          rintro e _ ⟨rfl, rfl⟩
          clear hW
          cases hxo : wordOk x
          · replace HN := Lib.hid (HN.out hxo)
            go_wp2
            go_ret
            exact ⟨ret_bool HN.out.symm, below_drewN hB7.out m⟩
          · replace HU := Lib.hid (HU.out hxo)
            clear HN hxo
            go_wp2
            obtain ⟨wo, hwo⟩ : ∃ wo : World, wo = w6.drewN m := ⟨_, rfl⟩
            rw [← hwo]
            have ck' : w6.cell? ⟨b, o + k, none⟩ = some (.string x) := by rw [← hx.out]; exact hc.out k hlt
            replace ck' := Lib.hid ck'
            replace hwo := Lib.hid hwo
            clear ck
            go_loopw [5] (fun i wr => ∃ j m : Nat, j ≤ k ∧ i = .int .i64 j ∧ (∀ i, i < j → t.words.getD i ByteArray.empty ≠ x) ∧ wr = w6.drewN m) (fun i _ => k - (intOf i).toNat)
            case atStart => exact ⟨0, m, Nat.zero_le _, rfl, fun i hi => absurd hi (by omega), hwo.out⟩
            case round =>
              obtain ⟨j, m2, hj, rfl, hd, rfl⟩ := hrel
              by_cases hjt : j < k
              · have cj := hc.out j (by omega)
                have ck := ck'.out
                have hjl : j < t.words.length := by omega
                have HD2 := HD.out j hjt
                have HG := ne_go hd
                generalize t.words.getD j ByteArray.empty = y at *
                clear hd
                by_cases e : y = x
                · have he : (y.toList == x.toList) = true := by rw [str_eq]; exact decide_eq_true e
                  replace HD2 := Lib.hid (HD2 e)
                  replace e := Lib.hid e
                  clear HG
                  go_wp2
                  go_quiet (fail)
                  go_wp2
                  go_ret
                  exact ⟨ret_bool HD2.out.symm, below_drewN (below_drewN hB7.out _) _⟩
                · have he : (y.toList == x.toList) = false := by rw [str_eq]; exact decide_eq_false e
                  replace HG := Lib.hid (HG e)
                  replace e := Lib.hid e
                  clear HD2
                  go_wp2
                  go_quiet (fail)
                  go_wp2
                  go_roundw
                  case rel => exact ⟨j+1, m2+nq, by omega, by go_num, HG.out, by simp⟩
                  case measure => simp [intOf]; omega
              · obtain rfl : j = k := by omega
                replace HA := Lib.hid (HA.out hd)
                clear hd
                go_wp2
                go_roundw
                case rel => exact ⟨j+1, m2, by omega, by go_num, HU.out, HA.out, rfl⟩
                case measure => simp [intOf]; omega
        · obtain rfl : k = t.words.length := by omega
          have HO := Lib.hid (ok_of_words HS.out hu (apart_nodup ha))
          clear hu ha hat
          go_wp2
          go_ret
          exact ⟨ret_bool HO.out.symm, below_drewN hB7.out m⟩

/-- TongueOk of both, for every tongue. -/
theorem implTongueOk_any (v : Value) (t : Tg) (w : World) (h : Tng w v t) (hf : t.Fine) :
    Calls Tryd.prog 39 #[v] w fun e w' => e = .returned (.bool t.ok) ∧ Below w.heap.size w w' := by
  by_cases hs : t.Shape
  · exact implTongueOk_shape v t w h hf hs
  · rw [ok_no_shape hs]; exact implTongueOk_no v t w h hf hs
theorem specTongueOk_any (v : Value) (t : Tg) (w : World) (h : Tng w v t) (hf : t.Fine) :
    Calls Tryd.prog 43 #[v] w fun e w' => e = .returned (.bool t.ok) ∧ Below w.heap.size w w' := by
  by_cases hs : t.Shape
  · exact specTongueOk_shape v t w h hf hs
  · rw [ok_no_shape hs]; exact specTongueOk_no v t w h hf hs
end Go.Proofs.YteemgkabhkdeaaaDoor
