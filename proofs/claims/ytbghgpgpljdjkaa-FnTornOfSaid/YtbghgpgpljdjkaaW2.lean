/-
  The contract of l20Code.
-/
import Derived.Test.YtbghgpgpljdjkaaW1
import Derived.Deep.LoopGhost
import Derived.Deep.DeepCutAuto
namespace Go.Proofs.Ytbghgpgpljdjkaa
open Go.RowKit

/-- A code, or what is none, is drawn. -/
def RetCode (w : World) (g : Nat) (e : Ending) (w' : World) : Prop := ∃ v l q, e = .returned v ∧ DC w g w' v l q ∧ FewT 6 16 l ∧ q ≤ 100
abbrev laid1 (W : World) : World := (W.alloc (.cells #[] 9)).alloc (.cells #[.string ⟨#[97]⟩, .string ⟨#[97, 98]⟩, .string ⟨#[98, 98]⟩] 9)
abbrev laid2 (W : World) : World := (laid1 W).alloc (.cells #[.string ⟨#[97]⟩, .string ⟨#[98, 97]⟩, .string ⟨#[98, 98]⟩] 9)
abbrev laid3 (W : World) : World := (laid2 W).alloc (.cells #[.string ⟨#[97, 98]⟩, .string ⟨#[97, 98, 98]⟩, .string ⟨#[98, 97, 97]⟩] 9)
abbrev laid4 (W : World) : World := (laid3 W).alloc (.cells #[.string ⟨#[97]⟩, .string ⟨#[98]⟩, .string ⟨#[97, 98]⟩] 9)
abbrev laid5 (W : World) : World := (laid4 W).alloc (.cells #[.string ⟨#[97, 97]⟩, .string ⟨#[97, 97, 97]⟩] 9)
abbrev laid6 (W : World) : World := (laid5 W).alloc (.cells #[.slice (some ⟨W.heap.size + 1, 0, none⟩) 3 3, .slice (some ⟨W.heap.size + 1 + 1, 0, none⟩) 3 3, .slice (some ⟨W.heap.size + 1 + 1 + 1, 0, none⟩) 3 3, .slice (some ⟨W.heap.size + 1 + 1 + 1 + 1, 0, none⟩) 3 3, .slice (some ⟨W.heap.size + 1 + 1 + 1 + 1 + 1, 0, none⟩) 2 2] 23)
theorem laid_dc {w W : World} {g q : Nat} {v : Value} {l : List ByteArray} (h : DC w g W v l q) : DC w g (laid6 W) v l q := ((((((h.alloc _).alloc _).alloc _).alloc _).alloc _).alloc _).alloc _
theorem laid_at {W V : World} {g : Nat} (hg : (laid6 W).grownBy V (some g)) (hgW : g < W.heap.size) (k : Nat) (hk : k < 5) :
    V.ownsRow W.heap.size 9 1 (.slice (some ⟨W.heap.size, 0, none⟩) 0 0) 0 [] ∧ ∃ (A : Option Addr) (xs : List ByteArray), V.cell? ⟨W.heap.size + 1 + 1 + 1 + 1 + 1 + 1, k, none⟩ = some (.slice A xs.length xs.length) ∧ Src V A xs.length (xs.map Value.string) ∧ 1 ≤ xs.length ∧ FewT 3 3 xs := by
  have key : ∀ {j : Nat} {t : TypeId} {cs : Array Value}, g < j → Blk (laid6 W) j t cs → Blk V j t cs := fun hj h => h.grown hg (fun e => by injection e; omega)
  have h0 : Blk (laid6 W) W.heap.size 9 #[] := ((((((Blk.new W _ _).alloc _).alloc _).alloc _).alloc _).alloc _).alloc _
  have h6 := (key (by omega) (blk_new_at (w := laid5 W) (t := 23) (W.heap.size + 1 + 1 + 1 + 1 + 1 + 1) (by simp [World.size_alloc]))).cell k
  refine ⟨owns_empty (key hgW h0) (Nat.le_refl _), ?_⟩
  obtain rfl | rfl | rfl | rfl | rfl : k = 0 ∨ k = 1 ∨ k = 2 ∨ k = 3 ∨ k = 4 := by omega
  · exact ⟨_, [⟨#[97]⟩, ⟨#[97, 98]⟩, ⟨#[98, 98]⟩], h6, src_blk (t := 9) _ (key (by omega) (((((blk_new_at (W.heap.size + 1) (by simp [World.size_alloc])).alloc _).alloc _).alloc _).alloc _ |>.alloc _)), by decide, by decide, by decide⟩
  · exact ⟨_, [⟨#[97]⟩, ⟨#[98, 97]⟩, ⟨#[98, 98]⟩], h6, src_blk (t := 9) _ (key (by omega) ((((blk_new_at (W.heap.size + 1 + 1) (by simp [World.size_alloc])).alloc _).alloc _).alloc _ |>.alloc _)), by decide, by decide, by decide⟩
  · exact ⟨_, [⟨#[97, 98]⟩, ⟨#[97, 98, 98]⟩, ⟨#[98, 97, 97]⟩], h6, src_blk (t := 9) _ (key (by omega) (((blk_new_at (W.heap.size + 1 + 1 + 1) (by simp [World.size_alloc])).alloc _).alloc _ |>.alloc _)), by decide, by decide, by decide⟩
  · exact ⟨_, [⟨#[97]⟩, ⟨#[98]⟩, ⟨#[97, 98]⟩], h6, src_blk (t := 9) _ (key (by omega) ((blk_new_at (W.heap.size + 1 + 1 + 1 + 1) (by simp [World.size_alloc])).alloc _ |>.alloc _)), by decide, by decide, by decide⟩
  · exact ⟨_, [⟨#[97, 97]⟩, ⟨#[97, 97, 97]⟩], h6, src_blk (t := 9) _ (key (by omega) ((blk_new_at (W.heap.size + 1 + 1 + 1 + 1 + 1) (by simp [World.size_alloc])).alloc _)), by decide, by decide, by decide⟩

set_option maxRecDepth 100000 in
set_option maxHeartbeats 8000000 in
theorem code_any (g : Nat) (n : Int) (w : World) (h : Rd w g 0) (hn : 1 ≤ n) (hn' : n ≤ 1000) :
    Calls Try.prog 45 #[.pointer (some ⟨g, 0, none⟩), .int .i64 n] w (RetCode w g) := by
  obtain ⟨is0, his, hzs0, hzs1, hzs2⟩ := info_parts str_info
  have hg0 := h.lt
  have hPk := fun W q (hr : Rd W g q) (hq : q ≤ 5000) (m : Int) (hm : 1 ≤ m) (hm' : m ≤ 1000) => pick_any g q m W hr (by omega) (by omega) (by omega)
  replace hPk := Lib.hid hPk
  have HD : DC w g (w.alloc (.cells #[] 9)) (.slice (some ⟨w.heap.size, 0, none⟩) 0 0) [] 0 :=
    ⟨h.alloc' _, owns_empty (Blk.new w 9 #[]) (Nat.le_refl _), grown_of_below _ ((Below.refl _ _).alloc (Nat.le_refl _) _), hg0⟩
  replace HD := Lib.hid HD
  clear h
  go_enter Try.func45, Try.ntmps45
  go_wp2_with (fail)
  refine (hPk.out _ 0 HD.out.rd (by omega) 2 (by omega) (by omega)).mono ?_
  rintro e W1 ⟨k1, rfl, hk1, hr1, hg1, -⟩
  have HD1 := Lib.hid (HD.out.pick hr1 hg1)
  obtain ⟨L, hL, hL1, hL2⟩ : ∃ L : Nat, 2 + k1 = (L : Int) ∧ 2 ≤ L ∧ L ≤ 3 := ⟨(2 + k1).toNat, by omega, by omega, by omega⟩
  have hw1 : IntKind.i64.wrap (2 + k1) = (L : Int) := by rw [← hL]; exact IntWalk.i64_in _ (by omega)
  clear HD hr1 hg1 hk1
  replace hL := Lib.hid hL
  go_wp2
  go_loopw [5, 7, 8, 9, 10] (fun s5 s7 s8 s9 s10 wr => ∃ (k q : Nat) (l : List ByteArray) (v : Value), s7 = .int .i64 k ∧ s5 = v ∧ DC w g wr v l q ∧ k ≤ 9 ∧ FewT k 3 l ∧ (1 ≤ k → 1 ≤ l.length) ∧ l.length ≤ 4 ∧ q ≤ 1 + 6 * k) (fun _ s7 _ _ _ _ => 9 - (intOf s7).toNat)
  case atStart => exact ⟨0, 1, [], _, rfl, rfl, HD1.out, by omega, ⟨by simp, by simp⟩, by omega, by simp, by omega⟩
  case round =>
    obtain ⟨k, q, l, v, rfl, rfl, hd, hk, hf, hp, h4, hq⟩ := hrel
    obtain ⟨B, c, rfl, -⟩ := hd.own.strs
    replace hd := Lib.hid hd
    replace hf := Lib.hid hf
    by_cases hgo : k < 9 ∧ l.length < 4
    · obtain ⟨hgo1, hgo2⟩ := hgo
      have i1 : (k : Int) < 9 := by omega
      have i2 : (l.length : Int) < 4 := by omega
      go_wp2_with (fail)
      refine (hPk.out _ q hd.out.rd (by omega) 3 (by omega) (by omega)).mono ?_
      rintro e W2 ⟨k2, rfl, hk2, hr2, hg2, -⟩
      have HD2 := Lib.hid (hd.out.pick hr2 hg2)
      obtain ⟨M, hM, hM1, hM2⟩ : ∃ M : Nat, 1 + k2 = (M : Int) ∧ 1 ≤ M ∧ M ≤ 3 := ⟨(1 + k2).toNat, by omega, by omega, by omega⟩
      have hw2 : IntKind.i64.wrap (1 + k2) = (M : Int) := by rw [← hM]; exact IntWalk.i64_in _ (by omega)
      replace hM := Lib.hid hM
      clear hd hr2 hg2 hk2
      go_wp2
      go_loopw [8, 9, 10] (fun s8 s9 s10 wx => ∃ (j q2 : Nat) (s : ByteArray), s9 = .int .i64 j ∧ s8 = .string s ∧ DC w g wx (.slice B l.length c) l q2 ∧ j ≤ M ∧ s.size + j ≤ M ∧ q2 + j ≤ q + 1 + M) (fun _ s9 _ _ => (intOf s9).toNat)
      case atStart => exact ⟨M, q + 1, ⟨#[]⟩, rfl, rfl, HD2.out, Nat.le_refl _, by show 0 + M ≤ M; omega, Nat.le_refl _⟩
      case round =>
        obtain ⟨j, q2, s, rfl, rfl, hd2, hj, hs, hq2⟩ := hrel
        by_cases h0 : 0 < j
        · have i3 : 0 < (j : Int) := by omega
          replace hd2 := Lib.hid hd2
          go_wp2_with (fail)
          refine (hPk.out _ q2 hd2.out.rd (by omega) L (by omega) (by omega)).mono ?_
          rintro e W3 ⟨k3, rfl, hk3, hr3, hg3, -⟩
          obtain ⟨a, rfl⟩ : ∃ a : Nat, k3 = (a : Int) := ⟨k3.toNat, by omega⟩
          have ha : a < 3 := by omega
          have HD3 := Lib.hid (hd2.out.pick hr3 hg3)
          have e1 : IntKind.i64.wrap ((a : Int) + 1) = (a : Int) + 1 := IntWalk.i64_in _ (by omega)
          have e2 : (0 : Int) ≤ (a : Int) := by omega
          have e3 : (a : Int) ≤ (a : Int) + 1 := by omega
          have e4 : (a : Int) + 1 ≤ 3 := by omega
          have hcat : ¬ (9223372036854775807 < s.size + (min (a + 1) 3 - a)) := by omega
          clear hd2 hr3 hg3 hk3
          go_wp2
          go_roundw
          case rel => exact ⟨j - 1, q2 + 1, _, by go_num, rfl, HD3.out, by omega, by simp [ByteArray.size_append, ByteArray.size_extract]; omega, by omega⟩
          case measure => simp [intOf]; omega
        · have hs3 : s.size ≤ 3 := by omega
          have hj0 : j = 0 := by omega
          subst hj0
          have KP := put_any w.heap.size _ l s wr hd2.own hd2.gr.size (by omega)
          replace hd2 := Lib.hid hd2
          replace KP := Lib.hid KP
          go_wp2_with (fail)
          refine KP.out.mono ?_
          rintro e W4 ⟨v4, rfl, o4, g4, -⟩
          have HD4 := hd2.out.put o4 g4
          have hf4 := hf.out.put hs3
          have hp4 := putL_pos l s
          have hl4 := (putL_len l s).1
          clear KP o4 g4 hd2 hf
          generalize putL l s = l4 at *
          obtain ⟨B4, c4, rfl, -⟩ := HD4.own.strs
          replace HD4 := Lib.hid HD4
          replace hf4 := Lib.hid hf4
          go_wp2_with (fail)
          refine (hPk.out _ q2 HD4.out.rd (by omega) 5 (by omega) (by omega)).mono ?_
          rintro e W5 ⟨k5, rfl, hk5, hr5, hg5, -⟩
          have HD5 := Lib.hid (HD4.out.pick hr5 hg5)
          clear HD4 hr5 hg5 hk5
          by_cases hk0 : k5 = 0
          · subst hk0
            go_wp2_with (fail)
            refine (hPk.out _ (q2 + 1) HD5.out.rd (by omega) 3 (by omega) (by omega)).mono ?_
            rintro e W6 ⟨k6, rfl, hk6, hr6, hg6, -⟩
            have HD6 := Lib.hid (HD5.out.pick hr6 hg6)
            clear hr6 hg6 HD5
            go_upto_if 48 with (fail)
            go_cut [5] (fun s5 wx => ∃ (v : Value) (l : List ByteArray) (q : Nat), s5 = v ∧ DC w g wx v l q ∧ FewT 5 3 l ∧ 1 ≤ l.length ∧ q ≤ 80)
            case first =>
              by_cases hk0 : k6 = 0
              · subst hk0
                have HD7 := Lib.hid (laid_dc HD6.out)
                have hgW : g < W6.heap.size := HD6.out.rd.lt
                have hwW : w.heap.size ≤ W6.heap.size := HD6.out.gr.size
                clear HD6
                go_wp2_with (fail)
                refine (hPk.out (laid6 W6) _ HD7.out.rd (by omega) 5 (by omega) (by omega)).mono ?_
                rintro e W7 ⟨k7, rfl, hk7, hr7, hg7, -⟩
                obtain ⟨kk, rfl⟩ : ∃ kk : Nat, k7 = (kk : Int) := ⟨k7.toNat, by omega⟩
                have hkk : kk < 5 := by omega
                have hkk1 : (kk : Int) < 5 := by omega
                have hkk0 : (0 : Int) ≤ (kk : Int) := by omega
                obtain ⟨hO, A7, xs7, hc7, hs7, hx7, hf7⟩ := laid_at hg7 hgW kk hkk
                have HD8 := Lib.hid (HD7.out.pick hr7 hg7)
                have hO' := Lib.hid (own_mono hO hwW)
                replace hs7 := Lib.hid hs7
                have m1 := Lib.hid (show 0 + xs7.length ≤ maxLen by have := hf7.1; unfold maxLen; omega)
                have m2 := Lib.hid (show (0 + xs7.length) * 16 ≤ 140737488355328 by have := hf7.1; omega)
                replace hf7 := Lib.hid hf7
                have hB8 := HD8.out.gr.size
                clear HD7 hr7 hg7 hk7 hO
                go_wp2_with (at_builtin; refine wpList_app _ rfl (.tmp 49) (.tmp 59) _ rfl w.heap.size 9 is0 _ 16 Try.underlying23 his hzs0 hzs1 hzs2 rfl (.slice (some ⟨W6.heap.size, 0, none⟩) 0 0) 0 [] rfl hO'.out A7 xs7.length _ _ rfl hs7.out m1.out m2.out hB8 ?_; intro v8 w8 ho8 hg8 hat8)
                have HD9 := (HD8.out.turn (l' := []) (by exact hO'.out)).put (l' := xs7) (by unfold OwnStrs; simpa using ho8) hg8
                obtain ⟨B8, c8, rfl, -⟩ := HD9.own.strs
                replace HD9 := Lib.hid HD9
                clear ho8 hg8 hat8 HD8 hO' hs7 m1 m2 hc7
                go_wp2
                go_meet
                exact ⟨_, xs7, _, rfl, HD9.out, hf7.out.mono (by omega) (by omega), hx7, by omega⟩
              · have hk0' : (k6 == 0) = false := by rw [beq_eq_false_iff_ne]; exact hk0
                go_wp2
                go_meet
                exact ⟨_, l4, _, rfl, HD6.out, ⟨by omega, hf4.out.2⟩, hp4, by omega⟩
            case rest =>
              obtain ⟨v, l, q, rfl, HD, hf, hl, hq⟩ := hcut
              obtain ⟨B, c, rfl, -⟩ := HD.own.strs
              have KO := Lib.hid (odd_any g q n _ HD.rd (by omega) (by omega) (by omega))
              replace HD := Lib.hid HD
              go_wp2_with (fail)
              refine KO.out.mono ?_
              rintro e W8 ⟨b8, q8, rfl, hq8, hr8, hg8, -⟩
              replace HD := Lib.hid (HD.out.pick hr8 hg8)
              clear KO hr8 hg8
              cases b8
              · go_wp2
                go_ret
                exact ⟨_, l, _, rfl, HD.out, hf.mono (by omega) (by omega), by omega⟩
              · go_wp2_with (fail)
                refine (hPk.out _ q8 HD.out.rd (by omega) 3 (by omega) (by omega)).mono ?_
                rintro e W9 ⟨k9, rfl, hk9, hr9, hg9, -⟩
                replace HD := Lib.hid (HD.out.pick hr9 hg9)
                clear hr9 hg9
                by_cases h90 : k9 = 0
                · subst h90
                  go_wp2
                  go_ret
                  exact ⟨_, [], _, rfl, (HD.out.alloc _).turn (owns_empty (Blk.new W9 9 #[]) HD.out.gr.size), ⟨by simp, by simp⟩, by omega⟩
                · have h90' : (k9 == 0) = false := by rw [beq_eq_false_iff_ne]; exact h90
                  have hl1 : 0 < l.length := hl
                  obtain ⟨gb, cap, ev, hgb0, hgb⟩ := World.ownsRow.form HD.out.own hl
                  cases ev
                  obtain ⟨y0, h0c, hz0⟩ : ∃ y0 : ByteArray, W9.cell? ⟨gb, 0, none⟩ = some (.string y0) ∧ y0.size ≤ 3 := by
                    refine ⟨l.getD 0 ByteArray.empty, ?_, hf.2 _ (getD_mem hl)⟩
                    rw [World.ownsRow.cellAt HD.out.own 0 (by omega)]
                    simp [List.getD_eq_getElem?_getD, hl1]
                  have h0f : W9.frozen? ⟨gb, 0, none⟩ = false := World.ownsRow.frozenAt HD.out.own 0
                  have hl0 : (0 : Int) < (l.length : Int) := by omega
                  by_cases h91 : k9 = 1
                  · subst h91
                    have m1 := Lib.hid (show l.length + 1 ≤ maxLen by have := hf.1; unfold maxLen; omega)
                    have m2 := Lib.hid (show (l.length + 1) * 16 ≤ 140737488355328 by have := hf.1; omega)
                    have hB9 := HD.out.gr.size
                    go_wp2_with (at_builtin; go_loud (refine wpList_app _ rfl (.tmp 78) (.tmp 82) _ rfl w.heap.size 9 is0 _ 16 Try.underlying23 his hzs0 hzs1 hzs2 rfl (.slice (some ⟨gb, 0, none⟩) l.length c) _ _ rfl (World.ownsRow.alloc HD.out.own _) (some ⟨W9.heap.size, 0, none⟩) 1 1 [.string y0] rfl (Src.one (Blk.new _ _ _) rfl) m1.out m2.out (by simp; omega) ?_; intro v10 w10 ho10 hg10 hat10))
                    have HDa := (HD.out.alloc (.cells #[.string y0] 9)).put (own_snocB ho10) hg10
                    obtain ⟨B10, c10, rfl, -⟩ := HDa.own.strs
                    replace HDa := Lib.hid HDa
                    clear ho10 hg10 hat10
                    go_wp2
                    go_ret
                    exact ⟨_, _, _, rfl, HDa.out, (hf.snoc hz0).mono (by omega) (by omega), by omega⟩
                  · have h91' : (k9 == 1) = false := by rw [beq_eq_false_iff_ne]; exact h91
                    have hgW := HD.out.rd.lt
                    have hR := Blk.new W9 9 #[.string ⟨#[]⟩, .string ⟨#[65]⟩, .string ⟨#[97, 97, 97, 97, 97]⟩]
                    replace HD := Lib.hid (HD.out.alloc (.cells #[.string ⟨#[]⟩, .string ⟨#[65]⟩, .string ⟨#[97, 97, 97, 97, 97]⟩] 9))
                    clear h0c h0f
                    go_wp2_with (fail)
                    refine (hPk.out _ _ HD.out.rd (by omega) 3 (by omega) (by omega)).mono ?_
                    rintro e Wa ⟨ka, rfl, hka, hra, hga, -⟩
                    obtain ⟨kk, rfl⟩ : ∃ kk : Nat, ka = (kk : Int) := ⟨ka.toNat, by omega⟩
                    have hkk : kk < 3 := by omega
                    have hkk1 : (kk : Int) < 3 := by omega
                    have hkk0 : (0 : Int) ≤ (kk : Int) := by omega
                    obtain ⟨y, hy, hys⟩ := pick3B ⟨#[]⟩ ⟨#[65]⟩ ⟨#[97, 97, 97, 97, 97]⟩ 5 kk hkk (by decide) (by decide) (by decide)
                    have hca : Wa.cell? ⟨W9.heap.size, kk, none⟩ = some (.string y) := ((hR.grown hga (fun e => by injection e; omega)).cell kk).trans hy
                    replace HD := Lib.hid (HD.out.pick hra hga)
                    have h0f : Wa.frozen? ⟨gb, 0, none⟩ = false := World.ownsRow.frozenAt HD.out.own 0
                    obtain ⟨ya, hya⟩ : ∃ ya : ByteArray, Wa.cell? ⟨gb, 0, none⟩ = some (.string ya) := by
                      refine ⟨l.getD 0 ByteArray.empty, ?_⟩
                      rw [World.ownsRow.cellAt HD.out.own 0 (by omega)]
                      simp [List.getD_eq_getElem?_getD, hl1]
                    have hgb' := (HD.out.own.lt gb rfl).2
                    have HF := Lib.hid (HD.out.set0 y)
                    clear hra hga hka hR hy
                    go_wp2
                    go_ret
                    exact ⟨_, _, _, rfl, HF.out, (hf.mono (by omega) (by omega)).set0 hys |>.mono (Nat.le_refl _) (by omega), by omega⟩
          · have hk0' : (k5 == 0) = false := by rw [beq_eq_false_iff_ne]; exact hk0
            go_wp2
            go_roundw
            case rel => exact ⟨k + 1, q2 + 1, l4, _, by go_num, rfl, HD5.out, by omega, hf4.out, fun _ => hp4, by omega, by omega⟩
            case measure => simp [intOf]; omega
    · by_cases hk9 : k < 9
      · have i1 : (k : Int) < 9 := by omega
        have i2 : ¬ (l.length : Int) < 4 := by omega
        have hp1 : 1 ≤ l.length := by omega
        go_wp2_with (fail)
        refine (hPk.out _ q hd.out.rd (by omega) 3 (by omega) (by omega)).mono ?_
        rintro e W6 ⟨k6, rfl, hk6, hr6, hg6, -⟩
        have HD6 := Lib.hid (hd.out.pick hr6 hg6)
        clear hr6 hg6 hd
        go_upto_if 48 with (fail)
        go_cut [5] (fun s5 wx => ∃ (v : Value) (l : List ByteArray) (q : Nat), s5 = v ∧ DC w g wx v l q ∧ FewT 5 3 l ∧ 1 ≤ l.length ∧ q ≤ 80)
        case first =>
          by_cases hk0 : k6 = 0
          · subst hk0
            have HD7 := Lib.hid (laid_dc HD6.out)
            have hgW : g < W6.heap.size := HD6.out.rd.lt
            have hwW : w.heap.size ≤ W6.heap.size := HD6.out.gr.size
            clear HD6
            go_wp2_with (fail)
            refine (hPk.out (laid6 W6) _ HD7.out.rd (by omega) 5 (by omega) (by omega)).mono ?_
            rintro e W7 ⟨k7, rfl, hk7, hr7, hg7, -⟩
            obtain ⟨kk, rfl⟩ : ∃ kk : Nat, k7 = (kk : Int) := ⟨k7.toNat, by omega⟩
            have hkk : kk < 5 := by omega
            have hkk1 : (kk : Int) < 5 := by omega
            have hkk0 : (0 : Int) ≤ (kk : Int) := by omega
            obtain ⟨hO, A7, xs7, hc7, hs7, hx7, hf7⟩ := laid_at hg7 hgW kk hkk
            have HD8 := Lib.hid (HD7.out.pick hr7 hg7)
            have hO' := Lib.hid (own_mono hO hwW)
            replace hs7 := Lib.hid hs7
            have m1 := Lib.hid (show 0 + xs7.length ≤ maxLen by have := hf7.1; unfold maxLen; omega)
            have m2 := Lib.hid (show (0 + xs7.length) * 16 ≤ 140737488355328 by have := hf7.1; omega)
            replace hf7 := Lib.hid hf7
            have hB8 := HD8.out.gr.size
            clear HD7 hr7 hg7 hk7 hO
            go_wp2_with (at_builtin; refine wpList_app _ rfl (.tmp 49) (.tmp 59) _ rfl w.heap.size 9 is0 _ 16 Try.underlying23 his hzs0 hzs1 hzs2 rfl (.slice (some ⟨W6.heap.size, 0, none⟩) 0 0) 0 [] rfl hO'.out A7 xs7.length _ _ rfl hs7.out m1.out m2.out hB8 ?_; intro v8 w8 ho8 hg8 hat8)
            have HD9 := (HD8.out.turn (l' := []) (by exact hO'.out)).put (l' := xs7) (by unfold OwnStrs; simpa using ho8) hg8
            obtain ⟨B8, c8, rfl, -⟩ := HD9.own.strs
            replace HD9 := Lib.hid HD9
            clear ho8 hg8 hat8 HD8 hO' hs7 m1 m2 hc7
            go_wp2
            go_meet
            exact ⟨_, xs7, _, rfl, HD9.out, hf7.out.mono (by omega) (by omega), hx7, by omega⟩
          · have hk0' : (k6 == 0) = false := by rw [beq_eq_false_iff_ne]; exact hk0
            go_wp2
            go_meet
            exact ⟨_, l, _, rfl, HD6.out, ⟨by omega, hf.out.2⟩, hp1, by omega⟩
        case rest =>
          obtain ⟨v, l, q, rfl, HD, hf, hl, hq⟩ := hcut
          obtain ⟨B, c, rfl, -⟩ := HD.own.strs
          have KO := Lib.hid (odd_any g q n _ HD.rd (by omega) (by omega) (by omega))
          replace HD := Lib.hid HD
          go_wp2_with (fail)
          refine KO.out.mono ?_
          rintro e W8 ⟨b8, q8, rfl, hq8, hr8, hg8, -⟩
          replace HD := Lib.hid (HD.out.pick hr8 hg8)
          clear KO hr8 hg8
          cases b8
          · go_wp2
            go_ret
            exact ⟨_, l, _, rfl, HD.out, hf.mono (by omega) (by omega), by omega⟩
          · go_wp2_with (fail)
            refine (hPk.out _ q8 HD.out.rd (by omega) 3 (by omega) (by omega)).mono ?_
            rintro e W9 ⟨k9, rfl, hk9, hr9, hg9, -⟩
            replace HD := Lib.hid (HD.out.pick hr9 hg9)
            clear hr9 hg9
            by_cases h90 : k9 = 0
            · subst h90
              go_wp2
              go_ret
              exact ⟨_, [], _, rfl, (HD.out.alloc _).turn (owns_empty (Blk.new W9 9 #[]) HD.out.gr.size), ⟨by simp, by simp⟩, by omega⟩
            · have h90' : (k9 == 0) = false := by rw [beq_eq_false_iff_ne]; exact h90
              have hl1 : 0 < l.length := hl
              obtain ⟨gb, cap, ev, hgb0, hgb⟩ := World.ownsRow.form HD.out.own hl
              cases ev
              obtain ⟨y0, h0c, hz0⟩ : ∃ y0 : ByteArray, W9.cell? ⟨gb, 0, none⟩ = some (.string y0) ∧ y0.size ≤ 3 := by
                refine ⟨l.getD 0 ByteArray.empty, ?_, hf.2 _ (getD_mem hl)⟩
                rw [World.ownsRow.cellAt HD.out.own 0 (by omega)]
                simp [List.getD_eq_getElem?_getD, hl1]
              have h0f : W9.frozen? ⟨gb, 0, none⟩ = false := World.ownsRow.frozenAt HD.out.own 0
              have hl0 : (0 : Int) < (l.length : Int) := by omega
              by_cases h91 : k9 = 1
              · subst h91
                have m1 := Lib.hid (show l.length + 1 ≤ maxLen by have := hf.1; unfold maxLen; omega)
                have m2 := Lib.hid (show (l.length + 1) * 16 ≤ 140737488355328 by have := hf.1; omega)
                have hB9 := HD.out.gr.size
                go_wp2_with (at_builtin; go_loud (refine wpList_app _ rfl (.tmp 78) (.tmp 82) _ rfl w.heap.size 9 is0 _ 16 Try.underlying23 his hzs0 hzs1 hzs2 rfl (.slice (some ⟨gb, 0, none⟩) l.length c) _ _ rfl (World.ownsRow.alloc HD.out.own _) (some ⟨W9.heap.size, 0, none⟩) 1 1 [.string y0] rfl (Src.one (Blk.new _ _ _) rfl) m1.out m2.out (by simp; omega) ?_; intro v10 w10 ho10 hg10 hat10))
                have HDa := (HD.out.alloc (.cells #[.string y0] 9)).put (own_snocB ho10) hg10
                obtain ⟨B10, c10, rfl, -⟩ := HDa.own.strs
                replace HDa := Lib.hid HDa
                clear ho10 hg10 hat10
                go_wp2
                go_ret
                exact ⟨_, _, _, rfl, HDa.out, (hf.snoc hz0).mono (by omega) (by omega), by omega⟩
              · have h91' : (k9 == 1) = false := by rw [beq_eq_false_iff_ne]; exact h91
                have hgW := HD.out.rd.lt
                have hR := Blk.new W9 9 #[.string ⟨#[]⟩, .string ⟨#[65]⟩, .string ⟨#[97, 97, 97, 97, 97]⟩]
                replace HD := Lib.hid (HD.out.alloc (.cells #[.string ⟨#[]⟩, .string ⟨#[65]⟩, .string ⟨#[97, 97, 97, 97, 97]⟩] 9))
                clear h0c h0f
                go_wp2_with (fail)
                refine (hPk.out _ _ HD.out.rd (by omega) 3 (by omega) (by omega)).mono ?_
                rintro e Wa ⟨ka, rfl, hka, hra, hga, -⟩
                obtain ⟨kk, rfl⟩ : ∃ kk : Nat, ka = (kk : Int) := ⟨ka.toNat, by omega⟩
                have hkk : kk < 3 := by omega
                have hkk1 : (kk : Int) < 3 := by omega
                have hkk0 : (0 : Int) ≤ (kk : Int) := by omega
                obtain ⟨y, hy, hys⟩ := pick3B ⟨#[]⟩ ⟨#[65]⟩ ⟨#[97, 97, 97, 97, 97]⟩ 5 kk hkk (by decide) (by decide) (by decide)
                have hca : Wa.cell? ⟨W9.heap.size, kk, none⟩ = some (.string y) := ((hR.grown hga (fun e => by injection e; omega)).cell kk).trans hy
                replace HD := Lib.hid (HD.out.pick hra hga)
                have h0f : Wa.frozen? ⟨gb, 0, none⟩ = false := World.ownsRow.frozenAt HD.out.own 0
                obtain ⟨ya, hya⟩ : ∃ ya : ByteArray, Wa.cell? ⟨gb, 0, none⟩ = some (.string ya) := by
                  refine ⟨l.getD 0 ByteArray.empty, ?_⟩
                  rw [World.ownsRow.cellAt HD.out.own 0 (by omega)]
                  simp [List.getD_eq_getElem?_getD, hl1]
                have hgb' := (HD.out.own.lt gb rfl).2
                have HF := Lib.hid (HD.out.set0 y)
                clear hra hga hka hR hy
                go_wp2
                go_ret
                exact ⟨_, _, _, rfl, HF.out, (hf.mono (by omega) (by omega)).set0 hys |>.mono (Nat.le_refl _) (by omega), by omega⟩
      · have i1 : ¬ (k : Int) < 9 := by omega
        have hp1 : 1 ≤ l.length := hp (by omega)
        go_wp2_with (fail)
        refine (hPk.out _ q hd.out.rd (by omega) 3 (by omega) (by omega)).mono ?_
        rintro e W6 ⟨k6, rfl, hk6, hr6, hg6, -⟩
        have HD6 := Lib.hid (hd.out.pick hr6 hg6)
        clear hr6 hg6 hd
        go_upto_if 48 with (fail)
        go_cut [5] (fun s5 wx => ∃ (v : Value) (l : List ByteArray) (q : Nat), s5 = v ∧ DC w g wx v l q ∧ FewT 5 3 l ∧ 1 ≤ l.length ∧ q ≤ 80)
        case first =>
          by_cases hk0 : k6 = 0
          · subst hk0
            have HD7 := Lib.hid (laid_dc HD6.out)
            have hgW : g < W6.heap.size := HD6.out.rd.lt
            have hwW : w.heap.size ≤ W6.heap.size := HD6.out.gr.size
            clear HD6
            go_wp2_with (fail)
            refine (hPk.out (laid6 W6) _ HD7.out.rd (by omega) 5 (by omega) (by omega)).mono ?_
            rintro e W7 ⟨k7, rfl, hk7, hr7, hg7, -⟩
            obtain ⟨kk, rfl⟩ : ∃ kk : Nat, k7 = (kk : Int) := ⟨k7.toNat, by omega⟩
            have hkk : kk < 5 := by omega
            have hkk1 : (kk : Int) < 5 := by omega
            have hkk0 : (0 : Int) ≤ (kk : Int) := by omega
            obtain ⟨hO, A7, xs7, hc7, hs7, hx7, hf7⟩ := laid_at hg7 hgW kk hkk
            have HD8 := Lib.hid (HD7.out.pick hr7 hg7)
            have hO' := Lib.hid (own_mono hO hwW)
            replace hs7 := Lib.hid hs7
            have m1 := Lib.hid (show 0 + xs7.length ≤ maxLen by have := hf7.1; unfold maxLen; omega)
            have m2 := Lib.hid (show (0 + xs7.length) * 16 ≤ 140737488355328 by have := hf7.1; omega)
            replace hf7 := Lib.hid hf7
            have hB8 := HD8.out.gr.size
            clear HD7 hr7 hg7 hk7 hO
            go_wp2_with (at_builtin; refine wpList_app _ rfl (.tmp 49) (.tmp 59) _ rfl w.heap.size 9 is0 _ 16 Try.underlying23 his hzs0 hzs1 hzs2 rfl (.slice (some ⟨W6.heap.size, 0, none⟩) 0 0) 0 [] rfl hO'.out A7 xs7.length _ _ rfl hs7.out m1.out m2.out hB8 ?_; intro v8 w8 ho8 hg8 hat8)
            have HD9 := (HD8.out.turn (l' := []) (by exact hO'.out)).put (l' := xs7) (by unfold OwnStrs; simpa using ho8) hg8
            obtain ⟨B8, c8, rfl, -⟩ := HD9.own.strs
            replace HD9 := Lib.hid HD9
            clear ho8 hg8 hat8 HD8 hO' hs7 m1 m2 hc7
            go_wp2
            go_meet
            exact ⟨_, xs7, _, rfl, HD9.out, hf7.out.mono (by omega) (by omega), hx7, by omega⟩
          · have hk0' : (k6 == 0) = false := by rw [beq_eq_false_iff_ne]; exact hk0
            go_wp2
            go_meet
            exact ⟨_, l, _, rfl, HD6.out, ⟨by omega, hf.out.2⟩, hp1, by omega⟩
        case rest =>
          obtain ⟨v, l, q, rfl, HD, hf, hl, hq⟩ := hcut
          obtain ⟨B, c, rfl, -⟩ := HD.own.strs
          have KO := Lib.hid (odd_any g q n _ HD.rd (by omega) (by omega) (by omega))
          replace HD := Lib.hid HD
          go_wp2_with (fail)
          refine KO.out.mono ?_
          rintro e W8 ⟨b8, q8, rfl, hq8, hr8, hg8, -⟩
          replace HD := Lib.hid (HD.out.pick hr8 hg8)
          clear KO hr8 hg8
          cases b8
          · go_wp2
            go_ret
            exact ⟨_, l, _, rfl, HD.out, hf.mono (by omega) (by omega), by omega⟩
          · go_wp2_with (fail)
            refine (hPk.out _ q8 HD.out.rd (by omega) 3 (by omega) (by omega)).mono ?_
            rintro e W9 ⟨k9, rfl, hk9, hr9, hg9, -⟩
            replace HD := Lib.hid (HD.out.pick hr9 hg9)
            clear hr9 hg9
            by_cases h90 : k9 = 0
            · subst h90
              go_wp2
              go_ret
              exact ⟨_, [], _, rfl, (HD.out.alloc _).turn (owns_empty (Blk.new W9 9 #[]) HD.out.gr.size), ⟨by simp, by simp⟩, by omega⟩
            · have h90' : (k9 == 0) = false := by rw [beq_eq_false_iff_ne]; exact h90
              have hl1 : 0 < l.length := hl
              obtain ⟨gb, cap, ev, hgb0, hgb⟩ := World.ownsRow.form HD.out.own hl
              cases ev
              obtain ⟨y0, h0c, hz0⟩ : ∃ y0 : ByteArray, W9.cell? ⟨gb, 0, none⟩ = some (.string y0) ∧ y0.size ≤ 3 := by
                refine ⟨l.getD 0 ByteArray.empty, ?_, hf.2 _ (getD_mem hl)⟩
                rw [World.ownsRow.cellAt HD.out.own 0 (by omega)]
                simp [List.getD_eq_getElem?_getD, hl1]
              have h0f : W9.frozen? ⟨gb, 0, none⟩ = false := World.ownsRow.frozenAt HD.out.own 0
              have hl0 : (0 : Int) < (l.length : Int) := by omega
              by_cases h91 : k9 = 1
              · subst h91
                have m1 := Lib.hid (show l.length + 1 ≤ maxLen by have := hf.1; unfold maxLen; omega)
                have m2 := Lib.hid (show (l.length + 1) * 16 ≤ 140737488355328 by have := hf.1; omega)
                have hB9 := HD.out.gr.size
                go_wp2_with (at_builtin; go_loud (refine wpList_app _ rfl (.tmp 78) (.tmp 82) _ rfl w.heap.size 9 is0 _ 16 Try.underlying23 his hzs0 hzs1 hzs2 rfl (.slice (some ⟨gb, 0, none⟩) l.length c) _ _ rfl (World.ownsRow.alloc HD.out.own _) (some ⟨W9.heap.size, 0, none⟩) 1 1 [.string y0] rfl (Src.one (Blk.new _ _ _) rfl) m1.out m2.out (by simp; omega) ?_; intro v10 w10 ho10 hg10 hat10))
                have HDa := (HD.out.alloc (.cells #[.string y0] 9)).put (own_snocB ho10) hg10
                obtain ⟨B10, c10, rfl, -⟩ := HDa.own.strs
                replace HDa := Lib.hid HDa
                clear ho10 hg10 hat10
                go_wp2
                go_ret
                exact ⟨_, _, _, rfl, HDa.out, (hf.snoc hz0).mono (by omega) (by omega), by omega⟩
              · have h91' : (k9 == 1) = false := by rw [beq_eq_false_iff_ne]; exact h91
                have hgW := HD.out.rd.lt
                have hR := Blk.new W9 9 #[.string ⟨#[]⟩, .string ⟨#[65]⟩, .string ⟨#[97, 97, 97, 97, 97]⟩]
                replace HD := Lib.hid (HD.out.alloc (.cells #[.string ⟨#[]⟩, .string ⟨#[65]⟩, .string ⟨#[97, 97, 97, 97, 97]⟩] 9))
                clear h0c h0f
                go_wp2_with (fail)
                refine (hPk.out _ _ HD.out.rd (by omega) 3 (by omega) (by omega)).mono ?_
                rintro e Wa ⟨ka, rfl, hka, hra, hga, -⟩
                obtain ⟨kk, rfl⟩ : ∃ kk : Nat, ka = (kk : Int) := ⟨ka.toNat, by omega⟩
                have hkk : kk < 3 := by omega
                have hkk1 : (kk : Int) < 3 := by omega
                have hkk0 : (0 : Int) ≤ (kk : Int) := by omega
                obtain ⟨y, hy, hys⟩ := pick3B ⟨#[]⟩ ⟨#[65]⟩ ⟨#[97, 97, 97, 97, 97]⟩ 5 kk hkk (by decide) (by decide) (by decide)
                have hca : Wa.cell? ⟨W9.heap.size, kk, none⟩ = some (.string y) := ((hR.grown hga (fun e => by injection e; omega)).cell kk).trans hy
                replace HD := Lib.hid (HD.out.pick hra hga)
                have h0f : Wa.frozen? ⟨gb, 0, none⟩ = false := World.ownsRow.frozenAt HD.out.own 0
                obtain ⟨ya, hya⟩ : ∃ ya : ByteArray, Wa.cell? ⟨gb, 0, none⟩ = some (.string ya) := by
                  refine ⟨l.getD 0 ByteArray.empty, ?_⟩
                  rw [World.ownsRow.cellAt HD.out.own 0 (by omega)]
                  simp [List.getD_eq_getElem?_getD, hl1]
                have hgb' := (HD.out.own.lt gb rfl).2
                have HF := Lib.hid (HD.out.set0 y)
                clear hra hga hka hR hy
                go_wp2
                go_ret
                exact ⟨_, _, _, rfl, HF.out, (hf.mono (by omega) (by omega)).set0 hys |>.mono (Nat.le_refl _) (by omega), by omega⟩
end Go.Proofs.Ytbghgpgpljdjkaa
