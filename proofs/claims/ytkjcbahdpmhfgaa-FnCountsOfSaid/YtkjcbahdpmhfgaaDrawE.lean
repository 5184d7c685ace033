/-
  Contracts of the draws of chapter 1 with counts.
-/
import Derived.Test.YtkjcbahdpmhfgaaDrawD
import Derived.Test.YtkjcbahdpmhfgaaMarks
namespace Go.Proofs.Ytkjcbahdpmhfgaa
open Go.RowKit

/-- What a draw of bases and counts leaves. -/
def DrawnTwo (w : World) (e : Ending) (w' : World) : Prop :=
  ∃ A n c xs A' n' c' ys, e = .returned (.tuple #[.slice A n c, .slice A' n' c']) ∧ Ints w' .i64 A n c xs ∧ Fits xs ∧ n ≤ 20 ∧ Ints w' .i64 A' n' c' ys ∧ Fits ys ∧ n' ≤ 30 ∧ Below w.heap.size w w'
def CountsPost (w : World) (g : Nat) (e : Ending) (w' : World) : Prop :=
  ∃ A n c xs A' n' c' ys, e = .returned (.tuple #[.slice A n c, .slice A' n' c']) ∧ Ints w' .i64 A n c xs ∧ Fits xs ∧ n ≤ 20 ∧ Ints w' .i64 A' n' c' ys ∧ Fits ys ∧ n' ≤ 30 ∧ w.grownBy w' (some g)

def FitsL (ys : List Int) : Prop := ∀ y ∈ ys, -9223372036854775808 ≤ y ∧ y ≤ 9223372036854775807
theorem FitsL.fits {ys : List Int} (h : FitsL ys) : Fits ys := by
  intro j
  by_cases hj : j < ys.length
  · have := h ys[j] (List.getElem_mem hj)
    simpa [List.getD_eq_getElem?_getD, List.getElem?_eq_getElem hj] using this
  · simp [List.getD_eq_getElem?_getD, List.getElem?_eq_none (by omega : ys.length ≤ j)]
theorem FitsL.snoc {ys : List Int} (h : FitsL ys) {z : Int} (hz : -9223372036854775808 ≤ z ∧ z ≤ 9223372036854775807) : FitsL (ys ++ [z]) := fun y hy => by
  rcases List.mem_append.1 hy with h1 | h1
  · exact h y h1
  · simp at h1; subst h1; exact hz
theorem countsOf_fits (b : List Int) (n : Int) : FitsL (countsOf b n) := by
  intro y hy
  cases hok : countsOk b n
  · rw [countsOf_no hok] at hy; cases hy
  · obtain ⟨hb, hn⟩ := (countsOk_iff b n).1 hok
    rw [countsOf_yes hok] at hy
    obtain ⟨k, hk, rfl⟩ := List.mem_map.1 hy
    have := cntN_bd hb hn (k := k) (by simpa using hk)
    omega

theorem row_apart {a b : World} {B B' : Nat} {v v' : Value} {n n' : Nat} {xs xs' : List Value} (h : a.ownsRow B 3 1 v n xs) (h' : a.ownsRow B' 3 1 v' n' xs') (hg : a.grownBy b v'.ownBlock) (hlt : ∀ k, v.ownBlock = some k → k < B') : b.ownsRow B 3 1 v n xs := by
  refine h.kept hg ?_
  cases hv : v.ownBlock with
  | none => exact .inl rfl
  | some k => exact .inr fun e => by have := (h'.lt k e.symm).1; have := hlt k hv; omega

set_option maxHeartbeats 2000000 in
theorem counts_any (g p : Nat) (w : World) (h : Rd w g p) (hp : p ≤ 100) :
    Calls Try.prog 39 #[.pointer (some ⟨g, 0, none⟩)] w (CountsPost w g) := by
  obtain ⟨i0, hi0, hz0, hz1, hz2⟩ := info_parts int_info0
  have hlt := h.lt
  have H := Lib.hid h
  clear h
  go_enter Try.func39, Try.ntmps39
  go_wp2_with (fail)
  refine (bases_any _ p 14 w H.out (by omega) (by omega) (by omega)).mono ?_
  rintro e w2 ⟨v, m, xs, q, rfl, hG, hm, hr2, hq, hg2⟩
  obtain ⟨A2, c2, rfl, -⟩ := ints_of_own hG.own
  have hfx := Fits.of_small hG.fits
  have ho2 := hG.own
  clear hG
  go_wp2_with (fail)
  refine (pickN_any g q 2 w2 hr2 (by omega) (by omega) (by omega)).mono ?_
  rintro e w3 ⟨k3, rfl, hk3, hr3, hg3, -⟩
  have ho3 := ownsRow.pick' hlt ho2 hg3
  have hg3' := grown_trans' hg2 hg3
  obtain ⟨A3, c3, e3, i3⟩ := ints_of_own ho3
  cases e3
  clear ho2 hr2 hg2 hg3
  by_cases hk0 : k3 = 0
  · subst hk0
    go_wp2_with (fail)
    refine (specBasesOk_any _ _ _ xs _ i3 (by omega) hfx).mono ?_
    rintro e _ ⟨rfl, m4, rfl⟩
    cases hb : basesOk xs
    · have hrW := hr3.drewN m4
      have hoW : (w3.drewN m4).ownsRow w.heap.size 3 1 (.slice A2 m c2) m (xs.map (Value.int .i64)) := ho3
      have hgW := grown_drewN hg3' m4
      generalize w3.drewN m4 = W at *
      clear i3 ho3 hr3 hg3'
      go_wp2
      have hsW := hgW.size
      have hown0 : (W.alloc (.cells #[] 3)).ownsRow W.heap.size 3 1 (.slice (some ⟨W.heap.size, 0, none⟩) 0 0) 0 (([] : List Int).map (Value.int .i64)) := World.ownsRow_made W #[] 0 (Nat.le_refl _) (Nat.zero_le _) rfl
      have hoL := hoW.alloc (.cells #[] 3)
      have hrL := hrW.alloc' (.cells #[] 3)
      have hgL := grown_alloc' hgW (.cells #[] 3)
      have hbL : ∀ k, (Value.slice A2 m c2).ownBlock = some k → k < W.heap.size := fun k e => (hoW.lt k e).2
      replace hbL := Lib.hid hbL
      replace hgW := Lib.hid hgW
      clear hrW hoW
      go_loopw [5, 6] (fun v i wr => ∃ (j : Nat) (ys : List Int) (q' : Nat), j ≤ m ∧ i = .int .i64 j ∧ wr.ownsRow W.heap.size 3 1 v j (ys.map (Value.int .i64)) ∧ FitsL ys ∧ wr.ownsRow w.heap.size 3 1 (.slice A2 m c2) m (xs.map (Value.int .i64)) ∧ Rd wr g q' ∧ q' ≤ q + 1 + 2 * j ∧ w.grownBy wr (some g) ∧ W.heap.size ≤ wr.heap.size) (fun _ i _ => m - (intOf i).toNat)
      case atStart => exact ⟨0, [], _, Nat.zero_le _, rfl, hown0, (fun y hy => by cases hy), hoL, hrL, by omega, hgL, by simp⟩
      case round =>
        obtain ⟨j, ys, q', hj, rfl, ho, hf, hox, hr, hq', hg, hsz⟩ := hrel
        obtain ⟨Ao, co, rfl⟩ := ownsRow_nil_n ho
        replace hown0 := Lib.hid hown0
        replace hoL := Lib.hid hoL
        by_cases hlt2 : j < m
        · replace hf := Lib.hid hf
          go_wp2_with (fail)
          refine (pickN_any g q' 6 wr hr (by omega) (by omega) (by omega)).mono ?_
          rintro e w5 ⟨k5, rfl, hk5, hr5, hg5, -⟩
          have ho5 := ho.kept hg5 (.inr fun e => by have := (ho.lt g e).1; omega)
          have hox5 := ownsRow.pick' hlt hox hg5
          have hgg5 := grown_trans' hg hg5
          have hsz5 := hg5.size
          clear hr hg5 ho hox hg
          go_wp2_with (fail)
          refine (pickN_any g (q'+1) 40 w5 hr5 (by omega) (by omega) (by omega)).mono ?_
          rintro e w6 ⟨k6, rfl, hk6, hr6, hg6, -⟩
          have ho6 := ho5.kept hg6 (.inr fun e => by have := (ho5.lt g e).1; omega)
          have hox6 := ownsRow.pick' hlt hox5 hg6
          have hgg6 := grown_trans' hgg5 hg6
          have hsz6 := hg6.size
          have hk61 : 0 ≤ (k6 : Int) / 39 ∧ (k6 : Int) / 39 ≤ 1 := by omega
          clear hr5 hg6 ho5 hox5 hgg5
          replace ho6 := Lib.hid ho6
          replace hox6 := Lib.hid hox6
          replace hgg6 := Lib.hid hgg6
          replace hr6 := Lib.hid hr6
          go_wp2_with (at_builtin; refine wpList_append_own_at _ rfl (.tmp 31) (.tmp 39) _ rfl W.heap.size 3 i0 _ 1 8 Try.underlying23 hi0 hz0 hz1 hz2 rfl (by decide) _ j (ys.map (Value.int .i64)) rfl (ho6.out.alloc _) ⟨w6.heap.size, 0, none⟩ 1 1 [.int .i64 ((k5 : Int) + (k6 : Int) / 39 * 1000000)] rfl rfl (World.news_of_block (cs := #[.int .i64 ((k5 : Int) + (k6 : Int) / 39 * 1000000)]) (t := 3) (fr := (0, 0)) (heap_alloc_new w6 _)) (by simp [Value.oneCell']) (by unfold maxLen; omega) (by omega) (by simp; omega) ?_; intro v7 w7 hown7 hgr7 _ _)
          have hfz := FitsL.snoc (z := (k5 : Int) + (k6 : Int) / 39 * 1000000) hf.out (by omega)
          have hox7 := row_apart (hox6.out.alloc (.cells #[.int .i64 ((k5 : Int) + (k6 : Int) / 39 * 1000000)] 3)) (ho6.out.alloc _) hgr7 hbL.out
          have hr7 := rd_append hlt (hr6.out.alloc' (.cells #[.int .i64 ((k5 : Int) + (k6 : Int) / 39 * 1000000)] 3)) ((ho6.out.alloc _).mono hsW) hgr7
          have hgg7 := grown_append (grown_alloc' hgg6.out (.cells #[.int .i64 ((k5 : Int) + (k6 : Int) / 39 * 1000000)] 3)) ((ho6.out.alloc _).mono hsW) hgr7
          have hsz7 := hgr7.size
          rw [World.size_alloc] at hsz7
          have hown7' : w7.ownsRow W.heap.size 3 1 v7 (j + 1) ((ys ++ [(k5 : Int) + (k6 : Int) / 39 * 1000000]).map (Value.int .i64)) := by rw [List.map_append]; exact hown7
          replace hown7' := Lib.hid hown7'
          replace hox7 := Lib.hid hox7
          replace hr7 := Lib.hid hr7
          replace hgg7 := Lib.hid hgg7
          replace hfz := Lib.hid hfz
          clear hown7 hgr7
          go_roundw
          case rel => exact ⟨j + 1, _, _, by omega, by go_num, hown7'.out, hfz.out, hox7.out, hr7.out, by omega, hgg7.out, by omega⟩
          case measure => simp [intOf]; omega
        · obtain rfl : j = m := by omega
          go_wp2_with (fail)
          refine (odd_any g q' 20 wr hr (by omega) (by omega) (by omega)).mono ?_
          rintro e w7 ⟨t, q7, rfl, hq7, hr7, hg7, -⟩
          have ho7 := ho.kept hg7 (.inr fun e => by have := (ho.lt g e).1; omega)
          have hox7 := ownsRow.pick' hlt hox hg7
          have hgg7 := grown_trans' hg hg7
          have hsz7 := Lib.hid (Nat.le_trans hsz hg7.size)
          clear hr hg7 ho hox hg
          cases t
          · obtain ⟨A8, c8, e8, i8⟩ := ints_of_own hox7
            cases e8
            obtain ⟨A9, c9, e9, i9⟩ := ints_of_own ho7
            cases e9
            have HF : CountsPost w g (.returned (.tuple #[.slice A2 j c2, .slice Ao j co])) w7 := ⟨_, _, _, xs, _, _, _, ys, rfl, i8, hfx, by omega, i9, hf.fits, by omega, hgg7⟩
            replace HF := Lib.hid HF
            clear i8 i9 ho7 hox7 hgg7 hr7
            go_wp2
            go_ret2
            exact HF.out
          · replace ho7 := Lib.hid ho7
            replace hox7 := Lib.hid hox7
            replace hgg7 := Lib.hid hgg7
            replace hr7 := Lib.hid hr7
            go_wp2_with (at_builtin; refine wpList_append_own_at _ rfl (.tmp 43) (.tmp 44) _ rfl W.heap.size 3 i0 _ 1 8 Try.underlying23 hi0 hz0 hz1 hz2 rfl (by decide) _ j (ys.map (Value.int .i64)) rfl (ho7.out.alloc _) ⟨w7.heap.size, 0, none⟩ 1 1 [.int .i64 0] rfl rfl (World.news_of_block (cs := #[.int .i64 0]) (t := 3) (fr := (0, 0)) (heap_alloc_new w7 _)) (by simp [Value.oneCell']) (by unfold maxLen; omega) (by omega) (by have := hgg7.out.size; have := hsz7.out; simp; omega) ?_; intro v8 w8 hown8 hgr8 _ _)
            have hfz := FitsL.snoc (z := 0) hf (by omega)
            have hox8 := row_apart (hox7.out.alloc (.cells #[.int .i64 0] 3)) (ho7.out.alloc _) hgr8 hbL.out
            have hgg8 := grown_append (grown_alloc' hgg7.out (.cells #[.int .i64 0] 3)) ((ho7.out.alloc _).mono hsW) hgr8
            have hown8' : w8.ownsRow W.heap.size 3 1 v8 (j + 1) ((ys ++ [0]).map (Value.int .i64)) := by rw [List.map_append]; exact hown8
            obtain ⟨A8, c8, e8, i8⟩ := ints_of_own hox8
            cases e8
            obtain ⟨A9, c9, e9, i9⟩ := ints_of_own hown8'
            subst e9
            have HF : CountsPost w g (.returned (.tuple #[.slice A2 j c2, .slice A9 (j + 1) c9])) w8 := ⟨_, _, _, xs, _, _, _, _, rfl, i8, hfx, by omega, i9, hfz.fits, by omega, hgg8⟩
            replace HF := Lib.hid HF
            clear i8 i9 hown8 hgr8 hox8 hgg8 hown8'
            go_ret2
            exact HF.out
    · go_wp2_with (fail)
      refine (pickN_any g (q+1) 250 _ (hr3.drewN m4) (by omega) (by omega) (by omega)).mono ?_
      rintro e w5 ⟨k5, rfl, hk5, hr5, hg5, -⟩
      have ho3d : (w3.drewN m4).ownsRow w.heap.size 3 1 (.slice A2 m c2) m (xs.map (Value.int .i64)) := ho3
      have ho5 := ownsRow.pick' hlt ho3d hg5
      have hg5' := grown_trans' (grown_drewN hg3' m4) hg5
      clear ho3 ho3d hr3 hg5 hg3' i3
      go_wp2_with (fail)
      refine (pickN_any g (q+1+1) 250 _ hr5 (by omega) (by omega) (by omega)).mono ?_
      rintro e w6 ⟨k6, rfl, hk6, hr6, hg6, -⟩
      have ho6 := ownsRow.pick' hlt ho5 hg6
      have hg6' := grown_trans' hg5' hg6
      obtain ⟨A6, c6, e6, i6⟩ := ints_of_own ho6
      cases e6
      have hmul : (0 : Int) ≤ (k5 : Int) * k6 ∧ (k5 : Int) * k6 ≤ 62500 := by
        have : k5 * k6 ≤ 250 * 250 := Nat.mul_le_mul (by omega) (by omega)
        have h2 := Int.ofNat_le.2 this
        rw [Int.natCast_mul] at h2
        exact ⟨Int.mul_nonneg (by omega) (by omega), h2⟩
      clear ho5 hr5 hg6 hg5'
      go_wp2_with (fail)
      refine (specCountsOf_any _ _ _ xs _ w6 i6 (by omega) hfx (by omega)).mono ?_
      rintro e w7 ⟨v7, rfl, r7, b7⟩
      have hL := countsOf_len xs ((k5 : Int) * k6)
      have hxl := i6.len
      obtain ⟨A7, c7, rfl, i7⟩ := ints_of_own r7
      have HF : CountsPost w g (.returned (.tuple #[.slice A2 m c2, .slice A7 (countsOf xs ((k5 : Int) * k6)).length c7])) w7 := ⟨_, _, _, xs, _, _, _, _, rfl, i6.below b7 (Nat.le_refl _), hfx, by omega, i7, (countsOf_fits _ _).fits, by omega, grown_trans' hg6' (grown_of_below (some g) b7)⟩
      replace HF := Lib.hid HF
      clear i6 i7 r7 b7 ho6 hg6' hr6
      go_wp2
      go_ret2
      exact HF.out
  · have hrW := hr3
    have hoW := ho3
    have hgW := hg3'
    have hkb : ((k3 : Int) == 0) = false := by rw [beq_eq_false_iff_ne]; omega
    clear i3 ho3 hr3 hg3'
    go_wp2
    have hsW := hgW.size
    have hown0 : (w3.alloc (.cells #[] 3)).ownsRow w3.heap.size 3 1 (.slice (some ⟨w3.heap.size, 0, none⟩) 0 0) 0 (([] : List Int).map (Value.int .i64)) := World.ownsRow_made w3 #[] 0 (Nat.le_refl _) (Nat.zero_le _) rfl
    have hoL := hoW.alloc (.cells #[] 3)
    have hrL := hrW.alloc' (.cells #[] 3)
    have hgL := grown_alloc' hgW (.cells #[] 3)
    have hbL : ∀ k, (Value.slice A2 m c2).ownBlock = some k → k < w3.heap.size := fun k e => (hoW.lt k e).2
    replace hbL := Lib.hid hbL
    replace hgW := Lib.hid hgW
    clear hrW hoW
    go_loopw [5, 6] (fun v i wr => ∃ (j : Nat) (ys : List Int) (q' : Nat), j ≤ m ∧ i = .int .i64 j ∧ wr.ownsRow w3.heap.size 3 1 v j (ys.map (Value.int .i64)) ∧ FitsL ys ∧ wr.ownsRow w.heap.size 3 1 (.slice A2 m c2) m (xs.map (Value.int .i64)) ∧ Rd wr g q' ∧ q' ≤ q + 1 + 2 * j ∧ w.grownBy wr (some g) ∧ w3.heap.size ≤ wr.heap.size) (fun _ i _ => m - (intOf i).toNat)
    case atStart => exact ⟨0, [], _, Nat.zero_le _, rfl, hown0, (fun y hy => by cases hy), hoL, hrL, by omega, hgL, by simp⟩
    case round =>
      obtain ⟨j, ys, q', hj, rfl, ho, hf, hox, hr, hq', hg, hsz⟩ := hrel
      obtain ⟨Ao, co, rfl⟩ := ownsRow_nil_n ho
      replace hown0 := Lib.hid hown0
      replace hoL := Lib.hid hoL
      by_cases hlt2 : j < m
      · replace hf := Lib.hid hf
        go_wp2_with (fail)
        refine (pickN_any g q' 6 wr hr (by omega) (by omega) (by omega)).mono ?_
        rintro e w5 ⟨k5, rfl, hk5, hr5, hg5, -⟩
        have ho5 := ho.kept hg5 (.inr fun e => by have := (ho.lt g e).1; omega)
        have hox5 := ownsRow.pick' hlt hox hg5
        have hgg5 := grown_trans' hg hg5
        have hsz5 := hg5.size
        clear hr hg5 ho hox hg
        go_wp2_with (fail)
        refine (pickN_any g (q'+1) 40 w5 hr5 (by omega) (by omega) (by omega)).mono ?_
        rintro e w6 ⟨k6, rfl, hk6, hr6, hg6, -⟩
        have ho6 := ho5.kept hg6 (.inr fun e => by have := (ho5.lt g e).1; omega)
        have hox6 := ownsRow.pick' hlt hox5 hg6
        have hgg6 := grown_trans' hgg5 hg6
        have hsz6 := hg6.size
        have hk61 : 0 ≤ (k6 : Int) / 39 ∧ (k6 : Int) / 39 ≤ 1 := by omega
        clear hr5 hg6 ho5 hox5 hgg5
        replace ho6 := Lib.hid ho6
        replace hox6 := Lib.hid hox6
        replace hgg6 := Lib.hid hgg6
        replace hr6 := Lib.hid hr6
        go_wp2_with (at_builtin; refine wpList_append_own_at _ rfl (.tmp 31) (.tmp 39) _ rfl w3.heap.size 3 i0 _ 1 8 Try.underlying23 hi0 hz0 hz1 hz2 rfl (by decide) _ j (ys.map (Value.int .i64)) rfl (ho6.out.alloc _) ⟨w6.heap.size, 0, none⟩ 1 1 [.int .i64 ((k5 : Int) + (k6 : Int) / 39 * 1000000)] rfl rfl (World.news_of_block (cs := #[.int .i64 ((k5 : Int) + (k6 : Int) / 39 * 1000000)]) (t := 3) (fr := (0, 0)) (heap_alloc_new w6 _)) (by simp [Value.oneCell']) (by unfold maxLen; omega) (by omega) (by simp; omega) ?_; intro v7 w7 hown7 hgr7 _ _)
        have hfz := FitsL.snoc (z := (k5 : Int) + (k6 : Int) / 39 * 1000000) hf.out (by omega)
        have hox7 := row_apart (hox6.out.alloc (.cells #[.int .i64 ((k5 : Int) + (k6 : Int) / 39 * 1000000)] 3)) (ho6.out.alloc _) hgr7 hbL.out
        have hr7 := rd_append hlt (hr6.out.alloc' (.cells #[.int .i64 ((k5 : Int) + (k6 : Int) / 39 * 1000000)] 3)) ((ho6.out.alloc _).mono hsW) hgr7
        have hgg7 := grown_append (grown_alloc' hgg6.out (.cells #[.int .i64 ((k5 : Int) + (k6 : Int) / 39 * 1000000)] 3)) ((ho6.out.alloc _).mono hsW) hgr7
        have hsz7 := hgr7.size
        rw [World.size_alloc] at hsz7
        have hown7' : w7.ownsRow w3.heap.size 3 1 v7 (j + 1) ((ys ++ [(k5 : Int) + (k6 : Int) / 39 * 1000000]).map (Value.int .i64)) := by rw [List.map_append]; exact hown7
        replace hown7' := Lib.hid hown7'
        replace hox7 := Lib.hid hox7
        replace hr7 := Lib.hid hr7
        replace hgg7 := Lib.hid hgg7
        replace hfz := Lib.hid hfz
        clear hown7 hgr7
        go_roundw
        case rel => exact ⟨j + 1, _, _, by omega, by go_num, hown7'.out, hfz.out, hox7.out, hr7.out, by omega, hgg7.out, by omega⟩
        case measure => simp [intOf]; omega
      · obtain rfl : j = m := by omega
        go_wp2_with (fail)
        refine (odd_any g q' 20 wr hr (by omega) (by omega) (by omega)).mono ?_
        rintro e w7 ⟨t, q7, rfl, hq7, hr7, hg7, -⟩
        have ho7 := ho.kept hg7 (.inr fun e => by have := (ho.lt g e).1; omega)
        have hox7 := ownsRow.pick' hlt hox hg7
        have hgg7 := grown_trans' hg hg7
        have hsz7 := Lib.hid (Nat.le_trans hsz hg7.size)
        clear hr hg7 ho hox hg
        cases t
        · obtain ⟨A8, c8, e8, i8⟩ := ints_of_own hox7
          cases e8
          obtain ⟨A9, c9, e9, i9⟩ := ints_of_own ho7
          cases e9
          have HF : CountsPost w g (.returned (.tuple #[.slice A2 j c2, .slice Ao j co])) w7 := ⟨_, _, _, xs, _, _, _, ys, rfl, i8, hfx, by omega, i9, hf.fits, by omega, hgg7⟩
          replace HF := Lib.hid HF
          clear i8 i9 ho7 hox7 hgg7 hr7
          go_wp2
          go_ret2
          exact HF.out
        · replace ho7 := Lib.hid ho7
          replace hox7 := Lib.hid hox7
          replace hgg7 := Lib.hid hgg7
          replace hr7 := Lib.hid hr7
          go_wp2_with (at_builtin; refine wpList_append_own_at _ rfl (.tmp 43) (.tmp 44) _ rfl w3.heap.size 3 i0 _ 1 8 Try.underlying23 hi0 hz0 hz1 hz2 rfl (by decide) _ j (ys.map (Value.int .i64)) rfl (ho7.out.alloc _) ⟨w7.heap.size, 0, none⟩ 1 1 [.int .i64 0] rfl rfl (World.news_of_block (cs := #[.int .i64 0]) (t := 3) (fr := (0, 0)) (heap_alloc_new w7 _)) (by simp [Value.oneCell']) (by unfold maxLen; omega) (by omega) (by have := hgg7.out.size; have := hsz7.out; simp; omega) ?_; intro v8 w8 hown8 hgr8 _ _)
          have hfz := FitsL.snoc (z := 0) hf (by omega)
          have hox8 := row_apart (hox7.out.alloc (.cells #[.int .i64 0] 3)) (ho7.out.alloc _) hgr8 hbL.out
          have hgg8 := grown_append (grown_alloc' hgg7.out (.cells #[.int .i64 0] 3)) ((ho7.out.alloc _).mono hsW) hgr8
          have hown8' : w8.ownsRow w3.heap.size 3 1 v8 (j + 1) ((ys ++ [0]).map (Value.int .i64)) := by rw [List.map_append]; exact hown8
          obtain ⟨A8, c8, e8, i8⟩ := ints_of_own hox8
          cases e8
          obtain ⟨A9, c9, e9, i9⟩ := ints_of_own hown8'
          subst e9
          have HF : CountsPost w g (.returned (.tuple #[.slice A2 j c2, .slice A9 (j + 1) c9])) w8 := ⟨_, _, _, xs, _, _, _, _, rfl, i8, hfx, by omega, i9, hfz.fits, by omega, hgg8⟩
          replace HF := Lib.hid HF
          clear i8 i9 hown8 hgr8 hox8 hgg8 hown8'
          go_ret2
          exact HF.out
end Go.Proofs.Ytkjcbahdpmhfgaa
