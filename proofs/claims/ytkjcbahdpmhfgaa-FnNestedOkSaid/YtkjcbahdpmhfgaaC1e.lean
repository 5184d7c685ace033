/-
  Contracts of chapter 1: CountsOf, of the program and of the model.
-/
import Derived.Test.YtkjcbahdpmhfgaaC1d
import Derived.Test.YtkjcbahdpmhfgaaHold
namespace Go.Proofs.Ytkjcbahdpmhfgaa
open Go Go.RowKit Go.Shelf
attribute [local go_sem] Oper.semAt_some

/-- What CountsOf leaves: a slice of the call's own that holds xs, nothing of before written. -/
def OwnList (w : World) (xs : List Int) (e : Ending) (w' : World) : Prop :=
  ∃ v, e = .returned v ∧ w'.ownsRow w.heap.size 3 1 v xs.length (xs.map (Value.int .i64)) ∧ Below w.heap.size w w'

theorem ownsRow_of_blk {w : World} {B g : Nat} {xs : List Int} (hb : B ≤ g) (hl : xs.length ≤ maxLen) (h : Blk w g 3 (xs.map (Value.int .i64)).toArray) : w.ownsRow B 3 1 (.slice (some ⟨g, 0, none⟩) xs.length xs.length) xs.length (xs.map (Value.int .i64)) :=
  ⟨by simp, .inr ⟨g, xs.length, _, rfl, hb, h, Nat.le_refl _, hl, by simp, by rw [List.take_of_length_le (by simp)]⟩⟩

set_option maxRecDepth 100000 in
set_option maxHeartbeats 2000000 in
theorem implCountsOf_in (A : Option Addr) (n c : Nat) (xs : List Int) (x : Int) (w : World) (h : Ints w .i64 A n c xs) (hn : n ≤ 1048576) (hwf : Fits xs) (hok : countsOk xs x = true) :
    CallsIn Fence.wide 0 Try.prog 18 #[.slice A n c, .int .i64 x] w (OwnList w (countsOf xs x)) := by
  obtain ⟨i0, hi0, hz0, hz1, hz2⟩ := info_parts int_info
  have HB := Lib.hid (implBasesOk_any A n c xs w h hn hwf)
  obtain ⟨hbo, hx⟩ := (countsOk_iff xs x).1 hok
  obtain ⟨rfl, hcap, h⟩ := h
  have hlen := bases_len hbo
  have hpos := bases_pos hbo
  obtain ⟨b, o, rfl, hbw, h⟩ := h (by omega)
  have hmk := fun W => run_make_rowN (P := Try.prog) 23 3 i0 _ Try.underlying23 hi0 hz0 .i64 .i64 xs.length xs.length (Nat.le_refl _) (by rw [hz2]; omega) (by omega) W
  rw [hz1] at hmk
  rw [hbo] at HB
  have d1 : decide (x < 0) = false := decide_eq_false (by omega)
  have d2 : decide (999999 < x) = false := decide_eq_false (by omega)
  replace hok := Lib.hid hok
  replace hbo := Lib.hid hbo
  refine callsIn_of_wp_marks Try.func18 rfl trivial ?_ rfl
  simp only [Try.ntmps18, List.size_toArray, List.length_cons, List.length_nil, Nat.reduceAdd, Nat.reduceSub, Array.replicate_succ, Array.replicate_zero, List.push_toArray, List.append_toArray, List.nil_append, List.cons_append]
  gi_wp2
  refine ⟨trivial, rfl, (callsIn_wide.2 HB.out).mono ?_⟩
  rintro e _ ⟨rfl, rfl⟩
  gi_wp2
  refine ⟨trivial, rfl, (callsIn_wide.2 (takenDown_any _ _ _ _ _)).mono ?_⟩
  rintro e _ ⟨rfl, rfl⟩
  have hs2 : ((w.alloc (.cells (madeCells #[.int .i64 0] xs.length) 3)).alloc (.cells #[.slice (some ⟨w.heap.size, 0, none⟩) xs.length xs.length] 23)).heap.size = w.heap.size + 2 := by simp
  have hG2 : Blk ((w.alloc (.cells (madeCells #[.int .i64 0] xs.length) 3)).alloc (.cells #[.slice (some ⟨w.heap.size, 0, none⟩) xs.length xs.length] 23)) w.heap.size 3 (madeCells #[.int .i64 0] xs.length) := (Blk.new _ _ _).alloc _
  have hX2 : ((w.alloc (.cells (madeCells #[.int .i64 0] xs.length) 3)).alloc (.cells #[.slice (some ⟨w.heap.size, 0, none⟩) xs.length xs.length] 23)).cell? ⟨w.heap.size + 1, 0, none⟩ = some (.slice (some ⟨w.heap.size, 0, none⟩) xs.length xs.length) := by simp [go_sem]
  have hB2 : Below w.heap.size w ((w.alloc (.cells (madeCells #[.int .i64 0] xs.length) 3)).alloc (.cells #[.slice (some ⟨w.heap.size, 0, none⟩) xs.length xs.length] 23)) := ((Below.refl _ _).alloc (Nat.le_refl _) _).alloc (by simp) _
  generalize ((w.alloc (.cells (madeCells #[.int .i64 0] xs.length) 3)).alloc (.cells #[.slice (some ⟨w.heap.size, 0, none⟩) xs.length xs.length] 23)) = w2 at *
  have hs4 : ((w2.alloc (.cells #[.slice (some ⟨b, o, none⟩) xs.length c] 23)).alloc (.cells #[.int .i64 x] 3)).heap.size = w2.heap.size + 2 := by simp
  have hG4 := (hG2.alloc (.cells #[.slice (some ⟨b, o, none⟩) xs.length c] 23)).alloc (.cells #[.int .i64 x] 3)
  have hb24 : Below w2.heap.size w2 ((w2.alloc (.cells #[.slice (some ⟨b, o, none⟩) xs.length c] 23)).alloc (.cells #[.int .i64 x] 3)) := ((Below.refl _ _).alloc (Nat.le_refl _) _).alloc (by simp) _
  have hX4 := (hb24.cell (p := ⟨w.heap.size + 1, 0, none⟩) (by show w.heap.size + 1 < _; omega)).trans hX2
  have hn4 : ((w2.alloc (.cells #[.slice (some ⟨b, o, none⟩) xs.length c] 23)).alloc (.cells #[.int .i64 x] 3)).cell? ⟨w2.heap.size + 1, 0, none⟩ = some (.int .i64 x) := by simp [go_sem]
  have hb4 : ((w2.alloc (.cells #[.slice (some ⟨b, o, none⟩) xs.length c] 23)).alloc (.cells #[.int .i64 x] 3)).cell? ⟨w2.heap.size, 0, none⟩ = some (.slice (some ⟨b, o, none⟩) xs.length c) := by simp [go_sem]
  have hB4 := hB2.trans (hb24.mono hB2.size)
  have hc4 : ∀ j, j < xs.length → ((w2.alloc (.cells #[.slice (some ⟨b, o, none⟩) xs.length c] 23)).alloc (.cells #[.int .i64 x] 3)).cell? ⟨b, o + j, none⟩ = some (.int .i64 (xs.getD j 0)) := fun j hj => (hB4.cell (p := ⟨b, o + j, none⟩) hbw).trans (h j hj)
  generalize ((w2.alloc (.cells #[.slice (some ⟨b, o, none⟩) xs.length c] 23)).alloc (.cells #[.int .i64 x] 3)) = w4 at *
  clear hG2 hX2 hB2 hb24 h
  have hs2a : w.heap.size + 2 ≤ w2.heap.size := by omega
  have hs4a : w2.heap.size + 2 ≤ w4.heap.size := by omega
  clear hs2 hs4 hmk
  gi_wp2
  refine range_own (gf := 42) (lb := #[.pointer (some ⟨w2.heap.size + 1, 0, none⟩), .pointer (some ⟨w2.heap.size, 0, none⟩)]) rfl (enters_of Try.func42 (by kernel_rfl) rfl)
    (takenDown1_own (w4.heap.size + 2) (w2.heap.size + 1) w2.heap.size b o xs.length c w.heap.size ⟨x, hx⟩ (plOf xs xs.length (by omega) hpos) (by omega) w4 (Nat.le_refl _) ⟨by omega, by omega⟩ (by omega) hn4 hb4
      (fun j hj => ⟨by simp only [plOf]; omega, by simp only [plOf]; rw [show xs.length - 1 - (xs.length - 1 - j) = j by omega]; exact hc4 j hj⟩))
    (fun h k => h.trans k) (fun W1 l1 o o' h1 h2 ho hc => Keeps.putObj o' ho hc h2) (Below.refl _ _) (fun _ => rfl)
    (fun pre W1 => Blk W1 w.heap.size 3 ((outOf pre).map (Value.int .i64)).toArray ∧ W1.cell? ⟨w.heap.size + 1, 0, none⟩ = some (.slice (some ⟨w.heap.size, 0, none⟩) xs.length xs.length) ∧ Below w.heap.size w W1)
    (fun _ _ _ => False)
    ?hI (fun _ _ _ _ _ hs _ _ => hs) ?h0
    (fun y => { tmps := #[.slice (some ⟨b, o, none⟩) xs.length c, .int .i64 x, undef, undef, .slice none 0 0, .pointer (some ⟨w.heap.size + 1, 0, none⟩), .int .i64 (y.1.1 : Int), .int .i64 y.1.2, .slice (some ⟨b, o, none⟩) xs.length c, .bool true, .bool false, .bool false, .int .i64 x, .bool false, .bool false, .bool false, .int .i64 x, .bool false, .bool false,
      .slice (some ⟨b, o, none⟩) xs.length c, .int .i64 xs.length, .slice (some ⟨w.heap.size, 0, none⟩) xs.length xs.length, .slice (some ⟨b, o, none⟩) xs.length c, .int .i64 x, .func (.func 42) #[] #[.pointer (some ⟨w2.heap.size + 1, 0, none⟩), .pointer (some ⟨w2.heap.size, 0, none⟩)], .int .i64 (y.1.1 : Int), .int .i64 y.1.2, undef, undef, undef, undef, undef], defers := [] }) ?assign ?body ?done ?stop
  case hI =>
    rintro pre A1 B1 row ⟨h1, h2, h3⟩ hg hr
    have hne : ∀ k, k < w4.heap.size → some k ≠ row := fun k hk e => by rcases hr k e.symm with ⟨x, _⟩ | ⟨x, _⟩ <;> omega
    exact ⟨(hg.block _ h1.lt (hne _ (by omega))).trans h1, hg.cell h2 (hne _ (by show w.heap.size + 1 < _; omega)), h3.grown hg h3.size (fun k e => by rcases hr k e with ⟨x, _⟩ | ⟨x, _⟩ <;> omega)⟩
  case h0 =>
    refine ⟨?_, hX4, hB4⟩
    rw [outOf_nil, show ((List.replicate xs.length (0 : Int)).map (Value.int .i64)).toArray = madeCells #[.int .i64 0] xs.length from by
      apply Array.ext_getElem?
      intro i
      by_cases hi : i < xs.length
      · simp [madeCells, hi, Nat.mod_one]
      · simp [madeCells, hi]]
    exact hG4
  case assign =>
    intro l1 y W1 K hK
    simp only [encCt]
    gi_wp2
    exact hK
  case body =>
    rintro l1 pre y W1 hl1 ⟨h1, h2, h3⟩ hlen
    have hy := y.2
    have hc := h1.cell y.1.1
    have hf := h1.frozen y.1.1
    have hol := outOf_length pre
    rw [Array.getElem?_eq_getElem (by simp; omega)] at hc
    have hk := fun u => Keeps.setCell (B := w4.heap.size) (X := (· = w.heap.size)) (W := W1) hc rfl u
    have hk' := fun u => Keeps.setCell (B := w4.heap.size + 2) (X := (· = w.heap.size)) (W := W1) hc rfl u
    have hb := h1.set_ y.1.1 (.int .i64 y.1.2)
    have hbb := h3.setCell (p := ⟨w.heap.size, y.1.1, none⟩) (Nat.le_refl _) (.int .i64 y.1.2)
    have hx2 : (W1.setCell ⟨w.heap.size, y.1.1, none⟩ (.int .i64 y.1.2)).cell? ⟨w.heap.size + 1, 0, none⟩ = some (.slice (some ⟨w.heap.size, 0, none⟩) xs.length xs.length) := by
      rw [World.cell?_setCell_other _ _ _ _ (by simp)]; exact h2
    replace hb := Lib.hid hb
    replace hbb := Lib.hid hbb
    replace hk := Lib.hid hk
    replace hk' := Lib.hid hk'
    replace hx2 := Lib.hid hx2
    have hy1 := hy.1
    clear h3
    gi_wp2
    refine ⟨(hk.out _).from_ (Nat.le_refl _), hk'.out _, ?_, hx2.out, hbb.out⟩
    rw [outOf_snoc]
    have := hb.out
    simpa using this
  case done =>
    rintro D ys W1 hD rfl ⟨h1, h2, h3⟩ hK
    rw [outOf_all (by omega) hpos ⟨x, hx⟩ rfl] at h1
    have hF : OwnList w (countsOf xs x) (.returned (.slice (some ⟨w.heap.size, 0, none⟩) xs.length xs.length)) (W1.putObj D (.deferred none)) := by
      refine ⟨_, rfl, ?_, ?_⟩
      · have e1 : countsOf xs x = (List.range xs.length).map (cntN xs x) := countsOf_yes hok.out
        rw [← e1] at h1
        have hl : (countsOf xs x).length = xs.length := by rw [e1]; simp
        have h5 : Blk (W1.putObj D (.deferred none)) w.heap.size 3 ((countsOf xs x).map (Value.int .i64)).toArray := (World.putObj_heap_other (by omega)).trans h1
        have := ownsRow_of_blk (Nat.le_refl _) (by rw [hl]; unfold maxLen; omega) h5
        rw [hl] at this ⊢
        exact this
      · exact ⟨h3.os, h3.tape, h3.output, by simpa using h3.size, fun k hk => (World.putObj_heap_other (by have := h3.size; omega)).trans (h3.block k hk)⟩
    replace hF := Lib.hid hF
    gi_wp2
    refine ⟨by simp, .inl ⟨_, _, rfl, run_takeDeferred hK, ?_⟩⟩
    refine ⟨_, results_tmp rfl _ _ _, ?_⟩
    exact hF.out
  case stop =>
    rintro D c1 pre W1 hD _ h1 hK
    exact h1.elim

theorem implCountsOf_any (A : Option Addr) (n c : Nat) (xs : List Int) (x : Int) (w : World) (h : Ints w .i64 A n c xs) (hn : n ≤ 1048576) (hwf : Fits xs) (hxw : -9223372036854775808 ≤ x ∧ x ≤ 9223372036854775807) :
    Calls Try.prog 18 #[.slice A n c, .int .i64 x] w (OwnList w (countsOf xs x)) := by
  cases hok : countsOk xs x
  · have HB := Lib.hid (implBasesOk_any A n c xs w h hn hwf)
    have HF : OwnList w (countsOf xs x) (.returned (.slice none 0 0)) w := ⟨_, rfl, by rw [countsOf_no hok]; exact World.ownsRow_nil _ _ _ _, Below.refl _ _⟩
    replace HF := Lib.hid HF
    clear h
    cases hb : basesOk xs
    · replace hok := Lib.hid hok
      go_enter Try.func18, Try.ntmps18
      go_wp2_with (fail)
      refine HB.out.mono ?_
      rintro e _ ⟨rfl, rfl⟩
      go_wp2
      go_ret
      exact HF.out
    · have hx : ¬ (0 ≤ x ∧ x ≤ 999999) := fun hx => by
        have := (countsOk_iff xs x).2 ⟨hb, hx⟩
        rw [hok] at this; cases this
      replace hok := Lib.hid hok
      by_cases h0 : x < 0
      all_goals
        go_enter Try.func18, Try.ntmps18
        go_wp2_with (fail)
        refine HB.out.mono ?_
        rintro e _ ⟨rfl, rfl⟩
        rw [hb]
        go_wp2
        go_ret
        exact HF.out
  · exact callsIn_wide.1 (implCountsOf_in A n c xs x w h hn hwf hok)

set_option maxHeartbeats 400000 in
theorem specCountsOf_any (A : Option Addr) (n c : Nat) (xs : List Int) (x : Int) (w : World) (h : Ints w .i64 A n c xs) (hn : n ≤ 1048576) (hwf : Fits xs) (hxw : -9223372036854775808 ≤ x ∧ x ≤ 9223372036854775807) :
    Calls Try.prog 20 #[.slice A n c, .int .i64 x] w (OwnList w (countsOf xs x)) := by
  obtain ⟨i0, hi0, hz0, hz1, hz2⟩ := info_parts int_info
  have HB := Lib.hid (specBasesOk_any A n c xs w h hn hwf)
  have hin : ∀ W, Calls Try.prog 36 #[.int .i64 x, .int .i64 0, .int .i64 999999] W fun e w' => e = .returned (.bool (decide (0 ≤ x ∧ x ≤ 999999))) ∧ W = w' := fun W => in_any x 0 999999 W
  replace hin := Lib.hid hin
  cases hok : countsOk xs x
  · have HF : ∀ m, OwnList w (countsOf xs x) (.returned (.slice (some ⟨w.heap.size, 0, none⟩) 0 0)) ((w.drewN m).alloc (.cells #[] 3)) := fun m =>
      ⟨_, rfl, by rw [countsOf_no hok]; exact World.ownsRow_made (w.drewN m) #[] 0 (Nat.le_refl _) (Nat.zero_le _) rfl, (below_drewN (Below.refl _ _) m).alloc (Nat.le_refl _) _⟩
    replace HF := Lib.hid HF
    clear h
    cases hb : basesOk xs
    · replace hok := Lib.hid hok
      go_enter Try.func20, Try.ntmps20
      go_wp2_with (fail)
      refine HB.out.mono ?_
      rintro e _ ⟨rfl, m, rfl⟩
      go_wp2
      go_ret
      exact HF.out m
    · have hx : ¬ (0 ≤ x ∧ x ≤ 999999) := fun hx => by
        have := (countsOk_iff xs x).2 ⟨hb, hx⟩
        rw [hok] at this; cases this
      have hd : decide (0 ≤ x ∧ x ≤ 999999) = false := decide_eq_false hx
      replace hok := Lib.hid hok
      go_enter Try.func20, Try.ntmps20
      go_wp2_with (fail)
      refine HB.out.mono ?_
      rintro e _ ⟨rfl, m, rfl⟩
      rw [hb]
      go_wp2_with (fail)
      refine (hin.out _).mono ?_
      rintro e _ ⟨rfl, rfl⟩
      rw [hd]
      go_wp2
      go_ret
      exact HF.out m
  · obtain ⟨hbo, hx⟩ := (countsOk_iff xs x).1 hok
    have hd : decide (0 ≤ x ∧ x ≤ 999999) = true := decide_eq_true hx
    have hlist := countsOf_yes hok
    obtain ⟨rfl, hcap, h⟩ := h
    have hlen := bases_len hbo
    have hpos := bases_pos hbo
    have hbd := fun i hi => leftN_bd hbo hx (i := i) hi
    have hcd := fun k hk => cntN_bd hbo hx (k := k) hk
    obtain ⟨b, o, rfl, hbw, h⟩ := h (by omega)
    have hmk := fun W => run_make_rowN (P := Try.prog) 23 3 i0 _ Try.underlying23 hi0 hz0 .i64 .i64 xs.length xs.length (Nat.le_refl _) (by rw [hz2]; omega) (by omega) W
    rw [hz1] at hmk
    replace hok := Lib.hid hok
    replace hlist := Lib.hid hlist
    go_enter Try.func20, Try.ntmps20
    go_wp2_with (fail)
    refine HB.out.mono ?_
    rintro e _ ⟨rfl, m0, rfl⟩
    rw [hbo]
    replace hbo := Lib.hid hbo
    go_wp2_with (fail)
    refine (hin.out _).mono ?_
    rintro e _ ⟨rfl, rfl⟩
    rw [hd]
    go_wp2
    go_loopw [6, 7] (fun l i wr => ∃ (r : Nat) (cs : Array Value), r ≤ xs.length ∧ i = .int .i64 ((r : Int) - 1) ∧ l = .int .i64 (leftN xs x (xs.length - r)) ∧ cs.size = xs.length ∧ (∀ j, r ≤ j → j < xs.length → cs[j]? = some (.int .i64 (cntN xs x j))) ∧ Blk wr w.heap.size 3 cs ∧ Below w.heap.size w wr) (fun _ i _ => (intOf i + 1).toNat)
    case atStart => exact ⟨xs.length, _, Nat.le_refl _, rfl, by simp [leftN], size_madeCells _ _, fun j h1 h2 => by omega, Blk.new _ _ _, (below_drewN (Below.refl _ _) m0).alloc (Nat.le_refl _) _⟩
    case round =>
      obtain ⟨r, cs, hr, rfl, rfl, hcs, hj, hb, hB⟩ := hrel
      rcases Nat.eq_zero_or_pos r with rfl | hr0
      · have hl : (countsOf xs x).length = xs.length := by rw [hlist.out]; simp
        have hxs : ∀ j, j < (countsOf xs x).length → cs[j]? = some (.int .i64 ((countsOf xs x).getD j 0)) := fun j hjl => by
          rw [hj j (Nat.zero_le _) (by omega), hlist.out]
          simp [List.getD_eq_getElem?_getD, show j < xs.length by omega]
        have hO := OwnInts.of_cells (B := w.heap.size) (k := .i64) hb (by rw [hl]; exact hcs) hxs (Nat.le_refl _)
        have HF : OwnList w (countsOf xs x) (.returned (.slice (some ⟨w.heap.size, 0, none⟩) xs.length xs.length)) wr := by
          have := ownsRow_of_blk (Nat.le_refl _) (by rw [hl]; unfold maxLen; omega) hO.blk
          rw [hl] at this
          exact ⟨_, rfl, by rw [hl]; exact this, hB⟩
        replace HF := Lib.hid HF
        clear hj hb hmk h
        go_wp2
        go_ret
        exact HF.out
      · obtain ⟨j, rfl⟩ : ∃ j, r = j + 1 := ⟨r - 1, by omega⟩
        rw [show (((j + 1 : Nat) : Int) - 1) = (j : Int) by omega]
        have c1 := (hB.cell (p := ⟨b, o + j, none⟩) hbw).trans (h j (by omega))
        have c2 := hb.cell j
        have f2 := hb.frozen j
        rw [Array.getElem?_eq_getElem (by omega)] at c2
        have p1 := hpos j (by omega)
        have p2 := hbd (xs.length - (j + 1)) (by omega)
        have hcn : leftN xs x (xs.length - (j + 1)) / xs.getD j 0 = cntN xs x j := by rw [cntN, show xs.length - 1 - j = xs.length - (j + 1) by omega]
        have hln : leftN xs x (xs.length - (j + 1)) % xs.getD j 0 = leftN xs x (xs.length - j) := by
          rw [show xs.length - j = (xs.length - (j + 1)) + 1 by omega, leftN, show xs.length - 1 - (xs.length - (j + 1)) = j by omega]
        have HC := Lib.hid hcn
        have HL := Lib.hid hln
        have HB2 := hb.set_ j (.int .i64 (cntN xs x j))
        have HBel := hB.setCell (p := ⟨w.heap.size, j, none⟩) (Nat.le_refl _) (.int .i64 (cntN xs x j))
        have c1' : (wr.setCell ⟨w.heap.size, j, none⟩ (.int .i64 (cntN xs x j))).cell? ⟨b, o + j, none⟩ = some (.int .i64 (xs.getD j 0)) := by
          have hne : b ≠ w.heap.size := by omega
          rw [World.cell?_setCell_other _ _ _ _ (by simp [hne])]; exact c1
        rw [← hcn] at HB2 HBel c1'
        have HJ : ∀ i, j ≤ i → i < xs.length → (cs.setIfInBounds j (.int .i64 (leftN xs x (xs.length - (j + 1)) / xs.getD j 0)))[i]? = some (.int .i64 (cntN xs x i)) := fun i h1 h2 => by
          rw [Array.getElem?_setIfInBounds]
          by_cases e : j = i
          · subst e; rw [if_pos rfl, if_pos (by omega), hcn]
          · rw [if_neg e]; exact hj i (by omega) h2
        generalize xs.getD j 0 = bj at *
        generalize leftN xs x (xs.length - (j + 1)) = lv at *
        replace HB2 := Lib.hid HB2
        replace HJ := Lib.hid HJ
        replace HBel := Lib.hid HBel
        clear h hj hb hmk hpos hbd hcd hcn hln HB
        go_wp2
        go_roundw
        case rel => exact ⟨j, _, by omega, rfl, by rw [← HL.out], by simpa using hcs, HJ.out, HB2.out, HBel.out⟩
        case measure => first | (simp [intOf]; done) | (simp [intOf]; omega)
end Go.Proofs.Ytkjcbahdpmhfgaa
