/-
  The draws of DeedText and ReadDeed.
-/
import Derived.Deep.RegionHeld3
import Derived.Test.YtfmdbmhakkajfaaDoorDrawDs
import Derived.Test.YtfmdbmhakkajfaaDoorVb
namespace Go.Proofs.YtfmdbmhakkajfaaDoor
open Go.RowKit

/-- What was below stays below, behind a reader's draws. -/
theorem below_readD {w a b : World} {g B : Nat} (h : Below B w a) (hg : a.grownBy b (some g)) (hB : B ≤ a.heap.size) (hgB : B ≤ g) : Below B w b := h.grown hg hB (fun k e => by cases e; exact hgB)
/-- A text is drawn by a reader. -/
def RetTxt (w : World) (g p m : Nat) (e : Ending) (w' : World) : Prop := ∃ (x : ByteArray) (r : Nat), e = .returned (.string x) ∧ x.size ≤ m ∧ Rd w' g r ∧ r ≤ p ∧ w.grownBy w' (some g)
def spoilCells : Array Value := #[.string ⟨#[]⟩, .string ⟨#[48]⟩, .string ⟨#[32]⟩, .string ⟨#[10]⟩, .string ⟨#[45]⟩, .string ⟨#[98, 97, 99, 107]⟩]

theorem spoil_cell {W : World} {g j : Nat} (h : Blk W g 9 spoilCells) (hj : j < 6) : ∃ y : ByteArray, y.size ≤ 4 ∧ W.cell? ⟨g, j, none⟩ = some (.string y) := by
  obtain rfl | rfl | rfl | rfl | rfl | rfl : j = 0 ∨ j = 1 ∨ j = 2 ∨ j = 3 ∨ j = 4 ∨ j = 5 := by omega
  · exact ⟨_, by decide, h.cell 0⟩
  · exact ⟨_, by decide, h.cell 1⟩
  · exact ⟨_, by decide, h.cell 2⟩
  · exact ⟨_, by decide, h.cell 3⟩
  · exact ⟨_, by decide, h.cell 4⟩
  · exact ⟨_, by decide, h.cell 5⟩
set_option maxRecDepth 100000 in
set_option maxHeartbeats 4000000 in
theorem spoil_any (g p : Nat) (s : ByteArray) (w : World) (h : Rd w g p) (hp : p ≤ 40000) (hs : s.size ≤ 4000000) :
    Calls Tryd.prog 41 #[.pointer (some ⟨g, 0, none⟩), .string s] w (RetTxt w g (p + 10) (s.size + 8)) := by
  have hg0 := h.lt
  by_cases h0 : s.size = 0
  · have e1 : ((s.size : Int) == 0) = true := by rw [h0]; rfl
    replace h0 := Lib.hid h0
    replace h := Lib.hid h
    go_enter Tryd.func41, Tryd.ntmps41
    go_wp2
    go_ret
    exact ⟨_, p, rfl, by show (1 : Nat) ≤ _; omega, h.out, by omega, World.grownBy.refl w _⟩
  · have e1 : ((s.size : Int) == 0) = false := by rw [beq_eq_false_iff_ne]; omega
    go_enter Tryd.func41, Tryd.ntmps41
    go_wp2_with (fail)
    refine (pick_any g p (s.size : Int) w h (by omega) (by omega) (by omega)).mono ?_
    rintro e V ⟨k0, rfl, hk0, hr, hg, -⟩
    obtain ⟨k, rfl⟩ : ∃ k : Nat, k0 = (k : Int) := ⟨k0.toNat, by omega⟩
    have hks : k < s.size := by
      rcases hk0 with hk0
      omega
    have hgV := hr.lt
    have q1 : (k : Int) ≤ (s.size : Int) := by omega
    have q0 : (0 : Int) ≤ (k : Int) := by omega
    have q2 : IntKind.i64.wrap ((k : Int) + 1) = ((k + 1 : Nat) : Int) := by rw [IntWalk.i64_in _ (by omega)]; omega
    have q3 : ((k + 1 : Nat) : Int) ≤ (s.size : Int) := by omega
    have q4 : (0 : Int) ≤ ((k + 1 : Nat) : Int) := by omega
    have hKp := Lib.hid (fun W (hR : Rd W g (p + 1)) => pick_any g (p + 1) 6 W hR (by omega) (by omega) (by omega))
    have hlit : Rd (V.alloc (.cells spoilCells 9)) g (p + 1) := hr.alloc' _
    have hBl := Lib.hid (Blk.new V 9 spoilCells)
    replace hr := Lib.hid hr
    replace hlit := Lib.hid hlit
    replace hg := Lib.hid hg
    clear hk0 h
    go_upto_region 4 with (fail)
    have hsx : ∀ y : ByteArray, y.size ≤ 4 → (s.extract 0 k ++ y ++ s.extract (k + 1) s.size).size ≤ s.size + 8 := fun y hy => by
      rw [ByteArray.size_append, ByteArray.size_append, ByteArray.size_extract, ByteArray.size_extract]; omega
    replace hsx := Lib.hid hsx
    go_region_with (first
      | (go_at_call 40; refine (hKp.out (V.alloc (.cells #[.string ⟨#[]⟩, .string ⟨#[48]⟩, .string ⟨#[32]⟩, .string ⟨#[10]⟩, .string ⟨#[45]⟩, .string ⟨#[98, 97, 99, 107]⟩] 9)).drew hlit.out.drew).mono ?_; rintro e V2 ⟨k2, rfl, hk2, hr2, hg2, -⟩; obtain ⟨m2, rfl⟩ : ∃ m : Nat, k2 = (m : Int) := ⟨k2.toNat, by omega⟩; obtain ⟨y, hy, hc⟩ := spoil_cell ((hBl.out.drew).grown hg2 (by intro e; injection e with e; omega)) (show m2 < 6 by omega); have hz1 : ¬ 9223372036854775807 < (s.extract 0 k).size + y.size := (by rw [ByteArray.size_extract]; omega); have hz2 : ¬ 9223372036854775807 < (s.extract 0 k).size + y.size + (s.extract (k + 1) s.size).size := (by rw [ByteArray.size_extract, ByteArray.size_extract]; omega); have q5 : (m2 : Int) < 6 := (by omega); have q6 : (0 : Int) ≤ (m2 : Int) := (by omega); have hgr := (hg.out.trans (grown_of_below (some g) ((Below.refl V.heap.size V).alloc (Nat.le_refl _) (.cells #[.string ⟨#[]⟩, .string ⟨#[48]⟩, .string ⟨#[32]⟩, .string ⟨#[10]⟩, .string ⟨#[45]⟩, .string ⟨#[98, 97, 99, 107]⟩] 9)).drew)).trans hg2; replace hr2 := Lib.hid hr2; replace hgr := Lib.hid hgr; clear hg2 hk2; go_simp)
      | (go_at_call 40; refine (hKp.out _ (by first | exact hr.out | exact hr.out.drew)).mono ?_; rintro e V2 ⟨k2, rfl, hk2, hr2, hg2, -⟩; obtain ⟨m2, rfl⟩ : ∃ m : Nat, k2 = (m : Int) := ⟨k2.toNat, by omega⟩; obtain ⟨y, hy, hc⟩ := spoil_cell (Blk.new V2 9 spoilCells) (show m2 < 6 by omega); simp only [spoilCells] at hc; have hz1 : ¬ 9223372036854775807 < (s.extract 0 k).size + y.size := (by rw [ByteArray.size_extract]; omega); have hz2 : ¬ 9223372036854775807 < (s.extract 0 k).size + y.size + (s.extract (k + 1) s.size).size := (by rw [ByteArray.size_extract, ByteArray.size_extract]; omega); have q5 : (m2 : Int) < 6 := (by omega); have q6 : (0 : Int) ≤ (m2 : Int) := (by omega); have hgr := hg.out.trans (by first | exact hg2 | exact (grown_of_below (some g) (Below.refl _ _).drew).trans hg2); replace hr2 := Lib.hid (hr2.alloc' (.cells #[.string ⟨#[]⟩, .string ⟨#[48]⟩, .string ⟨#[32]⟩, .string ⟨#[10]⟩, .string ⟨#[45]⟩, .string ⟨#[98, 97, 99, 107]⟩] 9)); replace hgr := Lib.hid (hgr.trans (grown_of_below (some g) ((Below.refl V2.heap.size V2).alloc (Nat.le_refl _) (.cells #[.string ⟨#[]⟩, .string ⟨#[48]⟩, .string ⟨#[32]⟩, .string ⟨#[10]⟩, .string ⟨#[45]⟩, .string ⟨#[98, 97, 99, 107]⟩] 9)))); clear hg2 hk2; go_simp))
    all_goals
      go_wp2
      go_ret
      refine ⟨_, p + 1 + 1, rfl, hsx.out _ hy, ?_, by omega, ?_⟩
      · first
          | exact hr2.out
          | exact hr2.out.drew
      · first
          | exact hgr.out
          | exact hgr.out.trans (grown_of_below (some g) (Below.refl _ _).drew)
theorem word_size (k : Int) : (wordL k).length ≤ 7 := by
  unfold wordL
  repeat' split
  all_goals decide
theorem deed_size (a : Dd) : (deedT a).size ≤ 14 := by
  have h : (deedT a).size = (deedL a).length := by rw [← deedT_tl, tl_len]
  rw [h]
  have hw := word_size a.kind
  rcases deed_cases a with ⟨hk, hn, e⟩ | ⟨hk, hn, e⟩ | e
  · rw [e, List.length_append, List.length_cons]
    have := dig_len 6 a.n.toNat (by omega) (by omega)
    omega
  · rw [e]; omega
  · rw [e]; exact Nat.zero_le _

/-- A deed is drawn. -/
def DrawnDeed (w : World) (e : Ending) (w' : World) : Prop := ∃ a : Dd, e = .returned (.agg #[.int .i64 a.kind, .int .i64 a.n]) ∧ DrawnDd a ∧ Below w.heap.size w w'
set_option maxRecDepth 100000 in
set_option maxHeartbeats 2000000 in
theorem drawDeedText_any (A : Option Addr) (n c : Nat) (xs : List Int) (w : World) (h : Ints w .u8 A n c xs) (hn : n ≤ 1048576) (hwf : ∀ x ∈ xs, (Lit.int .u8 x).wf = true) (hc : c ≤ maxLen) :
    Calls Tryd.prog 10 #[.slice A n c] w (DrawnDeed w) := by
  have hB0 : Below w.heap.size w (w.alloc (.cells #[.int .i64 0, .int .i64 0] 24)) := (Below.refl _ _).alloc (Nat.le_refl _) _
  have HO := Lib.hid (open_any A n c xs (w.alloc (.cells #[.int .i64 0, .int .i64 0] 24)) (h.below hB0 (Nat.le_refl _)) hn hwf hc)
  have HX := Lib.hid (Blk.new w 24 #[.int .i64 0, .int .i64 0])
  replace hB0 := Lib.hid hB0
  clear h hwf hc
  go_enter Tryd.func10, Tryd.ntmps10
  go_wp2_with (fail)
  refine HO.out.mono ?_
  rintro e w1 ⟨rfl, hr, hb, -⟩
  have hX1 := HX.out.below hb (by simp)
  have hB1 := hB0.out.trans (hb.mono (by simp))
  have hs1 := hb.size
  simp only [World.size_alloc] at hs1
  rw [World.size_alloc] at hr
  clear hb HO HX hB0
  go_wp2_with (fail)
  refine (deed_any _ 0 w1 hr (by omega)).mono ?_
  rintro e w2 ⟨k, m, r, rfl, hk, hm, -, -, hg⟩
  have hX2 : Blk w2 w.heap.size 24 #[.int .i64 0, .int .i64 0] := hX1.grown hg (by simp)
  have hB2 := Lib.hid (below_readD hB1 hg (by omega) (by simp))
  have z0 := hX2.cell 0
  have z1 := hX2.cell 1
  have f0 := hX2.frozen 0
  have f1 := hX2.frozen 1
  have z0' : w2.cell? ⟨w.heap.size, 0, none⟩ = some (.int .i64 0) := z0
  have z1' : w2.cell? ⟨w.heap.size, 1, none⟩ = some (.int .i64 0) := z1
  have hd := Lib.hid (show DrawnDd ⟨k, m⟩ from ⟨hk, hm⟩)
  clear hX1 hX2 hB1 hg hr hk hm z0 z1
  go_wp2
  refine bodyPost_ret (v := .agg #[.int .i64 k, .int .i64 m]) (by simp [results, Tryd.results10, go_sem, z0', z1']) rfl ?_
  exact ⟨⟨k, m⟩, rfl, hd.out, (hB2.out.setCell (p := ⟨w.heap.size, 0, none⟩) (Nat.le_refl _) _).setCell (p := ⟨w.heap.size, 1, none⟩) (Nat.le_refl _) _⟩
/-- A short text is drawn. -/
def DrawnTxt (m : Nat) (w : World) (e : Ending) (w' : World) : Prop := ∃ s : ByteArray, e = .returned (.string s) ∧ s.size ≤ m ∧ Below w.heap.size w w'
set_option maxRecDepth 100000 in
set_option maxHeartbeats 2000000 in
theorem drawReadDeed_any (A : Option Addr) (n c : Nat) (xs : List Int) (w : World) (h : Ints w .u8 A n c xs) (hn : n ≤ 1048576) (hwf : ∀ x ∈ xs, (Lit.int .u8 x).wf = true) (hc : c ≤ maxLen) :
    Calls Tryd.prog 15 #[.slice A n c] w (DrawnTxt 100 w) := by
  have HO := Lib.hid (open_any A n c xs w h hn hwf hc)
  clear h hwf hc
  go_enter Tryd.func15, Tryd.ntmps15
  go_wp2_with (fail)
  refine HO.out.mono ?_
  rintro e w1 ⟨rfl, hr, hb, -⟩
  go_wp2_with (fail)
  refine (deed_any _ 0 w1 hr (by omega)).mono ?_
  rintro e w2 ⟨k, m, r, rfl, hk, hm, hr2, hq2, hg⟩
  have hB2 := below_readD hb hg hb.size (Nat.le_refl _)
  clear hr hb hg HO
  go_wp2_with (fail)
  refine (specDeedText_any ⟨k, m⟩ w2).mono ?_
  rintro e w3 ⟨rfl, b3⟩
  have hds := deed_size ⟨k, m⟩
  generalize deedT ⟨k, m⟩ = s at *
  have hB3 := hB2.trans (b3.mono hB2.size)
  have hr3 := hr2.below b3 (Nat.le_refl _)
  clear hB2 hr2 b3
  go_wp2_with (fail)
  refine (pick_any _ r 3 w3 hr3 (by omega) (by omega) (by omega)).mono ?_
  rintro e w4 ⟨k4, rfl, hk4, hr4, hg4, -⟩
  have hB4 := Lib.hid (below_readD hB3 hg4 hB3.size (Nat.le_refl _))
  clear hB3 hr3 hg4
  by_cases hz : k4 = 0
  · have hz1 : (k4 == 0) = true := by rw [hz]; rfl
    replace hz := Lib.hid hz
    have KS := Lib.hid (spoil_any _ (r + 1) s w4 hr4 (by omega) (by omega))
    clear hr4
    go_wp2_with (fail)
    refine KS.out.mono ?_
    rintro e w5 ⟨x, r5, rfl, hx, -, -, hg5⟩
    have hB5 := Lib.hid (below_readD hB4.out hg5 hB4.out.size (Nat.le_refl _))
    clear hg5
    go_wp2
    go_ret
    exact ⟨x, rfl, by omega, hB5.out⟩
  · have hz1 : (k4 == 0) = false := by rw [beq_eq_false_iff_ne]; exact hz
    replace hz := Lib.hid hz
    clear hr4
    go_wp2
    go_ret
    exact ⟨s, rfl, by omega, hB4.out⟩
end Go.Proofs.YtfmdbmhakkajfaaDoor
