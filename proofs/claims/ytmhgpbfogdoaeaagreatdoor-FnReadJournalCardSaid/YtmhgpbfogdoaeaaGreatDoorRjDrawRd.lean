/-
  The draws of DeedText and ReadDeed.
-/
import Derived.Deep.RegionHeld3
import Derived.Test.YtmhgpbfogdoaeaaGreatDoorRjGQ
import Derived.Test.YtmhgpbfogdoaeaaGreatDoorRjGV
namespace Go.Proofs.YtmhgpbfogdoaeaaGreatDoor
open Go.RowKit

/-- What was below stays below, behind a reader's draws. -/
theorem below_readD {w a b : World} {g B : Nat} (h : Below B w a) (hg : a.grownBy b (some g)) (hB : B ≤ a.heap.size) (hgB : B ≤ g) : Below B w b := h.grown hg hB (fun k e => by cases e; exact hgB)
/-- A text is drawn by a reader. -/
def RetTxt (w : World) (g p m : Nat) (e : Ending) (w' : World) : Prop := ∃ (x : ByteArray) (r : Nat), e = .returned (.string x) ∧ x.size ≤ m ∧ Rd w' g r ∧ r ≤ p ∧ w.grownBy w' (some g)
def spoilCells : Array Value := #[.string ⟨#[]⟩, .string ⟨#[48]⟩, .string ⟨#[32]⟩, .string ⟨#[10]⟩, .string ⟨#[45]⟩, .string ⟨#[98, 97, 99, 107]⟩]

theorem spoil_cell {W : World} {g j : Nat} (h : Blk W g 9 spoilCells) (hj : j < 6) : ∃ y : ByteArray, y.size ≤ 4 ∧ W.cell? ⟨g, j, none⟩ = some (.string y) := by
  obtain rfl | rfl | rfl | rfl | rfl | rfl : j = 0 ∨ j = 1 ∨ j = 2 ∨ j = 3 ∨ j = 4 ∨ j = 5 := by omega
  · exact ⟨_, by decide, h.cell 0⟩
  · exact ⟨_, by decide, h.cell 1⟩
  · exact ⟨_, by decide, h.cell 2⟩
  · exact ⟨_, by decide, h.cell 3⟩
  · exact ⟨_, by decide, h.cell 4⟩
  · exact ⟨_, by decide, h.cell 5⟩
set_option maxRecDepth 100000 in
set_option maxHeartbeats 4000000 in
theorem spoil_any (g p : Nat) (s : ByteArray) (w : World) (h : Rd w g p) (hp : p ≤ 40000) (hs : s.size ≤ 4000000) :
    Calls Tryz.prog 42 #[.pointer (some ⟨g, 0, none⟩), .string s] w (RetTxt w g (p + 10) (s.size + 8)) := by
  have hg0 := h.lt
  by_cases h0 : s.size = 0
  · have e1 : ((s.size : Int) == 0) = true := by rw [h0]; rfl
    replace h0 := Lib.hid h0
    replace h := Lib.hid h
    go_enter Tryz.func42, Tryz.ntmps42
    go_wp2
    go_ret
    exact ⟨_, p, rfl, by show (1 : Nat) ≤ _; omega, h.out, by omega, World.grownBy.refl w _⟩
  · have e1 : ((s.size : Int) == 0) = false := by rw [beq_eq_false_iff_ne]; omega
    go_enter Tryz.func42, Tryz.ntmps42
    go_wp2_with (fail)
    refine (pick_any g p (s.size : Int) w h (by omega) (by omega) (by omega)).mono ?_
    rintro e V ⟨k0, rfl, hk0, hr, hg, -⟩
    obtain ⟨k, rfl⟩ : ∃ k : Nat, k0 = (k : Int) := ⟨k0.toNat, by omega⟩
    have hks : k < s.size := by
      rcases hk0 with hk0
      omega
    have hgV := hr.lt
    have q1 : (k : Int) ≤ (s.size : Int) := by omega
    have q0 : (0 : Int) ≤ (k : Int) := by omega
    have q2 : IntKind.i64.wrap ((k : Int) + 1) = ((k + 1 : Nat) : Int) := by rw [IntWalk.i64_in _ (by omega)]; omega
    have q3 : ((k + 1 : Nat) : Int) ≤ (s.size : Int) := by omega
    have q4 : (0 : Int) ≤ ((k + 1 : Nat) : Int) := by omega
    have hKp := Lib.hid (fun W (hR : Rd W g (p + 1)) => pick_any g (p + 1) 6 W hR (by omega) (by omega) (by omega))
    have hlit : Rd (V.alloc (.cells spoilCells 9)) g (p + 1) := hr.alloc' _
    have hBl := Lib.hid (Blk.new V 9 spoilCells)
    replace hr := Lib.hid hr
    replace hlit := Lib.hid hlit
    replace hg := Lib.hid hg
    clear hk0 h
    go_upto_region 4 with (fail)
    have hsx : ∀ y : ByteArray, y.size ≤ 4 → (s.extract 0 k ++ y ++ s.extract (k + 1) s.size).size ≤ s.size + 8 := fun y hy => by
      rw [ByteArray.size_append, ByteArray.size_append, ByteArray.size_extract, ByteArray.size_extract]; omega
    replace hsx := Lib.hid hsx
    go_region_with (first
      | (go_at_call 41; refine (hKp.out (V.alloc (.cells #[.string ⟨#[]⟩, .string ⟨#[48]⟩, .string ⟨#[32]⟩, .string ⟨#[10]⟩, .string ⟨#[45]⟩, .string ⟨#[98, 97, 99, 107]⟩] 9)).drew hlit.out.drew).mono ?_; rintro e V2 ⟨k2, rfl, hk2, hr2, hg2, -⟩; obtain ⟨m2, rfl⟩ : ∃ m : Nat, k2 = (m : Int) := ⟨k2.toNat, by omega⟩; obtain ⟨y, hy, hc⟩ := spoil_cell ((hBl.out.drew).grown hg2 (by intro e; injection e with e; omega)) (show m2 < 6 by omega); have hz1 : ¬ 9223372036854775807 < (s.extract 0 k).size + y.size := (by rw [ByteArray.size_extract]; omega); have hz2 : ¬ 9223372036854775807 < (s.extract 0 k).size + y.size + (s.extract (k + 1) s.size).size := (by rw [ByteArray.size_extract, ByteArray.size_extract]; omega); have q5 : (m2 : Int) < 6 := (by omega); have q6 : (0 : Int) ≤ (m2 : Int) := (by omega); have hgr := (hg.out.trans (grown_of_below (some g) ((Below.refl V.heap.size V).alloc (Nat.le_refl _) (.cells #[.string ⟨#[]⟩, .string ⟨#[48]⟩, .string ⟨#[32]⟩, .string ⟨#[10]⟩, .string ⟨#[45]⟩, .string ⟨#[98, 97, 99, 107]⟩] 9)).drew)).trans hg2; replace hr2 := Lib.hid hr2; replace hgr := Lib.hid hgr; clear hg2 hk2; go_simp)
      | (go_at_call 41; refine (hKp.out _ (by first | exact hr.out | exact hr.out.drew)).mono ?_; rintro e V2 ⟨k2, rfl, hk2, hr2, hg2, -⟩; obtain ⟨m2, rfl⟩ : ∃ m : Nat, k2 = (m : Int) := ⟨k2.toNat, by omega⟩; obtain ⟨y, hy, hc⟩ := spoil_cell (Blk.new V2 9 spoilCells) (show m2 < 6 by omega); simp only [spoilCells] at hc; have hz1 : ¬ 9223372036854775807 < (s.extract 0 k).size + y.size := (by rw [ByteArray.size_extract]; omega); have hz2 : ¬ 9223372036854775807 < (s.extract 0 k).size + y.size + (s.extract (k + 1) s.size).size := (by rw [ByteArray.size_extract, ByteArray.size_extract]; omega); have q5 : (m2 : Int) < 6 := (by omega); have q6 : (0 : Int) ≤ (m2 : Int) := (by omega); have hgr := hg.out.trans (by first | exact hg2 | exact (grown_of_below (some g) (Below.refl _ _).drew).trans hg2); replace hr2 := Lib.hid (hr2.alloc' (.cells #[.string ⟨#[]⟩, .string ⟨#[48]⟩, .string ⟨#[32]⟩, .string ⟨#[10]⟩, .string ⟨#[45]⟩, .string ⟨#[98, 97, 99, 107]⟩] 9)); replace hgr := Lib.hid (hgr.trans (grown_of_below (some g) ((Below.refl V2.heap.size V2).alloc (Nat.le_refl _) (.cells #[.string ⟨#[]⟩, .string ⟨#[48]⟩, .string ⟨#[32]⟩, .string ⟨#[10]⟩, .string ⟨#[45]⟩, .string ⟨#[98, 97, 99, 107]⟩] 9)))); clear hg2 hk2; go_simp))
    all_goals
      go_wp2
      go_ret
      refine ⟨_, p + 1 + 1, rfl, hsx.out _ hy, ?_, by omega, ?_⟩
      · first
          | exact hr2.out
          | exact hr2.out.drew
      · first
          | exact hgr.out
          | exact hgr.out.trans (grown_of_below (some g) (Below.refl _ _).drew)
end Go.Proofs.YtmhgpbfogdoaeaaGreatDoor
