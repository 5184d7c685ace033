/-
  The draws of chapter 9: a tongue and a number up to 151 by a reader, and the six draws.
-/
import Derived.Test.YtjggdlnbfoglaaaGD
import Derived.Test.YtjggdlnbfoglaaaInv
namespace Go.Proofs.Ytjggdlnbfoglaaa
open Go.RowKit

/-- A literal's block of three small numbers, apart from the reader and from the result. -/
structure MoLit (w : World) (g d p : Nat) : Prop where
  blk : ∃ a b c : Int, (0 ≤ a ∧ a ≤ 151) ∧ (0 ≤ b ∧ b ≤ 151) ∧ (0 ≤ c ∧ c ≤ 151) ∧ Blk w p 3 #[.int .i64 a, .int .i64 b, .int .i64 c]
  ng : p ≠ g
  nd : p ≠ d
section
variable {w0 w w' : World} {g d z q p : Nat} {cs : Array Value} {v : Value} {t : Tg}
theorem MoLit.al (h : MoLit w g d p) (o : Obj) : MoLit (w.alloc o) g d p := ⟨let ⟨a, b, c, ha, hb, hc, hh⟩ := h.blk; ⟨a, b, c, ha, hb, hc, hh.alloc o⟩, h.ng, h.nd⟩
theorem MoLit.pick (h : MoLit w g d p) (hg : w.grownBy w' (some g)) : MoLit w' g d p := ⟨let ⟨a, b, c, ha, hb, hc, hh⟩ := h.blk; ⟨a, b, c, ha, hb, hc, hh.grown hg (by simpa using h.ng)⟩, h.ng, h.nd⟩
theorem MoLit.set3 (h : MoLit w g d p) (u0 u1 u2 : Value) : MoLit (((w.setCell ⟨d, 0, none⟩ u0).setCell ⟨d, 1, none⟩ u1).setCell ⟨d, 2, none⟩ u2) g d p :=
  ⟨let ⟨a, b, c, ha, hb, hc, hh⟩ := h.blk; ⟨a, b, c, ha, hb, hc, ((hh.far (p := ⟨d, 0, none⟩) h.nd u0).far (p := ⟨d, 1, none⟩) h.nd u1).far (p := ⟨d, 2, none⟩) h.nd u2⟩, h.ng, h.nd⟩
theorem MoLit.at_ (h : MoLit w g d p) (k : Nat) (hk : k < 3) : ∃ y : Int, (0 ≤ y ∧ y ≤ 151) ∧ w.cell? ⟨p, k, none⟩ = some (.int .i64 y) := by
  obtain ⟨a, b, c, ha, hb, hc, hh⟩ := h.blk
  obtain rfl | rfl | rfl : k = 0 ∨ k = 1 ∨ k = 2 := by omega
  · exact ⟨a, ha, (hh.cell 0).trans rfl⟩
  · exact ⟨b, hb, (hh.cell 1).trans rfl⟩
  · exact ⟨c, hc, (hh.cell 2).trans rfl⟩
/-- While the results are gathered: the reader, the box, the result's own block (filled or not yet). -/
structure MoW (w0 : World) (g z : Nat) (cs : Array Value) (v : Value) (t : Tg) (q : Nat) (st : Bool) (w : World) : Prop where
  rd : Rd w g q
  hx : Blk w w0.heap.size 26 (if st then cs else #[.slice none 0 0, .slice none 0 0, .slice none 0 0])
  hz : Blk w z 26 cs
  own : OwnTng w (w0.heap.size + 1) v t
  gr : w0.grownBy w (some g)
theorem MoW.al {st : Bool} (h : MoW w0 g z cs v t q st w) (o : Obj) : MoW w0 g z cs v t q st (w.alloc o) :=
  ⟨h.rd.alloc' o, h.hx.alloc o, h.hz.alloc o, h.own.below ((Below.refl _ _).alloc (Nat.le_refl _) o) (Nat.le_refl _), h.gr.trans (World.grownBy_alloc w o (some g))⟩
theorem MoW.pick {st : Bool} {q' : Nat} (h : MoW w0 g z cs v t q st w) (hg : w.grownBy w' (some g)) (hr : Rd w' g q') (h0 : g < w0.heap.size) (hz : g < z) : MoW w0 g z cs v t q' st w' :=
  ⟨hr, h.hx.grown hg (by simp; omega), h.hz.grown hg (by simp; omega), h.own.kept hg (by omega), h.gr.trans hg⟩
theorem MoW.set3 {u0 u1 u2 : Value} (h : MoW w0 g z #[u0, u1, u2] v t q false w) (h0 : g < w0.heap.size) (hz : w0.heap.size ≠ z) :
    MoW w0 g z #[u0, u1, u2] v t q true (((w.setCell ⟨w0.heap.size, 0, none⟩ u0).setCell ⟨w0.heap.size, 1, none⟩ u1).setCell ⟨w0.heap.size, 2, none⟩ u2) :=
  ⟨rd_set (rd_set (rd_set h.rd h0 _) h0 _) h0 _, ((h.hx.set_ 0 u0).set_ 1 u1).set_ 2 u2, ((h.hz.far (p := ⟨w0.heap.size, 0, none⟩) (Ne.symm hz) u0).far (p := ⟨w0.heap.size, 1, none⟩) (Ne.symm hz) u1).far (p := ⟨w0.heap.size, 2, none⟩) (Ne.symm hz) u2,
    h.own.set3 h.hx, grown_set (grown_set (grown_set h.gr (Nat.le_refl _) _) (Nat.le_refl _) _) (Nat.le_refl _) _⟩
end
/-- How many picks have been made. -/
def moB (l : Array Bool) (i : Nat) : Nat := if l.getD i false = true then 1 else 0
def moQ (q : Nat) (l : Array Bool) : Nat := q + moB l 2 + moB l 4 + moB l 6 + moB l 9
theorem moB_le (l : Array Bool) (i : Nat) : moB l i ≤ 1 := by unfold moB; split <;> omega
theorem moB_ne {l : Array Bool} {i j : Nat} (h : j ≠ i) : moB (l.setIfInBounds i true) j = moB l j := by unfold moB; rw [listed_same h]
theorem moB_at {l : Array Bool} {i : Nat} (h : i < l.size) (hu : l.getD i false = false) : moB (l.setIfInBounds i true) i = moB l i + 1 := by unfold moB; rw [listed_at h, hu]; rfl
theorem moQ_le (q : Nat) (l : Array Bool) : moQ q l ≤ q + 4 := by
  have := moB_le l 2; have := moB_le l 4; have := moB_le l 6; have := moB_le l 9
  unfold moQ; omega
theorem moQ_same {q i : Nat} {l : Array Bool} (h2 : 2 ≠ i) (h4 : 4 ≠ i) (h6 : 6 ≠ i) (h9 : 9 ≠ i) : moQ q (l.setIfInBounds i true) = moQ q l := by unfold moQ; rw [moB_ne h2, moB_ne h4, moB_ne h6, moB_ne h9]
theorem moQ_2 {q : Nat} {l : Array Bool} (h : 2 < l.size) (hu : l.getD 2 false = false) : moQ q (l.setIfInBounds 2 true) = moQ q l + 1 := by
  unfold moQ; rw [moB_at h hu, moB_ne (show 4 ≠ 2 by decide), moB_ne (show 6 ≠ 2 by decide), moB_ne (show 9 ≠ 2 by decide)]; omega
theorem moQ_4 {q : Nat} {l : Array Bool} (h : 4 < l.size) (hu : l.getD 4 false = false) : moQ q (l.setIfInBounds 4 true) = moQ q l + 1 := by
  unfold moQ; rw [moB_at h hu, moB_ne (show 2 ≠ 4 by decide), moB_ne (show 6 ≠ 4 by decide), moB_ne (show 9 ≠ 4 by decide)]; omega
theorem moQ_6 {q : Nat} {l : Array Bool} (h : 6 < l.size) (hu : l.getD 6 false = false) : moQ q (l.setIfInBounds 6 true) = moQ q l + 1 := by
  unfold moQ; rw [moB_at h hu, moB_ne (show 2 ≠ 6 by decide), moB_ne (show 4 ≠ 6 by decide), moB_ne (show 9 ≠ 6 by decide)]; omega
theorem moQ_9 {q : Nat} {l : Array Bool} (h : 9 < l.size) (hu : l.getD 9 false = false) : moQ q (l.setIfInBounds 9 true) = moQ q l + 1 := by
  unfold moQ; rw [moB_at h hu, moB_ne (show 2 ≠ 9 by decide), moB_ne (show 4 ≠ 9 by decide), moB_ne (show 6 ≠ 9 by decide)]; omega
/-- What is known of the operations that have come up. -/
structure MoF (g d : Nat) (agg : Value) (l : Array Bool) (w : World) (s3 s7 s8 s9 s10 s11 s12 s13 s14 s15 s16 s17 s18 s19 : Value) : Prop where
  f0 : l.getD 0 false = true → s7 = agg
  f1 : l.getD 1 false = true → s8 = .pointer (some ⟨g, 0, none⟩)
  f2 : l.getD 2 false = true → ∃ y : Int, (0 ≤ y ∧ y ≤ 151) ∧ s9 = .int .i64 y
  f3 : l.getD 3 false = true → s10 = .pointer (some ⟨g, 0, none⟩)
  f4 : l.getD 4 false = true → ∃ y : Int, (0 ≤ y ∧ y ≤ 151) ∧ s11 = .int .i64 y
  f5 : l.getD 5 false = true → s12 = .pointer (some ⟨g, 0, none⟩)
  f6 : l.getD 6 false = true → ∃ y : Int, (0 ≤ y ∧ y ≤ 151) ∧ s13 = .int .i64 y
  f7 : l.getD 7 false = true → ∃ p, s14 = .slice (some ⟨p, 0, none⟩) 3 3 ∧ MoLit w g d p
  f8 : l.getD 8 false = true → s15 = .pointer (some ⟨g, 0, none⟩)
  f9 : l.getD 9 false = true → ∃ k : Nat, k < 5 ∧ s16 = .int .i64 k
  f10 : l.getD 10 false = true → ∃ k : Nat, k < 3 ∧ s17 = .int .i64 k
  f11 : l.getD 11 false = true → ∃ p k : Nat, k < 3 ∧ s18 = .pointer (some ⟨p, k, none⟩) ∧ MoLit w g d p
  f12 : l.getD 12 false = true → ∃ y : Int, (0 ≤ y ∧ y ≤ 151) ∧ s19 = .int .i64 y
  f14 : l.getD 14 false = true → ∃ y : Int, (0 ≤ y ∧ y ≤ 151) ∧ s3 = .int .i64 y
section
variable {g d : Nat} {agg : Value} {l : Array Bool} {w w' : World} {s3 s7 s8 s9 s10 s11 s12 s13 s14 s15 s16 s17 s18 s19 : Value}
theorem MoF.world (h : MoF g d agg l w s3 s7 s8 s9 s10 s11 s12 s13 s14 s15 s16 s17 s18 s19) (hm : ∀ p, MoLit w g d p → MoLit w' g d p) : MoF g d agg l w' s3 s7 s8 s9 s10 s11 s12 s13 s14 s15 s16 s17 s18 s19 :=
  ⟨h.f0, h.f1, h.f2, h.f3, h.f4, h.f5, h.f6, fun h' => let ⟨p, e, hl⟩ := h.f7 h'; ⟨p, e, hm _ hl⟩, h.f8, h.f9, h.f10, fun h' => let ⟨p, k, hk, e, hl⟩ := h.f11 h'; ⟨p, k, hk, e, hm _ hl⟩, h.f12, h.f14⟩
theorem MoF.up0 {v : Value} (h : MoF g d agg l w s3 s7 s8 s9 s10 s11 s12 s13 s14 s15 s16 s17 s18 s19) (hv : v = agg) : MoF g d agg (l.setIfInBounds 0 true) w s3 v s8 s9 s10 s11 s12 s13 s14 s15 s16 s17 s18 s19 :=
  ⟨fun _ => hv, fun h' => h.f1 (listed_set h' (by decide)), fun h' => h.f2 (listed_set h' (by decide)), fun h' => h.f3 (listed_set h' (by decide)), fun h' => h.f4 (listed_set h' (by decide)), fun h' => h.f5 (listed_set h' (by decide)), fun h' => h.f6 (listed_set h' (by decide)), fun h' => h.f7 (listed_set h' (by decide)), fun h' => h.f8 (listed_set h' (by decide)), fun h' => h.f9 (listed_set h' (by decide)), fun h' => h.f10 (listed_set h' (by decide)), fun h' => h.f11 (listed_set h' (by decide)), fun h' => h.f12 (listed_set h' (by decide)), fun h' => h.f14 (listed_set h' (by decide))⟩
theorem MoF.up1 {v : Value} (h : MoF g d agg l w s3 s7 s8 s9 s10 s11 s12 s13 s14 s15 s16 s17 s18 s19) (hv : v = .pointer (some ⟨g, 0, none⟩)) : MoF g d agg (l.setIfInBounds 1 true) w s3 s7 v s9 s10 s11 s12 s13 s14 s15 s16 s17 s18 s19 :=
  ⟨fun h' => h.f0 (listed_set h' (by decide)), fun _ => hv, fun h' => h.f2 (listed_set h' (by decide)), fun h' => h.f3 (listed_set h' (by decide)), fun h' => h.f4 (listed_set h' (by decide)), fun h' => h.f5 (listed_set h' (by decide)), fun h' => h.f6 (listed_set h' (by decide)), fun h' => h.f7 (listed_set h' (by decide)), fun h' => h.f8 (listed_set h' (by decide)), fun h' => h.f9 (listed_set h' (by decide)), fun h' => h.f10 (listed_set h' (by decide)), fun h' => h.f11 (listed_set h' (by decide)), fun h' => h.f12 (listed_set h' (by decide)), fun h' => h.f14 (listed_set h' (by decide))⟩
theorem MoF.up2 {v : Value} (h : MoF g d agg l w s3 s7 s8 s9 s10 s11 s12 s13 s14 s15 s16 s17 s18 s19) (hv : ∃ y : Int, (0 ≤ y ∧ y ≤ 151) ∧ v = .int .i64 y) : MoF g d agg (l.setIfInBounds 2 true) w s3 s7 s8 v s10 s11 s12 s13 s14 s15 s16 s17 s18 s19 :=
  ⟨fun h' => h.f0 (listed_set h' (by decide)), fun h' => h.f1 (listed_set h' (by decide)), fun _ => hv, fun h' => h.f3 (listed_set h' (by decide)), fun h' => h.f4 (listed_set h' (by decide)), fun h' => h.f5 (listed_set h' (by decide)), fun h' => h.f6 (listed_set h' (by decide)), fun h' => h.f7 (listed_set h' (by decide)), fun h' => h.f8 (listed_set h' (by decide)), fun h' => h.f9 (listed_set h' (by decide)), fun h' => h.f10 (listed_set h' (by decide)), fun h' => h.f11 (listed_set h' (by decide)), fun h' => h.f12 (listed_set h' (by decide)), fun h' => h.f14 (listed_set h' (by decide))⟩
theorem MoF.up3 {v : Value} (h : MoF g d agg l w s3 s7 s8 s9 s10 s11 s12 s13 s14 s15 s16 s17 s18 s19) (hv : v = .pointer (some ⟨g, 0, none⟩)) : MoF g d agg (l.setIfInBounds 3 true) w s3 s7 s8 s9 v s11 s12 s13 s14 s15 s16 s17 s18 s19 :=
  ⟨fun h' => h.f0 (listed_set h' (by decide)), fun h' => h.f1 (listed_set h' (by decide)), fun h' => h.f2 (listed_set h' (by decide)), fun _ => hv, fun h' => h.f4 (listed_set h' (by decide)), fun h' => h.f5 (listed_set h' (by decide)), fun h' => h.f6 (listed_set h' (by decide)), fun h' => h.f7 (listed_set h' (by decide)), fun h' => h.f8 (listed_set h' (by decide)), fun h' => h.f9 (listed_set h' (by decide)), fun h' => h.f10 (listed_set h' (by decide)), fun h' => h.f11 (listed_set h' (by decide)), fun h' => h.f12 (listed_set h' (by decide)), fun h' => h.f14 (listed_set h' (by decide))⟩
theorem MoF.up4 {v : Value} (h : MoF g d agg l w s3 s7 s8 s9 s10 s11 s12 s13 s14 s15 s16 s17 s18 s19) (hv : ∃ y : Int, (0 ≤ y ∧ y ≤ 151) ∧ v = .int .i64 y) : MoF g d agg (l.setIfInBounds 4 true) w s3 s7 s8 s9 s10 v s12 s13 s14 s15 s16 s17 s18 s19 :=
  ⟨fun h' => h.f0 (listed_set h' (by decide)), fun h' => h.f1 (listed_set h' (by decide)), fun h' => h.f2 (listed_set h' (by decide)), fun h' => h.f3 (listed_set h' (by decide)), fun _ => hv, fun h' => h.f5 (listed_set h' (by decide)), fun h' => h.f6 (listed_set h' (by decide)), fun h' => h.f7 (listed_set h' (by decide)), fun h' => h.f8 (listed_set h' (by decide)), fun h' => h.f9 (listed_set h' (by decide)), fun h' => h.f10 (listed_set h' (by decide)), fun h' => h.f11 (listed_set h' (by decide)), fun h' => h.f12 (listed_set h' (by decide)), fun h' => h.f14 (listed_set h' (by decide))⟩
theorem MoF.up5 {v : Value} (h : MoF g d agg l w s3 s7 s8 s9 s10 s11 s12 s13 s14 s15 s16 s17 s18 s19) (hv : v = .pointer (some ⟨g, 0, none⟩)) : MoF g d agg (l.setIfInBounds 5 true) w s3 s7 s8 s9 s10 s11 v s13 s14 s15 s16 s17 s18 s19 :=
  ⟨fun h' => h.f0 (listed_set h' (by decide)), fun h' => h.f1 (listed_set h' (by decide)), fun h' => h.f2 (listed_set h' (by decide)), fun h' => h.f3 (listed_set h' (by decide)), fun h' => h.f4 (listed_set h' (by decide)), fun _ => hv, fun h' => h.f6 (listed_set h' (by decide)), fun h' => h.f7 (listed_set h' (by decide)), fun h' => h.f8 (listed_set h' (by decide)), fun h' => h.f9 (listed_set h' (by decide)), fun h' => h.f10 (listed_set h' (by decide)), fun h' => h.f11 (listed_set h' (by decide)), fun h' => h.f12 (listed_set h' (by decide)), fun h' => h.f14 (listed_set h' (by decide))⟩
theorem MoF.up6 {v : Value} (h : MoF g d agg l w s3 s7 s8 s9 s10 s11 s12 s13 s14 s15 s16 s17 s18 s19) (hv : ∃ y : Int, (0 ≤ y ∧ y ≤ 151) ∧ v = .int .i64 y) : MoF g d agg (l.setIfInBounds 6 true) w s3 s7 s8 s9 s10 s11 s12 v s14 s15 s16 s17 s18 s19 :=
  ⟨fun h' => h.f0 (listed_set h' (by decide)), fun h' => h.f1 (listed_set h' (by decide)), fun h' => h.f2 (listed_set h' (by decide)), fun h' => h.f3 (listed_set h' (by decide)), fun h' => h.f4 (listed_set h' (by decide)), fun h' => h.f5 (listed_set h' (by decide)), fun _ => hv, fun h' => h.f7 (listed_set h' (by decide)), fun h' => h.f8 (listed_set h' (by decide)), fun h' => h.f9 (listed_set h' (by decide)), fun h' => h.f10 (listed_set h' (by decide)), fun h' => h.f11 (listed_set h' (by decide)), fun h' => h.f12 (listed_set h' (by decide)), fun h' => h.f14 (listed_set h' (by decide))⟩
theorem MoF.up7 {v : Value} (h : MoF g d agg l w s3 s7 s8 s9 s10 s11 s12 s13 s14 s15 s16 s17 s18 s19) (hv : ∃ p, v = .slice (some ⟨p, 0, none⟩) 3 3 ∧ MoLit w g d p) : MoF g d agg (l.setIfInBounds 7 true) w s3 s7 s8 s9 s10 s11 s12 s13 v s15 s16 s17 s18 s19 :=
  ⟨fun h' => h.f0 (listed_set h' (by decide)), fun h' => h.f1 (listed_set h' (by decide)), fun h' => h.f2 (listed_set h' (by decide)), fun h' => h.f3 (listed_set h' (by decide)), fun h' => h.f4 (listed_set h' (by decide)), fun h' => h.f5 (listed_set h' (by decide)), fun h' => h.f6 (listed_set h' (by decide)), fun _ => hv, fun h' => h.f8 (listed_set h' (by decide)), fun h' => h.f9 (listed_set h' (by decide)), fun h' => h.f10 (listed_set h' (by decide)), fun h' => h.f11 (listed_set h' (by decide)), fun h' => h.f12 (listed_set h' (by decide)), fun h' => h.f14 (listed_set h' (by decide))⟩
theorem MoF.up8 {v : Value} (h : MoF g d agg l w s3 s7 s8 s9 s10 s11 s12 s13 s14 s15 s16 s17 s18 s19) (hv : v = .pointer (some ⟨g, 0, none⟩)) : MoF g d agg (l.setIfInBounds 8 true) w s3 s7 s8 s9 s10 s11 s12 s13 s14 v s16 s17 s18 s19 :=
  ⟨fun h' => h.f0 (listed_set h' (by decide)), fun h' => h.f1 (listed_set h' (by decide)), fun h' => h.f2 (listed_set h' (by decide)), fun h' => h.f3 (listed_set h' (by decide)), fun h' => h.f4 (listed_set h' (by decide)), fun h' => h.f5 (listed_set h' (by decide)), fun h' => h.f6 (listed_set h' (by decide)), fun h' => h.f7 (listed_set h' (by decide)), fun _ => hv, fun h' => h.f9 (listed_set h' (by decide)), fun h' => h.f10 (listed_set h' (by decide)), fun h' => h.f11 (listed_set h' (by decide)), fun h' => h.f12 (listed_set h' (by decide)), fun h' => h.f14 (listed_set h' (by decide))⟩
theorem MoF.up9 {v : Value} (h : MoF g d agg l w s3 s7 s8 s9 s10 s11 s12 s13 s14 s15 s16 s17 s18 s19) (hv : ∃ k : Nat, k < 5 ∧ v = .int .i64 k) : MoF g d agg (l.setIfInBounds 9 true) w s3 s7 s8 s9 s10 s11 s12 s13 s14 s15 v s17 s18 s19 :=
  ⟨fun h' => h.f0 (listed_set h' (by decide)), fun h' => h.f1 (listed_set h' (by decide)), fun h' => h.f2 (listed_set h' (by decide)), fun h' => h.f3 (listed_set h' (by decide)), fun h' => h.f4 (listed_set h' (by decide)), fun h' => h.f5 (listed_set h' (by decide)), fun h' => h.f6 (listed_set h' (by decide)), fun h' => h.f7 (listed_set h' (by decide)), fun h' => h.f8 (listed_set h' (by decide)), fun _ => hv, fun h' => h.f10 (listed_set h' (by decide)), fun h' => h.f11 (listed_set h' (by decide)), fun h' => h.f12 (listed_set h' (by decide)), fun h' => h.f14 (listed_set h' (by decide))⟩
theorem MoF.up10 {v : Value} (h : MoF g d agg l w s3 s7 s8 s9 s10 s11 s12 s13 s14 s15 s16 s17 s18 s19) (hv : ∃ k : Nat, k < 3 ∧ v = .int .i64 k) : MoF g d agg (l.setIfInBounds 10 true) w s3 s7 s8 s9 s10 s11 s12 s13 s14 s15 s16 v s18 s19 :=
  ⟨fun h' => h.f0 (listed_set h' (by decide)), fun h' => h.f1 (listed_set h' (by decide)), fun h' => h.f2 (listed_set h' (by decide)), fun h' => h.f3 (listed_set h' (by decide)), fun h' => h.f4 (listed_set h' (by decide)), fun h' => h.f5 (listed_set h' (by decide)), fun h' => h.f6 (listed_set h' (by decide)), fun h' => h.f7 (listed_set h' (by decide)), fun h' => h.f8 (listed_set h' (by decide)), fun h' => h.f9 (listed_set h' (by decide)), fun _ => hv, fun h' => h.f11 (listed_set h' (by decide)), fun h' => h.f12 (listed_set h' (by decide)), fun h' => h.f14 (listed_set h' (by decide))⟩
theorem MoF.up11 {v : Value} (h : MoF g d agg l w s3 s7 s8 s9 s10 s11 s12 s13 s14 s15 s16 s17 s18 s19) (hv : ∃ p k : Nat, k < 3 ∧ v = .pointer (some ⟨p, k, none⟩) ∧ MoLit w g d p) : MoF g d agg (l.setIfInBounds 11 true) w s3 s7 s8 s9 s10 s11 s12 s13 s14 s15 s16 s17 v s19 :=
  ⟨fun h' => h.f0 (listed_set h' (by decide)), fun h' => h.f1 (listed_set h' (by decide)), fun h' => h.f2 (listed_set h' (by decide)), fun h' => h.f3 (listed_set h' (by decide)), fun h' => h.f4 (listed_set h' (by decide)), fun h' => h.f5 (listed_set h' (by decide)), fun h' => h.f6 (listed_set h' (by decide)), fun h' => h.f7 (listed_set h' (by decide)), fun h' => h.f8 (listed_set h' (by decide)), fun h' => h.f9 (listed_set h' (by decide)), fun h' => h.f10 (listed_set h' (by decide)), fun _ => hv, fun h' => h.f12 (listed_set h' (by decide)), fun h' => h.f14 (listed_set h' (by decide))⟩
theorem MoF.up12 {v : Value} (h : MoF g d agg l w s3 s7 s8 s9 s10 s11 s12 s13 s14 s15 s16 s17 s18 s19) (hv : ∃ y : Int, (0 ≤ y ∧ y ≤ 151) ∧ v = .int .i64 y) : MoF g d agg (l.setIfInBounds 12 true) w s3 s7 s8 s9 s10 s11 s12 s13 s14 s15 s16 s17 s18 v :=
  ⟨fun h' => h.f0 (listed_set h' (by decide)), fun h' => h.f1 (listed_set h' (by decide)), fun h' => h.f2 (listed_set h' (by decide)), fun h' => h.f3 (listed_set h' (by decide)), fun h' => h.f4 (listed_set h' (by decide)), fun h' => h.f5 (listed_set h' (by decide)), fun h' => h.f6 (listed_set h' (by decide)), fun h' => h.f7 (listed_set h' (by decide)), fun h' => h.f8 (listed_set h' (by decide)), fun h' => h.f9 (listed_set h' (by decide)), fun h' => h.f10 (listed_set h' (by decide)), fun h' => h.f11 (listed_set h' (by decide)), fun _ => hv, fun h' => h.f14 (listed_set h' (by decide))⟩
theorem MoF.up13 (h : MoF g d agg l w s3 s7 s8 s9 s10 s11 s12 s13 s14 s15 s16 s17 s18 s19) : MoF g d agg (l.setIfInBounds 13 true) w s3 s7 s8 s9 s10 s11 s12 s13 s14 s15 s16 s17 s18 s19 :=
  ⟨fun h' => h.f0 (listed_set h' (by decide)), fun h' => h.f1 (listed_set h' (by decide)), fun h' => h.f2 (listed_set h' (by decide)), fun h' => h.f3 (listed_set h' (by decide)), fun h' => h.f4 (listed_set h' (by decide)), fun h' => h.f5 (listed_set h' (by decide)), fun h' => h.f6 (listed_set h' (by decide)), fun h' => h.f7 (listed_set h' (by decide)), fun h' => h.f8 (listed_set h' (by decide)), fun h' => h.f9 (listed_set h' (by decide)), fun h' => h.f10 (listed_set h' (by decide)), fun h' => h.f11 (listed_set h' (by decide)), fun h' => h.f12 (listed_set h' (by decide)), fun h' => h.f14 (listed_set h' (by decide))⟩
theorem MoF.up14 {v : Value} (h : MoF g d agg l w s3 s7 s8 s9 s10 s11 s12 s13 s14 s15 s16 s17 s18 s19) (hv : ∃ y : Int, (0 ≤ y ∧ y ≤ 151) ∧ v = .int .i64 y) : MoF g d agg (l.setIfInBounds 14 true) w v s7 s8 s9 s10 s11 s12 s13 s14 s15 s16 s17 s18 s19 :=
  ⟨fun h' => h.f0 (listed_set h' (by decide)), fun h' => h.f1 (listed_set h' (by decide)), fun h' => h.f2 (listed_set h' (by decide)), fun h' => h.f3 (listed_set h' (by decide)), fun h' => h.f4 (listed_set h' (by decide)), fun h' => h.f5 (listed_set h' (by decide)), fun h' => h.f6 (listed_set h' (by decide)), fun h' => h.f7 (listed_set h' (by decide)), fun h' => h.f8 (listed_set h' (by decide)), fun h' => h.f9 (listed_set h' (by decide)), fun h' => h.f10 (listed_set h' (by decide)), fun h' => h.f11 (listed_set h' (by decide)), fun h' => h.f12 (listed_set h' (by decide)), fun _ => hv⟩
end

/-- A tongue and a number up to 151 are drawn by a reader. -/
def RetMost (w : World) (g : Nat) (e : Ending) (w' : World) : Prop := ∃ v t n q, e = .returned (.tuple #[v, .int .i64 n]) ∧ OwnTng w' w.heap.size v t ∧ SmallT 40 t ∧ (0 ≤ n ∧ n ≤ 151) ∧ Rd w' g q ∧ q ≤ 60 ∧ w.grownBy w' (some g)

set_option maxRecDepth 100000 in
set_option maxHeartbeats 8000000 in
theorem most_any (g : Nat) (w : World) (h : Rd w g 0) :
    Calls Try.prog 52 #[.pointer (some ⟨g, 0, none⟩)] w (RetMost w g) := by
  have hg0 := h.lt
  have HD := Lib.hid (drawn_any g 0 12 (w.alloc zeroTng) (h.alloc' _) (by omega) (by omega) (by omega))
  have HX := Lib.hid (Blk.new w 26 #[.slice none 0 0, .slice none 0 0, .slice none 0 0])
  clear h
  go_enter Try.func52, Try.ntmps52
  go_wp2_with (fail)
  refine HD.out.mono ?_
  rintro e w1 ⟨v, t, q, rfl, ho, hsm, hr, hq, hg⟩
  obtain ⟨A1, c1, A2, c2, A3, c3, rfl⟩ := ho.shape
  have hX1 : Blk w1 w.heap.size 26 #[.slice none 0 0, .slice none 0 0, .slice none 0 0] := HX.out.grown hg (by simp; omega)
  have hs1 := hg.size
  rw [World.size_alloc] at hs1
  rw [World.size_alloc] at ho
  have hB2 := (Below.refl w1.heap.size w1).alloc (Nat.le_refl _) (.cells #[.slice A1 t.us.length c1, .slice A2 t.bs.length c2, .slice A3 t.ns.length c3] 26)
  have D : DN w g w1.heap.size #[.slice A1 t.us.length c1, .slice A2 t.bs.length c2, .slice A3 t.ns.length c3] (.agg #[.slice A1 t.us.length c1, .slice A2 t.bs.length c2, .slice A3 t.ns.length c3]) t (w1.alloc (.cells #[.slice A1 t.us.length c1, .slice A2 t.bs.length c2, .slice A3 t.ns.length c3] 26)) q :=
    ⟨hr.below hB2 (Nat.le_refl _), hX1.below hB2 hX1.lt, Blk.new w1 26 #[.slice A1 t.us.length c1, .slice A2 t.bs.length c2, .slice A3 t.ns.length c3], ho.below hB2 (Nat.le_refl _), ((grown_of_below (some g) ((Below.refl w.heap.size w).alloc (Nat.le_refl _) zeroTng)).trans hg).trans (grown_of_below (some g) hB2)⟩
  replace D := Lib.hid D
  have hgz : g < w1.heap.size := by omega
  have hzw : w.heap.size < w1.heap.size := by omega
  replace hsm := Lib.hid hsm
  clear hB2 hX1 hr ho hg HD HX
  go_upto_region 2 with (fail)
  generalize w1.alloc (.cells #[.slice A1 t.us.length c1, .slice A2 t.bs.length c2, .slice A3 t.ns.length c3] 26) = W at *
  generalize w1.heap.size = z at *
  have hzne : w.heap.size ≠ z := by omega
  refine wp_region_any (by kernel_rfl) ?_
  refine wpAny_inv (Inv := fun l a w' => ∃ s3 s7 s8 s9 s10 s11 s12 s13 s14 s15 s16 s17 s18 s19 : Value, a = ⟨#[.pointer (some ⟨g, 0, none⟩), undef, .pointer (some ⟨w.heap.size, 0, none⟩), s3, .pointer (some ⟨z, 0, none⟩), .pointer (some ⟨g, 0, none⟩), (.agg #[.slice A1 t.us.length c1, .slice A2 t.bs.length c2, .slice A3 t.ns.length c3]), s7, s8, s9, s10, s11, s12, s13, s14, s15, s16, s17, s18, s19], []⟩ ∧ MoW w g z #[.slice A1 t.us.length c1, .slice A2 t.bs.length c2, .slice A3 t.ns.length c3] (.agg #[.slice A1 t.us.length c1, .slice A2 t.bs.length c2, .slice A3 t.ns.length c3]) t (moQ q l) (l.getD 13 false) w' ∧ MoF g w.heap.size (.agg #[.slice A1 t.us.length c1, .slice A2 t.bs.length c2, .slice A3 t.ns.length c3]) l w' s3 s7 s8 s9 s10 s11 s12 s13 s14 s15 s16 s17 s18 s19) (ord_spec (by kernel_rfl)) ?_ ?_ _ _ _ _ rfl (by decide) ?_
  · rintro l a w' ⟨s3, s7, s8, s9, s10, s11, s12, s13, s14, s15, s16, s17, s18, s19, rfl, hAW, hF⟩ hsz hl
    have hl' : ∀ j, j < 15 → l.getD j false = true := hl
    obtain ⟨y, hy, e3⟩ := hF.f14 (hl' 14 (by decide))
    subst e3
    rw [hl' 13 (by decide)] at hAW
    have hq2 := moQ_le q l
    obtain ⟨r0, r1, r2, -, -, -⟩ := blk3 hAW.hx
    have HF : RetMost w g (.returned (.tuple #[(.agg #[.slice A1 t.us.length c1, .slice A2 t.bs.length c2, .slice A3 t.ns.length c3]), .int .i64 y])) w' := ⟨_, t, y, _, rfl, hAW.own.mono (by omega), hsm.out, hy, hAW.rd, by omega, hAW.gr⟩
    replace HF := Lib.hid HF
    clear hAW hF hl hl'
    go_wp2
    refine bodyPost_ret (v := .tuple #[(.agg #[.slice A1 t.us.length c1, .slice A2 t.bs.length c2, .slice A3 t.ns.length c3]), .int .i64 y]) (by simp [results, Try.results52, go_sem, r0, r1, r2]) rfl ?_
    exact HF.out
  · rintro l a w' ⟨s3, s7, s8, s9, s10, s11, s12, s13, s14, s15, s16, s17, s18, s19, rfl, hAW, hF⟩ hsz i o hlt ho hun hall
    have hlt' : i < 15 := hlt
    refine wpOp_step ho (fun K' hK => ?_)
    replace hK := Lib.hid hK
    obtain rfl | rfl | rfl | rfl | rfl | rfl | rfl | rfl | rfl | rfl | rfl | rfl | rfl | rfl | rfl : i = 0 ∨ i = 1 ∨ i = 2 ∨ i = 3 ∨ i = 4 ∨ i = 5 ∨ i = 6 ∨ i = 7 ∨ i = 8 ∨ i = 9 ∨ i = 10 ∨ i = 11 ∨ i = 12 ∨ i = 13 ∨ i = 14 := by omega
    · simp only [List.getElem?_toArray, List.getElem?_cons_zero, Option.some.injEq] at ho
      subst ho
      obtain ⟨z0, z1, z2, -, -, -⟩ := blk3 hAW.hz
      replace hAW := Lib.hid hAW
      replace hF := Lib.hid hF
      clear hall
      go_simp
      refine hK.out _ _ ?_
      exact ⟨_, _, _, _, _, _, _, _, _, _, _, _, _, _, rfl, (by rw [moQ_same (by decide) (by decide) (by decide) (by decide), listed_same (by decide)]; exact hAW.out), hF.out.up0 rfl⟩
    · simp only [List.getElem?_toArray, List.getElem?_cons_succ, List.getElem?_cons_zero, Option.some.injEq] at ho
      subst ho
      replace hAW := Lib.hid hAW
      replace hF := Lib.hid hF
      clear hall
      go_simp
      refine hK.out _ _ ?_
      exact ⟨_, _, _, _, _, _, _, _, _, _, _, _, _, _, rfl, (by rw [moQ_same (by decide) (by decide) (by decide) (by decide), listed_same (by decide)]; exact hAW.out), hF.out.up1 rfl⟩
    · simp only [List.getElem?_toArray, List.getElem?_cons_succ, List.getElem?_cons_zero, Option.some.injEq] at ho
      subst ho
      have e1 := hF.f1 (hall ⟨1, Ground.data⟩ (by simp) rfl)
      subst e1
      replace hAW := Lib.hid hAW
      replace hF := Lib.hid hF
      clear hall
      go_simp
      go_at_call 46
      refine (pick_any g (moQ q l) 12 _ hAW.out.rd (by have := moQ_le q l; omega) (by omega) (by omega)).mono ?_
      rintro e V ⟨k, rfl, hk, hr, hg, -⟩
      obtain ⟨kk, rfl⟩ : ∃ kk : Nat, k = (kk : Int) := ⟨k.toNat, by omega⟩
      go_simp
      refine hK.out _ _ ?_
      exact ⟨_, _, _, _, _, _, _, _, _, _, _, _, _, _, rfl, (by rw [moQ_2 (by rw [hsz]; decide) hun, listed_same (by decide)]; exact hAW.out.pick hg hr hg0 hgz), (hF.out.world (fun _ hl => hl.pick hg)).up2 ⟨(kk : Int), by omega, rfl⟩⟩
    · simp only [List.getElem?_toArray, List.getElem?_cons_succ, List.getElem?_cons_zero, Option.some.injEq] at ho
      subst ho
      replace hAW := Lib.hid hAW
      replace hF := Lib.hid hF
      clear hall
      go_simp
      refine hK.out _ _ ?_
      exact ⟨_, _, _, _, _, _, _, _, _, _, _, _, _, _, rfl, (by rw [moQ_same (by decide) (by decide) (by decide) (by decide), listed_same (by decide)]; exact hAW.out), hF.out.up3 rfl⟩
    · simp only [List.getElem?_toArray, List.getElem?_cons_succ, List.getElem?_cons_zero, Option.some.injEq] at ho
      subst ho
      have e1 := hF.f3 (hall ⟨3, Ground.data⟩ (by simp) rfl)
      subst e1
      replace hAW := Lib.hid hAW
      replace hF := Lib.hid hF
      clear hall
      go_simp
      go_at_call 46
      refine (pick_any g (moQ q l) 40 _ hAW.out.rd (by have := moQ_le q l; omega) (by omega) (by omega)).mono ?_
      rintro e V ⟨k, rfl, hk, hr, hg, -⟩
      obtain ⟨kk, rfl⟩ : ∃ kk : Nat, k = (kk : Int) := ⟨k.toNat, by omega⟩
      go_simp
      refine hK.out _ _ ?_
      exact ⟨_, _, _, _, _, _, _, _, _, _, _, _, _, _, rfl, (by rw [moQ_4 (by rw [hsz]; decide) hun, listed_same (by decide)]; exact hAW.out.pick hg hr hg0 hgz), (hF.out.world (fun _ hl => hl.pick hg)).up4 ⟨(kk : Int), by omega, rfl⟩⟩
    · simp only [List.getElem?_toArray, List.getElem?_cons_succ, List.getElem?_cons_zero, Option.some.injEq] at ho
      subst ho
      replace hAW := Lib.hid hAW
      replace hF := Lib.hid hF
      clear hall
      go_simp
      refine hK.out _ _ ?_
      exact ⟨_, _, _, _, _, _, _, _, _, _, _, _, _, _, rfl, (by rw [moQ_same (by decide) (by decide) (by decide) (by decide), listed_same (by decide)]; exact hAW.out), hF.out.up5 rfl⟩
    · simp only [List.getElem?_toArray, List.getElem?_cons_succ, List.getElem?_cons_zero, Option.some.injEq] at ho
      subst ho
      have e1 := hF.f5 (hall ⟨5, Ground.data⟩ (by simp) rfl)
      subst e1
      replace hAW := Lib.hid hAW
      replace hF := Lib.hid hF
      clear hall
      go_simp
      go_at_call 46
      refine (pick_any g (moQ q l) 152 _ hAW.out.rd (by have := moQ_le q l; omega) (by omega) (by omega)).mono ?_
      rintro e V ⟨k, rfl, hk, hr, hg, -⟩
      obtain ⟨kk, rfl⟩ : ∃ kk : Nat, k = (kk : Int) := ⟨k.toNat, by omega⟩
      go_simp
      refine hK.out _ _ ?_
      exact ⟨_, _, _, _, _, _, _, _, _, _, _, _, _, _, rfl, (by rw [moQ_6 (by rw [hsz]; decide) hun, listed_same (by decide)]; exact hAW.out.pick hg hr hg0 hgz), (hF.out.world (fun _ hl => hl.pick hg)).up6 ⟨(kk : Int), by omega, rfl⟩⟩
    · simp only [List.getElem?_toArray, List.getElem?_cons_succ, List.getElem?_cons_zero, Option.some.injEq] at ho
      subst ho
      obtain ⟨a, ha, ea⟩ := hF.f2 (hall ⟨2, Ground.data⟩ (by simp) rfl)
      subst ea
      obtain ⟨b, hb, eb⟩ := hF.f4 (hall ⟨4, Ground.data⟩ (by simp) rfl)
      subst eb
      obtain ⟨c, hc, ec⟩ := hF.f6 (hall ⟨6, Ground.data⟩ (by simp) rfl)
      subst ec
      replace hAW := Lib.hid hAW
      replace hF := Lib.hid hF
      clear hall
      go_simp
      refine hK.out _ _ ?_
      exact ⟨_, _, _, _, _, _, _, _, _, _, _, _, _, _, rfl, (by rw [moQ_same (by decide) (by decide) (by decide) (by decide), listed_same (by decide)]; exact hAW.out.al _), (hF.out.world (fun _ hl => hl.al _)).up7 ⟨_, rfl, ⟨a, b, c, ha, hb, hc, Blk.new _ _ _⟩, by have := hAW.out.rd.lt; omega, by have := hAW.out.hx.lt; omega⟩⟩
    · simp only [List.getElem?_toArray, List.getElem?_cons_succ, List.getElem?_cons_zero, Option.some.injEq] at ho
      subst ho
      replace hAW := Lib.hid hAW
      replace hF := Lib.hid hF
      clear hall
      go_simp
      refine hK.out _ _ ?_
      exact ⟨_, _, _, _, _, _, _, _, _, _, _, _, _, _, rfl, (by rw [moQ_same (by decide) (by decide) (by decide) (by decide), listed_same (by decide)]; exact hAW.out), hF.out.up8 rfl⟩
    · simp only [List.getElem?_toArray, List.getElem?_cons_succ, List.getElem?_cons_zero, Option.some.injEq] at ho
      subst ho
      have e1 := hF.f8 (hall ⟨8, Ground.data⟩ (by simp) rfl)
      subst e1
      replace hAW := Lib.hid hAW
      replace hF := Lib.hid hF
      clear hall
      go_simp
      go_at_call 46
      refine (pick_any g (moQ q l) 5 _ hAW.out.rd (by have := moQ_le q l; omega) (by omega) (by omega)).mono ?_
      rintro e V ⟨k, rfl, hk, hr, hg, -⟩
      obtain ⟨kk, rfl⟩ : ∃ kk : Nat, k = (kk : Int) := ⟨k.toNat, by omega⟩
      go_simp
      refine hK.out _ _ ?_
      exact ⟨_, _, _, _, _, _, _, _, _, _, _, _, _, _, rfl, (by rw [moQ_9 (by rw [hsz]; decide) hun, listed_same (by decide)]; exact hAW.out.pick hg hr hg0 hgz), (hF.out.world (fun _ hl => hl.pick hg)).up9 ⟨kk, by omega, rfl⟩⟩
    · simp only [List.getElem?_toArray, List.getElem?_cons_succ, List.getElem?_cons_zero, Option.some.injEq] at ho
      subst ho
      obtain ⟨k, hk, e1⟩ := hF.f9 (hall ⟨9, Ground.data⟩ (by simp) rfl)
      subst e1
      obtain ⟨kk, hkk⟩ : ∃ kk, k / 2 = kk := ⟨_, rfl⟩
      have t1 : (k : Int).tdiv 2 = (kk : Int) := by rw [Int.tdiv_eq_ediv_of_nonneg (by omega)]; omega
      have t2 : IntKind.i64.wrap (kk : Int) = (kk : Int) := IntWalk.i64_in _ (by omega)
      replace hAW := Lib.hid hAW
      replace hF := Lib.hid hF
      clear hall
      go_simp
      refine hK.out _ _ ?_
      exact ⟨_, _, _, _, _, _, _, _, _, _, _, _, _, _, rfl, (by rw [moQ_same (by decide) (by decide) (by decide) (by decide), listed_same (by decide)]; exact hAW.out), hF.out.up10 ⟨kk, by omega, rfl⟩⟩
    · simp only [List.getElem?_toArray, List.getElem?_cons_succ, List.getElem?_cons_zero, Option.some.injEq] at ho
      subst ho
      obtain ⟨p, e1, hl⟩ := hF.f7 (hall ⟨7, Ground.data⟩ (by simp) rfl)
      subst e1
      obtain ⟨k, hk, e2⟩ := hF.f10 (hall ⟨10, Ground.data⟩ (by simp) rfl)
      subst e2
      have k0 : (0 : Int) ≤ (k : Int) := by omega
      have k1 : (k : Int) < 3 := by omega
      replace hl := Lib.hid hl
      replace hAW := Lib.hid hAW
      replace hF := Lib.hid hF
      clear hall
      go_simp
      refine hK.out _ _ ?_
      exact ⟨_, _, _, _, _, _, _, _, _, _, _, _, _, _, rfl, (by rw [moQ_same (by decide) (by decide) (by decide) (by decide), listed_same (by decide)]; exact hAW.out), hF.out.up11 ⟨p, k, hk, rfl, hl.out⟩⟩
    · simp only [List.getElem?_toArray, List.getElem?_cons_succ, List.getElem?_cons_zero, Option.some.injEq] at ho
      subst ho
      obtain ⟨p, k, hk, e1, hl⟩ := hF.f11 (hall ⟨11, Ground.data⟩ (by simp) rfl)
      subst e1
      obtain ⟨y, hy, ck⟩ := hl.at_ k hk
      replace hl := Lib.hid hl
      replace hAW := Lib.hid hAW
      replace hF := Lib.hid hF
      clear hall
      go_simp
      refine hK.out _ _ ?_
      exact ⟨_, _, _, _, _, _, _, _, _, _, _, _, _, _, rfl, (by rw [moQ_same (by decide) (by decide) (by decide) (by decide), listed_same (by decide)]; exact hAW.out), hF.out.up12 ⟨y, hy, rfl⟩⟩
    · simp only [List.getElem?_toArray, List.getElem?_cons_succ, List.getElem?_cons_zero, Option.some.injEq] at ho
      subst ho
      have e1 := hF.f0 (hall ⟨0, Ground.data⟩ (by simp) rfl)
      subst e1
      rw [hun] at hAW
      have hAW2 := hAW.set3 hg0 hzne
      obtain ⟨r0, r1, r2, f0, f1, f2⟩ := blk3 hAW.hx
      replace hAW2 := Lib.hid hAW2
      replace hAW := Lib.hid hAW
      replace hF := Lib.hid hF
      clear hall
      go_simp
      refine hK.out _ _ ?_
      exact ⟨_, _, _, _, _, _, _, _, _, _, _, _, _, _, rfl, (by rw [moQ_same (by decide) (by decide) (by decide) (by decide), listed_at (by rw [hsz]; decide)]; exact hAW2.out), (hF.out.world (fun _ hl => hl.set3 _ _ _)).up13⟩
    · simp only [List.getElem?_toArray, List.getElem?_cons_succ, List.getElem?_cons_zero, Option.some.injEq] at ho
      subst ho
      obtain ⟨y, hy, e1⟩ := hF.f12 (hall ⟨12, Ground.data⟩ (by simp) rfl)
      subst e1
      replace hAW := Lib.hid hAW
      replace hF := Lib.hid hF
      clear hall
      go_simp
      refine hK.out _ _ ?_
      exact ⟨_, _, _, _, _, _, _, _, _, _, _, _, _, _, rfl, (by rw [moQ_same (by decide) (by decide) (by decide) (by decide), listed_same (by decide)]; exact hAW.out), hF.out.up14 ⟨y, hy, rfl⟩⟩
  · refine ⟨_, _, _, _, _, _, _, _, _, _, _, _, _, _, rfl, ⟨D.out.rd.drew, D.out.hx, D.out.hz, D.out.own.below ((Below.refl _ _).drew) (Nat.le_refl _), grown_drew D.out.gr⟩, ?_⟩
    exact ⟨(fun h => by cases h), (fun h => by cases h), (fun h => by cases h), (fun h => by cases h), (fun h => by cases h), (fun h => by cases h), (fun h => by cases h), (fun h => by cases h), (fun h => by cases h), (fun h => by cases h), (fun h => by cases h), (fun h => by cases h), (fun h => by cases h), (fun h => by cases h)⟩

/-- A tongue and a number up to 151 are drawn. -/
def DrawnM (w : World) (e : Ending) (w' : World) : Prop := ∃ v t n, e = .returned (.tuple #[v, .int .i64 n]) ∧ OwnTng w' w.heap.size v t ∧ SmallT 40 t ∧ (0 ≤ n ∧ n ≤ 151) ∧ Below w.heap.size w w'
set_option maxRecDepth 100000 in
set_option maxHeartbeats 4000000 in
theorem drawSortedOf_any (A : Option Addr) (n c : Nat) (xs : List Int) (w : World) (h : Ints w .u8 A n c xs) (hn : n ≤ 1048576) (hwf : ∀ x ∈ xs, (Lit.int .u8 x).wf = true) (hc : c ≤ maxLen) :
    Calls Try.prog 20 #[.slice A n c] w (DrawnM w) := by
  have hB0 : Below w.heap.size w (w.alloc zeroTng) := (Below.refl _ _).alloc (Nat.le_refl _) _
  have HO := Lib.hid (open_any A n c xs (w.alloc zeroTng) (h.below hB0 (Nat.le_refl _)) hn hwf hc)
  have HB0 := Lib.hid hB0
  have HX := Lib.hid (Blk.new w 26 #[.slice none 0 0, .slice none 0 0, .slice none 0 0])
  clear h hwf hc hB0
  go_enter Try.func20, Try.ntmps20
  go_wp2_with (fail)
  refine HO.out.mono ?_
  rintro e w1 ⟨rfl, hr, hb, -⟩
  have hX1 := Lib.hid (HX.out.below hb (by simp))
  have hB1 := Lib.hid (HB0.out.trans (hb.mono (by simp)))
  have hs1 := hb.size
  simp only [World.size_alloc] at hs1
  rw [World.size_alloc] at hr
  clear hb HO
  go_wp2_with (fail)
  refine (most_any _ w1 hr).mono ?_
  rintro e w2 ⟨v, t, m, q, rfl, ho, hsm, hm, -, -, hg⟩
  obtain ⟨A1, c1, A2, c2, A3, c3, rfl⟩ := ho.shape
  have hX2 : Blk w2 w.heap.size 26 #[.slice none 0 0, .slice none 0 0, .slice none 0 0] := hX1.out.grown hg (by simp)
  have hB2 := below_read hB1.out hg (by omega) (by simp)
  obtain ⟨r0, r1, r2, f0, f1, f2⟩ := blk3 hX2
  have HF := fun u0 u1 u2 => ho.set3 (u0 := u0) (u1 := u1) (u2 := u2) hX2
  replace HF := Lib.hid HF
  replace hB2 := Lib.hid hB2
  replace hsm := Lib.hid hsm
  clear hr hg ho hX2
  go_wp2
  refine bodyPost_ret (v := .tuple #[.agg #[.slice A1 t.us.length c1, .slice A2 t.bs.length c2, .slice A3 t.ns.length c3], .int .i64 m]) (by simp [results, Try.results20, go_sem, r0, r1, r2]) rfl ?_
  exact ⟨_, t, m, rfl, (HF.out _ _ _).mono (by omega), hsm.out, hm, below_tng3 hB2.out (Nat.le_refl _)⟩
set_option maxRecDepth 100000 in
set_option maxHeartbeats 4000000 in
theorem drawFirstOf_any (A : Option Addr) (n c : Nat) (xs : List Int) (w : World) (h : Ints w .u8 A n c xs) (hn : n ≤ 1048576) (hwf : ∀ x ∈ xs, (Lit.int .u8 x).wf = true) (hc : c ≤ maxLen) :
    Calls Try.prog 25 #[.slice A n c] w (DrawnM w) := by
  have hB0 : Below w.heap.size w (w.alloc zeroTng) := (Below.refl _ _).alloc (Nat.le_refl _) _
  have HO := Lib.hid (open_any A n c xs (w.alloc zeroTng) (h.below hB0 (Nat.le_refl _)) hn hwf hc)
  have HB0 := Lib.hid hB0
  have HX := Lib.hid (Blk.new w 26 #[.slice none 0 0, .slice none 0 0, .slice none 0 0])
  clear h hwf hc hB0
  go_enter Try.func25, Try.ntmps25
  go_wp2_with (fail)
  refine HO.out.mono ?_
  rintro e w1 ⟨rfl, hr, hb, -⟩
  have hX1 := Lib.hid (HX.out.below hb (by simp))
  have hB1 := Lib.hid (HB0.out.trans (hb.mono (by simp)))
  have hs1 := hb.size
  simp only [World.size_alloc] at hs1
  rw [World.size_alloc] at hr
  clear hb HO
  go_wp2_with (fail)
  refine (most_any _ w1 hr).mono ?_
  rintro e w2 ⟨v, t, m, q, rfl, ho, hsm, hm, -, -, hg⟩
  obtain ⟨A1, c1, A2, c2, A3, c3, rfl⟩ := ho.shape
  have hX2 : Blk w2 w.heap.size 26 #[.slice none 0 0, .slice none 0 0, .slice none 0 0] := hX1.out.grown hg (by simp)
  have hB2 := below_read hB1.out hg (by omega) (by simp)
  obtain ⟨r0, r1, r2, f0, f1, f2⟩ := blk3 hX2
  have HF := fun u0 u1 u2 => ho.set3 (u0 := u0) (u1 := u1) (u2 := u2) hX2
  replace HF := Lib.hid HF
  replace hB2 := Lib.hid hB2
  replace hsm := Lib.hid hsm
  clear hr hg ho hX2
  go_wp2
  refine bodyPost_ret (v := .tuple #[.agg #[.slice A1 t.us.length c1, .slice A2 t.bs.length c2, .slice A3 t.ns.length c3], .int .i64 m]) (by simp [results, Try.results25, go_sem, r0, r1, r2]) rfl ?_
  exact ⟨_, t, m, rfl, (HF.out _ _ _).mono (by omega), hsm.out, hm, below_tng3 hB2.out (Nat.le_refl _)⟩
set_option maxRecDepth 100000 in
set_option maxHeartbeats 4000000 in
theorem drawLastOf_any (A : Option Addr) (n c : Nat) (xs : List Int) (w : World) (h : Ints w .u8 A n c xs) (hn : n ≤ 1048576) (hwf : ∀ x ∈ xs, (Lit.int .u8 x).wf = true) (hc : c ≤ maxLen) :
    Calls Try.prog 28 #[.slice A n c] w (DrawnM w) := by
  have hB0 : Below w.heap.size w (w.alloc zeroTng) := (Below.refl _ _).alloc (Nat.le_refl _) _
  have HO := Lib.hid (open_any A n c xs (w.alloc zeroTng) (h.below hB0 (Nat.le_refl _)) hn hwf hc)
  have HB0 := Lib.hid hB0
  have HX := Lib.hid (Blk.new w 26 #[.slice none 0 0, .slice none 0 0, .slice none 0 0])
  clear h hwf hc hB0
  go_enter Try.func28, Try.ntmps28
  go_wp2_with (fail)
  refine HO.out.mono ?_
  rintro e w1 ⟨rfl, hr, hb, -⟩
  have hX1 := Lib.hid (HX.out.below hb (by simp))
  have hB1 := Lib.hid (HB0.out.trans (hb.mono (by simp)))
  have hs1 := hb.size
  simp only [World.size_alloc] at hs1
  rw [World.size_alloc] at hr
  clear hb HO
  go_wp2_with (fail)
  refine (most_any _ w1 hr).mono ?_
  rintro e w2 ⟨v, t, m, q, rfl, ho, hsm, hm, -, -, hg⟩
  obtain ⟨A1, c1, A2, c2, A3, c3, rfl⟩ := ho.shape
  have hX2 : Blk w2 w.heap.size 26 #[.slice none 0 0, .slice none 0 0, .slice none 0 0] := hX1.out.grown hg (by simp)
  have hB2 := below_read hB1.out hg (by omega) (by simp)
  obtain ⟨r0, r1, r2, f0, f1, f2⟩ := blk3 hX2
  have HF := fun u0 u1 u2 => ho.set3 (u0 := u0) (u1 := u1) (u2 := u2) hX2
  replace HF := Lib.hid HF
  replace hB2 := Lib.hid hB2
  replace hsm := Lib.hid hsm
  clear hr hg ho hX2
  go_wp2
  refine bodyPost_ret (v := .tuple #[.agg #[.slice A1 t.us.length c1, .slice A2 t.bs.length c2, .slice A3 t.ns.length c3], .int .i64 m]) (by simp [results, Try.results28, go_sem, r0, r1, r2]) rfl ?_
  exact ⟨_, t, m, rfl, (HF.out _ _ _).mono (by omega), hsm.out, hm, below_tng3 hB2.out (Nat.le_refl _)⟩
set_option maxRecDepth 100000 in
set_option maxHeartbeats 4000000 in
theorem drawKeptOf_any (A : Option Addr) (n c : Nat) (xs : List Int) (w : World) (h : Ints w .u8 A n c xs) (hn : n ≤ 1048576) (hwf : ∀ x ∈ xs, (Lit.int .u8 x).wf = true) (hc : c ≤ maxLen) :
    Calls Try.prog 34 #[.slice A n c] w (DrawnM w) := by
  have hB0 : Below w.heap.size w (w.alloc zeroTng) := (Below.refl _ _).alloc (Nat.le_refl _) _
  have HO := Lib.hid (open_any A n c xs (w.alloc zeroTng) (h.below hB0 (Nat.le_refl _)) hn hwf hc)
  have HB0 := Lib.hid hB0
  have HX := Lib.hid (Blk.new w 26 #[.slice none 0 0, .slice none 0 0, .slice none 0 0])
  clear h hwf hc hB0
  go_enter Try.func34, Try.ntmps34
  go_wp2_with (fail)
  refine HO.out.mono ?_
  rintro e w1 ⟨rfl, hr, hb, -⟩
  have hX1 := Lib.hid (HX.out.below hb (by simp))
  have hB1 := Lib.hid (HB0.out.trans (hb.mono (by simp)))
  have hs1 := hb.size
  simp only [World.size_alloc] at hs1
  rw [World.size_alloc] at hr
  clear hb HO
  go_wp2_with (fail)
  refine (most_any _ w1 hr).mono ?_
  rintro e w2 ⟨v, t, m, q, rfl, ho, hsm, hm, -, -, hg⟩
  obtain ⟨A1, c1, A2, c2, A3, c3, rfl⟩ := ho.shape
  have hX2 : Blk w2 w.heap.size 26 #[.slice none 0 0, .slice none 0 0, .slice none 0 0] := hX1.out.grown hg (by simp)
  have hB2 := below_read hB1.out hg (by omega) (by simp)
  obtain ⟨r0, r1, r2, f0, f1, f2⟩ := blk3 hX2
  have HF := fun u0 u1 u2 => ho.set3 (u0 := u0) (u1 := u1) (u2 := u2) hX2
  replace HF := Lib.hid HF
  replace hB2 := Lib.hid hB2
  replace hsm := Lib.hid hsm
  clear hr hg ho hX2
  go_wp2
  refine bodyPost_ret (v := .tuple #[.agg #[.slice A1 t.us.length c1, .slice A2 t.bs.length c2, .slice A3 t.ns.length c3], .int .i64 m]) (by simp [results, Try.results34, go_sem, r0, r1, r2]) rfl ?_
  exact ⟨_, t, m, rfl, (HF.out _ _ _).mono (by omega), hsm.out, hm, below_tng3 hB2.out (Nat.le_refl _)⟩
/-- While a tongue and numbers are drawn by a draw of its own reader, the tongue in its box. -/
structure DP (w : World) (z : Nat) (cs : Array Value) (v : Value) (t : Tg) (wx : World) (q : Nat) : Prop where
  rd : Rd wx (w.heap.size + 1) q
  hx : Blk wx w.heap.size 26 #[.slice none 0 0, .slice none 0 0, .slice none 0 0]
  hz : Blk wx z 26 cs
  own : OwnTng wx (w.heap.size + 2) v t
  low : Below w.heap.size w wx
theorem DP.pick {w wx w' : World} {z q q' : Nat} {cs : Array Value} {v : Value} {t : Tg} (h : DP w z cs v t wx q) (hg : wx.grownBy w' (some (w.heap.size + 1))) (hr : Rd w' (w.heap.size + 1) q') (hz : w.heap.size + 1 < z) : DP w z cs v t w' q' :=
  ⟨hr, h.hx.grown hg (by simp), h.hz.grown hg (by simp; omega), h.own.kept hg (by omega), below_read h.low hg h.low.size (by omega)⟩
/-- A tongue and two numbers are drawn. -/
def DrawnTwo (w : World) (e : Ending) (w' : World) : Prop := ∃ v t n m, e = .returned (.tuple #[v, .int .i64 n, .int .i64 m]) ∧ OwnTng w' w.heap.size v t ∧ SmallT 40 t ∧ (-300000 ≤ n ∧ n ≤ 300000) ∧ (-300000 ≤ m ∧ m ≤ 300000) ∧ Below w.heap.size w w'
set_option maxRecDepth 100000 in
set_option maxHeartbeats 4000000 in
theorem drawBeforeOk_any (A : Option Addr) (n c : Nat) (xs : List Int) (w : World) (h : Ints w .u8 A n c xs) (hn : n ≤ 1048576) (hwf : ∀ x ∈ xs, (Lit.int .u8 x).wf = true) (hc : c ≤ maxLen) :
    Calls Try.prog 15 #[.slice A n c] w (DrawnTwo w) := by
  have hB0 : Below w.heap.size w (w.alloc zeroTng) := (Below.refl _ _).alloc (Nat.le_refl _) _
  have HO := Lib.hid (open_any A n c xs (w.alloc zeroTng) (h.below hB0 (Nat.le_refl _)) hn hwf hc)
  have HB0 := Lib.hid hB0
  have HX := Lib.hid (Blk.new w 26 #[.slice none 0 0, .slice none 0 0, .slice none 0 0])
  clear h hwf hc hB0
  go_enter Try.func15, Try.ntmps15
  go_wp2_with (fail)
  refine HO.out.mono ?_
  rintro e w1 ⟨rfl, hr, hb, -⟩
  have hX1 := Lib.hid (HX.out.below hb (by simp))
  have hB1 := Lib.hid (HB0.out.trans (hb.mono (by simp)))
  have hs1 := hb.size
  simp only [World.size_alloc] at hs1
  rw [World.size_alloc] at hr
  clear hb HO
  go_wp2_with (fail)
  refine (named_any _ w1 hr).mono ?_
  rintro e w2 ⟨v, t, m, q, rfl, ho, hsm, hm, hr2, hq, hg⟩
  obtain ⟨A1, c1, A2, c2, A3, c3, rfl⟩ := ho.shape
  obtain ⟨hm1, hm2⟩ := hm
  have hX2 : Blk w2 w.heap.size 26 #[.slice none 0 0, .slice none 0 0, .slice none 0 0] := hX1.out.grown hg (by simp)
  have hB2 := below_read hB1.out hg (by omega) (by simp)
  have hAl := (Below.refl w2.heap.size w2).alloc (Nat.le_refl _) (.cells #[.slice A1 t.us.length c1, .slice A2 t.bs.length c2, .slice A3 t.ns.length c3] 26)
  have hs2 : w1.heap.size ≤ w2.heap.size := hg.size
  have D : DP w w2.heap.size #[.slice A1 t.us.length c1, .slice A2 t.bs.length c2, .slice A3 t.ns.length c3] (.agg #[.slice A1 t.us.length c1, .slice A2 t.bs.length c2, .slice A3 t.ns.length c3]) t (w2.alloc (.cells #[.slice A1 t.us.length c1, .slice A2 t.bs.length c2, .slice A3 t.ns.length c3] 26)) q :=
    ⟨hr2.below hAl (Nat.le_refl _), hX2.below hAl hX2.lt, Blk.new w2 26 #[.slice A1 t.us.length c1, .slice A2 t.bs.length c2, .slice A3 t.ns.length c3], (ho.mono (by have := hr.lt; omega)).below hAl (Nat.le_refl _), hB2.trans (hAl.mono hB2.size)⟩
  have hgz : w.heap.size + 1 < w2.heap.size := by have := hr.lt; omega
  replace D := Lib.hid D
  replace hsm := Lib.hid hsm
  clear hr hg ho hX2 hB2 hAl hr2 hX1 hB1
  go_upto_region 3 with (fail)
  generalize w2.alloc (.cells #[.slice A1 t.us.length c1, .slice A2 t.bs.length c2, .slice A3 t.ns.length c3] 26) = W at *
  generalize w2.heap.size = z at *
  obtain ⟨z0, z1, z2, -, -, -⟩ := blk3 D.out.hz
  obtain ⟨r0, r1, r2, f0, f1, f2⟩ := blk3 D.out.hx
  go_region_law (first
    | (have hgd := D2.out.rd; clear hgd; fail)
    | (have hgd := D1.out.rd; clear hgd; go_simp; go_at_call 46; refine (pick_any (w.heap.size + 1) (q+1) 30 _ (by first | exact D1.out.rd.drew | exact D1.out.rd) (by omega) (by omega) (by omega)).mono ?_; rintro e V2 ⟨k2, rfl, hk2, hr2, hg2, -⟩; have hg2' : V1.grownBy V2 (some (w.heap.size + 1)) := ⟨hg2.os, hg2.tape, hg2.output, hg2.size, hg2.block⟩; have D2 := Lib.hid (D1.out.pick hg2' hr2 hgz); obtain ⟨z0'', z1'', z2'', -, -, -⟩ := blk3 D2.out.hz; obtain ⟨r0'', r1'', r2'', f0'', f1'', f2''⟩ := blk3 D2.out.hx; have a2 : 0 ≤ k2 := hk2.1; have b2 : k2 < 30 := (by omega); obtain ⟨j, hj, hj1⟩ : ∃ j : Int, k2.tdiv 29 = j ∧ (0 ≤ j ∧ j ≤ 1) := ⟨_, rfl, by rw [Int.tdiv_eq_ediv_of_nonneg a2]; omega⟩; have u2 : IntKind.i64.wrap j = j := IntWalk.i64_in _ (by omega); have u3 : IntKind.i64.wrap (j * 80) = j * 80 := IntWalk.i64_in _ (by omega); have u4 : IntKind.i64.wrap (1 + k1 - j * 80) = 1 + k1 - j * 80 := IntWalk.i64_in _ (by omega); clear hk2 hr2 hg2 hg2')
    | (go_simp; (fail_if_success (have hgd := D1.out.rd)); go_at_call 46; refine (pick_any (w.heap.size + 1) q (60) _ (by first | exact D.out.rd.drew | exact D.out.rd) (by omega) (by omega) (by omega)).mono ?_; rintro e V1 ⟨k1, rfl, hk1, hr1, hg1, -⟩; have hg1' : W.grownBy V1 (some (w.heap.size + 1)) := ⟨hg1.os, hg1.tape, hg1.output, hg1.size, hg1.block⟩; have D1 := Lib.hid (D.out.pick hg1' hr1 hgz); obtain ⟨z0', z1', z2', -, -, -⟩ := blk3 D1.out.hz; obtain ⟨r0', r1', r2', f0', f1', f2'⟩ := blk3 D1.out.hx; have a1 : 0 ≤ k1 := hk1.1; have b1 : k1 < 60 := (by omega); have u1 : IntKind.i64.wrap (1 + k1) = 1 + k1 := IntWalk.i64_in _ (by omega); clear hk1 hr1 hg1 hg1'))
  all_goals
    have HF : DrawnTwo w (.returned (.tuple #[(.agg #[.slice A1 t.us.length c1, .slice A2 t.bs.length c2, .slice A3 t.ns.length c3]), .int .i64 m, .int .i64 (1 + k1 - j * 80)])) (((V2.setCell ⟨w.heap.size, 0, none⟩ (.slice A1 t.us.length c1)).setCell ⟨w.heap.size, 1, none⟩ (.slice A2 t.bs.length c2)).setCell ⟨w.heap.size, 2, none⟩ (.slice A3 t.ns.length c3)) :=
      ⟨_, t, _, _, rfl, (D2.out.own.set3 D2.out.hx).mono (by omega), hsm.out, by omega, by omega, below_tng3 D2.out.low (Nat.le_refl _)⟩
    replace HF := Lib.hid HF
    clear D D1 D2 z0 z1 z2 z0' z1' z2' z0'' z1'' z2'' r0 r1 r2 r0' r1' r2' f0 f1 f2 f0' f1' f2' f0'' f1'' f2''
    (try go_simp)
    go_wp2
    refine bodyPost_ret (v := .tuple #[(.agg #[.slice A1 t.us.length c1, .slice A2 t.bs.length c2, .slice A3 t.ns.length c3]), .int .i64 m, .int .i64 (1 + k1 - j * 80)]) (by simp [results, Try.results15, go_sem, r0'', r1'', r2'']) rfl ?_
    exact HF.out
set_option maxRecDepth 100000 in
set_option maxHeartbeats 4000000 in
theorem drawPlaceOf_any (A : Option Addr) (n c : Nat) (xs : List Int) (w : World) (h : Ints w .u8 A n c xs) (hn : n ≤ 1048576) (hwf : ∀ x ∈ xs, (Lit.int .u8 x).wf = true) (hc : c ≤ maxLen) :
    Calls Try.prog 31 #[.slice A n c] w (DrawnTwo w) := by
  have hB0 : Below w.heap.size w (w.alloc zeroTng) := (Below.refl _ _).alloc (Nat.le_refl _) _
  have HO := Lib.hid (open_any A n c xs (w.alloc zeroTng) (h.below hB0 (Nat.le_refl _)) hn hwf hc)
  have HB0 := Lib.hid hB0
  have HX := Lib.hid (Blk.new w 26 #[.slice none 0 0, .slice none 0 0, .slice none 0 0])
  clear h hwf hc hB0
  go_enter Try.func31, Try.ntmps31
  go_wp2_with (fail)
  refine HO.out.mono ?_
  rintro e w1 ⟨rfl, hr, hb, -⟩
  have hX1 := Lib.hid (HX.out.below hb (by simp))
  have hB1 := Lib.hid (HB0.out.trans (hb.mono (by simp)))
  have hs1 := hb.size
  simp only [World.size_alloc] at hs1
  rw [World.size_alloc] at hr
  clear hb HO
  go_wp2_with (fail)
  refine (most_any _ w1 hr).mono ?_
  rintro e w2 ⟨v, t, m, q, rfl, ho, hsm, hm, hr2, hq, hg⟩
  obtain ⟨A1, c1, A2, c2, A3, c3, rfl⟩ := ho.shape
  obtain ⟨hm1, hm2⟩ := hm
  have hX2 : Blk w2 w.heap.size 26 #[.slice none 0 0, .slice none 0 0, .slice none 0 0] := hX1.out.grown hg (by simp)
  have hB2 := below_read hB1.out hg (by omega) (by simp)
  have hAl := (Below.refl w2.heap.size w2).alloc (Nat.le_refl _) (.cells #[.slice A1 t.us.length c1, .slice A2 t.bs.length c2, .slice A3 t.ns.length c3] 26)
  have hs2 : w1.heap.size ≤ w2.heap.size := hg.size
  have D : DP w w2.heap.size #[.slice A1 t.us.length c1, .slice A2 t.bs.length c2, .slice A3 t.ns.length c3] (.agg #[.slice A1 t.us.length c1, .slice A2 t.bs.length c2, .slice A3 t.ns.length c3]) t (w2.alloc (.cells #[.slice A1 t.us.length c1, .slice A2 t.bs.length c2, .slice A3 t.ns.length c3] 26)) q :=
    ⟨hr2.below hAl (Nat.le_refl _), hX2.below hAl hX2.lt, Blk.new w2 26 #[.slice A1 t.us.length c1, .slice A2 t.bs.length c2, .slice A3 t.ns.length c3], (ho.mono (by have := hr.lt; omega)).below hAl (Nat.le_refl _), hB2.trans (hAl.mono hB2.size)⟩
  have hgz : w.heap.size + 1 < w2.heap.size := by have := hr.lt; omega
  replace D := Lib.hid D
  replace hsm := Lib.hid hsm
  clear hr hg ho hX2 hB2 hAl hr2 hX1 hB1
  go_upto_region 3 with (fail)
  generalize w2.alloc (.cells #[.slice A1 t.us.length c1, .slice A2 t.bs.length c2, .slice A3 t.ns.length c3] 26) = W at *
  generalize w2.heap.size = z at *
  by_cases h1m : 1 ≤ m
  · have hw0 : IntKind.i64.wrap (m + 1) = m + 1 := IntWalk.i64_in _ (by omega)
    have h1m' : ¬ m < 1 := by omega
    obtain ⟨z0, z1, z2, -, -, -⟩ := blk3 D.out.hz
    obtain ⟨r0, r1, r2, f0, f1, f2⟩ := blk3 D.out.hx
    go_region_law (first
      | (have hgd := D2.out.rd; clear hgd; fail)
      | (have hgd := D1.out.rd; clear hgd; go_simp; go_at_call 46; refine (pick_any (w.heap.size + 1) (q+1) 20 _ (by first | exact D1.out.rd.drew | exact D1.out.rd) (by omega) (by omega) (by omega)).mono ?_; rintro e V2 ⟨k2, rfl, hk2, hr2, hg2, -⟩; have hg2' : V1.grownBy V2 (some (w.heap.size + 1)) := ⟨hg2.os, hg2.tape, hg2.output, hg2.size, hg2.block⟩; have D2 := Lib.hid (D1.out.pick hg2' hr2 hgz); obtain ⟨z0'', z1'', z2'', -, -, -⟩ := blk3 D2.out.hz; obtain ⟨r0'', r1'', r2'', f0'', f1'', f2''⟩ := blk3 D2.out.hx; have a2 : 0 ≤ k2 := hk2.1; have b2 : k2 < 20 := (by omega); obtain ⟨j, hj, hj1⟩ : ∃ j : Int, k2.tdiv 19 = j ∧ (0 ≤ j ∧ j ≤ 1) := ⟨_, rfl, by rw [Int.tdiv_eq_ediv_of_nonneg a2]; omega⟩; have u2 : IntKind.i64.wrap j = j := IntWalk.i64_in _ (by omega); have u4 : IntKind.i64.wrap (1 + k1 - j) = 1 + k1 - j := IntWalk.i64_in _ (by omega); clear hk2 hr2 hg2 hg2')
      | (go_simp; (fail_if_success (have hgd := D1.out.rd)); go_at_call 46; refine (pick_any (w.heap.size + 1) q (m + 1) _ (by first | exact D.out.rd.drew | exact D.out.rd) (by omega) (by omega) (by omega)).mono ?_; rintro e V1 ⟨k1, rfl, hk1, hr1, hg1, -⟩; have hg1' : W.grownBy V1 (some (w.heap.size + 1)) := ⟨hg1.os, hg1.tape, hg1.output, hg1.size, hg1.block⟩; have D1 := Lib.hid (D.out.pick hg1' hr1 hgz); obtain ⟨z0', z1', z2', -, -, -⟩ := blk3 D1.out.hz; obtain ⟨r0', r1', r2', f0', f1', f2'⟩ := blk3 D1.out.hx; have a1 : 0 ≤ k1 := hk1.1; have b1 : k1 < m + 1 := (by omega); have u1 : IntKind.i64.wrap (1 + k1) = 1 + k1 := IntWalk.i64_in _ (by omega); clear hk1 hr1 hg1 hg1'))
    all_goals
      have HF : DrawnTwo w (.returned (.tuple #[(.agg #[.slice A1 t.us.length c1, .slice A2 t.bs.length c2, .slice A3 t.ns.length c3]), .int .i64 (1 + k1 - j), .int .i64 m])) (((V2.setCell ⟨w.heap.size, 0, none⟩ (.slice A1 t.us.length c1)).setCell ⟨w.heap.size, 1, none⟩ (.slice A2 t.bs.length c2)).setCell ⟨w.heap.size, 2, none⟩ (.slice A3 t.ns.length c3)) :=
        ⟨_, t, _, _, rfl, (D2.out.own.set3 D2.out.hx).mono (by omega), hsm.out, by omega, by omega, below_tng3 D2.out.low (Nat.le_refl _)⟩
      replace HF := Lib.hid HF
      clear D D1 D2 z0 z1 z2 z0' z1' z2' z0'' z1'' z2'' r0 r1 r2 r0' r1' r2' f0 f1 f2 f0' f1' f2' f0'' f1'' f2''
      (try go_simp)
      go_wp2
      refine bodyPost_ret (v := .tuple #[(.agg #[.slice A1 t.us.length c1, .slice A2 t.bs.length c2, .slice A3 t.ns.length c3]), .int .i64 (1 + k1 - j), .int .i64 m]) (by simp [results, Try.results31, go_sem, r0'', r1'', r2'']) rfl ?_
      exact HF.out
  · obtain rfl : m = 0 := by omega
    obtain ⟨z0, z1, z2, -, -, -⟩ := blk3 D.out.hz
    obtain ⟨r0, r1, r2, f0, f1, f2⟩ := blk3 D.out.hx
    go_region_law (first
      | (have hgd := D2.out.rd; clear hgd; fail)
      | (have hgd := D1.out.rd; clear hgd; go_simp; go_at_call 46; refine (pick_any (w.heap.size + 1) (q+1) 20 _ (by first | exact D1.out.rd.drew | exact D1.out.rd) (by omega) (by omega) (by omega)).mono ?_; rintro e V2 ⟨k2, rfl, hk2, hr2, hg2, -⟩; have hg2' : V1.grownBy V2 (some (w.heap.size + 1)) := ⟨hg2.os, hg2.tape, hg2.output, hg2.size, hg2.block⟩; have D2 := Lib.hid (D1.out.pick hg2' hr2 hgz); obtain ⟨z0'', z1'', z2'', -, -, -⟩ := blk3 D2.out.hz; obtain ⟨r0'', r1'', r2'', f0'', f1'', f2''⟩ := blk3 D2.out.hx; have a2 : 0 ≤ k2 := hk2.1; have b2 : k2 < 20 := (by omega); obtain ⟨j, hj, hj1⟩ : ∃ j : Int, k2.tdiv 19 = j ∧ (0 ≤ j ∧ j ≤ 1) := ⟨_, rfl, by rw [Int.tdiv_eq_ediv_of_nonneg a2]; omega⟩; have u2 : IntKind.i64.wrap j = j := IntWalk.i64_in _ (by omega); have u4 : IntKind.i64.wrap (1 + k1 - j) = 1 + k1 - j := IntWalk.i64_in _ (by omega); clear hk2 hr2 hg2 hg2')
      | (go_simp; (fail_if_success (have hgd := D1.out.rd)); go_at_call 46; refine (pick_any (w.heap.size + 1) q (2) _ (by first | exact D.out.rd.drew | exact D.out.rd) (by omega) (by omega) (by omega)).mono ?_; rintro e V1 ⟨k1, rfl, hk1, hr1, hg1, -⟩; have hg1' : W.grownBy V1 (some (w.heap.size + 1)) := ⟨hg1.os, hg1.tape, hg1.output, hg1.size, hg1.block⟩; have D1 := Lib.hid (D.out.pick hg1' hr1 hgz); obtain ⟨z0', z1', z2', -, -, -⟩ := blk3 D1.out.hz; obtain ⟨r0', r1', r2', f0', f1', f2'⟩ := blk3 D1.out.hx; have a1 : 0 ≤ k1 := hk1.1; have b1 : k1 < 2 := (by omega); have u1 : IntKind.i64.wrap (1 + k1) = 1 + k1 := IntWalk.i64_in _ (by omega); clear hk1 hr1 hg1 hg1'))
    all_goals
      have HF : DrawnTwo w (.returned (.tuple #[(.agg #[.slice A1 t.us.length c1, .slice A2 t.bs.length c2, .slice A3 t.ns.length c3]), .int .i64 (1 + k1 - j), .int .i64 0])) (((V2.setCell ⟨w.heap.size, 0, none⟩ (.slice A1 t.us.length c1)).setCell ⟨w.heap.size, 1, none⟩ (.slice A2 t.bs.length c2)).setCell ⟨w.heap.size, 2, none⟩ (.slice A3 t.ns.length c3)) :=
        ⟨_, t, _, _, rfl, (D2.out.own.set3 D2.out.hx).mono (by omega), hsm.out, by omega, by omega, below_tng3 D2.out.low (Nat.le_refl _)⟩
      replace HF := Lib.hid HF
      clear D D1 D2 z0 z1 z2 z0' z1' z2' z0'' z1'' z2'' r0 r1 r2 r0' r1' r2' f0 f1 f2 f0' f1' f2' f0'' f1'' f2''
      (try go_simp)
      go_wp2
      refine bodyPost_ret (v := .tuple #[(.agg #[.slice A1 t.us.length c1, .slice A2 t.bs.length c2, .slice A3 t.ns.length c3]), .int .i64 (1 + k1 - j), .int .i64 0]) (by simp [results, Try.results31, go_sem, r0'', r1'', r2'']) rfl ?_
      exact HF.out
end Go.Proofs.Ytjggdlnbfoglaaa
