/-
  The contract of a drawn deed.
-/
import Derived.Test.YtfmdbmhakkajfaaDoorGA
import Derived.Test.YtfmdbmhakkajfaaDoorRds
import Derived.Test.YtfmdbmhakkajfaaDoorInv
import Derived.Test.YtfmdbmhakkajfaaDoorMathDd
import Derived.IntWalk
namespace Go.Proofs.YtfmdbmhakkajfaaDoor
open Go.RowKit

theorem lit7_at {w : World} {p k : Nat} (b : Blk w p 3 #[.int .i64 0, .int .i64 0, .int .i64 1, .int .i64 1, .int .i64 2, .int .i64 3, .int .i64 4]) (hk : k < 7) : ∃ y : Int, (0 ≤ y ∧ y ≤ 4) ∧ w.cell? ⟨p, k, none⟩ = some (.int .i64 y) := by
  obtain rfl | rfl | rfl | rfl | rfl | rfl | rfl : k = 0 ∨ k = 1 ∨ k = 2 ∨ k = 3 ∨ k = 4 ∨ k = 5 ∨ k = 6 := by omega
  · exact ⟨0, by omega, (b.cell 0).trans rfl⟩
  · exact ⟨0, by omega, (b.cell 1).trans rfl⟩
  · exact ⟨1, by omega, (b.cell 2).trans rfl⟩
  · exact ⟨1, by omega, (b.cell 3).trans rfl⟩
  · exact ⟨2, by omega, (b.cell 4).trans rfl⟩
  · exact ⟨3, by omega, (b.cell 5).trans rfl⟩
  · exact ⟨4, by omega, (b.cell 6).trans rfl⟩
/-- While a deed's kind is drawn. -/
structure DDK (w0 : World) (g p0 : Nat) (l : Array Bool) (w : World) (s3 s4 s5 s6 s7 s8 s9 s10 s11 s12 s13 s14 : Value) : Prop where
  f0 : l.getD 0 false = true → ∃ p, s4 = .slice (some ⟨p, 0, none⟩) 7 7 ∧ Blk w p 3 #[.int .i64 0, .int .i64 0, .int .i64 1, .int .i64 1, .int .i64 2, .int .i64 3, .int .i64 4] ∧ g < p
  f1 : l.getD 1 false = true → s5 = .pointer (some ⟨g, 0, none⟩)
  f2 : l.getD 2 false = true → ∃ k : Nat, k < 7 ∧ s6 = .int .i64 (k : Int)
  f3 : l.getD 3 false = true → ∃ p k : Nat, k < 7 ∧ s7 = .pointer (some ⟨p, k, none⟩) ∧ Blk w p 3 #[.int .i64 0, .int .i64 0, .int .i64 1, .int .i64 1, .int .i64 2, .int .i64 3, .int .i64 4] ∧ g < p
  f4 : l.getD 4 false = true → ∃ y : Int, (0 ≤ y ∧ y ≤ 4) ∧ s8 = .int .i64 y
  f5 : l.getD 5 false = true → s9 = .pointer (some ⟨g, 0, none⟩)
  f6 : l.getD 6 false = true → ∃ y : Int, (0 ≤ y ∧ y ≤ 59) ∧ s10 = .int .i64 y
  f7 : l.getD 7 false = true → ∃ y : Int, (0 ≤ y ∧ y ≤ 1) ∧ s11 = .int .i64 y
  f8 : l.getD 8 false = true → ∃ y : Int, (0 ≤ y ∧ y ≤ 5) ∧ s12 = .int .i64 y
  f9 : l.getD 9 false = true → ∃ y : Int, (0 ≤ y ∧ y ≤ 9) ∧ s13 = .int .i64 y
  f10 : l.getD 10 false = true → ∃ y : Int, (0 ≤ y ∧ y ≤ 9) ∧ s14 = .agg #[.int .i64 y, .int .i64 0]
  f11 : l.getD 11 false = true → ∃ q, s3 = .pointer (some ⟨q, 0, none⟩) ∧ w0.heap.size ≤ q ∧ (l.getD 12 false = false → Blk w q 24 #[.int .i64 0, .int .i64 0])
  f12 : l.getD 12 false = true → ∃ (q : Nat) (y : Int), s3 = .pointer (some ⟨q, 0, none⟩) ∧ w0.heap.size ≤ q ∧ (0 ≤ y ∧ y ≤ 9) ∧ Blk w q 24 #[.int .i64 y, .int .i64 0]
  da : l.getD 12 false = true → l.getD 11 false = true
  rd : ∃ q, Rd w g q ∧ q + l.toList.count false ≤ p0 + 13
  gr : w0.grownBy w (some g)
  g0 : g < w0.heap.size
section
variable {w0 w w' : World} {g p0 : Nat} {l : Array Bool} {s3 s4 s5 s6 s7 s8 s9 s10 s11 s12 s13 s14 v : Value}
theorem cnt_set' {l : Array Bool} {i : Nat} (h : i < l.size) (hu : l.getD i false = false) : (l.setIfInBounds i true).toList.count false + 1 = l.toList.count false := by
  have e : l.getD i false = l.toList[i] := by simp [Array.getD, h]
  rw [e] at hu
  have := count_set_true (l := l.toList) (i := i) (by simpa using h) hu
  rw [Array.toList_setIfInBounds]
  exact this
theorem DDK.up1 (h : DDK w0 g p0 l w s3 s4 s5 s6 s7 s8 s9 s10 s11 s12 s13 s14) (hsz : l.size = 13) (hun : l.getD 1 false = false) (hv : v = .pointer (some ⟨g, 0, none⟩)) : DDK w0 g p0 (l.setIfInBounds 1 true) w s3 s4 v s6 s7 s8 s9 s10 s11 s12 s13 s14 := by
  have hc := cnt_set' (l := l) (i := 1) (by omega) hun
  obtain ⟨q0, hr0, hq0⟩ := h.rd
  have hg0 := h.g0
  have hgs := h.gr.size
  exact ⟨(fun h' => h.f0 (listed_set h' (by decide))), (fun _ => hv), (fun h' => h.f2 (listed_set h' (by decide))), (fun h' => h.f3 (listed_set h' (by decide))), (fun h' => h.f4 (listed_set h' (by decide))), (fun h' => h.f5 (listed_set h' (by decide))), (fun h' => h.f6 (listed_set h' (by decide))), (fun h' => h.f7 (listed_set h' (by decide))), (fun h' => h.f8 (listed_set h' (by decide))), (fun h' => h.f9 (listed_set h' (by decide))), (fun h' => h.f10 (listed_set h' (by decide))), (fun h' => (let ⟨q, e, hq, hh⟩ := h.f11 (listed_set h' (by decide)); ⟨q, e, hq, fun hn => hh (by rwa [listed_same (by decide)] at hn)⟩)), (fun h' => h.f12 (listed_set h' (by decide))), (fun h' => by rw [listed_same (by decide)] at h' ⊢; exact h.da h'), ⟨q0, hr0, by omega⟩, h.gr, h.g0⟩
theorem DDK.up3 (h : DDK w0 g p0 l w s3 s4 s5 s6 s7 s8 s9 s10 s11 s12 s13 s14) (hsz : l.size = 13) (hun : l.getD 3 false = false) (hv : ∃ p k : Nat, k < 7 ∧ v = .pointer (some ⟨p, k, none⟩) ∧ Blk w p 3 #[.int .i64 0, .int .i64 0, .int .i64 1, .int .i64 1, .int .i64 2, .int .i64 3, .int .i64 4] ∧ g < p) : DDK w0 g p0 (l.setIfInBounds 3 true) w s3 s4 s5 s6 v s8 s9 s10 s11 s12 s13 s14 := by
  have hc := cnt_set' (l := l) (i := 3) (by omega) hun
  obtain ⟨q0, hr0, hq0⟩ := h.rd
  have hg0 := h.g0
  have hgs := h.gr.size
  exact ⟨(fun h' => h.f0 (listed_set h' (by decide))), (fun h' => h.f1 (listed_set h' (by decide))), (fun h' => h.f2 (listed_set h' (by decide))), (fun _ => hv), (fun h' => h.f4 (listed_set h' (by decide))), (fun h' => h.f5 (listed_set h' (by decide))), (fun h' => h.f6 (listed_set h' (by decide))), (fun h' => h.f7 (listed_set h' (by decide))), (fun h' => h.f8 (listed_set h' (by decide))), (fun h' => h.f9 (listed_set h' (by decide))), (fun h' => h.f10 (listed_set h' (by decide))), (fun h' => (let ⟨q, e, hq, hh⟩ := h.f11 (listed_set h' (by decide)); ⟨q, e, hq, fun hn => hh (by rwa [listed_same (by decide)] at hn)⟩)), (fun h' => h.f12 (listed_set h' (by decide))), (fun h' => by rw [listed_same (by decide)] at h' ⊢; exact h.da h'), ⟨q0, hr0, by omega⟩, h.gr, h.g0⟩
theorem DDK.up4 (h : DDK w0 g p0 l w s3 s4 s5 s6 s7 s8 s9 s10 s11 s12 s13 s14) (hsz : l.size = 13) (hun : l.getD 4 false = false) (hv : ∃ y : Int, (0 ≤ y ∧ y ≤ 4) ∧ v = .int .i64 y) : DDK w0 g p0 (l.setIfInBounds 4 true) w s3 s4 s5 s6 s7 v s9 s10 s11 s12 s13 s14 := by
  have hc := cnt_set' (l := l) (i := 4) (by omega) hun
  obtain ⟨q0, hr0, hq0⟩ := h.rd
  have hg0 := h.g0
  have hgs := h.gr.size
  exact ⟨(fun h' => h.f0 (listed_set h' (by decide))), (fun h' => h.f1 (listed_set h' (by decide))), (fun h' => h.f2 (listed_set h' (by decide))), (fun h' => h.f3 (listed_set h' (by decide))), (fun _ => hv), (fun h' => h.f5 (listed_set h' (by decide))), (fun h' => h.f6 (listed_set h' (by decide))), (fun h' => h.f7 (listed_set h' (by decide))), (fun h' => h.f8 (listed_set h' (by decide))), (fun h' => h.f9 (listed_set h' (by decide))), (fun h' => h.f10 (listed_set h' (by decide))), (fun h' => (let ⟨q, e, hq, hh⟩ := h.f11 (listed_set h' (by decide)); ⟨q, e, hq, fun hn => hh (by rwa [listed_same (by decide)] at hn)⟩)), (fun h' => h.f12 (listed_set h' (by decide))), (fun h' => by rw [listed_same (by decide)] at h' ⊢; exact h.da h'), ⟨q0, hr0, by omega⟩, h.gr, h.g0⟩
theorem DDK.up5 (h : DDK w0 g p0 l w s3 s4 s5 s6 s7 s8 s9 s10 s11 s12 s13 s14) (hsz : l.size = 13) (hun : l.getD 5 false = false) (hv : v = .pointer (some ⟨g, 0, none⟩)) : DDK w0 g p0 (l.setIfInBounds 5 true) w s3 s4 s5 s6 s7 s8 v s10 s11 s12 s13 s14 := by
  have hc := cnt_set' (l := l) (i := 5) (by omega) hun
  obtain ⟨q0, hr0, hq0⟩ := h.rd
  have hg0 := h.g0
  have hgs := h.gr.size
  exact ⟨(fun h' => h.f0 (listed_set h' (by decide))), (fun h' => h.f1 (listed_set h' (by decide))), (fun h' => h.f2 (listed_set h' (by decide))), (fun h' => h.f3 (listed_set h' (by decide))), (fun h' => h.f4 (listed_set h' (by decide))), (fun _ => hv), (fun h' => h.f6 (listed_set h' (by decide))), (fun h' => h.f7 (listed_set h' (by decide))), (fun h' => h.f8 (listed_set h' (by decide))), (fun h' => h.f9 (listed_set h' (by decide))), (fun h' => h.f10 (listed_set h' (by decide))), (fun h' => (let ⟨q, e, hq, hh⟩ := h.f11 (listed_set h' (by decide)); ⟨q, e, hq, fun hn => hh (by rwa [listed_same (by decide)] at hn)⟩)), (fun h' => h.f12 (listed_set h' (by decide))), (fun h' => by rw [listed_same (by decide)] at h' ⊢; exact h.da h'), ⟨q0, hr0, by omega⟩, h.gr, h.g0⟩
theorem DDK.up7 (h : DDK w0 g p0 l w s3 s4 s5 s6 s7 s8 s9 s10 s11 s12 s13 s14) (hsz : l.size = 13) (hun : l.getD 7 false = false) (hv : ∃ y : Int, (0 ≤ y ∧ y ≤ 1) ∧ v = .int .i64 y) : DDK w0 g p0 (l.setIfInBounds 7 true) w s3 s4 s5 s6 s7 s8 s9 s10 v s12 s13 s14 := by
  have hc := cnt_set' (l := l) (i := 7) (by omega) hun
  obtain ⟨q0, hr0, hq0⟩ := h.rd
  have hg0 := h.g0
  have hgs := h.gr.size
  exact ⟨(fun h' => h.f0 (listed_set h' (by decide))), (fun h' => h.f1 (listed_set h' (by decide))), (fun h' => h.f2 (listed_set h' (by decide))), (fun h' => h.f3 (listed_set h' (by decide))), (fun h' => h.f4 (listed_set h' (by decide))), (fun h' => h.f5 (listed_set h' (by decide))), (fun h' => h.f6 (listed_set h' (by decide))), (fun _ => hv), (fun h' => h.f8 (listed_set h' (by decide))), (fun h' => h.f9 (listed_set h' (by decide))), (fun h' => h.f10 (listed_set h' (by decide))), (fun h' => (let ⟨q, e, hq, hh⟩ := h.f11 (listed_set h' (by decide)); ⟨q, e, hq, fun hn => hh (by rwa [listed_same (by decide)] at hn)⟩)), (fun h' => h.f12 (listed_set h' (by decide))), (fun h' => by rw [listed_same (by decide)] at h' ⊢; exact h.da h'), ⟨q0, hr0, by omega⟩, h.gr, h.g0⟩
theorem DDK.up8 (h : DDK w0 g p0 l w s3 s4 s5 s6 s7 s8 s9 s10 s11 s12 s13 s14) (hsz : l.size = 13) (hun : l.getD 8 false = false) (hv : ∃ y : Int, (0 ≤ y ∧ y ≤ 5) ∧ v = .int .i64 y) : DDK w0 g p0 (l.setIfInBounds 8 true) w s3 s4 s5 s6 s7 s8 s9 s10 s11 v s13 s14 := by
  have hc := cnt_set' (l := l) (i := 8) (by omega) hun
  obtain ⟨q0, hr0, hq0⟩ := h.rd
  have hg0 := h.g0
  have hgs := h.gr.size
  exact ⟨(fun h' => h.f0 (listed_set h' (by decide))), (fun h' => h.f1 (listed_set h' (by decide))), (fun h' => h.f2 (listed_set h' (by decide))), (fun h' => h.f3 (listed_set h' (by decide))), (fun h' => h.f4 (listed_set h' (by decide))), (fun h' => h.f5 (listed_set h' (by decide))), (fun h' => h.f6 (listed_set h' (by decide))), (fun h' => h.f7 (listed_set h' (by decide))), (fun _ => hv), (fun h' => h.f9 (listed_set h' (by decide))), (fun h' => h.f10 (listed_set h' (by decide))), (fun h' => (let ⟨q, e, hq, hh⟩ := h.f11 (listed_set h' (by decide)); ⟨q, e, hq, fun hn => hh (by rwa [listed_same (by decide)] at hn)⟩)), (fun h' => h.f12 (listed_set h' (by decide))), (fun h' => by rw [listed_same (by decide)] at h' ⊢; exact h.da h'), ⟨q0, hr0, by omega⟩, h.gr, h.g0⟩
theorem DDK.up9 (h : DDK w0 g p0 l w s3 s4 s5 s6 s7 s8 s9 s10 s11 s12 s13 s14) (hsz : l.size = 13) (hun : l.getD 9 false = false) (hv : ∃ y : Int, (0 ≤ y ∧ y ≤ 9) ∧ v = .int .i64 y) : DDK w0 g p0 (l.setIfInBounds 9 true) w s3 s4 s5 s6 s7 s8 s9 s10 s11 s12 v s14 := by
  have hc := cnt_set' (l := l) (i := 9) (by omega) hun
  obtain ⟨q0, hr0, hq0⟩ := h.rd
  have hg0 := h.g0
  have hgs := h.gr.size
  exact ⟨(fun h' => h.f0 (listed_set h' (by decide))), (fun h' => h.f1 (listed_set h' (by decide))), (fun h' => h.f2 (listed_set h' (by decide))), (fun h' => h.f3 (listed_set h' (by decide))), (fun h' => h.f4 (listed_set h' (by decide))), (fun h' => h.f5 (listed_set h' (by decide))), (fun h' => h.f6 (listed_set h' (by decide))), (fun h' => h.f7 (listed_set h' (by decide))), (fun h' => h.f8 (listed_set h' (by decide))), (fun _ => hv), (fun h' => h.f10 (listed_set h' (by decide))), (fun h' => (let ⟨q, e, hq, hh⟩ := h.f11 (listed_set h' (by decide)); ⟨q, e, hq, fun hn => hh (by rwa [listed_same (by decide)] at hn)⟩)), (fun h' => h.f12 (listed_set h' (by decide))), (fun h' => by rw [listed_same (by decide)] at h' ⊢; exact h.da h'), ⟨q0, hr0, by omega⟩, h.gr, h.g0⟩
theorem DDK.up10 (h : DDK w0 g p0 l w s3 s4 s5 s6 s7 s8 s9 s10 s11 s12 s13 s14) (hsz : l.size = 13) (hun : l.getD 10 false = false) (hv : ∃ y : Int, (0 ≤ y ∧ y ≤ 9) ∧ v = .agg #[.int .i64 y, .int .i64 0]) : DDK w0 g p0 (l.setIfInBounds 10 true) w s3 s4 s5 s6 s7 s8 s9 s10 s11 s12 s13 v := by
  have hc := cnt_set' (l := l) (i := 10) (by omega) hun
  obtain ⟨q0, hr0, hq0⟩ := h.rd
  have hg0 := h.g0
  have hgs := h.gr.size
  exact ⟨(fun h' => h.f0 (listed_set h' (by decide))), (fun h' => h.f1 (listed_set h' (by decide))), (fun h' => h.f2 (listed_set h' (by decide))), (fun h' => h.f3 (listed_set h' (by decide))), (fun h' => h.f4 (listed_set h' (by decide))), (fun h' => h.f5 (listed_set h' (by decide))), (fun h' => h.f6 (listed_set h' (by decide))), (fun h' => h.f7 (listed_set h' (by decide))), (fun h' => h.f8 (listed_set h' (by decide))), (fun h' => h.f9 (listed_set h' (by decide))), (fun _ => hv), (fun h' => (let ⟨q, e, hq, hh⟩ := h.f11 (listed_set h' (by decide)); ⟨q, e, hq, fun hn => hh (by rwa [listed_same (by decide)] at hn)⟩)), (fun h' => h.f12 (listed_set h' (by decide))), (fun h' => by rw [listed_same (by decide)] at h' ⊢; exact h.da h'), ⟨q0, hr0, by omega⟩, h.gr, h.g0⟩
theorem DDK.up2 (h : DDK w0 g p0 l w s3 s4 s5 s6 s7 s8 s9 s10 s11 s12 s13 s14) (hsz : l.size = 13) (hun : l.getD 2 false = false) (hv : ∃ k : Nat, k < 7 ∧ v = .int .i64 (k : Int)) {q1 : Nat} (hg : w.grownBy w' (some g)) (hq1 : q1 + l.toList.count false ≤ p0 + 13) (hr : Rd w' g (q1 + 1)) : DDK w0 g p0 (l.setIfInBounds 2 true) w' s3 s4 s5 v s7 s8 s9 s10 s11 s12 s13 s14 := by
  have hc := cnt_set' (l := l) (i := 2) (by omega) hun
  obtain ⟨q0, hr0, hq0⟩ := h.rd
  have hg0 := h.g0
  have hgs := h.gr.size
  exact ⟨(fun h' => (let ⟨p, e, b, hp⟩ := h.f0 (listed_set h' (by decide)); ⟨p, e, (b).grown hg (by simp; omega), hp⟩)), (fun h' => h.f1 (listed_set h' (by decide))), (fun _ => hv), (fun h' => (let ⟨p, k, hk, e, b, hp⟩ := h.f3 (listed_set h' (by decide)); ⟨p, k, hk, e, (b).grown hg (by simp; omega), hp⟩)), (fun h' => h.f4 (listed_set h' (by decide))), (fun h' => h.f5 (listed_set h' (by decide))), (fun h' => h.f6 (listed_set h' (by decide))), (fun h' => h.f7 (listed_set h' (by decide))), (fun h' => h.f8 (listed_set h' (by decide))), (fun h' => h.f9 (listed_set h' (by decide))), (fun h' => h.f10 (listed_set h' (by decide))), (fun h' => (let ⟨q, e, hq, hh⟩ := h.f11 (listed_set h' (by decide)); ⟨q, e, hq, fun hn => let b := hh (by rwa [listed_same (by decide)] at hn); (b).grown hg (by simp; omega)⟩)), (fun h' => (let ⟨q, y, e, hq, hy, b⟩ := h.f12 (listed_set h' (by decide)); ⟨q, y, e, hq, hy, (b).grown hg (by simp; omega)⟩)), (fun h' => by rw [listed_same (by decide)] at h' ⊢; exact h.da h'), ⟨q1 + 1, hr, by omega⟩, h.gr.trans hg, h.g0⟩
theorem DDK.up6 (h : DDK w0 g p0 l w s3 s4 s5 s6 s7 s8 s9 s10 s11 s12 s13 s14) (hsz : l.size = 13) (hun : l.getD 6 false = false) (hv : ∃ y : Int, (0 ≤ y ∧ y ≤ 59) ∧ v = .int .i64 y) {q1 : Nat} (hg : w.grownBy w' (some g)) (hq1 : q1 + l.toList.count false ≤ p0 + 13) (hr : Rd w' g (q1 + 1)) : DDK w0 g p0 (l.setIfInBounds 6 true) w' s3 s4 s5 s6 s7 s8 s9 v s11 s12 s13 s14 := by
  have hc := cnt_set' (l := l) (i := 6) (by omega) hun
  obtain ⟨q0, hr0, hq0⟩ := h.rd
  have hg0 := h.g0
  have hgs := h.gr.size
  exact ⟨(fun h' => (let ⟨p, e, b, hp⟩ := h.f0 (listed_set h' (by decide)); ⟨p, e, (b).grown hg (by simp; omega), hp⟩)), (fun h' => h.f1 (listed_set h' (by decide))), (fun h' => h.f2 (listed_set h' (by decide))), (fun h' => (let ⟨p, k, hk, e, b, hp⟩ := h.f3 (listed_set h' (by decide)); ⟨p, k, hk, e, (b).grown hg (by simp; omega), hp⟩)), (fun h' => h.f4 (listed_set h' (by decide))), (fun h' => h.f5 (listed_set h' (by decide))), (fun _ => hv), (fun h' => h.f7 (listed_set h' (by decide))), (fun h' => h.f8 (listed_set h' (by decide))), (fun h' => h.f9 (listed_set h' (by decide))), (fun h' => h.f10 (listed_set h' (by decide))), (fun h' => (let ⟨q, e, hq, hh⟩ := h.f11 (listed_set h' (by decide)); ⟨q, e, hq, fun hn => let b := hh (by rwa [listed_same (by decide)] at hn); (b).grown hg (by simp; omega)⟩)), (fun h' => (let ⟨q, y, e, hq, hy, b⟩ := h.f12 (listed_set h' (by decide)); ⟨q, y, e, hq, hy, (b).grown hg (by simp; omega)⟩)), (fun h' => by rw [listed_same (by decide)] at h' ⊢; exact h.da h'), ⟨q1 + 1, hr, by omega⟩, h.gr.trans hg, h.g0⟩
theorem DDK.up0 (h : DDK w0 g p0 l w s3 s4 s5 s6 s7 s8 s9 s10 s11 s12 s13 s14) (hsz : l.size = 13) (hun : l.getD 0 false = false)  : DDK w0 g p0 (l.setIfInBounds 0 true) (w.alloc (.cells #[.int .i64 0, .int .i64 0, .int .i64 1, .int .i64 1, .int .i64 2, .int .i64 3, .int .i64 4] 3)) s3 (.slice (some ⟨w.heap.size, 0, none⟩) 7 7) s5 s6 s7 s8 s9 s10 s11 s12 s13 s14 := by
  have hb := (Below.refl w.heap.size w).alloc (Nat.le_refl _) (.cells #[.int .i64 0, .int .i64 0, .int .i64 1, .int .i64 1, .int .i64 2, .int .i64 3, .int .i64 4] 3)
  have hgl : g < w.heap.size := by obtain ⟨q1, hr1, -⟩ := h.rd; exact hr1.lt
  have hc := cnt_set' (l := l) (i := 0) (by omega) hun
  obtain ⟨q0, hr0, hq0⟩ := h.rd
  have hg0 := h.g0
  have hgs := h.gr.size
  exact ⟨(fun _ => ⟨w.heap.size, rfl, Blk.new _ _ _, hgl⟩), (fun h' => h.f1 (listed_set h' (by decide))), (fun h' => h.f2 (listed_set h' (by decide))), (fun h' => (let ⟨p, k, hk, e, b, hp⟩ := h.f3 (listed_set h' (by decide)); ⟨p, k, hk, e, (b).below hb (b).lt, hp⟩)), (fun h' => h.f4 (listed_set h' (by decide))), (fun h' => h.f5 (listed_set h' (by decide))), (fun h' => h.f6 (listed_set h' (by decide))), (fun h' => h.f7 (listed_set h' (by decide))), (fun h' => h.f8 (listed_set h' (by decide))), (fun h' => h.f9 (listed_set h' (by decide))), (fun h' => h.f10 (listed_set h' (by decide))), (fun h' => (let ⟨q, e, hq, hh⟩ := h.f11 (listed_set h' (by decide)); ⟨q, e, hq, fun hn => let b := hh (by rwa [listed_same (by decide)] at hn); (b).below hb (b).lt⟩)), (fun h' => (let ⟨q, y, e, hq, hy, b⟩ := h.f12 (listed_set h' (by decide)); ⟨q, y, e, hq, hy, (b).below hb (b).lt⟩)), (fun h' => by rw [listed_same (by decide)] at h' ⊢; exact h.da h'), ⟨q0, hr0.alloc' _, by omega⟩, h.gr.trans (grown_of_below (some g) hb), h.g0⟩
theorem DDK.up11 (h : DDK w0 g p0 l w s3 s4 s5 s6 s7 s8 s9 s10 s11 s12 s13 s14) (hsz : l.size = 13) (hun : l.getD 11 false = false)  : DDK w0 g p0 (l.setIfInBounds 11 true) (w.alloc (.cells #[.int .i64 0, .int .i64 0] 24)) (.pointer (some ⟨w.heap.size, 0, none⟩)) s4 s5 s6 s7 s8 s9 s10 s11 s12 s13 s14 := by
  have hb := (Below.refl w.heap.size w).alloc (Nat.le_refl _) (.cells #[.int .i64 0, .int .i64 0] 24)
  have hgl : g < w.heap.size := by obtain ⟨q1, hr1, -⟩ := h.rd; exact hr1.lt
  have hc := cnt_set' (l := l) (i := 11) (by omega) hun
  obtain ⟨q0, hr0, hq0⟩ := h.rd
  have hg0 := h.g0
  have hgs := h.gr.size
  exact ⟨(fun h' => (let ⟨p, e, b, hp⟩ := h.f0 (listed_set h' (by decide)); ⟨p, e, (b).below hb (b).lt, hp⟩)), (fun h' => h.f1 (listed_set h' (by decide))), (fun h' => h.f2 (listed_set h' (by decide))), (fun h' => (let ⟨p, k, hk, e, b, hp⟩ := h.f3 (listed_set h' (by decide)); ⟨p, k, hk, e, (b).below hb (b).lt, hp⟩)), (fun h' => h.f4 (listed_set h' (by decide))), (fun h' => h.f5 (listed_set h' (by decide))), (fun h' => h.f6 (listed_set h' (by decide))), (fun h' => h.f7 (listed_set h' (by decide))), (fun h' => h.f8 (listed_set h' (by decide))), (fun h' => h.f9 (listed_set h' (by decide))), (fun h' => h.f10 (listed_set h' (by decide))), (fun _ => ⟨w.heap.size, rfl, h.gr.size, fun _ => Blk.new _ _ _⟩), (fun h' => absurd (h.da (listed_set h' (by decide))) (by rw [hun]; simp)), (fun _ => listed_at (by omega)), ⟨q0, hr0.alloc' _, by omega⟩, h.gr.trans (grown_of_below (some g) hb), h.g0⟩
theorem DDK.up12 (h : DDK w0 g p0 l w s3 s4 s5 s6 s7 s8 s9 s10 s11 s12 s13 s14) (hsz : l.size = 13) (hun : l.getD 12 false = false) {q : Nat} {y : Int} (hA : l.getD 11 false = true) (e3 : s3 = .pointer (some ⟨q, 0, none⟩)) (hwq : w0.heap.size ≤ q) (hy : 0 ≤ y ∧ y ≤ 9) (hz : Blk w q 24 #[.int .i64 0, .int .i64 0]) : DDK w0 g p0 (l.setIfInBounds 12 true) ((w.setCell ⟨q, 0, none⟩ (.int .i64 y)).setCell ⟨q, 1, none⟩ (.int .i64 0)) s3 s4 s5 s6 s7 s8 s9 s10 s11 s12 s13 s14 := by
  have HB : Blk ((w.setCell ⟨q, 0, none⟩ (.int .i64 y)).setCell ⟨q, 1, none⟩ (.int .i64 0)) q 24 #[.int .i64 y, .int .i64 0] := by
    have := (hz.set_ 0 (.int .i64 y)).set_ 1 (.int .i64 0)
    simpa using this
  have HL : ∀ {p : Nat}, Blk w p 3 #[.int .i64 0, .int .i64 0, .int .i64 1, .int .i64 1, .int .i64 2, .int .i64 3, .int .i64 4] → Blk ((w.setCell ⟨q, 0, none⟩ (.int .i64 y)).setCell ⟨q, 1, none⟩ (.int .i64 0)) p 3 #[.int .i64 0, .int .i64 0, .int .i64 1, .int .i64 1, .int .i64 2, .int .i64 3, .int .i64 4] := fun {p} b => by
    have m : p ≠ q := fun e => by
      subst e
      have e1 := b
      have e2 := hz
      unfold Blk at e1 e2
      rw [e1] at e2
      injection e2 with e2
      injection e2 with _ e3
      exact absurd e3 (by decide)
    exact (b.far (p := ⟨q, 0, none⟩) m _).far (p := ⟨q, 1, none⟩) m _
  have hc := cnt_set' (l := l) (i := 12) (by omega) hun
  obtain ⟨q0, hr0, hq0⟩ := h.rd
  have hg0 := h.g0
  have hgs := h.gr.size
  exact ⟨(fun h' => let ⟨p, e, b, hp⟩ := h.f0 (listed_set h' (by decide)); ⟨p, e, HL b, hp⟩), (fun h' => h.f1 (listed_set h' (by decide))), (fun h' => h.f2 (listed_set h' (by decide))), (fun h' => let ⟨p, k, hk, e, b, hp⟩ := h.f3 (listed_set h' (by decide)); ⟨p, k, hk, e, HL b, hp⟩), (fun h' => h.f4 (listed_set h' (by decide))), (fun h' => h.f5 (listed_set h' (by decide))), (fun h' => h.f6 (listed_set h' (by decide))), (fun h' => h.f7 (listed_set h' (by decide))), (fun h' => h.f8 (listed_set h' (by decide))), (fun h' => h.f9 (listed_set h' (by decide))), (fun h' => h.f10 (listed_set h' (by decide))), (fun h' => let ⟨q, e, hq, hh⟩ := h.f11 (listed_set h' (by decide)); ⟨q, e, hq, fun hn => by rw [listed_at (by omega)] at hn; cases hn⟩), (fun _ => ⟨q, y, e3, hwq, hy, HB⟩), (fun _ => by rw [listed_same (by decide)]; exact hA), ⟨q0, rd_set (rd_set hr0 (by omega) _) (by omega) _, by omega⟩, grown_set (grown_set h.gr hwq _) hwq _, h.g0⟩
end

/-- A deed is drawn by a reader. -/
def RetDeed (w : World) (g p : Nat) (e : Ending) (w' : World) : Prop := ∃ k n q, e = .returned (.agg #[.int .i64 k, .int .i64 n]) ∧ (0 ≤ k ∧ k ≤ 9) ∧ (-1 ≤ n ∧ n ≤ 1000000) ∧ Rd w' g q ∧ q ≤ p + 20 ∧ w.grownBy w' (some g)
/-- While the deed is drawn: the reader, the result's block, the deed's own. -/
structure DDS (w : World) (g q : Nat) (k n : Int) (r : Nat) (W : World) : Prop where
  rd : Rd W g r
  res : Blk W w.heap.size 24 #[.int .i64 0, .int .i64 0]
  own : Blk W q 24 #[.int .i64 k, .int .i64 n]
  gr : w.grownBy W (some g)
  g0 : g < w.heap.size
  q0 : w.heap.size < q
section
variable {w W W' : World} {g q r r' : Nat} {k n : Int}
theorem DDS.pick (h : DDS w g q k n r W) (hr : Rd W' g r') (hg : W.grownBy W' (some g)) : DDS w g q k n r' W' :=
  ⟨hr, h.res.grown hg (by simp; have := h.g0; omega), h.own.grown hg (by simp; have := h.g0; have := h.q0; omega), h.gr.trans hg, h.g0, h.q0⟩
theorem DDS.lit (h : DDS w g q k n r W) (o : Obj) : DDS w g q k n r (W.alloc o) :=
  ⟨h.rd.alloc' _, h.res.alloc _, h.own.alloc _, h.gr.trans (grown_of_below (some g) ((Below.refl _ _).alloc (Nat.le_refl _) _)), h.g0, h.q0⟩
theorem DDS.setN (h : DDS w g q k n r W) (m : Int) : DDS w g q k m r (W.setCell ⟨q, 1, none⟩ (.int .i64 m)) :=
  ⟨rd_set h.rd (by have := h.g0; have := h.q0; omega) _, h.res.far (by simp; have := h.q0; omega) _, by have := h.own.set_ 1 (.int .i64 m); simpa using this, grown_set h.gr (by have := h.q0; omega) _, h.g0, h.q0⟩
theorem DDS.drew (h : DDS w g q k n r W) : DDS w g q k n r W.drew := ⟨h.rd.drew, h.res.drew, h.own.drew, grown_drew h.gr, h.g0, h.q0⟩
end
theorem pick3i (a0 a1 a2 m : Int) (kk : Nat) (hk : kk < 3) (h0 : -1 ≤ a0 ∧ a0 ≤ m) (h1 : -1 ≤ a1 ∧ a1 ≤ m) (h2 : -1 ≤ a2 ∧ a2 ≤ m) : ∃ y : Int, (#[Value.int .i64 a0, .int .i64 a1, .int .i64 a2] : Array Value)[kk]? = some (.int .i64 y) ∧ -1 ≤ y ∧ y ≤ m := by
  obtain rfl | rfl | rfl : kk = 0 ∨ kk = 1 ∨ kk = 2 := by omega
  · exact ⟨a0, rfl, h0⟩
  · exact ⟨a1, rfl, h1⟩
  · exact ⟨a2, rfl, h2⟩

set_option maxRecDepth 100000 in
set_option maxHeartbeats 8000000 in
theorem deed_any (g p : Nat) (w : World) (h : Rd w g p) (hp : p ≤ 50000) :
    Calls Tryd.prog 30 #[.pointer (some ⟨g, 0, none⟩)] w (RetDeed w g p) := by
  have hg0 := h.lt
  have hR := h.alloc' (.cells #[.int .i64 0, .int .i64 0] 24)
  have HX := Blk.new w 24 #[.int .i64 0, .int .i64 0]
  have hgr := grown_of_below (some g) ((Below.refl w.heap.size w).alloc (Nat.le_refl _) (.cells #[.int .i64 0, .int .i64 0] 24))
  have hsW : (w.alloc (.cells #[.int .i64 0, .int .i64 0] 24)).heap.size = w.heap.size + 1 := by simp
  replace hR := Lib.hid hR
  replace HX := Lib.hid HX
  replace hgr := Lib.hid hgr
  clear h
  go_enter Tryd.func30, Tryd.ntmps30
  go_upto_region 1 with (fail)
  generalize w.alloc (.cells #[.int .i64 0, .int .i64 0] 24) = W at *
  have hgW : g < W.heap.size := by omega
  refine wp_region_any (by kernel_rfl) ?_
  refine wpAny_inv (Inv := fun l a w' => ∃ (s3 s4 s5 s6 s7 s8 s9 s10 s11 s12 s13 s14 : Value), a = ⟨#[.pointer (some ⟨g, 0, none⟩), undef, .pointer (some ⟨w.heap.size, 0, none⟩), s3, s4, s5, s6, s7, s8, s9, s10, s11, s12, s13, s14, undef, undef, undef, undef, undef, undef, undef, undef, undef, undef, undef, undef, undef, undef, undef, undef, undef, undef, undef, undef, undef, undef, undef, undef, undef, undef, undef, undef, undef, undef, undef, undef, undef, undef, undef], []⟩ ∧ DDK W g p l w' s3 s4 s5 s6 s7 s8 s9 s10 s11 s12 s13 s14) (ord_spec (by kernel_rfl)) ?_ ?_ _ _ _ _ rfl (by decide) ?_
  · rintro l a w' ⟨s3, s4, s5, s6, s7, s8, s9, s10, s11, s12, s13, s14, rfl, hF⟩ hsz hl
    have hl' : ∀ j, j < 13 → l.getD j false = true := hl
    obtain ⟨q, y, e3, hwq, hy, hown⟩ := hF.f12 (hl' 12 (by decide))
    subst e3
    obtain ⟨r, hr, hrq⟩ := hF.rd
    have hcn : l.toList.count false = 0 := by
      rw [List.count_eq_zero]
      intro hm
      obtain ⟨j, hj, he⟩ := List.mem_iff_getElem.1 hm
      have hj2 : j < 13 := by simpa [hsz] using hj
      have := hl' j hj2
      simp [Array.getD, hsz, hj2] at this
      simp at he
      rw [he] at this; cases this
    have S := Lib.hid (⟨hr, HX.out.grown hF.gr (by simp; omega), hown, hgr.out.trans hF.gr, hg0, by omega⟩ : DDS w g q y 0 r w')
    clear hF hl hl' hr hown
    have r0 := S.out.own.cell 0
    by_cases hk : y = 0 ∨ y = 1 ∨ y = 2
    · rcases hk with rfl | rfl | rfl
      · go_wp2_with (fail)
        refine (pick_any g _ 12 _ S.out.rd (by omega) (by omega) (by omega)).mono ?_
        rintro e V1 ⟨k1, rfl, hk1, hr1, hg1, -⟩
        replace S := Lib.hid (S.out.pick hr1 hg1)
        clear hr1 hg1
        go_wp2_with (fail)
        refine (pick_any g _ 250 _ S.out.rd (by omega) (by omega) (by omega)).mono ?_
        rintro e V2 ⟨k2, rfl, hk2, hr2, hg2, -⟩
        replace S := Lib.hid (S.out.pick hr2 hg2)
        clear hr2 hg2
        go_wp2_with (fail)
        refine (pick_any g _ 250 _ S.out.rd (by omega) (by omega) (by omega)).mono ?_
        rintro e V3 ⟨k3, rfl, hk3, hr3, hg3, -⟩
        replace S := Lib.hid (S.out.pick hr3 hg3)
        clear hr3 hg3
        have t1 : IntKind.i64.wrap (k3 * 40) = k3 * 40 := IntWalk.i64_in _ (by omega)
        have SL := Lib.hid (S.out.lit (.cells #[.int .i64 k1, .int .i64 k2, .int .i64 (k3 * 40)] 3))
        have kL := Lib.hid (Blk.new V3 3 #[.int .i64 k1, .int .i64 k2, .int .i64 (k3 * 40)])
        have hgl : g < V3.heap.size := S.out.rd.lt
        go_wp2_with (fail)
        refine (pick_any g _ 3 _ SL.out.rd (by omega) (by omega) (by omega)).mono ?_
        rintro e V4 ⟨k4, rfl, hk4, hr4, hg4, -⟩
        obtain ⟨kk4, rfl⟩ : ∃ kk : Nat, k4 = (kk : Int) := ⟨k4.toNat, by omega⟩
        replace S := Lib.hid (SL.out.pick hr4 hg4)
        have kL2 := kL.out.grown hg4 (by simp; omega)
        obtain ⟨y4, hy4, hb4⟩ := pick3i (k1) (k2) ((k3 * 40)) 10000 kk4 (by omega) (by omega) (by omega) (by omega)
        have ck : V4.cell? ⟨V3.heap.size, kk4, none⟩ = some (.int .i64 y4) := (kL2.cell kk4).trans hy4
        have i0 : (0 : Int) ≤ (kk4 : Int) := by omega
        have i1 : (kk4 : Int) < 3 := by omega
        have r0 := S.out.own.cell 0
        have r1 := S.out.own.cell 1
        have f0 := S.out.own.frozen 0
        have f1 := S.out.own.frozen 1
        have S2 := Lib.hid (S.out.setN y4)
        clear hr4 hg4 kL kL2 SL hy4 S
        go_upto_region 4 with (fail)
        generalize V4.setCell ⟨q, 1, none⟩ (.int .i64 y4) = V5 at *
        clear r0 r1 f0 f1 ck
        have S := S2
        clear S2
        go_wp2_with (fail)
        refine (odd_any g _ 40 _ S.out.rd (by omega) (by omega) (by omega)).mono ?_
        rintro e V7 ⟨tb, q7, rfl, hq7, hr7, hg7, -⟩
        replace S := Lib.hid (S.out.pick hr7 hg7)
        clear hr7 hg7
        cases tb
        · obtain ⟨r0, r1⟩ : _ ∧ _ := ⟨S.out.own.cell 0, S.out.own.cell 1⟩
          obtain ⟨z0, z1⟩ : _ ∧ _ := ⟨S.out.res.cell 0, S.out.res.cell 1⟩
          have f0 := S.out.res.frozen 0
          have f1 := S.out.res.frozen 1
          have HR := fun (u0 u1 : Value) => rd_set (u := u1) (b := w.heap.size) (i := 1) (rd_set (u := u0) (b := w.heap.size) (i := 0) S.out.rd hg0) hg0
          have HG := fun (u0 u1 : Value) => grown_set (b := w.heap.size) (i := 1) (grown_set (b := w.heap.size) (i := 0) S.out.gr (Nat.le_refl _) u0) (Nat.le_refl _) u1
          replace HR := Lib.hid HR
          replace HG := Lib.hid HG
          clear S
          go_wp2
          refine bodyPost_ret (v := .agg #[.int .i64 0, .int .i64 y4]) (by simp [results, Tryd.results30, go_sem, z0, z1]) rfl ?_
          exact ⟨_, _, _, rfl, by omega, by omega, HR.out _ _, by omega, HG.out _ _⟩
        · have SL := Lib.hid (S.out.lit (.cells #[.int .i64 (-1), .int .i64 1000000, .int .i64 7] 3))
          have kL := Lib.hid (Blk.new V7 3 #[.int .i64 (-1), .int .i64 1000000, .int .i64 7])
          have hgl : g < V7.heap.size := S.out.rd.lt
          go_wp2_with (fail)
          refine (pick_any g _ 3 _ SL.out.rd (by omega) (by omega) (by omega)).mono ?_
          rintro e V8 ⟨k8, rfl, hk8, hr8, hg8, -⟩
          obtain ⟨kk8, rfl⟩ : ∃ kk : Nat, k8 = (kk : Int) := ⟨k8.toNat, by omega⟩
          replace S := Lib.hid (SL.out.pick hr8 hg8)
          have kL2 := kL.out.grown hg8 (by simp; omega)
          obtain ⟨y8, hy8, hb8⟩ := pick3i ((-1)) (1000000) (7) 1000000 kk8 (by omega) (by omega) (by omega) (by omega)
          have ck : V8.cell? ⟨V7.heap.size, kk8, none⟩ = some (.int .i64 y8) := (kL2.cell kk8).trans hy8
          have i0 : (0 : Int) ≤ (kk8 : Int) := by omega
          have i1 : (kk8 : Int) < 3 := by omega
          have r0 := S.out.own.cell 0
          have r1 := S.out.own.cell 1
          have f0 := S.out.own.frozen 0
          have f1 := S.out.own.frozen 1
          have S2 := Lib.hid (S.out.setN y8)
          clear hr8 hg8 kL kL2 SL hy8 S
          go_upto_region 6 with (fail)
          generalize V8.setCell ⟨q, 1, none⟩ (.int .i64 y8) = V9 at *
          clear r0 r1 f0 f1 ck
          have S := S2
          clear S2
          obtain ⟨r0, r1⟩ : _ ∧ _ := ⟨S.out.own.cell 0, S.out.own.cell 1⟩
          obtain ⟨z0, z1⟩ : _ ∧ _ := ⟨S.out.res.cell 0, S.out.res.cell 1⟩
          have f0 := S.out.res.frozen 0
          have f1 := S.out.res.frozen 1
          have HR := fun (u0 u1 : Value) => rd_set (u := u1) (b := w.heap.size) (i := 1) (rd_set (u := u0) (b := w.heap.size) (i := 0) S.out.rd hg0) hg0
          have HG := fun (u0 u1 : Value) => grown_set (b := w.heap.size) (i := 1) (grown_set (b := w.heap.size) (i := 0) S.out.gr (Nat.le_refl _) u0) (Nat.le_refl _) u1
          replace HR := Lib.hid HR
          replace HG := Lib.hid HG
          clear S
          go_wp2
          refine bodyPost_ret (v := .agg #[.int .i64 0, .int .i64 y8]) (by simp [results, Tryd.results30, go_sem, z0, z1]) rfl ?_
          exact ⟨_, _, _, rfl, by omega, by omega, HR.out _ _, by omega, HG.out _ _⟩
      · go_wp2_with (fail)
        refine (pick_any g _ 12 _ S.out.rd (by omega) (by omega) (by omega)).mono ?_
        rintro e V1 ⟨k1, rfl, hk1, hr1, hg1, -⟩
        replace S := Lib.hid (S.out.pick hr1 hg1)
        clear hr1 hg1
        go_wp2_with (fail)
        refine (pick_any g _ 250 _ S.out.rd (by omega) (by omega) (by omega)).mono ?_
        rintro e V2 ⟨k2, rfl, hk2, hr2, hg2, -⟩
        replace S := Lib.hid (S.out.pick hr2 hg2)
        clear hr2 hg2
        go_wp2_with (fail)
        refine (pick_any g _ 250 _ S.out.rd (by omega) (by omega) (by omega)).mono ?_
        rintro e V3 ⟨k3, rfl, hk3, hr3, hg3, -⟩
        replace S := Lib.hid (S.out.pick hr3 hg3)
        clear hr3 hg3
        have t1 : IntKind.i64.wrap (k3 * 40) = k3 * 40 := IntWalk.i64_in _ (by omega)
        have SL := Lib.hid (S.out.lit (.cells #[.int .i64 k1, .int .i64 k2, .int .i64 (k3 * 40)] 3))
        have kL := Lib.hid (Blk.new V3 3 #[.int .i64 k1, .int .i64 k2, .int .i64 (k3 * 40)])
        have hgl : g < V3.heap.size := S.out.rd.lt
        go_wp2_with (fail)
        refine (pick_any g _ 3 _ SL.out.rd (by omega) (by omega) (by omega)).mono ?_
        rintro e V4 ⟨k4, rfl, hk4, hr4, hg4, -⟩
        obtain ⟨kk4, rfl⟩ : ∃ kk : Nat, k4 = (kk : Int) := ⟨k4.toNat, by omega⟩
        replace S := Lib.hid (SL.out.pick hr4 hg4)
        have kL2 := kL.out.grown hg4 (by simp; omega)
        obtain ⟨y4, hy4, hb4⟩ := pick3i (k1) (k2) ((k3 * 40)) 10000 kk4 (by omega) (by omega) (by omega) (by omega)
        have ck : V4.cell? ⟨V3.heap.size, kk4, none⟩ = some (.int .i64 y4) := (kL2.cell kk4).trans hy4
        have i0 : (0 : Int) ≤ (kk4 : Int) := by omega
        have i1 : (kk4 : Int) < 3 := by omega
        have r0 := S.out.own.cell 0
        have r1 := S.out.own.cell 1
        have f0 := S.out.own.frozen 0
        have f1 := S.out.own.frozen 1
        have S2 := Lib.hid (S.out.setN y4)
        clear hr4 hg4 kL kL2 SL hy4 S
        go_upto_region 4 with (fail)
        generalize V4.setCell ⟨q, 1, none⟩ (.int .i64 y4) = V5 at *
        clear r0 r1 f0 f1 ck
        have S := S2
        clear S2
        go_wp2_with (fail)
        refine (odd_any g _ 40 _ S.out.rd (by omega) (by omega) (by omega)).mono ?_
        rintro e V7 ⟨tb, q7, rfl, hq7, hr7, hg7, -⟩
        replace S := Lib.hid (S.out.pick hr7 hg7)
        clear hr7 hg7
        cases tb
        · obtain ⟨r0, r1⟩ : _ ∧ _ := ⟨S.out.own.cell 0, S.out.own.cell 1⟩
          obtain ⟨z0, z1⟩ : _ ∧ _ := ⟨S.out.res.cell 0, S.out.res.cell 1⟩
          have f0 := S.out.res.frozen 0
          have f1 := S.out.res.frozen 1
          have HR := fun (u0 u1 : Value) => rd_set (u := u1) (b := w.heap.size) (i := 1) (rd_set (u := u0) (b := w.heap.size) (i := 0) S.out.rd hg0) hg0
          have HG := fun (u0 u1 : Value) => grown_set (b := w.heap.size) (i := 1) (grown_set (b := w.heap.size) (i := 0) S.out.gr (Nat.le_refl _) u0) (Nat.le_refl _) u1
          replace HR := Lib.hid HR
          replace HG := Lib.hid HG
          clear S
          go_wp2
          refine bodyPost_ret (v := .agg #[.int .i64 1, .int .i64 y4]) (by simp [results, Tryd.results30, go_sem, z0, z1]) rfl ?_
          exact ⟨_, _, _, rfl, by omega, by omega, HR.out _ _, by omega, HG.out _ _⟩
        · have SL := Lib.hid (S.out.lit (.cells #[.int .i64 (-1), .int .i64 1000000, .int .i64 7] 3))
          have kL := Lib.hid (Blk.new V7 3 #[.int .i64 (-1), .int .i64 1000000, .int .i64 7])
          have hgl : g < V7.heap.size := S.out.rd.lt
          go_wp2_with (fail)
          refine (pick_any g _ 3 _ SL.out.rd (by omega) (by omega) (by omega)).mono ?_
          rintro e V8 ⟨k8, rfl, hk8, hr8, hg8, -⟩
          obtain ⟨kk8, rfl⟩ : ∃ kk : Nat, k8 = (kk : Int) := ⟨k8.toNat, by omega⟩
          replace S := Lib.hid (SL.out.pick hr8 hg8)
          have kL2 := kL.out.grown hg8 (by simp; omega)
          obtain ⟨y8, hy8, hb8⟩ := pick3i ((-1)) (1000000) (7) 1000000 kk8 (by omega) (by omega) (by omega) (by omega)
          have ck : V8.cell? ⟨V7.heap.size, kk8, none⟩ = some (.int .i64 y8) := (kL2.cell kk8).trans hy8
          have i0 : (0 : Int) ≤ (kk8 : Int) := by omega
          have i1 : (kk8 : Int) < 3 := by omega
          have r0 := S.out.own.cell 0
          have r1 := S.out.own.cell 1
          have f0 := S.out.own.frozen 0
          have f1 := S.out.own.frozen 1
          have S2 := Lib.hid (S.out.setN y8)
          clear hr8 hg8 kL kL2 SL hy8 S
          go_upto_region 6 with (fail)
          generalize V8.setCell ⟨q, 1, none⟩ (.int .i64 y8) = V9 at *
          clear r0 r1 f0 f1 ck
          have S := S2
          clear S2
          obtain ⟨r0, r1⟩ : _ ∧ _ := ⟨S.out.own.cell 0, S.out.own.cell 1⟩
          obtain ⟨z0, z1⟩ : _ ∧ _ := ⟨S.out.res.cell 0, S.out.res.cell 1⟩
          have f0 := S.out.res.frozen 0
          have f1 := S.out.res.frozen 1
          have HR := fun (u0 u1 : Value) => rd_set (u := u1) (b := w.heap.size) (i := 1) (rd_set (u := u0) (b := w.heap.size) (i := 0) S.out.rd hg0) hg0
          have HG := fun (u0 u1 : Value) => grown_set (b := w.heap.size) (i := 1) (grown_set (b := w.heap.size) (i := 0) S.out.gr (Nat.le_refl _) u0) (Nat.le_refl _) u1
          replace HR := Lib.hid HR
          replace HG := Lib.hid HG
          clear S
          go_wp2
          refine bodyPost_ret (v := .agg #[.int .i64 1, .int .i64 y8]) (by simp [results, Tryd.results30, go_sem, z0, z1]) rfl ?_
          exact ⟨_, _, _, rfl, by omega, by omega, HR.out _ _, by omega, HG.out _ _⟩
      · go_wp2_with (fail)
        refine (pick_any g _ 12 _ S.out.rd (by omega) (by omega) (by omega)).mono ?_
        rintro e V1 ⟨k1, rfl, hk1, hr1, hg1, -⟩
        replace S := Lib.hid (S.out.pick hr1 hg1)
        clear hr1 hg1
        go_wp2_with (fail)
        refine (pick_any g _ 250 _ S.out.rd (by omega) (by omega) (by omega)).mono ?_
        rintro e V2 ⟨k2, rfl, hk2, hr2, hg2, -⟩
        replace S := Lib.hid (S.out.pick hr2 hg2)
        clear hr2 hg2
        go_wp2_with (fail)
        refine (pick_any g _ 250 _ S.out.rd (by omega) (by omega) (by omega)).mono ?_
        rintro e V3 ⟨k3, rfl, hk3, hr3, hg3, -⟩
        replace S := Lib.hid (S.out.pick hr3 hg3)
        clear hr3 hg3
        have t1 : IntKind.i64.wrap (k3 * 40) = k3 * 40 := IntWalk.i64_in _ (by omega)
        have SL := Lib.hid (S.out.lit (.cells #[.int .i64 k1, .int .i64 k2, .int .i64 (k3 * 40)] 3))
        have kL := Lib.hid (Blk.new V3 3 #[.int .i64 k1, .int .i64 k2, .int .i64 (k3 * 40)])
        have hgl : g < V3.heap.size := S.out.rd.lt
        go_wp2_with (fail)
        refine (pick_any g _ 3 _ SL.out.rd (by omega) (by omega) (by omega)).mono ?_
        rintro e V4 ⟨k4, rfl, hk4, hr4, hg4, -⟩
        obtain ⟨kk4, rfl⟩ : ∃ kk : Nat, k4 = (kk : Int) := ⟨k4.toNat, by omega⟩
        replace S := Lib.hid (SL.out.pick hr4 hg4)
        have kL2 := kL.out.grown hg4 (by simp; omega)
        obtain ⟨y4, hy4, hb4⟩ := pick3i (k1) (k2) ((k3 * 40)) 10000 kk4 (by omega) (by omega) (by omega) (by omega)
        have ck : V4.cell? ⟨V3.heap.size, kk4, none⟩ = some (.int .i64 y4) := (kL2.cell kk4).trans hy4
        have i0 : (0 : Int) ≤ (kk4 : Int) := by omega
        have i1 : (kk4 : Int) < 3 := by omega
        have r0 := S.out.own.cell 0
        have r1 := S.out.own.cell 1
        have f0 := S.out.own.frozen 0
        have f1 := S.out.own.frozen 1
        have S2 := Lib.hid (S.out.setN y4)
        clear hr4 hg4 kL kL2 SL hy4 S
        go_upto_region 4 with (fail)
        generalize V4.setCell ⟨q, 1, none⟩ (.int .i64 y4) = V5 at *
        clear r0 r1 f0 f1 ck
        have S := S2
        clear S2
        go_wp2_with (fail)
        refine (odd_any g _ 40 _ S.out.rd (by omega) (by omega) (by omega)).mono ?_
        rintro e V7 ⟨tb, q7, rfl, hq7, hr7, hg7, -⟩
        replace S := Lib.hid (S.out.pick hr7 hg7)
        clear hr7 hg7
        cases tb
        · obtain ⟨r0, r1⟩ : _ ∧ _ := ⟨S.out.own.cell 0, S.out.own.cell 1⟩
          obtain ⟨z0, z1⟩ : _ ∧ _ := ⟨S.out.res.cell 0, S.out.res.cell 1⟩
          have f0 := S.out.res.frozen 0
          have f1 := S.out.res.frozen 1
          have HR := fun (u0 u1 : Value) => rd_set (u := u1) (b := w.heap.size) (i := 1) (rd_set (u := u0) (b := w.heap.size) (i := 0) S.out.rd hg0) hg0
          have HG := fun (u0 u1 : Value) => grown_set (b := w.heap.size) (i := 1) (grown_set (b := w.heap.size) (i := 0) S.out.gr (Nat.le_refl _) u0) (Nat.le_refl _) u1
          replace HR := Lib.hid HR
          replace HG := Lib.hid HG
          clear S
          go_wp2
          refine bodyPost_ret (v := .agg #[.int .i64 2, .int .i64 y4]) (by simp [results, Tryd.results30, go_sem, z0, z1]) rfl ?_
          exact ⟨_, _, _, rfl, by omega, by omega, HR.out _ _, by omega, HG.out _ _⟩
        · have SL := Lib.hid (S.out.lit (.cells #[.int .i64 (-1), .int .i64 1000000, .int .i64 7] 3))
          have kL := Lib.hid (Blk.new V7 3 #[.int .i64 (-1), .int .i64 1000000, .int .i64 7])
          have hgl : g < V7.heap.size := S.out.rd.lt
          go_wp2_with (fail)
          refine (pick_any g _ 3 _ SL.out.rd (by omega) (by omega) (by omega)).mono ?_
          rintro e V8 ⟨k8, rfl, hk8, hr8, hg8, -⟩
          obtain ⟨kk8, rfl⟩ : ∃ kk : Nat, k8 = (kk : Int) := ⟨k8.toNat, by omega⟩
          replace S := Lib.hid (SL.out.pick hr8 hg8)
          have kL2 := kL.out.grown hg8 (by simp; omega)
          obtain ⟨y8, hy8, hb8⟩ := pick3i ((-1)) (1000000) (7) 1000000 kk8 (by omega) (by omega) (by omega) (by omega)
          have ck : V8.cell? ⟨V7.heap.size, kk8, none⟩ = some (.int .i64 y8) := (kL2.cell kk8).trans hy8
          have i0 : (0 : Int) ≤ (kk8 : Int) := by omega
          have i1 : (kk8 : Int) < 3 := by omega
          have r0 := S.out.own.cell 0
          have r1 := S.out.own.cell 1
          have f0 := S.out.own.frozen 0
          have f1 := S.out.own.frozen 1
          have S2 := Lib.hid (S.out.setN y8)
          clear hr8 hg8 kL kL2 SL hy8 S
          go_upto_region 6 with (fail)
          generalize V8.setCell ⟨q, 1, none⟩ (.int .i64 y8) = V9 at *
          clear r0 r1 f0 f1 ck
          have S := S2
          clear S2
          obtain ⟨r0, r1⟩ : _ ∧ _ := ⟨S.out.own.cell 0, S.out.own.cell 1⟩
          obtain ⟨z0, z1⟩ : _ ∧ _ := ⟨S.out.res.cell 0, S.out.res.cell 1⟩
          have f0 := S.out.res.frozen 0
          have f1 := S.out.res.frozen 1
          have HR := fun (u0 u1 : Value) => rd_set (u := u1) (b := w.heap.size) (i := 1) (rd_set (u := u0) (b := w.heap.size) (i := 0) S.out.rd hg0) hg0
          have HG := fun (u0 u1 : Value) => grown_set (b := w.heap.size) (i := 1) (grown_set (b := w.heap.size) (i := 0) S.out.gr (Nat.le_refl _) u0) (Nat.le_refl _) u1
          replace HR := Lib.hid HR
          replace HG := Lib.hid HG
          clear S
          go_wp2
          refine bodyPost_ret (v := .agg #[.int .i64 2, .int .i64 y8]) (by simp [results, Tryd.results30, go_sem, z0, z1]) rfl ?_
          exact ⟨_, _, _, rfl, by omega, by omega, HR.out _ _, by omega, HG.out _ _⟩
    · have n0 : (y == 0) = false := by simpa using fun e => hk (.inl e)
      have n1 : (y == 1) = false := by simpa using fun e => hk (.inr (.inl e))
      have n2 : (y == 2) = false := by simpa using fun e => hk (.inr (.inr e))
      have m0 : ¬ y = 0 := fun e => hk (.inl e)
      have m1 : ¬ y = 1 := fun e => hk (.inr (.inl e))
      have m2 : ¬ y = 2 := fun e => hk (.inr (.inr e))
      go_wp2_with (fail)
      refine (odd_any g _ 40 _ S.out.rd (by omega) (by omega) (by omega)).mono ?_
      rintro e V7 ⟨tb, q7, rfl, hq7, hr7, hg7, -⟩
      replace S := Lib.hid (S.out.pick hr7 hg7)
      clear hr7 hg7
      cases tb
      · obtain ⟨r0, r1⟩ : _ ∧ _ := ⟨S.out.own.cell 0, S.out.own.cell 1⟩
        obtain ⟨z0, z1⟩ : _ ∧ _ := ⟨S.out.res.cell 0, S.out.res.cell 1⟩
        have f0 := S.out.res.frozen 0
        have f1 := S.out.res.frozen 1
        have HR := fun (u0 u1 : Value) => rd_set (u := u1) (b := w.heap.size) (i := 1) (rd_set (u := u0) (b := w.heap.size) (i := 0) S.out.rd hg0) hg0
        have HG := fun (u0 u1 : Value) => grown_set (b := w.heap.size) (i := 1) (grown_set (b := w.heap.size) (i := 0) S.out.gr (Nat.le_refl _) u0) (Nat.le_refl _) u1
        replace HR := Lib.hid HR
        replace HG := Lib.hid HG
        clear S
        go_wp2
        refine bodyPost_ret (v := .agg #[.int .i64 y, .int .i64 0]) (by simp [results, Tryd.results30, go_sem, z0, z1]) rfl ?_
        exact ⟨_, _, _, rfl, by omega, by omega, HR.out _ _, by omega, HG.out _ _⟩
      · have SL := Lib.hid (S.out.lit (.cells #[.int .i64 (-1), .int .i64 1000000, .int .i64 7] 3))
        have kL := Lib.hid (Blk.new V7 3 #[.int .i64 (-1), .int .i64 1000000, .int .i64 7])
        have hgl : g < V7.heap.size := S.out.rd.lt
        go_wp2_with (fail)
        refine (pick_any g _ 3 _ SL.out.rd (by omega) (by omega) (by omega)).mono ?_
        rintro e V8 ⟨k8, rfl, hk8, hr8, hg8, -⟩
        obtain ⟨kk8, rfl⟩ : ∃ kk : Nat, k8 = (kk : Int) := ⟨k8.toNat, by omega⟩
        replace S := Lib.hid (SL.out.pick hr8 hg8)
        have kL2 := kL.out.grown hg8 (by simp; omega)
        obtain ⟨y8, hy8, hb8⟩ := pick3i ((-1)) (1000000) (7) 1000000 kk8 (by omega) (by omega) (by omega) (by omega)
        have ck : V8.cell? ⟨V7.heap.size, kk8, none⟩ = some (.int .i64 y8) := (kL2.cell kk8).trans hy8
        have i0 : (0 : Int) ≤ (kk8 : Int) := by omega
        have i1 : (kk8 : Int) < 3 := by omega
        have r0 := S.out.own.cell 0
        have r1 := S.out.own.cell 1
        have f0 := S.out.own.frozen 0
        have f1 := S.out.own.frozen 1
        have S2 := Lib.hid (S.out.setN y8)
        clear hr8 hg8 kL kL2 SL hy8 S
        go_upto_region 6 with (fail)
        generalize V8.setCell ⟨q, 1, none⟩ (.int .i64 y8) = V9 at *
        clear r0 r1 f0 f1 ck
        have S := S2
        clear S2
        obtain ⟨r0, r1⟩ : _ ∧ _ := ⟨S.out.own.cell 0, S.out.own.cell 1⟩
        obtain ⟨z0, z1⟩ : _ ∧ _ := ⟨S.out.res.cell 0, S.out.res.cell 1⟩
        have f0 := S.out.res.frozen 0
        have f1 := S.out.res.frozen 1
        have HR := fun (u0 u1 : Value) => rd_set (u := u1) (b := w.heap.size) (i := 1) (rd_set (u := u0) (b := w.heap.size) (i := 0) S.out.rd hg0) hg0
        have HG := fun (u0 u1 : Value) => grown_set (b := w.heap.size) (i := 1) (grown_set (b := w.heap.size) (i := 0) S.out.gr (Nat.le_refl _) u0) (Nat.le_refl _) u1
        replace HR := Lib.hid HR
        replace HG := Lib.hid HG
        clear S
        go_wp2
        refine bodyPost_ret (v := .agg #[.int .i64 y, .int .i64 y8]) (by simp [results, Tryd.results30, go_sem, z0, z1]) rfl ?_
        exact ⟨_, _, _, rfl, by omega, by omega, HR.out _ _, by omega, HG.out _ _⟩
  · rintro l a w' ⟨s3, s4, s5, s6, s7, s8, s9, s10, s11, s12, s13, s14, rfl, hF⟩ hsz i o hlt ho hun hall
    have hlt' : i < 13 := hlt
    refine wpOp_step ho (fun K' hK => ?_)
    replace hK := Lib.hid hK
    obtain rfl | rfl | rfl | rfl | rfl | rfl | rfl | rfl | rfl | rfl | rfl | rfl | rfl : i = 0 ∨ i = 1 ∨ i = 2 ∨ i = 3 ∨ i = 4 ∨ i = 5 ∨ i = 6 ∨ i = 7 ∨ i = 8 ∨ i = 9 ∨ i = 10 ∨ i = 11 ∨ i = 12 := by omega
    · simp only [List.getElem?_toArray, List.getElem?_cons_zero, Option.some.injEq] at ho
      subst ho
      replace hF := Lib.hid hF
      clear hall
      go_simp
      refine hK.out _ _ ?_
      exact ⟨_, _, _, _, _, _, _, _, _, _, _, _, rfl, hF.out.up0 hsz hun⟩
    · simp only [List.getElem?_toArray, List.getElem?_cons_succ, List.getElem?_cons_zero, Option.some.injEq] at ho
      subst ho
      replace hF := Lib.hid hF
      clear hall
      go_simp
      refine hK.out _ _ ?_
      exact ⟨_, _, _, _, _, _, _, _, _, _, _, _, rfl, hF.out.up1 hsz hun rfl⟩
    · simp only [List.getElem?_toArray, List.getElem?_cons_succ, List.getElem?_cons_zero, Option.some.injEq] at ho
      subst ho
      have e1 := hF.f1 (hall ⟨1, Ground.data⟩ (by simp) rfl)
      subst e1
      obtain ⟨q, hr', hq⟩ := hF.rd
      have hq3 : q ≤ 100000 := by omega
      replace hF := Lib.hid hF
      clear hall
      go_simp
      go_at_call 40
      refine (pick_any g q 7 _ hr' (by omega) (by omega) (by omega)).mono ?_
      rintro e V ⟨k, rfl, hk, hr2, hg, -⟩
      obtain ⟨kk, rfl⟩ : ∃ kk : Nat, k = (kk : Int) := ⟨k.toNat, by omega⟩
      go_simp
      refine hK.out _ _ ?_
      exact ⟨_, _, _, _, _, _, _, _, _, _, _, _, rfl, hF.out.up2 hsz hun ⟨kk, by omega, rfl⟩ hg hq hr2⟩
    · simp only [List.getElem?_toArray, List.getElem?_cons_succ, List.getElem?_cons_zero, Option.some.injEq] at ho
      subst ho
      obtain ⟨p, e1, b, hp⟩ := hF.f0 (hall ⟨0, Ground.data⟩ (by simp) rfl)
      subst e1
      obtain ⟨k, hk, e2⟩ := hF.f2 (hall ⟨2, Ground.data⟩ (by simp) rfl)
      subst e2
      have k0 : (0 : Int) ≤ (k : Int) := by omega
      have k1 : (k : Int) < 7 := by omega
      replace b := Lib.hid b
      replace hF := Lib.hid hF
      clear hall
      go_simp
      refine hK.out _ _ ?_
      exact ⟨_, _, _, _, _, _, _, _, _, _, _, _, rfl, hF.out.up3 hsz hun ⟨p, k, hk, rfl, b.out, hp⟩⟩
    · simp only [List.getElem?_toArray, List.getElem?_cons_succ, List.getElem?_cons_zero, Option.some.injEq] at ho
      subst ho
      obtain ⟨p, k, hk, e1, b, hp⟩ := hF.f3 (hall ⟨3, Ground.data⟩ (by simp) rfl)
      subst e1
      obtain ⟨y, hy, ck⟩ := lit7_at b hk
      replace b := Lib.hid b
      replace hF := Lib.hid hF
      clear hall
      go_simp
      refine hK.out _ _ ?_
      exact ⟨_, _, _, _, _, _, _, _, _, _, _, _, rfl, hF.out.up4 hsz hun ⟨y, hy, rfl⟩⟩
    · simp only [List.getElem?_toArray, List.getElem?_cons_succ, List.getElem?_cons_zero, Option.some.injEq] at ho
      subst ho
      replace hF := Lib.hid hF
      clear hall
      go_simp
      refine hK.out _ _ ?_
      exact ⟨_, _, _, _, _, _, _, _, _, _, _, _, rfl, hF.out.up5 hsz hun rfl⟩
    · simp only [List.getElem?_toArray, List.getElem?_cons_succ, List.getElem?_cons_zero, Option.some.injEq] at ho
      subst ho
      have e1 := hF.f5 (hall ⟨5, Ground.data⟩ (by simp) rfl)
      subst e1
      obtain ⟨q, hr', hq⟩ := hF.rd
      have hq3 : q ≤ 100000 := by omega
      replace hF := Lib.hid hF
      clear hall
      go_simp
      go_at_call 40
      refine (pick_any g q 60 _ hr' (by omega) (by omega) (by omega)).mono ?_
      rintro e V ⟨k, rfl, hk, hr2, hg, -⟩
      go_simp
      refine hK.out _ _ ?_
      exact ⟨_, _, _, _, _, _, _, _, _, _, _, _, rfl, hF.out.up6 hsz hun ⟨k, by omega, rfl⟩ hg hq hr2⟩
    · simp only [List.getElem?_toArray, List.getElem?_cons_succ, List.getElem?_cons_zero, Option.some.injEq] at ho
      subst ho
      obtain ⟨y, hy, e1⟩ := hF.f6 (hall ⟨6, Ground.data⟩ (by simp) rfl)
      subst e1
      have t1 : y.tdiv 59 = y / 59 := Int.tdiv_eq_ediv_of_nonneg (by omega)
      have t2 : IntKind.i64.wrap (y / 59) = y / 59 := IntWalk.i64_in _ (by omega)
      have t3 : IntKind.i64.wrap (y.tdiv 59) = y / 59 := by rw [t1]; exact t2
      replace hF := Lib.hid hF
      clear hall
      go_simp
      refine hK.out _ _ ?_
      exact ⟨_, _, _, _, _, _, _, _, _, _, _, _, rfl, hF.out.up7 hsz hun ⟨y / 59, by omega, rfl⟩⟩
    · simp only [List.getElem?_toArray, List.getElem?_cons_succ, List.getElem?_cons_zero, Option.some.injEq] at ho
      subst ho
      obtain ⟨y, hy, e1⟩ := hF.f7 (hall ⟨7, Ground.data⟩ (by simp) rfl)
      subst e1
      have t2 : IntKind.i64.wrap (y * 5) = y * 5 := IntWalk.i64_in _ (by omega)
      replace hF := Lib.hid hF
      clear hall
      go_simp
      refine hK.out _ _ ?_
      exact ⟨_, _, _, _, _, _, _, _, _, _, _, _, rfl, hF.out.up8 hsz hun ⟨y * 5, by omega, rfl⟩⟩
    · simp only [List.getElem?_toArray, List.getElem?_cons_succ, List.getElem?_cons_zero, Option.some.injEq] at ho
      subst ho
      obtain ⟨y, hy, e1⟩ := hF.f4 (hall ⟨4, Ground.data⟩ (by simp) rfl)
      subst e1
      obtain ⟨z, hz, e2⟩ := hF.f8 (hall ⟨8, Ground.data⟩ (by simp) rfl)
      subst e2
      have t2 : IntKind.i64.wrap (y + z) = y + z := IntWalk.i64_in _ (by omega)
      replace hF := Lib.hid hF
      clear hall
      go_simp
      refine hK.out _ _ ?_
      exact ⟨_, _, _, _, _, _, _, _, _, _, _, _, rfl, hF.out.up9 hsz hun ⟨y + z, by omega, rfl⟩⟩
    · simp only [List.getElem?_toArray, List.getElem?_cons_succ, List.getElem?_cons_zero, Option.some.injEq] at ho
      subst ho
      obtain ⟨y, hy, e1⟩ := hF.f9 (hall ⟨9, Ground.data⟩ (by simp) rfl)
      subst e1
      replace hF := Lib.hid hF
      clear hall
      go_simp
      refine hK.out _ _ ?_
      exact ⟨_, _, _, _, _, _, _, _, _, _, _, _, rfl, hF.out.up10 hsz hun ⟨y, hy, rfl⟩⟩
    · simp only [List.getElem?_toArray, List.getElem?_cons_succ, List.getElem?_cons_zero, Option.some.injEq] at ho
      subst ho
      replace hF := Lib.hid hF
      clear hall
      go_simp
      refine hK.out _ _ ?_
      exact ⟨_, _, _, _, _, _, _, _, _, _, _, _, rfl, hF.out.up11 hsz hun⟩
    · simp only [List.getElem?_toArray, List.getElem?_cons_succ, List.getElem?_cons_zero, Option.some.injEq] at ho
      subst ho
      obtain ⟨y, hy, e1⟩ := hF.f10 (hall ⟨10, Ground.data⟩ (by simp) rfl)
      subst e1
      have hA := (hall ⟨11, Ground.data⟩ (by simp) rfl)
      obtain ⟨q, e3, hwq, hh⟩ := hF.f11 hA
      subst e3
      have hz := hh hun
      have r0 := hz.cell 0
      have r1 := hz.cell 1
      have f0 := hz.frozen 0
      have f1 := hz.frozen 1
      replace hz := Lib.hid hz
      replace hF := Lib.hid hF
      clear hall
      go_simp
      refine hK.out _ _ ?_
      exact ⟨_, _, _, _, _, _, _, _, _, _, _, _, rfl, hF.out.up12 hsz hun hA rfl hwq hy hz.out⟩
  · exact ⟨_, _, _, _, _, _, _, _, _, _, _, _, rfl, (fun h => by simp at h), (fun h => by simp at h), (fun h => by simp at h), (fun h => by simp at h), (fun h => by simp at h), (fun h => by simp at h), (fun h => by simp at h), (fun h => by simp at h), (fun h => by simp at h), (fun h => by simp at h), (fun h => by simp at h), (fun h => by simp at h), (fun h => by simp at h), (fun h => by simp at h), ⟨p, hR.out.drew, Nat.le_refl _⟩, (World.grownBy.refl W _).trans (grown_drew (World.grownBy.refl W _)), hgW⟩
end Go.Proofs.YtfmdbmhakkajfaaDoor
