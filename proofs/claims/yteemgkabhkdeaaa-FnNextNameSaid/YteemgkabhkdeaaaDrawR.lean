/-
  Contracts of the draws of chapter 4.
-/
import Derived.Test.YteemgkabhkdeaaaDrawN
namespace Go.Proofs.Yteemgkabhkdeaaa
open Go.RowKit

/-- While a tongue, a number and more numbers are drawn by a draw of its own reader. -/
structure DM (w : World) (z : Nat) (cs : Array Value) (v : Value) (t : Tg) (wx : World) (q : Nat) : Prop where
  rd : Rd wx (w.heap.size + 1) q
  hx : Blk wx w.heap.size 26 #[.slice none 0 0, .slice none 0 0, .slice none 0 0]
  hz : Blk wx z 26 cs
  own : OwnTng wx (w.heap.size + 2) v t
  low : Below w.heap.size w wx
theorem DM.pick {w wx w' : World} {z q q' : Nat} {cs : Array Value} {v : Value} {t : Tg} (h : DM w z cs v t wx q) (hg : wx.grownBy w' (some (w.heap.size + 1))) (hr : Rd w' (w.heap.size + 1) q') (hz : w.heap.size + 1 < z) : DM w z cs v t w' q' :=
  ⟨hr, h.hx.grown hg (by simp), h.hz.grown hg (by simp; omega), h.own.kept hg (by omega), below_read h.low hg h.low.size (by omega)⟩

/-- A tongue and two numbers are drawn. -/
def DrawnSpan (w : World) (e : Ending) (w' : World) : Prop := ∃ v t a b, e = .returned (.tuple #[v, .int .i64 a, .int .i64 b]) ∧ OwnTng w' w.heap.size v t ∧ SmallT 40 t ∧ (-200000 ≤ a ∧ a ≤ 200000) ∧ (-200000 ≤ b ∧ b ≤ 201000) ∧ Below w.heap.size w w'

end Go.Proofs.Yteemgkabhkdeaaa
