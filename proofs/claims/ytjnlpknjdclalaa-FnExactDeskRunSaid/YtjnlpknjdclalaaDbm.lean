/-
  A desk in a box of the call's own, and the block of the result: of the model.
-/
import Derived.Test.YtjnlpknjdclalaaDds
namespace Go.Proofs.Ytjnlpknjdclalaa
open Go.RowKit

/-- A desk in a box of the call's own, and the result's block. -/
structure DBM (w W : World) (b z : Nat) (cs : Array Value) (d : Dk) : Prop where
  box : Blk W b 28 cs
  own : MDk W w.heap.size (.agg cs) d
  res : Blk W z 28 #[.slice none 0 0, .slice none 0 0, .slice none 0 0, .int .i64 0, .slice none 0 0]
  low : Below w.heap.size w W
  hb : w.heap.size ≤ b
  hz : w.heap.size ≤ z
  ne : z ≠ b
section
variable {w W W' : World} {b z : Nat} {cs : Array Value} {d d' : Dk} {c0 c1 c2 c3 c4 u0 u1 u2 u3 u4 : Value}
theorem DBM.step (h : DBM w W b z cs d) (hb : Below W.heap.size W W') : DBM w W' b z cs d :=
  ⟨h.box.below hb h.box.lt, h.own.below hb (Nat.le_refl _), h.res.below hb h.res.lt, h.low.trans (hb.mono h.low.size), h.hb, h.hz, h.ne⟩
theorem DBM.lit (h : DBM w W b z cs d) (o : Obj) : DBM w (W.alloc o) b z cs d := h.step ((Below.refl _ _).alloc (Nat.le_refl _) o)
theorem DBM.start (hx : Blk W b 28 #[c0, c1, c2, c3, c4]) (hr : Blk W z 28 #[.slice none 0 0, .slice none 0 0, .slice none 0 0, .int .i64 0, .slice none 0 0]) (hl : Below w.heap.size w W) (hb : w.heap.size ≤ b) (hz : w.heap.size ≤ z) (ne : z ≠ b) (ho : MDk W w.heap.size (.agg #[u0, u1, u2, u3, u4]) d) :
    DBM w (((((W.setCell ⟨b, 0, none⟩ u0).setCell ⟨b, 1, none⟩ u1).setCell ⟨b, 2, none⟩ u2).setCell ⟨b, 3, none⟩ u3).setCell ⟨b, 4, none⟩ u4) b z #[u0, u1, u2, u3, u4] d :=
  ⟨hx.set5 u0 u1 u2 u3 u4, own_md5 ho hx, hr.far5 ne u0 u1 u2 u3 u4, below_dk5 hl hb, hb, hz, ne⟩
theorem DBM.put (h : DBM w W b z #[c0, c1, c2, c3, c4] d) (ho : MDk W w.heap.size (.agg #[u0, u1, u2, u3, u4]) d') :
    DBM w (((((W.setCell ⟨b, 0, none⟩ u0).setCell ⟨b, 1, none⟩ u1).setCell ⟨b, 2, none⟩ u2).setCell ⟨b, 3, none⟩ u3).setCell ⟨b, 4, none⟩ u4) b z #[u0, u1, u2, u3, u4] d' :=
  DBM.start h.box h.res h.low h.hb h.hz h.ne ho
theorem DBM.finish (h : DBM w W b z cs d) (u0 u1 u2 u3 u4 : Value) :
    MDk (((((W.setCell ⟨z, 0, none⟩ u0).setCell ⟨z, 1, none⟩ u1).setCell ⟨z, 2, none⟩ u2).setCell ⟨z, 3, none⟩ u3).setCell ⟨z, 4, none⟩ u4) w.heap.size (.agg cs) d ∧ Below w.heap.size w (((((W.setCell ⟨z, 0, none⟩ u0).setCell ⟨z, 1, none⟩ u1).setCell ⟨z, 2, none⟩ u2).setCell ⟨z, 3, none⟩ u3).setCell ⟨z, 4, none⟩ u4) :=
  ⟨own_md5 h.own h.res, below_dk5 h.low h.hz⟩
theorem DBM.shape (h : DBM w W b z cs d) : ∃ A1 c1 A2 c2 A3 c3 A5 c5, cs = #[.slice A1 d.t.us.length c1, .slice A2 d.t.bs.length c2, .slice A3 d.t.ns.length c3, .int .i64 d.now, .slice A5 d.past.length c5] := by
  obtain ⟨A1, c1, A2, c2, A3, c3, A5, c5, e, -⟩ := h.own.dsk.ex
  injection e with e
  exact ⟨A1, c1, A2, c2, A3, c3, A5, c5, e⟩
end
end Go.Proofs.Ytjnlpknjdclalaa
