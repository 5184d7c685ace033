/-
  Contracts of the laws' comparisons of desks.
-/
import Derived.Test.YtmhgpbfogdoaeaaGreatDoorRjGK
import Derived.Test.YtmhgpbfogdoaeaaGreatDoorRjSameT
namespace Go.Proofs.YtmhgpbfogdoaeaaGreatDoor
open Go.RowKit

set_option maxRecDepth 100000 in
set_option maxHeartbeats 2000000 in
theorem sameDesk_same (v v' : Value) (d : Dk) (w : World) (h : Dsk w v d) (h' : Dsk w v' d) (hf : d.Fine) :
    Calls Tryz.prog 18 #[v, v'] w fun e w' => e = .returned (.bool true) ∧ Below w.heap.size w w' := by
  obtain ⟨A1, c1, A2, c2, A3, c3, A5, c5, rfl, h1, h2, h3, h5⟩ := h.ex
  obtain ⟨B1, d1, B2, d2, B3, d3, B5, d5, rfl, k1, k2, k3, k5⟩ := h'.ex
  have hp := hf.past
  have hB := ((Below.refl w.heap.size w).alloc (Nat.le_refl _) (.cells #[.slice A1 d.t.us.length c1, .slice A2 d.t.bs.length c2, .slice A3 d.t.ns.length c3, .int .i64 d.now, .slice A5 d.past.length c5] 33)).alloc (by simp) (.cells #[.slice B1 d.t.us.length d1, .slice B2 d.t.bs.length d2, .slice B3 d.t.ns.length d3, .int .i64 d.now, .slice B5 d.past.length d5] 33)
  have HX := (Blk.new w 33 #[.slice A1 d.t.us.length c1, .slice A2 d.t.bs.length c2, .slice A3 d.t.ns.length c3, .int .i64 d.now, .slice A5 d.past.length c5]).alloc (.cells #[.slice B1 d.t.us.length d1, .slice B2 d.t.bs.length d2, .slice B3 d.t.ns.length d3, .int .i64 d.now, .slice B5 d.past.length d5] 33)
  have HY : Blk ((w.alloc (.cells #[.slice A1 d.t.us.length c1, .slice A2 d.t.bs.length c2, .slice A3 d.t.ns.length c3, .int .i64 d.now, .slice A5 d.past.length c5] 33)).alloc (.cells #[.slice B1 d.t.us.length d1, .slice B2 d.t.bs.length d2, .slice B3 d.t.ns.length d3, .int .i64 d.now, .slice B5 d.past.length d5] 33)) (w.heap.size + 1) 33 #[.slice B1 d.t.us.length d1, .slice B2 d.t.bs.length d2, .slice B3 d.t.ns.length d3, .int .i64 d.now, .slice B5 d.past.length d5] := blk_new_at _ (by simp)
  have T1 : Tng w (.agg #[.slice A1 d.t.us.length c1, .slice A2 d.t.bs.length c2, .slice A3 d.t.ns.length c3]) d.t := ⟨A1, c1, A2, c2, A3, c3, rfl, h1, h2, h3⟩
  have T2 : Tng w (.agg #[.slice B1 d.t.us.length d1, .slice B2 d.t.bs.length d2, .slice B3 d.t.ns.length d3]) d.t := ⟨B1, d1, B2, d2, B3, d3, rfl, k1, k2, k3⟩
  have K1 := Lib.hid (sameTongue_same _ _ d.t _ (T1.below hB (Nat.le_refl _)) (T2.below hB (Nat.le_refl _)) hf.t)
  have K2 := Lib.hid (fun W (hb : Below w.heap.size w W) => by have hh := sameInts_any A5 B5 d.past.length c5 d.past.length d5 d.past d.past W (h5.below hb (Nat.le_refl _)) (k5.below hb (Nat.le_refl _)) hp hp; rw [decide_eq_true rfl] at hh; exact hh)
  have hq : (d.now == d.now) = true := by simp
  replace hB := Lib.hid hB
  replace HX := Lib.hid HX
  replace HY := Lib.hid HY
  clear h h' h1 h2 h3 h5 k1 k2 k3 k5 hf T1 T2
  go_enter Tryz.func18, Tryz.ntmps18
  go_upto_region 1 with (fail)
  generalize (w.alloc (.cells #[.slice A1 d.t.us.length c1, .slice A2 d.t.bs.length c2, .slice A3 d.t.ns.length c3, .int .i64 d.now, .slice A5 d.past.length c5] 33)).alloc (.cells #[.slice B1 d.t.us.length d1, .slice B2 d.t.bs.length d2, .slice B3 d.t.ns.length d3, .int .i64 d.now, .slice B5 d.past.length d5] 33) = W at *
  obtain ⟨x0, x1, x2, x3, x4⟩ := (blk5 HX.out).1
  obtain ⟨y0, y1, y2, y3, y4⟩ := (blk5 HY.out).1
  go_wp2_with (fail)
  refine K1.out.mono ?_
  rintro e w1 ⟨rfl, b1⟩
  have hB1 := Lib.hid (hB.out.trans (b1.mono hB.out.size))
  have HX1 := HX.out.below b1 HX.out.lt
  have HY1 := HY.out.below b1 HY.out.lt
  clear x0 x1 x2 x3 x4 y0 y1 y2 y3 y4 b1 K1 HX HY hB
  obtain ⟨x0, x1, x2, x3, x4⟩ := (blk5 HX1).1
  obtain ⟨y0, y1, y2, y3, y4⟩ := (blk5 HY1).1
  have K3 := Lib.hid (K2.out _ hB1.out)
  clear HX1 HY1 K2
  go_wp2_with (fail)
  refine K3.out.mono ?_
  rintro e _ ⟨rfl, m1, rfl⟩
  go_wp2
  go_ret
  exact ⟨rfl, below_drewN hB1.out _⟩
end Go.Proofs.YtmhgpbfogdoaeaaGreatDoor
