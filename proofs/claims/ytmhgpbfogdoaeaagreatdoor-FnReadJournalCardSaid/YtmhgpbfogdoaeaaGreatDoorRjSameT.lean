/-
  The contract of the laws' comparison of tongues.
-/
import Derived.Test.YtmhgpbfogdoaeaaGreatDoorRjGT
import Derived.Test.YtmhgpbfogdoaeaaGreatDoorRjGN
namespace Go.Proofs.YtmhgpbfogdoaeaaGreatDoor
open Go.RowKit

set_option maxRecDepth 100000 in
set_option maxHeartbeats 2000000 in
theorem sameTongue_same (v v' : Value) (t : Tg) (w : World) (h : Tng w v t) (h' : Tng w v' t) (hf : t.Fine) :
    Calls Tryz.prog 58 #[v, v'] w fun e w' => e = .returned (.bool true) ∧ Below w.heap.size w w' := by
  obtain ⟨A1, c1, A2, c2, A3, c3, rfl, h1, h2, h3⟩ := h.ex
  obtain ⟨B1, d1, B2, d2, B3, d3, rfl, k1, k2, k3⟩ := h'.ex
  have hu := hf.us
  have hb := hf.bs
  have hn := hf.ns
  have hW : Below w.heap.size w ((w.alloc (.cells #[.slice A1 t.us.length c1, .slice A2 t.bs.length c2, .slice A3 t.ns.length c3] 31)).alloc (.cells #[.slice B1 t.us.length d1, .slice B2 t.bs.length d2, .slice B3 t.ns.length d3] 31)) := ((Below.refl _ _).alloc (Nat.le_refl _) _).alloc (by simp) _
  have HB1 : Blk ((w.alloc (.cells #[.slice A1 t.us.length c1, .slice A2 t.bs.length c2, .slice A3 t.ns.length c3] 31)).alloc (.cells #[.slice B1 t.us.length d1, .slice B2 t.bs.length d2, .slice B3 t.ns.length d3] 31)) w.heap.size 31 #[.slice A1 t.us.length c1, .slice A2 t.bs.length c2, .slice A3 t.ns.length c3] := (Blk.new _ _ _).alloc _
  have HB2 : Blk ((w.alloc (.cells #[.slice A1 t.us.length c1, .slice A2 t.bs.length c2, .slice A3 t.ns.length c3] 31)).alloc (.cells #[.slice B1 t.us.length d1, .slice B2 t.bs.length d2, .slice B3 t.ns.length d3] 31)) (w.heap.size + 1) 31 #[.slice B1 t.us.length d1, .slice B2 t.bs.length d2, .slice B3 t.ns.length d3] := blk_new_at _ (by simp)
  have K1 := Lib.hid (fun m => by have hh := sameTexts_any A1 B1 _ c1 _ d1 t.us t.us _ ((h1.below hW (Nat.le_refl _)).drewN m) ((k1.below hW (Nat.le_refl _)).drewN m) (by omega) (by omega); rw [decide_eq_true rfl] at hh; exact hh)
  have K2 := Lib.hid (fun m => by have hh := sameInts_any A2 B2 _ c2 _ d2 t.bs t.bs _ ((h2.below hW (Nat.le_refl _)).drewN m) ((k2.below hW (Nat.le_refl _)).drewN m) hb hb; rw [decide_eq_true rfl] at hh; exact hh)
  have K3 := Lib.hid (fun m => by have hh := sameTexts_any A3 B3 _ c3 _ d3 t.ns t.ns _ ((h3.below hW (Nat.le_refl _)).drewN m) ((k3.below hW (Nat.le_refl _)).drewN m) (by omega) (by omega); rw [decide_eq_true rfl] at hh; exact hh)
  replace hW := Lib.hid hW
  replace HB1 := Lib.hid HB1
  replace HB2 := Lib.hid HB2
  clear h h' h1 h2 h3 k1 k2 k3 hf
  go_enter Tryz.func58, Tryz.ntmps58
  go_upto_region 1 with (fail)
  generalize (w.alloc (.cells #[.slice A1 t.us.length c1, .slice A2 t.bs.length c2, .slice A3 t.ns.length c3] 31)).alloc (.cells #[.slice B1 t.us.length d1, .slice B2 t.bs.length d2, .slice B3 t.ns.length d3] 31) = W at *
  obtain ⟨x0, x1, x2, -, -, -⟩ := blk3 HB1.out
  obtain ⟨y0, y1, y2, -, -, -⟩ := blk3 HB2.out
  have J1 := Lib.hid (K1.out 0)
  rw [World.drewN_zero] at J1
  go_wp2_with (fail)
  refine J1.out.mono ?_
  rintro e _ ⟨rfl, m1, rfl⟩
  have J2 := Lib.hid (K2.out m1)
  go_wp2_with (fail)
  refine J2.out.mono ?_
  rintro e _ ⟨rfl, m2, rfl⟩
  have J3 := Lib.hid (K3.out (m1 + m2))
  rw [← World.drewN_drewN] at J3
  go_wp2_with (fail)
  first
    | refine J3.out.mono ?_
    | (rw [World.drewN_drewN] at J3; refine J3.out.mono ?_)
  rintro e _ ⟨rfl, m3, rfl⟩
  go_wp2
  go_ret
  exact ⟨rfl, by first | exact below_drewN (below_drewN (below_drewN hW.out _) _) _ | exact below_drewN (below_drewN hW.out _) _ | exact below_drewN hW.out _⟩
end Go.Proofs.YtmhgpbfogdoaeaaGreatDoor
