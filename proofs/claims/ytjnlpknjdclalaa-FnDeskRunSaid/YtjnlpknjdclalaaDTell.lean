/-
  The laws' comparisons of tongues and desks tell something of any two.
-/
import Derived.Test.YtjnlpknjdclalaaDSa
namespace Go.Proofs.Ytjnlpknjdclalaa
open Go.RowKit

/-- Some truth value is told. -/
def Tells (w : World) (e : Ending) (w' : World) : Prop := ∃ b, e = .returned (.bool b) ∧ Below w.heap.size w w'
set_option maxRecDepth 100000 in
set_option maxHeartbeats 4000000 in
theorem sameTongue_tell (v v' : Value) (t u : Tg) (w : World) (h : Tng w v t) (h' : Tng w v' u) (hf : t.Fine) (hfu : u.Fine) :
    Calls Try.prog 32 #[v, v'] w (Tells w) := by
  obtain ⟨A1, c1, A2, c2, A3, c3, rfl, h1, h2, h3⟩ := h.ex
  obtain ⟨B1, d1, B2, d2, B3, d3, rfl, k1, k2, k3⟩ := h'.ex
  have hu := hf.us
  have hb := hf.bs
  have hn := hf.ns
  have hu' := hfu.us
  have hb' := hfu.bs
  have hn' := hfu.ns
  have hW : Below w.heap.size w ((w.alloc (.cells #[.slice A1 t.us.length c1, .slice A2 t.bs.length c2, .slice A3 t.ns.length c3] 26)).alloc (.cells #[.slice B1 u.us.length d1, .slice B2 u.bs.length d2, .slice B3 u.ns.length d3] 26)) := ((Below.refl _ _).alloc (Nat.le_refl _) _).alloc (by simp) _
  have HB1 : Blk ((w.alloc (.cells #[.slice A1 t.us.length c1, .slice A2 t.bs.length c2, .slice A3 t.ns.length c3] 26)).alloc (.cells #[.slice B1 u.us.length d1, .slice B2 u.bs.length d2, .slice B3 u.ns.length d3] 26)) w.heap.size 26 #[.slice A1 t.us.length c1, .slice A2 t.bs.length c2, .slice A3 t.ns.length c3] := (Blk.new _ _ _).alloc _
  have HB2 : Blk ((w.alloc (.cells #[.slice A1 t.us.length c1, .slice A2 t.bs.length c2, .slice A3 t.ns.length c3] 26)).alloc (.cells #[.slice B1 u.us.length d1, .slice B2 u.bs.length d2, .slice B3 u.ns.length d3] 26)) (w.heap.size + 1) 26 #[.slice B1 u.us.length d1, .slice B2 u.bs.length d2, .slice B3 u.ns.length d3] := blk_new_at _ (by simp)
  have K1 := Lib.hid (fun m => sameTexts_any A1 B1 _ c1 _ d1 t.us u.us _ ((h1.below hW (Nat.le_refl _)).drewN m) ((k1.below hW (Nat.le_refl _)).drewN m) (by omega) (by omega))
  have K2 := Lib.hid (fun m => sameInts_any A2 B2 _ c2 _ d2 t.bs u.bs _ ((h2.below hW (Nat.le_refl _)).drewN m) ((k2.below hW (Nat.le_refl _)).drewN m) hb hb')
  have K3 := Lib.hid (fun m => sameTexts_any A3 B3 _ c3 _ d3 t.ns u.ns _ ((h3.below hW (Nat.le_refl _)).drewN m) ((k3.below hW (Nat.le_refl _)).drewN m) (by omega) (by omega))
  generalize decide (t.us = u.us) = q1 at *
  generalize decide (t.bs = u.bs) = q2 at *
  generalize decide (t.ns = u.ns) = q3 at *
  replace hW := Lib.hid hW
  replace HB1 := Lib.hid HB1
  replace HB2 := Lib.hid HB2
  clear h h' h1 h2 h3 k1 k2 k3 hf hfu
  go_enter Try.func32, Try.ntmps32
  go_upto_region 1 with (fail)
  generalize ((w.alloc (.cells #[.slice A1 t.us.length c1, .slice A2 t.bs.length c2, .slice A3 t.ns.length c3] 26)).alloc (.cells #[.slice B1 u.us.length d1, .slice B2 u.bs.length d2, .slice B3 u.ns.length d3] 26)) = W at *
  obtain ⟨x0, x1, x2, -, -, -⟩ := blk3 HB1.out
  obtain ⟨y0, y1, y2, -, -, -⟩ := blk3 HB2.out
  have J1 := Lib.hid (K1.out 0)
  rw [World.drewN_zero] at J1
  go_wp2_with (fail)
  refine J1.out.mono ?_
  rintro e _ ⟨rfl, m1, rfl⟩
  have J2 := Lib.hid (K2.out m1)
  cases q1
  · go_wp2
    go_ret
    exact ⟨_, rfl, by first | exact below_drewN (below_drewN (below_drewN hW.out _) _) _ | exact below_drewN (below_drewN hW.out _) _ | exact below_drewN hW.out _⟩
  · go_wp2_with (fail)
    refine J2.out.mono ?_
    rintro e _ ⟨rfl, m2, rfl⟩
    have J3 := Lib.hid (K3.out (m1 + m2))
    rw [← World.drewN_drewN] at J3
    cases q2
    · go_wp2
      go_ret
      exact ⟨_, rfl, by first | exact below_drewN (below_drewN (below_drewN hW.out _) _) _ | exact below_drewN (below_drewN hW.out _) _ | exact below_drewN hW.out _⟩
    · go_wp2_with (fail)
      first
        | refine J3.out.mono ?_
        | (rw [World.drewN_drewN] at J3; refine J3.out.mono ?_)
      rintro e _ ⟨rfl, m3, rfl⟩
      go_wp2
      go_ret
      exact ⟨_, rfl, by first | exact below_drewN (below_drewN (below_drewN hW.out _) _) _ | exact below_drewN (below_drewN hW.out _) _ | exact below_drewN hW.out _⟩
set_option maxRecDepth 100000 in
set_option maxHeartbeats 4000000 in
theorem sameDesk_tell (v v' : Value) (d u : Dk) (w : World) (h : Dsk w v d) (h' : Dsk w v' u) (hf : d.Fine) (hfu : u.Fine) :
    Calls Try.prog 9 #[v, v'] w (Tells w) := by
  obtain ⟨A1, c1, A2, c2, A3, c3, A5, c5, rfl, h1, h2, h3, h5⟩ := h.ex
  obtain ⟨B1, d1, B2, d2, B3, d3, B5, d5, rfl, k1, k2, k3, k5⟩ := h'.ex
  have hp := hf.past
  have hp' := hfu.past
  have hB := ((Below.refl w.heap.size w).alloc (Nat.le_refl _) (.cells #[.slice A1 d.t.us.length c1, .slice A2 d.t.bs.length c2, .slice A3 d.t.ns.length c3, .int .i64 d.now, .slice A5 d.past.length c5] 28)).alloc (by simp) (.cells #[.slice B1 u.t.us.length d1, .slice B2 u.t.bs.length d2, .slice B3 u.t.ns.length d3, .int .i64 u.now, .slice B5 u.past.length d5] 28)
  have HX := (Blk.new w 28 #[.slice A1 d.t.us.length c1, .slice A2 d.t.bs.length c2, .slice A3 d.t.ns.length c3, .int .i64 d.now, .slice A5 d.past.length c5]).alloc (.cells #[.slice B1 u.t.us.length d1, .slice B2 u.t.bs.length d2, .slice B3 u.t.ns.length d3, .int .i64 u.now, .slice B5 u.past.length d5] 28)
  have HY : Blk ((w.alloc (.cells #[.slice A1 d.t.us.length c1, .slice A2 d.t.bs.length c2, .slice A3 d.t.ns.length c3, .int .i64 d.now, .slice A5 d.past.length c5] 28)).alloc (.cells #[.slice B1 u.t.us.length d1, .slice B2 u.t.bs.length d2, .slice B3 u.t.ns.length d3, .int .i64 u.now, .slice B5 u.past.length d5] 28)) (w.heap.size + 1) 28 #[.slice B1 u.t.us.length d1, .slice B2 u.t.bs.length d2, .slice B3 u.t.ns.length d3, .int .i64 u.now, .slice B5 u.past.length d5] := blk_new_at _ (by simp)
  have T1 : Tng w (.agg #[.slice A1 d.t.us.length c1, .slice A2 d.t.bs.length c2, .slice A3 d.t.ns.length c3]) d.t := ⟨A1, c1, A2, c2, A3, c3, rfl, h1, h2, h3⟩
  have T2 : Tng w (.agg #[.slice B1 u.t.us.length d1, .slice B2 u.t.bs.length d2, .slice B3 u.t.ns.length d3]) u.t := ⟨B1, d1, B2, d2, B3, d3, rfl, k1, k2, k3⟩
  have K1 := Lib.hid (sameTongue_tell _ _ d.t u.t _ (T1.below hB (Nat.le_refl _)) (T2.below hB (Nat.le_refl _)) hf.t hfu.t)
  have K2 := Lib.hid (fun W (hb : Below w.heap.size w W) => sameInts_any A5 B5 d.past.length c5 u.past.length d5 d.past u.past W (h5.below hb (Nat.le_refl _)) (k5.below hb (Nat.le_refl _)) hp hp')
  generalize decide (d.past = u.past) = q2 at *
  generalize hq : (d.now == u.now) = q3 at *
  replace hB := Lib.hid hB
  replace HX := Lib.hid HX
  replace HY := Lib.hid HY
  clear h h' h1 h2 h3 h5 k1 k2 k3 k5 hf hfu T1 T2
  go_enter Try.func9, Try.ntmps9
  go_upto_region 1 with (fail)
  generalize ((w.alloc (.cells #[.slice A1 d.t.us.length c1, .slice A2 d.t.bs.length c2, .slice A3 d.t.ns.length c3, .int .i64 d.now, .slice A5 d.past.length c5] 28)).alloc (.cells #[.slice B1 u.t.us.length d1, .slice B2 u.t.bs.length d2, .slice B3 u.t.ns.length d3, .int .i64 u.now, .slice B5 u.past.length d5] 28)) = W at *
  obtain ⟨x0, x1, x2, x3, x4⟩ := (blk5 HX.out).1
  obtain ⟨y0, y1, y2, y3, y4⟩ := (blk5 HY.out).1
  go_wp2_with (fail)
  refine K1.out.mono ?_
  rintro e w1 ⟨qb, rfl, b1⟩
  have hB1 := Lib.hid (hB.out.trans (b1.mono hB.out.size))
  have HX1 := HX.out.below b1 HX.out.lt
  have HY1 := HY.out.below b1 HY.out.lt
  clear x0 x1 x2 x3 x4 y0 y1 y2 y3 y4 b1 K1 HX HY hB
  obtain ⟨x0, x1, x2, x3, x4⟩ := (blk5 HX1).1
  obtain ⟨y0, y1, y2, y3, y4⟩ := (blk5 HY1).1
  have K3 := Lib.hid (K2.out _ hB1.out)
  clear HX1 HY1 K2
  cases qb
  · go_wp2
    go_ret
    exact ⟨_, rfl, hB1.out⟩
  · cases q3
    · go_wp2
      go_ret
      exact ⟨_, rfl, hB1.out⟩
    · go_wp2_with (fail)
      refine K3.out.mono ?_
      rintro e _ ⟨rfl, m1, rfl⟩
      go_wp2
      go_ret
      exact ⟨_, rfl, below_drewN hB1.out _⟩
end Go.Proofs.Ytjnlpknjdclalaa
