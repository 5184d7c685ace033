/-
  FnExactDeskRun holds for every desk and all deeds: DeskRun answers as its model, leaves its arguments unmodified, and returns memory of its own. No condition.
-/
import Derived.Test.YtjnlpknjdclalaaRows
import Derived.Test.YtjnlpknjdclalaaOpenD
import Derived.Test.YtjnlpknjdclalaaExD
import Derived.Test.YtjnlpknjdclalaaInv
import Derived.Test.YtjnlpknjdclalaaIr
import Derived.Test.YtjnlpknjdclalaaJr
import Derived.Test.YtjnlpknjdclalaaOpenDs
import Derived.Test.YtjnlpknjdclalaaDHq
namespace Go.Proofs.Ytjnlpknjdclalaa.fnExactDeskRun
open Go.ChangeShapes Go.WideShapes Go.ChangeAt Go.RowKit
open Go.ChangeMaps (open_string shut_string)

theorem own : ownKnob Try.prog.godebug = none := by kernel_rfl
theorem laidOut : laidOutB Try.prog = true := by kernel_rfl
theorem noDk_fine' : noDk.Fine := ⟨⟨by simp [noDk, noTg], by simp [noDk, noTg], by simp [noDk, noTg], fun k => by simp [noDk, noTg], by simp [noDk, noTg]⟩, by simp [noDk], by simp [noDk], fun k => by simp [noDk]⟩
theorem runFine {d : Dk} (h : d.Fine) (l : List Dd) : (dkRun d l).1.Fine := by
  by_cases hk : dkOk d = true ∧ l.length ≤ 40
  · rw [run_yes hk]
    obtain ⟨h1, h2, -⟩ := run_ok hk.1 l
    exact fine_of_ok h1 (by rw [h2]; exact h.t)
  · rw [run_no hk]; exact noDk_fine'
/-- A desk's marks leave a desk's box. -/
theorem Row5.leaves {w w' : World} {g B : Nat} {v c0 c1 c2 c3 c4 : Value} {d : Dk} (h : Row5 w g c0 c1 c2 c3 c4) (ho : OwnDk w B v d) (hl : LeavesD v w w') : Row5 w' g c0 c1 c2 c3 c4 := by
  obtain ⟨v1, v2, v3, v5, e, ht, h5, -⟩ := ho.ex
  obtain ⟨u1, u2, u3, e0, o1, o2, o3, -⟩ := ht.ex
  cases e0
  refine hl _ _ _ _ _ ⟨_, _, _, _, _, e, fun k hk => ⟨fun h1 => ?_, fun h1 => ?_, fun h1 => ?_, fun h1 => ?_⟩⟩ h
  · exact own_type_ne o1 h (by decide) k h1 hk
  · exact own_type_ne o2 h (by decide) k h1 hk
  · exact own_type_ne o3 h (by decide) k h1 hk
  · rcases h5.ex with o5 | ⟨z, g', cap, o5, rfl⟩
    · exact own_type_ne o5 h (by decide) k h1 hk
    · exact own_type_ne o5 h (by decide) k h1 hk
theorem Row5.offDds {w w' : World} {g B2 n : Nat} {v2 c0 c1 c2 c3 c4 : Value} {xs : List Value} (h : Row5 w g c0 c1 c2 c3 c4) (ho : w.ownsRow B2 47 2 v2 n xs) (hg : w.grownBy w' v2.ownBlock) : Row5 w' g c0 c1 c2 c3 c4 := ownN_off h hg (ownN_type_ne h ho (by decide))
/-- What is known of the operations that have come up. -/
structure XD14 (V : World) (B : Nat) (ZV DV : Value) (d : Dk) (l : Array Bool) (w : World) (s54 s55 s56 s57 s58 : Value) : Prop where
  f0 : l.getD 0 false = true → s54 = ZV
  f1 : l.getD 1 false = true → s55 = DV
  f2 : l.getD 2 false = true → OwnDk w B s56 d
  f3 : l.getD 3 false = true → s57 = .bool true
  f4 : l.getD 4 false = true → s58 = .bool false
  low : Below V.heap.size V w
section
variable {V : World} {B : Nat} {ZV DV : Value} {d : Dk} {l : Array Bool} {w w' : World} {s54 s55 s56 s57 s58 v : Value}
theorem XD14.up0 (h : XD14 V B ZV DV d l w s54 s55 s56 s57 s58) (hv : v = ZV) : XD14 V B ZV DV d (l.setIfInBounds 0 true) w v s55 s56 s57 s58 := by
  exact ⟨(fun _ => hv), (fun h' => h.f1 (listed_set h' (by decide))), (fun h' => h.f2 (listed_set h' (by decide))), (fun h' => h.f3 (listed_set h' (by decide))), (fun h' => h.f4 (listed_set h' (by decide))), h.low⟩
theorem XD14.up1 (h : XD14 V B ZV DV d l w s54 s55 s56 s57 s58) (hv : v = DV) : XD14 V B ZV DV d (l.setIfInBounds 1 true) w s54 v s56 s57 s58 := by
  exact ⟨(fun h' => h.f0 (listed_set h' (by decide))), (fun _ => hv), (fun h' => h.f2 (listed_set h' (by decide))), (fun h' => h.f3 (listed_set h' (by decide))), (fun h' => h.f4 (listed_set h' (by decide))), h.low⟩
theorem XD14.up2 (h : XD14 V B ZV DV d l w s54 s55 s56 s57 s58) (hv : OwnDk w' B v d) (hb : Below w.heap.size w w') : XD14 V B ZV DV d (l.setIfInBounds 2 true) w' s54 s55 v s57 s58 := by
  exact ⟨(fun h' => h.f0 (listed_set h' (by decide))), (fun h' => h.f1 (listed_set h' (by decide))), (fun _ => hv), (fun h' => h.f3 (listed_set h' (by decide))), (fun h' => h.f4 (listed_set h' (by decide))), h.low.trans (hb.mono h.low.size)⟩
theorem XD14.up3 (h : XD14 V B ZV DV d l w s54 s55 s56 s57 s58) (hv : v = .bool true) (hb : Below w.heap.size w w') : XD14 V B ZV DV d (l.setIfInBounds 3 true) w' s54 s55 s56 v s58 := by
  exact ⟨(fun h' => h.f0 (listed_set h' (by decide))), (fun h' => h.f1 (listed_set h' (by decide))), (fun h' => OwnDk.below (h.f2 (listed_set h' (by decide))) hb (Nat.le_refl _)), (fun _ => hv), (fun h' => h.f4 (listed_set h' (by decide))), h.low.trans (hb.mono h.low.size)⟩
theorem XD14.up4 (h : XD14 V B ZV DV d l w s54 s55 s56 s57 s58) (hv : v = .bool false) : XD14 V B ZV DV d (l.setIfInBounds 4 true) w s54 s55 s56 s57 v := by
  exact ⟨(fun h' => h.f0 (listed_set h' (by decide))), (fun h' => h.f1 (listed_set h' (by decide))), (fun h' => h.f2 (listed_set h' (by decide))), (fun h' => h.f3 (listed_set h' (by decide))), (fun _ => hv), h.low⟩
end
set_option maxRecDepth 100000 in
set_option maxHeartbeats 8000000 in
theorem walk (w : World) (v : Value) (d : Dk) (h : DskIn w v d) (va : Value) (q : List Dd) (ha : DdsIn w va q) :
    Calls Try.prog 5 #[v, va] w fun e w' => e = .returned (.bool true) ∧ Below w.heap.size w w' := by
  obtain ⟨LA, LC, rfl, hq, hLC⟩ := ha.ex
  generalize hN : q.length = N at *
  have hNc := hq.le
  clear ha
  have HI := h
  obtain ⟨A1, c1, A2, c2, A3, c3, A5, c5, rfl, -⟩ := h.ex
  have hB := (Below.refl w.heap.size w).alloc (Nat.le_refl _) (.cells #[.slice A1 d.t.us.length c1, .slice A2 d.t.bs.length c2, .slice A3 d.t.ns.length c3, .int .i64 d.now, .slice A5 d.past.length c5] 40)
  have kX := Blk.new w 40 #[.slice A1 d.t.us.length c1, .slice A2 d.t.bs.length c2, .slice A3 d.t.ns.length c3, .int .i64 d.now, .slice A5 d.past.length c5]
  have hS := Lib.hid (szDesk_any _ d _ (HI.below hB (Nat.le_refl _)))
  replace HI := Lib.hid HI
  replace hB := Lib.hid hB
  replace kX := Lib.hid kX
  replace hq := Lib.hid hq
  replace hN := Lib.hid hN
  replace hLC := Lib.hid (Nat.le_trans hNc hLC)
  clear h hNc
  go_enter Try.func5, Try.ntmps5
  go_upto_region 2 with (fail)
  generalize w.alloc (.cells #[.slice A1 d.t.us.length c1, .slice A2 d.t.bs.length c2, .slice A3 d.t.ns.length c3, .int .i64 d.now, .slice A5 d.past.length c5] 40) = W0 at *
  obtain ⟨⟨x0, x1, x2, x3, x4⟩, -⟩ := blk5 kX.out
  go_wp2_with (fail)
  refine hS.out.mono ?_
  rintro e w1 ⟨r, rfl, hr, b1⟩
  replace hB := Lib.hid (hB.out.trans (b1.mono hB.out.size))
  replace kX := Lib.hid (kX.out.below b1 kX.out.lt)
  clear b1 hS x0 x1 x2 x3 x4
  rcases hr with rfl | ⟨hr0, hr9, hf⟩
  · clear kX
    go_wp2
    go_ret
    exact ⟨rfl, hB.out⟩
  · have hr1 : ¬ r < 0 := by omega
    replace hf := Lib.hid hf
    have hsz := szDeedS_any LA N LC r w1 ⟨hr0, hr9⟩ hLC.out
    go_wp2_with (fail)
    refine hsz.mono ?_
    rintro e _ ⟨⟨r2, rfl, hr2⟩, rfl⟩
    rcases hr2 with rfl | ⟨hr20, hr29, hn1⟩
    · clear kX
      go_wp2
      go_ret
      exact ⟨rfl, hB.out⟩
    have hr21 : ¬ r2 < 0 := by omega
    have hfu := Lib.hid (runFine hf.out q)
    have hml : (dkRun d q).2 ≤ 40 := by
      by_cases hk : dkOk d = true ∧ q.length ≤ 40
      · rw [run_yes hk]
        obtain ⟨-, -, h3⟩ := run_ok hk.1 q
        omega
      · rw [run_no hk]; exact Nat.zero_le _
    have HM : ∀ (v' : Value) (A : Option Addr) (c : Nat) (w' : World), Dsk w' v' d → DeedsAre w' A N c q → Calls Try.prog 8 #[v', .slice A N c] w' (RetMN w' (dkRun d q).1 ((dkRun d q).2 : Int)) := fun v' A c w' h h2 => specDeskRun_any v' d A N c q w' h hf.out h2 hn1
    have HU : ∀ (v' : Value) (A : Option Addr) (c : Nat) (w' : World), Dsk w' v' d → DeedsAre w' A N c q → Calls Try.prog 7 #[v', .slice A N c] w' (RetDkN w' (dkRun d q).1 ((dkRun d q).2 : Int)) := fun v' A c w' h h2 => implDeskRun_any v' d A N c q w' h hf.out h2 hn1
    obtain ⟨u, hu⟩ : ∃ u, (dkRun d q).1 = u := ⟨_, rfl⟩
    obtain ⟨m, hm⟩ : ∃ m, (dkRun d q).2 = m := ⟨_, rfl⟩
    simp only [hu, hm] at HM HU hfu hml
    replace hu := Lib.hid hu
    replace hm := Lib.hid hm
    replace HM := Lib.hid HM
    replace HU := Lib.hid HU
    have hne : ((m : Int) != (m : Int)) = false := by simp
    have hTin := Lib.hid (HI.out.dsk.below hB.out (Nat.le_refl _))
    have hQin := Lib.hid (hq.out.below hB.out (Nat.le_refl _))
    have hXt := Lib.hid (fun W (h : Below w1.heap.size w1 W) => toDesk_any _ d W (hTin.out.below h (Nat.le_refl _)) hf.out)
    have hQt := Lib.hid (fun W (h : Below w1.heap.size w1 W) => toDeedS_any LA N LC q W (hQin.out.below h (Nat.le_refl _)) hn1)
    have hXc := Lib.hid (fun W (h : Below w1.heap.size w1 W) => (blk5 (kX.out.below h kX.out.lt)).1)
    have hBo := Lib.hid (fun W (h : Below w1.heap.size w1 W) => hB.out.trans (h.mono hB.out.size))
    clear kX hB HI hQin
    have D1 := Lib.hid (Below.refl w1.heap.size w1)
    obtain ⟨x0, x1, x2, x3, x4⟩ := hXc.out _ D1.out
    have K1 := Lib.hid (hXt.out _ D1.out)
    go_wp2_with (fail)
    refine K1.out.mono ?_
    rintro e w2 ⟨v2, rfl, o2w, b2⟩
    replace D1 := Lib.hid (D1.out.trans (b2.mono D1.out.size))
    have o2 := Lib.hid o2w.own
    have K2 := Lib.hid (hQt.out _ D1.out)
    clear b2 o2w K1 x0 x1 x2 x3 x4
    go_wp2_with (fail)
    refine K2.out.mono ?_
    rintro e w2b ⟨g2, rfl, oq2, b2⟩
    replace D1 := Lib.hid (D1.out.trans (b2.mono D1.out.size))
    obtain ⟨A9, c9, e9, hd2⟩ := oq2.deeds
    rw [hN.out] at e9 hd2
    cases e9
    have K3 := Lib.hid (HM.out _ _ _ _ (o2.out.dsk.below b2 (Nat.le_refl _)) hd2)
    clear b2 oq2 hd2 K2 o2
    go_wp2_with (fail)
    refine K3.out.mono ?_
    rintro e w3 ⟨v3, rfl, t3, b3⟩
    replace D1 := Lib.hid (D1.out.trans (b3.mono D1.out.size))
    obtain ⟨Y1, yx1, Y2, yx2, Y3, yx3, Y5, yx5, rfl, -⟩ := t3.dsk.ex
    have hA3 := (Below.refl w3.heap.size w3).alloc (Nat.le_refl _) (.cells #[.slice Y1 u.t.us.length yx1, .slice Y2 u.t.bs.length yx2, .slice Y3 u.t.ns.length yx3, .int .i64 u.now, .slice Y5 u.past.length yx5] 28)
    have kY := Lib.hid (Blk.new w3 28 #[.slice Y1 u.t.us.length yx1, .slice Y2 u.t.bs.length yx2, .slice Y3 u.t.ns.length yx3, .int .i64 u.now, .slice Y5 u.past.length yx5])
    have t3 := Lib.hid (t3.dsk.below hA3 (Nat.le_refl _))
    replace D1 := Lib.hid (D1.out.trans (hA3.mono D1.out.size))
    clear b3 hA3 K3
    go_upto_region 9 with (fail)
    generalize w3.alloc (.cells #[.slice Y1 u.t.us.length yx1, .slice Y2 u.t.bs.length yx2, .slice Y3 u.t.ns.length yx3, .int .i64 u.now, .slice Y5 u.past.length yx5] 28) = W3 at *
    have D := Lib.hid (Below.refl W3.heap.size W3)
    have hD1 := Lib.hid (fun W (h : Below W3.heap.size W3 W) => D1.out.trans (h.mono D1.out.size))
    have hYc := Lib.hid (fun W (h : Below W3.heap.size W3 W) => (blk5 (kY.out.below h kY.out.lt)).1)
    have hYt := Lib.hid (fun W (h : Below W3.heap.size W3 W) => t3.out.below h (Nat.le_refl _))
    clear t3 kY
    obtain ⟨x0, x1, x2, x3, x4⟩ := hXc.out _ (hD1.out _ D.out)
    have K3 := Lib.hid (hXt.out _ (hD1.out _ D.out))
    go_wp2_with (fail)
    refine K3.out.mono ?_
    rintro e w4 ⟨v4, rfl, oZw, b4⟩
    have oZ := oZw.own
    obtain ⟨Z1, zx1, Z2, zx2, Z3, zx3, Z5, zx5, rfl⟩ := oZ.shape
    have oZ0 := Lib.hid oZ
    have hA4 := (Below.refl w4.heap.size w4).alloc (Nat.le_refl _) (.cells #[.slice Z1 d.t.us.length zx1, .slice Z2 d.t.bs.length zx2, .slice Z3 d.t.ns.length zx3, .int .i64 d.now, .slice Z5 d.past.length zx5] 28)
    have m34 := Lib.hid b4.size
    have b4' := b4.trans (hA4.mono b4.size)
    have kZ := Lib.hid (Blk.new w4 28 #[.slice Z1 d.t.us.length zx1, .slice Z2 d.t.bs.length zx2, .slice Z3 d.t.ns.length zx3, .int .i64 d.now, .slice Z5 d.past.length zx5])
    replace oZ := Lib.hid (oZ.below hA4 (Nat.le_refl _))
    replace D := Lib.hid (D.out.trans (b4'.mono D.out.size))
    clear b4 b4' hA4 x0 x1 x2 x3 x4 K3 oZw
    go_upto_region 10 with (fail)
    generalize hW5 : w4.alloc (.cells #[.slice Z1 d.t.us.length zx1, .slice Z2 d.t.bs.length zx2, .slice Z3 d.t.ns.length zx3, .int .i64 d.now, .slice Z5 d.past.length zx5] 28) = W5 at *
    have m45 : w4.heap.size < W5.heap.size := by rw [← hW5]; simp
    replace m45 := Lib.hid m45
    clear hW5
    have Kq := Lib.hid (hQt.out _ (hD1.out _ D.out))
    go_wp2_with (fail)
    refine Kq.out.mono ?_
    rintro e w5b ⟨gq, rfl, oQ, b5⟩
    replace D := Lib.hid (D.out.trans (b5.mono D.out.size))
    replace kZ := Lib.hid (kZ.out.below b5 kZ.out.lt)
    replace oZ := Lib.hid (oZ.out.below b5 (Nat.le_refl _))
    have oQ0 := Lib.hid (OwnDds.mono oQ (B' := W5.heap.size) (Nat.le_refl _))
    have m55 := Lib.hid b5.size
    have hdQ : DeedsAre w5b (some ⟨gq, 0, none⟩) N N q := by
      obtain ⟨A9, c9, e9, hd2⟩ := oQ.deeds
      rw [hN.out] at e9 hd2
      cases e9
      exact hd2
    have K4 := Lib.hid (HU.out _ _ _ _ oZ.out.dsk hdQ)
    replace oQ := Lib.hid oQ
    clear b5 hdQ Kq
    obtain ⟨z0, z1, z2, z3, z4⟩ := (blk5 kZ.out).1
    go_wp2_with (fail)
    refine K4.out.mono ?_
    rintro e w6 ⟨v6, rfl, oG, b6⟩
    obtain ⟨G1, gx1, G2, gx2, G3, gx3, G5, gx5, rfl⟩ := oG.shape
    have hA6 := (Below.refl w6.heap.size w6).alloc (Nat.le_refl _) (.cells #[.slice G1 u.t.us.length gx1, .slice G2 u.t.bs.length gx2, .slice G3 u.t.ns.length gx3, .int .i64 u.now, .slice G5 u.past.length gx5] 28)
    have b6' := b6.trans (hA6.mono b6.size)
    have m56 := Lib.hid b6.size
    have rG := Lib.hid (Row5.of_blk (Blk.new w6 28 #[.slice G1 u.t.us.length gx1, .slice G2 u.t.bs.length gx2, .slice G3 u.t.ns.length gx3, .int .i64 u.now, .slice G5 u.past.length gx5]))
    replace oG := Lib.hid (oG.below hA6 (Nat.le_refl _))
    replace oQ := Lib.hid (OwnDds.below oQ.out b6' (Nat.le_refl _))
    replace D := Lib.hid (D.out.trans (b6'.mono D.out.size))
    replace kZ := Lib.hid (kZ.out.below b6' kZ.out.lt)
    replace oZ := Lib.hid (oZ.out.below b6' (Nat.le_refl _))
    have m57 : w5b.heap.size ≤ (w6.alloc (.cells #[.slice G1 u.t.us.length gx1, .slice G2 u.t.bs.length gx2, .slice G3 u.t.ns.length gx3, .int .i64 u.now, .slice G5 u.past.length gx5] 28)).heap.size := b6'.size
    replace m57 := Lib.hid m57
    clear b6 b6' hA6 z0 z1 z2 z3 z4 K4
    go_upto_region 12 with (fail)
    generalize w6.alloc (.cells #[.slice G1 u.t.us.length gx1, .slice G2 u.t.bs.length gx2, .slice G3 u.t.ns.length gx3, .int .i64 u.now, .slice G5 u.past.length gx5] 28) = W7 at *
    obtain ⟨y0, y1, y2, y3, y4⟩ := hYc.out _ D.out
    obtain ⟨g0, g1, g2, g3, g4⟩ := rG.out.cells
    have K5 := Lib.hid (eqDesk_same _ _ u W7 oG.out.dsk (hYt.out _ D.out) hfu.out)
    go_wp2_with (fail)
    refine K5.out.mono ?_
    rintro e w8 ⟨rfl, b8⟩
    replace D := Lib.hid (D.out.trans (b8.mono D.out.size))
    replace kZ := Lib.hid (kZ.out.below b8 kZ.out.lt)
    replace oZ := Lib.hid (oZ.out.below b8 (Nat.le_refl _))
    replace rG := Lib.hid (rG.out.below b8 (Nat.le_refl _))
    replace oG := Lib.hid (oG.out.below b8 (Nat.le_refl _))
    replace oQ := Lib.hid (OwnDds.below oQ.out b8 (Nat.le_refl _))
    replace m57 := Lib.hid (Nat.le_trans m57.out b8.size)
    clear b8 y0 y1 y2 y3 y4 g0 g1 g2 g3 g4 K5
    have hZc := Lib.hid (fun W (h : Below w8.heap.size w8 W) => (blk5 (kZ.out.below h kZ.out.lt)).1)
    have hZt := Lib.hid (fun W (h : Below w8.heap.size w8 W) => oZ.out.dsk.below h (Nat.le_refl _))
    have hD8 := Lib.hid (fun W (h : Below w8.heap.size w8 W) => hD1.out _ (D.out.trans (h.mono D.out.size)))
    go_upto_region 14 with (fail)
    refine wp_region_any (by kernel_rfl) ?_
    refine wpAny_inv (Inv := fun l a w' => ∃ (s54 s55 s56 s57 s58 : Value), a = ⟨#[Value.agg #[Value.slice A1 d.t.us.length c1, Value.slice A2 d.t.bs.length c2, Value.slice A3 d.t.ns.length c3, Value.int IntKind.i64 d.now, Value.slice A5 d.past.length c5], Value.slice LA N LC, Value.pointer (some { block := w.heap.size, off := 0 }), undef, Value.bool false, Value.int IntKind.i64 r2, Value.pointer (some { block := w3.heap.size, off := 0 }), Value.int IntKind.i64 (m : Int), Value.pointer (some { block := w4.heap.size, off := 0 }), Value.slice (some { block := gq, off := 0 }) N N, Value.pointer (some { block := w6.heap.size, off := 0 }), Value.int IntKind.i64 (m : Int), undef, undef, undef, undef, undef, Value.agg #[Value.slice A1 d.t.us.length c1, Value.slice A2 d.t.bs.length c2, Value.slice A3 d.t.ns.length c3, Value.int IntKind.i64 d.now, Value.slice A5 d.past.length c5], Value.int IntKind.i64 1048576, Value.int IntKind.i64 r, Value.int IntKind.i64 r, Value.bool (decide (r < 0)), Value.slice LA N LC, Value.int IntKind.i64 r, Value.int IntKind.i64 r2, Value.int IntKind.i64 r2, Value.bool (decide (r2 < 0)), Value.tuple #[Value.agg #[Value.slice Y1 u.t.us.length yx1, Value.slice Y2 u.t.bs.length yx2, Value.slice Y3 u.t.ns.length yx3, Value.int IntKind.i64 u.now, Value.slice Y5 u.past.length yx5], Value.int IntKind.i64 (m : Int)], Value.agg #[Value.slice A1 d.t.us.length c1, Value.slice A2 d.t.bs.length c2, Value.slice A3 d.t.ns.length c3, Value.int IntKind.i64 d.now, Value.slice A5 d.past.length c5], v2, Value.slice LA N LC, Value.slice (some { block := g2, off := 0 }) N N, Value.tuple #[Value.agg #[Value.slice Y1 u.t.us.length yx1, Value.slice Y2 u.t.bs.length yx2, Value.slice Y3 u.t.ns.length yx3, Value.int IntKind.i64 u.now, Value.slice Y5 u.past.length yx5], Value.int IntKind.i64 (m : Int)], Value.agg #[Value.slice Y1 u.t.us.length yx1, Value.slice Y2 u.t.bs.length yx2, Value.slice Y3 u.t.ns.length yx3, Value.int IntKind.i64 u.now, Value.slice Y5 u.past.length yx5], Value.int IntKind.i64 (m : Int), Value.agg #[Value.slice A1 d.t.us.length c1, Value.slice A2 d.t.bs.length c2, Value.slice A3 d.t.ns.length c3, Value.int IntKind.i64 d.now, Value.slice A5 d.past.length c5], Value.agg #[Value.slice Z1 d.t.us.length zx1, Value.slice Z2 d.t.bs.length zx2, Value.slice Z3 d.t.ns.length zx3, Value.int IntKind.i64 d.now, Value.slice Z5 d.past.length zx5], Value.slice LA N LC, Value.slice (some { block := gq, off := 0 }) N N, Value.tuple #[Value.agg #[Value.slice G1 u.t.us.length gx1, Value.slice G2 u.t.bs.length gx2, Value.slice G3 u.t.ns.length gx3, Value.int IntKind.i64 u.now, Value.slice G5 u.past.length gx5], Value.int IntKind.i64 (m : Int)], Value.agg #[Value.slice Z1 d.t.us.length zx1, Value.slice Z2 d.t.bs.length zx2, Value.slice Z3 d.t.ns.length zx3, Value.int IntKind.i64 d.now, Value.slice Z5 d.past.length zx5], Value.slice (some { block := gq, off := 0 }) N N, Value.tuple #[Value.agg #[Value.slice G1 u.t.us.length gx1, Value.slice G2 u.t.bs.length gx2, Value.slice G3 u.t.ns.length gx3, Value.int IntKind.i64 u.now, Value.slice G5 u.past.length gx5], Value.int IntKind.i64 (m : Int)], Value.agg #[Value.slice G1 u.t.us.length gx1, Value.slice G2 u.t.bs.length gx2, Value.slice G3 u.t.ns.length gx3, Value.int IntKind.i64 u.now, Value.slice G5 u.past.length gx5], Value.int IntKind.i64 (m : Int), Value.agg #[Value.slice G1 u.t.us.length gx1, Value.slice G2 u.t.bs.length gx2, Value.slice G3 u.t.ns.length gx3, Value.int IntKind.i64 u.now, Value.slice G5 u.past.length gx5], Value.agg #[Value.slice Y1 u.t.us.length yx1, Value.slice Y2 u.t.bs.length yx2, Value.slice Y3 u.t.ns.length yx3, Value.int IntKind.i64 u.now, Value.slice Y5 u.past.length yx5], Value.bool true, Value.bool false, Value.bool false, Value.int IntKind.i64 (m : Int), Value.int IntKind.i64 (m : Int), Value.bool false, Value.bool false, s54, s55, s56, s57, s58, undef, undef, undef, undef, undef, undef, undef, undef, undef, undef, undef, undef, undef, undef, undef, undef, undef, undef, undef, undef, undef, undef, undef, undef, undef, undef, undef, undef, undef, undef, undef, undef, undef, undef, undef, undef, undef, undef, undef, undef, undef, undef, undef, undef, undef, undef, undef, undef, undef, undef, undef, undef, undef, undef, undef, undef, undef, undef, undef, undef], []⟩ ∧ XD14 w8 w8.heap.size (.agg #[.slice Z1 d.t.us.length zx1, .slice Z2 d.t.bs.length zx2, .slice Z3 d.t.ns.length zx3, .int .i64 d.now, .slice Z5 d.past.length zx5]) (.agg #[.slice A1 d.t.us.length c1, .slice A2 d.t.bs.length c2, .slice A3 d.t.ns.length c3, .int .i64 d.now, .slice A5 d.past.length c5]) d l w' s54 s55 s56 s57 s58) (ord_spec (by kernel_rfl)) ?_ ?_ _ _ _ _ rfl (by decide) ?_
    · rintro l a w' ⟨s54, s55, s56, s57, s58, rfl, hF⟩ hsz hl
      have hl' : ∀ j, j < 5 → l.getD j false = true := hl
      have e50 := hF.f4 (hl' 4 (by decide))
      subst e50
      have ba := hF.low
      obtain ⟨wa, hwa⟩ : ∃ wa, wa = w' := ⟨_, rfl⟩
      subst hwa
      replace D := Lib.hid (D.out.trans (ba.mono D.out.size))
      replace kZ := Lib.hid (kZ.out.below ba kZ.out.lt)
      replace oZ := Lib.hid (oZ.out.below ba (Nat.le_refl _))
      replace rG := Lib.hid (rG.out.below ba (Nat.le_refl _))
      replace oG := Lib.hid (oG.out.below ba (Nat.le_refl _))
      replace oQ := Lib.hid (OwnDds.below oQ.out ba (Nat.le_refl _))
      replace m57 := Lib.hid (Nat.le_trans m57.out ba.size)
      have g50 := hF.f0 (hl' 0 (by decide))
      have g51 := hF.f1 (hl' 1 (by decide))
      have g53 := hF.f3 (hl' 3 (by decide))
      subst g50
      subst g51
      subst g53
      clear ba hF hl hl' hZc hZt hD8
      have Kr := Lib.hid (hQt.out _ (hD1.out _ D.out))
      go_wp2_with (fail)
      refine Kr.out.mono ?_
      rintro e w9 ⟨gr, rfl, oR, b9⟩
      replace D := Lib.hid (D.out.trans (b9.mono D.out.size))
      replace kZ := Lib.hid (kZ.out.below b9 kZ.out.lt)
      replace oZ := Lib.hid (oZ.out.below b9 (Nat.le_refl _))
      replace rG := Lib.hid (rG.out.below b9 (Nat.le_refl _))
      replace oG := Lib.hid (oG.out.below b9 (Nat.le_refl _))
      replace oQ := Lib.hid (OwnDds.below oQ.out b9 (Nat.le_refl _))
      replace m57 := Lib.hid (Nat.le_trans m57.out b9.size)
      have hdQ : DeedsAre w9 (some ⟨gq, 0, none⟩) N N q := by
        obtain ⟨A9, c9, e9, hd2⟩ := OwnDds.deeds oQ.out
        rw [hN.out] at e9 hd2
        cases e9
        exact hd2
      have hdR : DeedsAre w9 (some ⟨gr, 0, none⟩) N N q := by
        obtain ⟨A9, c9, e9, hd2⟩ := oR.deeds
        rw [hN.out] at e9 hd2
        cases e9
        exact hd2
      have Ks := Lib.hid (eqDeedS_same _ _ N N N q w9 hdQ hdR hn1)
      clear b9 oR hdQ hdR Kr
      go_wp2_with (fail)
      refine Ks.out.mono ?_
      rintro e wx ⟨rfl, b9⟩
      replace D := Lib.hid (D.out.trans (b9.mono D.out.size))
      replace kZ := Lib.hid (kZ.out.below b9 kZ.out.lt)
      replace oZ := Lib.hid (oZ.out.below b9 (Nat.le_refl _))
      replace rG := Lib.hid (rG.out.below b9 (Nat.le_refl _))
      replace oG := Lib.hid (oG.out.below b9 (Nat.le_refl _))
      replace oQ := Lib.hid (OwnDds.below oQ.out b9 (Nat.le_refl _))
      replace m57 := Lib.hid (Nat.le_trans m57.out b9.size)
      clear b9 Ks
      obtain ⟨z0, z1, z2, z3, z4⟩ := (blk5 kZ.out).1
      have K6 := Lib.hid (markDesk_any _ d W3.heap.size wx oZ.out hf.out D.out.size)
      go_wp2_with (fail)
      refine K6.out.mono ?_
      rintro e wb ⟨rfl, -, cb, qb⟩
      have qb' := keeps_dk oZ0.out qb
      have hQ1 : OwnDds wb W5.heap.size (.slice (some ⟨gq, 0, none⟩) N N) q := by
        have h0 := oQ.out
        unfold OwnDds at h0 ⊢
        rw [hN.out] at h0 ⊢
        refine own1_as2 (qb' _ _ _ _ _ (fun k hk => ?_) (own2_as1 h0 (by have := hn1; unfold maxLen; omega)))
        have h1 := World.ownsRow.lt h0 k hk
        have := m45.out
        omega
      replace oQ := Lib.hid hQ1
      replace oG := Lib.hid (OwnDk.keeps oG.out qb' (by have := m45.out; have := m55.out; omega))
      replace rG := Lib.hid (Row5.keeps rG.out qb' (by have := m45.out; have := m55.out; have := m56.out; omega))
      replace D := Lib.hid (D.out.trans cb)
      have m5b := Lib.hid (Nat.le_trans m57.out cb.size)
      have hcd : 0 ≤ cntDk d ∧ cntDk d ≤ 8000000 := by
        have h1 := hf.out.t.us
        have h2 := hf.out.t.bs
        have h3 := hf.out.t.ns
        have h4 := hf.out.past
        unfold cntDk
        exact ⟨by omega, by omega⟩
      clear cb qb qb' K6 z0 z1 z2 z3 z4 kZ oZ m57 hQ1
      have Kt := markDeedS_any W5.heap.size (.slice (some ⟨gq, 0, none⟩) N N) N (ddCells q) (cntDk d) wb (by have h0 := oQ.out; unfold OwnDds at h0; rw [hN.out] at h0; exact h0) hn1 hcd
      have hpos : ¬ (cntDk d + 2 * (N : Int) < 0) := by omega
      go_wp2_with (fail)
      refine Kt.mono ?_
      rintro e wy ⟨rfl, oQ2, gy⟩
      have hoq : wb.ownsRow W5.heap.size 47 2 (.slice (some ⟨gq, 0, none⟩) N N) N (ddCells q) := by have h0 := oQ.out; unfold OwnDds at h0; rw [hN.out] at h0; exact h0
      replace oG := Lib.hid (oG.out.offDds hoq gy)
      replace rG := Lib.hid (Row5.offDds rG.out hoq gy)
      have m5c := Lib.hid (Nat.le_trans m5b.out gy.size)
      replace D := Lib.hid (belowD_own D.out hoq gy D.out.size (by have := m45.out; have := m34.out; omega))
      clear gy oQ2 hoq oQ Kt m5b
      have m5b := m5c
      clear m5c
      obtain ⟨y0, y1, y2, y3, y4⟩ := hYc.out _ D.out
      obtain ⟨g0, g1, g2, g3, g4⟩ := rG.out.cells
      have K7 := Lib.hid (eqDesk_same _ _ u wy oG.out.dsk (hYt.out _ D.out) hfu.out)
      go_wp2_with (fail)
      refine K7.out.mono ?_
      rintro e wc ⟨rfl, bc⟩
      replace D := Lib.hid (D.out.trans (bc.mono D.out.size))
      replace rG := Lib.hid (rG.out.below bc (Nat.le_refl _))
      replace oG := Lib.hid (oG.out.below bc (Nat.le_refl _))
      replace m5b := Lib.hid (Nat.le_trans m5b.out bc.size)
      clear bc y0 y1 y2 y3 y4 g0 g1 g2 g3 g4 K7
      obtain ⟨g0, g1, g2, g3, g4⟩ := rG.out.cells
      have K8 := Lib.hid (markDesk_any _ u w5b.heap.size wc oG.out hfu.out m5b.out)
      go_wp2_with (fail)
      refine K8.out.mono ?_
      rintro e wd ⟨rfl, om, cd, qd⟩
      replace rG := Lib.hid (Row5.leaves rG.out oG.out qd)
      replace D := Lib.hid (D.out.trans (cd.mono (by have := m45.out; have := m34.out; have := m55.out; omega)))
      replace oG := Lib.hid om
      clear cd qd K8 om g0 g1 g2 g3 g4
      obtain ⟨g0, g1, g2, g3, g4⟩ := rG.out.cells
      have K9 := Lib.hid (heldDesk_any _ u wd oG.out.dsk hfu.out)
      have hup : ¬ (cntDk u < 0) := by unfold cntDk; omega
      have hne1 : (cntDk u != cntDk u) = false := by simp
      go_wp2_with (fail)
      refine K9.out.mono ?_
      rintro e we ⟨rfl, be⟩
      replace D := Lib.hid (D.out.trans (be.mono D.out.size))
      replace rG := Lib.hid (rG.out.below be (Nat.le_refl _))
      replace oG := Lib.hid (oG.out.below be (Nat.le_refl _))
      clear be g0 g1 g2 g3 g4 K9
      obtain ⟨x0, x1, x2, x3, x4⟩ := hXc.out _ (hD1.out _ D.out)
      have Ka := Lib.hid (hXt.out _ (hD1.out _ D.out))
      go_wp2_with (fail)
      refine Ka.out.mono ?_
      rintro e wf ⟨vf, rfl, oFw, bf⟩
      have oF := Lib.hid oFw.own
      replace D := Lib.hid (D.out.trans (bf.mono D.out.size))
      replace rG := Lib.hid (rG.out.below bf (Nat.le_refl _))
      replace oG := Lib.hid (oG.out.below bf (Nat.le_refl _))
      have Kb := Lib.hid (hQt.out _ (hD1.out _ D.out))
      clear bf oFw x0 x1 x2 x3 x4 Ka
      go_wp2_with (fail)
      refine Kb.out.mono ?_
      rintro e wf2 ⟨gf, rfl, oqf, bf⟩
      replace D := Lib.hid (D.out.trans (bf.mono D.out.size))
      replace rG := Lib.hid (rG.out.below bf (Nat.le_refl _))
      replace oG := Lib.hid (oG.out.below bf (Nat.le_refl _))
      obtain ⟨A9, c9, e9, hd2⟩ := oqf.deeds
      rw [hN.out] at e9 hd2
      cases e9
      have Kc := Lib.hid (HU.out _ _ _ _ (oF.out.dsk.below bf (Nat.le_refl _)) hd2)
      clear bf oqf hd2 Kb oF
      go_wp2_with (fail)
      refine Kc.out.mono ?_
      rintro e wg ⟨vg, rfl, oH, bg⟩
      obtain ⟨H1, hx1, H2, hx2, H3, hx3, H5, hx5, rfl⟩ := oH.shape
      have hAg := (Below.refl wg.heap.size wg).alloc (Nat.le_refl _) (.cells #[.slice H1 u.t.us.length hx1, .slice H2 u.t.bs.length hx2, .slice H3 u.t.ns.length hx3, .int .i64 u.now, .slice H5 u.past.length hx5] 28)
      have bg' := bg.trans (hAg.mono bg.size)
      have kH := Lib.hid (Blk.new wg 28 #[.slice H1 u.t.us.length hx1, .slice H2 u.t.bs.length hx2, .slice H3 u.t.ns.length hx3, .int .i64 u.now, .slice H5 u.past.length hx5])
      have tH := Lib.hid (oH.dsk.below hAg (Nat.le_refl _))
      replace D := Lib.hid (D.out.trans (bg'.mono D.out.size))
      replace rG := Lib.hid (rG.out.below bg' (Nat.le_refl _))
      replace oG := Lib.hid (oG.out.below bg' (Nat.le_refl _))
      clear bg bg' hAg oH Kc
      go_upto_region 32 with (fail)
      generalize wg.alloc (.cells #[.slice H1 u.t.us.length hx1, .slice H2 u.t.bs.length hx2, .slice H3 u.t.ns.length hx3, .int .i64 u.now, .slice H5 u.past.length hx5] 28) = Wh at *
      obtain ⟨y0, y1, y2, y3, y4⟩ := hYc.out _ D.out
      obtain ⟨h0, h1, h2, h3, h4⟩ := (blk5 kH.out).1
      have Kc := Lib.hid (eqDesk_same _ _ u Wh tH.out (hYt.out _ D.out) hfu.out)
      go_wp2_with (fail)
      refine Kc.out.mono ?_
      rintro e wi ⟨rfl, bi⟩
      replace D := Lib.hid (D.out.trans (bi.mono D.out.size))
      replace rG := Lib.hid (rG.out.below bi (Nat.le_refl _))
      replace oG := Lib.hid (oG.out.below bi (Nat.le_refl _))
      clear bi y0 y1 y2 y3 y4 h0 h1 h2 h3 h4 kH tH Kc
      obtain ⟨g0, g1, g2, g3, g4⟩ := rG.out.cells
      have Kd := Lib.hid (heldDesk_any _ u wi oG.out.dsk hfu.out)
      go_wp2_with (fail)
      refine Kd.out.mono ?_
      rintro e wj ⟨rfl, bj⟩
      replace D := Lib.hid (D.out.trans (bj.mono D.out.size))
      clear bj g0 g1 g2 g3 g4 Kd
      go_wp2
      go_ret
      exact ⟨rfl, hBo.out _ (hD1.out _ D.out)⟩
      
    · rintro l a w' ⟨s54, s55, s56, s57, s58, rfl, hF⟩ hsz i o hlt ho hun hall
      have hlt' : i < 5 := hlt
      refine wpOp_step ho (fun K' hK => ?_)
      replace hK := Lib.hid hK
      obtain rfl | rfl | rfl | rfl | rfl : i = 0 ∨ i = 1 ∨ i = 2 ∨ i = 3 ∨ i = 4 := by omega
      · simp only [List.getElem?_toArray, List.getElem?_cons_zero, Option.some.injEq] at ho
        subst ho
        obtain ⟨x0, x1, x2, x3, x4⟩ := hZc.out _ hF.low
        replace hF := Lib.hid hF
        clear hall
        go_simp
        refine hK.out _ _ ?_
        exact ⟨_, _, _, _, _, rfl, hF.out.up0 rfl⟩
      · simp only [List.getElem?_toArray, List.getElem?_cons_succ, List.getElem?_cons_zero, Option.some.injEq] at ho
        subst ho
        obtain ⟨x0, x1, x2, x3, x4⟩ := hXc.out _ (hD8.out _ hF.low)
        replace hF := Lib.hid hF
        clear hall
        go_simp
        refine hK.out _ _ ?_
        exact ⟨_, _, _, _, _, rfl, hF.out.up1 rfl⟩
      · simp only [List.getElem?_toArray, List.getElem?_cons_succ, List.getElem?_cons_zero, Option.some.injEq] at ho
        subst ho
        have e1 := hF.f1 (hall ⟨1, Ground.data⟩ (by simp) rfl)
        subst e1
        have KK := Lib.hid (hXt.out _ (hD8.out _ hF.low))
        have hls := hF.low.size
        replace hF := Lib.hid hF
        clear hall
        go_simp
        go_at_call 16
        refine KK.out.mono ?_
        rintro e V ⟨v, rfl, om, bm⟩
        go_simp
        refine hK.out _ _ ?_
        exact ⟨_, _, _, _, _, rfl, hF.out.up2 (om.own.mono (by omega)) bm⟩
      · simp only [List.getElem?_toArray, List.getElem?_cons_succ, List.getElem?_cons_zero, Option.some.injEq] at ho
        subst ho
        have e0 := hF.f0 (hall ⟨0, Ground.data⟩ (by simp) rfl)
        subst e0
        have p2 := Lib.hid (hF.f2 (hall ⟨2, Ground.data⟩ (by simp) rfl))
        have KK := Lib.hid (eqDesk_same _ _ d _ (hZt.out _ hF.low) p2.out.dsk hf.out)
        replace hF := Lib.hid hF
        clear hall
        go_simp
        go_at_call 19
        refine KK.out.mono ?_
        rintro e V ⟨rfl, bm⟩
        go_simp
        refine hK.out _ _ ?_
        exact ⟨_, _, _, _, _, rfl, hF.out.up3 rfl bm⟩
      · simp only [List.getElem?_toArray, List.getElem?_cons_succ, List.getElem?_cons_zero, Option.some.injEq] at ho
        subst ho
        have e3 := hF.f3 (hall ⟨3, Ground.data⟩ (by simp) rfl)
        subst e3
        replace hF := Lib.hid hF
        clear hall
        go_simp
        refine hK.out _ _ ?_
        exact ⟨_, _, _, _, _, rfl, hF.out.up4 rfl⟩
    · exact ⟨_, _, _, _, _, rfl, (fun h => by simp at h), (fun h => by simp at h), (fun h => by simp at h), (fun h => by simp at h), (fun h => by simp at h), (Below.refl _ _).drew⟩
set_option maxRecDepth 100000 in
theorem lifted (os : Os) (started : os.Started) (H : Type) (enc : TypeId × Value → H) :
    ReturnsInHanded {} Try.checked os 5 .any (Rows.fnExactDeskRunSpec.pre6 enc Try.prog Try.f5 Rows.fnExactDeskRunRow.domain false) (Rows.fnExactDeskRunSpec.post enc Try.prog Try.f5 false true false false) := by
  refine returnsInHanded_of_change (C := Try.checked) own started (by kernel_rfl) Try.func5
    (ChangeSpec.witness6 (enc := enc) (C := Try.checked) false ⟨#[], #[.agg #[.slice none 0 0, .slice none 0 0, .slice none 0 0, .int .i64 0, .slice none 0 0], .slice none 0 0], []⟩ 8 (by kernel_rfl) (by kernel_rfl) (by kernel_rfl) (by kernel_rfl)) ?_
  intro W base args ds gs before hval0 hW hcnd _
  have hval : ∀ (j : Nat) t v, Try.f5.params[j]? = some t → args[j]? = some v → Value.okWide Try.prog W .any base t v := hval0
  have hW' := hW
  obtain ⟨p, q, hA0, hV, rfl, hfz, hnd⟩ := hW
  have hA : DataW.TrodAll enc Try.prog W 0 (fun _ => true) true Try.f5.params.toList args.toList ds p := hA0
  rw [Try.params5] at hA hval
  obtain ⟨v0, vs0, d0, ds0, p0, q0, hargs, rfl, rfl, h0, r0⟩ := trodAll_cons hA
  obtain ⟨v1, vs1, d1, ds1, p1, q1, rfl, rfl, rfl, h1, r1⟩ := trodAll_cons r0
  obtain ⟨rfl, rfl, rfl⟩ := trodAll_nil r1
  obtain rfl : args = #[v0, v1] := by cases args; simp_all
  obtain ⟨rfl, rfl⟩ := trodVars_none hV
  have k0 := h0
  have lt0 : ∀ x ∈ p0, x.block < W.heap.size := by obtain ⟨m, hm⟩ := k0; exact DataW.trod_lt m _ _ _ hm
  obtain ⟨t0, n0⟩ := open_desk (hval 0 40 v0 rfl rfl) h0
  have k1 := h1
  have lt1 : ∀ x ∈ p1, x.block < W.heap.size := by obtain ⟨m, hm⟩ := k1; exact DataW.trod_lt m _ _ _ hm
  obtain ⟨t1, n1⟩ := open_deeds (hval 1 51 v1 rfl rfl) h1
  clear hA0 hval0
  refine (walk W v0 t0 n0 v1 t1 n1).mono fun e W' ⟨he, bel⟩ => ?_
  subst he
  exact ⟨_, rfl, _, _, _, [], _, [], hW', trodAll_mk1 (shut_bool Try.underlying4 _), (trodAll_cons_mk (Below.trod laidOut (by kernel_rfl) (of_decide_eq_true (by kernel_rfl)) k0 bel lt0) (trodAll_cons_mk (Below.trod laidOut (by kernel_rfl) (of_decide_eq_true (by kernel_rfl)) k1 bel lt1) trodAll_mk0)), rfl, bel.frame _, fun h => by cases h⟩

theorem over : Rows.fnExactDeskRunRow.holds Try.pinned (OpenSpec.ofChange Rows.fnExactDeskRunSpec) :=
  OpenClaim.holds_of_wide 5 Try.f5 rfl rfl rfl rfl rfl rfl rfl ⟨rfl, rfl, rfl, rfl, rfl⟩ rfl rfl rfl rfl rfl (by kernel_rfl) Try.func5 (by kernel_rfl)
    (of_decide_eq_true (by kernel_rfl)) (by unfold Func.isWrapper; first | (rw [if_pos (by decide +kernel)]; kernel_rfl) | (rw [if_neg (by decide +kernel)]; exact ⟨rfl, rfl⟩))
    (fun os started H enc _ => lifted os started H enc)
theorem proved : Rows.FnExactDeskRunSaid := over
end Go.Proofs.Ytjnlpknjdclalaa.fnExactDeskRun
