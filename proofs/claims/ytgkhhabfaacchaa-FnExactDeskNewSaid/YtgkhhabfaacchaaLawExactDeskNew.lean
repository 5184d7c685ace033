/-
  FnExactDeskNew holds for every tongue and every integer: DeskNew answers as its model, leaves its argument unmodified, and returns memory of its own. No condition.
-/
import Derived.Test.YtgkhhabfaacchaaRows
import Derived.Test.YtgkhhabfaacchaaGT
import Derived.Test.YtgkhhabfaacchaaExD
import Derived.Test.YtgkhhabfaacchaaIe
import Derived.Test.YtgkhhabfaacchaaJc
namespace Go.Proofs.Ytgkhhabfaacchaa.fnExactDeskNew
open Go.ChangeShapes Go.WideShapes Go.ChangeAt Go.RowKit
open Go.ChangeMaps (open_string shut_string)

theorem own : ownKnob Try.prog.godebug = none := by kernel_rfl
theorem laidOut : laidOutB Try.prog = true := by kernel_rfl

theorem dkNew_fine {t : Tg} {n : Int} (hf : t.Fine) (hn : -9223372036854775808 ≤ n ∧ n ≤ 9223372036854775807) : (dkNew t n).Fine := by
  unfold dkNew
  split
  · exact ⟨hf, hn, by simp, fun k => by simp⟩
  · exact ⟨⟨by simp [noDk, noTg], by simp [noDk, noTg], by simp [noDk, noTg], fun k => by simp [noDk, noTg], by simp [noDk, noTg]⟩, by simp [noDk], by simp [noDk], fun k => by simp [noDk]⟩

set_option maxRecDepth 100000 in
set_option maxHeartbeats 8000000 in
theorem walk (w : World) (v : Value) (t : Tg) (h : TngIn w v t) (a : Int) (ha : (Lit.int .i64 a).wf = true) :
    Calls Try.prog 8 #[v, .int .i64 a] w fun e w' => e = .returned (.bool true) ∧ Below w.heap.size w w' := by
  have ha2 : -9223372036854775808 ≤ a ∧ a ≤ 9223372036854775807 := by simpa [Lit.wf, IntKind.min, IntKind.max, IntKind.signed, IntKind.bits] using ha
  have HI := h
  obtain ⟨X1, xx1, X2, xx2, X3, xx3, rfl, -⟩ := h.ex
  have hB := (Below.refl w.heap.size w).alloc (Nat.le_refl _) (.cells #[.slice X1 t.us.length xx1, .slice X2 t.bs.length xx2, .slice X3 t.ns.length xx3] 52)
  have kX := Blk.new w 52 #[.slice X1 t.us.length xx1, .slice X2 t.bs.length xx2, .slice X3 t.ns.length xx3]
  have hS := Lib.hid (szTongue_any _ t _ (HI.below hB (Nat.le_refl _)))
  replace HI := Lib.hid HI
  replace hB := Lib.hid hB
  replace kX := Lib.hid kX
  replace ha2 := Lib.hid ha2
  clear h ha
  go_enter Try.func8, Try.ntmps8
  go_wp2_with (fail)
  refine hS.out.mono ?_
  rintro e w1 ⟨r, rfl, hr, b1⟩
  replace hB := Lib.hid (hB.out.trans (b1.mono hB.out.size))
  replace kX := Lib.hid (kX.out.below b1 kX.out.lt)
  clear b1 hS
  rcases hr with rfl | ⟨hr0, hf⟩
  · clear kX
    go_wp2
    go_ret
    exact ⟨rfl, hB.out⟩
  · have hr1 : ¬ r < 0 := by omega
    obtain ⟨x0, x1, x2, -, -, -⟩ := blk3 kX.out
    have K1 := Lib.hid (toTongue_any _ t w1 (HI.out.tng.below hB.out (Nat.le_refl _)) hf)
    have hfu := Lib.hid (dkNew_fine hf ha2.out)
    replace hf := Lib.hid hf
    go_wp2_with (fail)
    refine K1.out.mono ?_
    rintro e w2 ⟨v2, rfl, o2, b2⟩
    replace hB := Lib.hid (hB.out.trans (b2.mono hB.out.size))
    replace kX := Lib.hid (kX.out.below b2 kX.out.lt)
    have K2 := Lib.hid (specDeskNew_any v2 t a w2 o2.tng hf.out ha2.out)
    clear b2 o2 x0 x1 x2 K1
    go_wp2_with (fail)
    refine K2.out.mono ?_
    rintro e w3 ⟨v3, rfl, t3, b3⟩
    replace hB := Lib.hid (hB.out.trans (b3.mono hB.out.size))
    replace kX := Lib.hid (kX.out.below b3 kX.out.lt)
    have hfu' := hfu.out
    have HU : ∀ (v' : Value) (w' : World), Tng w' v' t → Calls Try.prog 16 #[v', .int .i64 a] w' (RetDkB w' (dkNew t a) (namedB t a)) := fun v' w' h => implDeskNew_any v' t a w' h hf.out ha2.out
    replace HU := Lib.hid HU
    clear hfu' b3 K2
    generalize dkNew t a = u at *
    generalize namedB t a = ok at *
    have hne : (ok != ok) = false := by simp
    obtain ⟨Y1, yx1, Y2, yx2, Y3, yx3, Y5, yx5, rfl⟩ : ∃ Y1 yx1 Y2 yx2 Y3 yx3 Y5 yx5, v3 = .agg #[.slice Y1 u.t.us.length yx1, .slice Y2 u.t.bs.length yx2, .slice Y3 u.t.ns.length yx3, .int .i64 u.now, .slice Y5 u.past.length yx5] := by
      obtain ⟨Y1, yx1, Y2, yx2, Y3, yx3, Y5, yx5, e, _⟩ := t3.dsk.ex
      exact ⟨Y1, yx1, Y2, yx2, Y3, yx3, Y5, yx5, e⟩
    have hA3 := (Below.refl w3.heap.size w3).alloc (Nat.le_refl _) (.cells #[.slice Y1 u.t.us.length yx1, .slice Y2 u.t.bs.length yx2, .slice Y3 u.t.ns.length yx3, .int .i64 u.now, .slice Y5 u.past.length yx5] 28)
    have kY := Lib.hid (Blk.new w3 28 #[.slice Y1 u.t.us.length yx1, .slice Y2 u.t.bs.length yx2, .slice Y3 u.t.ns.length yx3, .int .i64 u.now, .slice Y5 u.past.length yx5])
    replace t3 := Lib.hid (t3.dsk.below hA3 (Nat.le_refl _))
    replace hB := Lib.hid (hB.out.trans (hA3.mono hB.out.size))
    replace kX := Lib.hid (kX.out.below hA3 kX.out.lt)
    clear hA3
    go_upto_region 6 with (fail)
    generalize w3.alloc (.cells #[.slice Y1 u.t.us.length yx1, .slice Y2 u.t.bs.length yx2, .slice Y3 u.t.ns.length yx3, .int .i64 u.now, .slice Y5 u.past.length yx5] 28) = W3 at *
    have hTin := Lib.hid (HI.out.tng.below hB.out (Nat.le_refl _))
    have hXlt := Lib.hid kX.out.lt
    have hYlt := Lib.hid kY.out.lt
    have D := Lib.hid (Below.refl W3.heap.size W3)
    have hBo := Lib.hid (fun W (h : Below W3.heap.size W3 W) => hB.out.trans (h.mono hB.out.size))
    have hXc := Lib.hid (fun W (h : Below W3.heap.size W3 W) => blk3 (kX.out.below h hXlt.out))
    have hYc := Lib.hid (fun W (h : Below W3.heap.size W3 W) => (blk5 (kY.out.below h hYlt.out)).1)
    have hYt := Lib.hid (fun W (h : Below W3.heap.size W3 W) => t3.out.below h (Nat.le_refl _))
    have hXt := Lib.hid (fun W (h : Below W3.heap.size W3 W) => toTongue_any _ t W (hTin.out.below h (Nat.le_refl _)) hf.out)
    clear hTin t3 hB HI kX kY
    obtain ⟨x0, x1, x2, -, -, -⟩ := hXc.out _ D.out
    have K3 := Lib.hid (hXt.out _ D.out)
    go_wp2_with (fail)
    refine K3.out.mono ?_
    rintro e w4 ⟨v4, rfl, oZ, b4⟩
    obtain ⟨Z1, zx1, Z2, zx2, Z3, zx3, rfl⟩ : ∃ Z1 zx1 Z2 zx2 Z3 zx3, v4 = .agg #[.slice Z1 t.us.length zx1, .slice Z2 t.bs.length zx2, .slice Z3 t.ns.length zx3] := by
      obtain ⟨Z1, zx1, Z2, zx2, Z3, zx3, e, _⟩ := oZ.tng.ex
      exact ⟨Z1, zx1, Z2, zx2, Z3, zx3, e⟩
    have oZ0 := Lib.hid oZ
    have s34 := Lib.hid b4.size
    have hA4 := (Below.refl w4.heap.size w4).alloc (Nat.le_refl _) (.cells #[.slice Z1 t.us.length zx1, .slice Z2 t.bs.length zx2, .slice Z3 t.ns.length zx3] 26)
    have b4' := b4.trans (hA4.mono b4.size)
    have kZ := Lib.hid (Blk.new w4 26 #[.slice Z1 t.us.length zx1, .slice Z2 t.bs.length zx2, .slice Z3 t.ns.length zx3])
    replace oZ := Lib.hid (oZ.below hA4 (Nat.le_refl _))
    replace D := Lib.hid (D.out.trans (b4'.mono D.out.size))
    clear b4 b4' hA4 x0 x1 x2 K3
    go_upto_region 7 with (fail)
    generalize hW5 : w4.alloc (.cells #[.slice Z1 t.us.length zx1, .slice Z2 t.bs.length zx2, .slice Z3 t.ns.length zx3] 26) = W5 at *
    have s45 : w4.heap.size < W5.heap.size := by rw [← hW5]; simp
    replace s45 := Lib.hid s45
    clear hW5
    obtain ⟨z0, z1, z2, -, -, -⟩ := blk3 kZ.out
    have K4 := Lib.hid (HU.out _ W5 oZ.out.tng)
    go_wp2_with (fail)
    refine K4.out.mono ?_
    rintro e w6 ⟨v6, rfl, oG, b6⟩
    obtain ⟨G1, gx1, G2, gx2, G3, gx3, G5, gx5, rfl⟩ : ∃ G1 gx1 G2 gx2 G3 gx3 G5 gx5, v6 = .agg #[.slice G1 u.t.us.length gx1, .slice G2 u.t.bs.length gx2, .slice G3 u.t.ns.length gx3, .int .i64 u.now, .slice G5 u.past.length gx5] := by
      obtain ⟨G1, gx1, G2, gx2, G3, gx3, G5, gx5, e, _⟩ := oG.dsk.ex
      exact ⟨G1, gx1, G2, gx2, G3, gx3, G5, gx5, e⟩
    have oG0 := Lib.hid oG
    have s56 := Lib.hid b6.size
    have hA6 := (Below.refl w6.heap.size w6).alloc (Nat.le_refl _) (.cells #[.slice G1 u.t.us.length gx1, .slice G2 u.t.bs.length gx2, .slice G3 u.t.ns.length gx3, .int .i64 u.now, .slice G5 u.past.length gx5] 28)
    have b6' := b6.trans (hA6.mono b6.size)
    have rG := Lib.hid (Row5.of_blk (Blk.new w6 28 #[.slice G1 u.t.us.length gx1, .slice G2 u.t.bs.length gx2, .slice G3 u.t.ns.length gx3, .int .i64 u.now, .slice G5 u.past.length gx5]))
    replace oG := Lib.hid (oG.below hA6 (Nat.le_refl _))
    replace D := Lib.hid (D.out.trans (b6'.mono D.out.size))
    replace kZ := Lib.hid (kZ.out.below b6' kZ.out.lt)
    replace oZ := Lib.hid (oZ.out.below b6' (Nat.le_refl _))
    clear b6 b6' hA6 z0 z1 z2 K4
    go_upto_region 8 with (fail)
    generalize w6.alloc (.cells #[.slice G1 u.t.us.length gx1, .slice G2 u.t.bs.length gx2, .slice G3 u.t.ns.length gx3, .int .i64 u.now, .slice G5 u.past.length gx5] 28) = W7 at *
    obtain ⟨y0, y1, y2, y3, y4⟩ := hYc.out _ D.out
    obtain ⟨g0, g1, g2, g3, g4⟩ := rG.out.cells
    have K5 := Lib.hid (eqDesk_same _ _ u W7 oG.out.dsk (hYt.out _ D.out) hfu.out)
    go_wp2_with (fail)
    refine K5.out.mono ?_
    rintro e w8 ⟨rfl, b8⟩
    replace D := Lib.hid (D.out.trans (b8.mono D.out.size))
    replace kZ := Lib.hid (kZ.out.below b8 kZ.out.lt)
    replace oZ := Lib.hid (oZ.out.below b8 (Nat.le_refl _))
    replace rG := Lib.hid (rG.out.below b8 (Nat.le_refl _))
    replace oG := Lib.hid (oG.out.below b8 (Nat.le_refl _))
    clear b8 y0 y1 y2 y3 y4 g0 g1 g2 g3 g4 K5
    obtain ⟨x0, x1, x2, -, -, -⟩ := hXc.out _ D.out
    obtain ⟨z0, z1, z2, -, -, -⟩ := blk3 kZ.out
    have hZc := Lib.hid (fun W (h : Below w8.heap.size w8 W) => blk3 (kZ.out.below h kZ.out.lt))
    have hZt := Lib.hid (fun W (h : Below w8.heap.size w8 W) => oZ.out.tng.below h (Nat.le_refl _))
    have hDd := Lib.hid (fun W (h : Below w8.heap.size w8 W) => D.out.trans (h.mono D.out.size))
    go_upto_region 10 with (fail)
    go_region_held3 (fun w' => (w'.cell? ⟨w.heap.size, 0, none⟩ = some (.slice X1 t.us.length xx1) ∧ w'.cell? ⟨w.heap.size, 1, none⟩ = some (.slice X2 t.bs.length xx2) ∧ w'.cell? ⟨w.heap.size, 2, none⟩ = some (.slice X3 t.ns.length xx3)) ∧
        (w'.cell? ⟨w4.heap.size, 0, none⟩ = some (.slice Z1 t.us.length zx1) ∧ w'.cell? ⟨w4.heap.size, 1, none⟩ = some (.slice Z2 t.bs.length zx2) ∧ w'.cell? ⟨w4.heap.size, 2, none⟩ = some (.slice Z3 t.ns.length zx3)))
      (first | go_keep | exact hS9 | exact hSa)
      (first
        | (go_at_call 33; refine (hXt.out _ (by first | exact D.out.drew | exact D.out)).mono ?_; rintro e w9 ⟨v9, rfl, o9, b9'⟩; have b9 : Below w8.heap.size w8 w9 := ⟨b9'.os, b9'.tape, b9'.output, b9'.size, b9'.block⟩; obtain ⟨x0', x1', x2', -, -, -⟩ := hXc.out _ (hDd.out _ b9); obtain ⟨z0', z1', z2', -, -, -⟩ := hZc.out _ b9; have hS9 := And.intro (And.intro x0' (And.intro x1' x2')) (And.intro z0' (And.intro z1' z2')); have hE := Lib.hid (eqTongue_same _ _ t w9 (hZt.out _ b9) o9.tng hf.out); replace b9 := Lib.hid b9; clear b9' o9)
        | (go_at_call 34; refine hE.out.mono ?_; rintro e wa ⟨rfl, ba'⟩; have ba := b9.out.trans (ba'.mono b9.out.size); obtain ⟨x0'', x1'', x2'', -, -, -⟩ := hXc.out _ (hDd.out _ ba); obtain ⟨z0'', z1'', z2'', -, -, -⟩ := hZc.out _ ba; have hSa := And.intro (And.intro x0'' (And.intro x1'' x2'')) (And.intro z0'' (And.intro z1'' z2'')); replace ba := Lib.hid ba; clear ba'))
    all_goals
      clear hS9 hSa hE b9 x0' x1' x2' x0 x1 x2 z0 z1 z2 z0' z1' z2' x0'' x1'' x2'' hZc hZt hDd
      replace D := Lib.hid (D.out.trans (ba.out.mono D.out.size))
      replace kZ := Lib.hid (kZ.out.below ba.out kZ.out.lt)
      replace oZ := Lib.hid (oZ.out.below ba.out (Nat.le_refl _))
      replace rG := Lib.hid (rG.out.below ba.out (Nat.le_refl _))
      replace oG := Lib.hid (oG.out.below ba.out (Nat.le_refl _))
      clear ba
      have K6 := Lib.hid (markTongue_any _ t W3.heap.size 1 wa oZ.out hf.out D.out.size rfl)
      go_wp2_with (fail)
      refine K6.out.mono ?_
      rintro e wb ⟨rfl, -, cb, qb⟩
      have hpos : ¬ (1 + (t.us.length : Int) + (t.bs.length : Int) + (t.ns.length : Int) < 0) := by omega
      have qb' := keeps_tng oZ0.out qb
      replace oG := Lib.hid (OwnDk.keeps oG.out qb' (by have := s45.out; omega))
      replace rG := Lib.hid (Row5.keeps rG.out qb' (by have := s45.out; have := s56.out; omega))
      replace D := Lib.hid (D.out.trans cb)
      clear cb qb qb' K6 z0'' z1'' z2'' kZ oZ
      obtain ⟨y0, y1, y2, y3, y4⟩ := hYc.out _ D.out
      obtain ⟨g0, g1, g2, g3, g4⟩ := rG.out.cells
      have K7 := Lib.hid (eqDesk_same _ _ u wb oG.out.dsk (hYt.out _ D.out) hfu.out)
      go_wp2_with (fail)
      refine K7.out.mono ?_
      rintro e wc ⟨rfl, bc⟩
      replace D := Lib.hid (D.out.trans (bc.mono D.out.size))
      replace rG := Lib.hid (rG.out.below bc (Nat.le_refl _))
      replace oG := Lib.hid (oG.out.below bc (Nat.le_refl _))
      clear bc y0 y1 y2 y3 y4 g0 g1 g2 g3 g4 K7
      obtain ⟨g0, g1, g2, g3, g4⟩ := rG.out.cells
      have K8 := Lib.hid (markDesk_any _ u W5.heap.size wc oG.out hfu.out (by have h1 := World.ownsRow.lt rG.out w6.heap.size (by simp [Value.ownBlock]); have := s56.out; omega))
      go_wp2_with (fail)
      refine K8.out.mono ?_
      rintro e wd ⟨rfl, om, cd, qd⟩
      have qd' := keeps_dk oG0.out qd
      replace rG := Lib.hid (Row5.keeps rG.out qd' (Nat.le_refl _))
      replace D := Lib.hid (D.out.trans (cd.mono (by have := s45.out; have := s34.out; omega)))
      replace oG := Lib.hid om
      clear cd qd qd' K8 om g0 g1 g2 g3 g4
      obtain ⟨g0, g1, g2, g3, g4⟩ := rG.out.cells
      have K9 := Lib.hid (heldDesk_any _ u wd oG.out.dsk hfu.out)
      have hup : ¬ (cntDk u < 0) := by unfold cntDk; omega
      have hne1 : (cntDk u != cntDk u) = false := by simp
      go_wp2_with (fail)
      refine K9.out.mono ?_
      rintro e we ⟨rfl, be⟩
      replace D := Lib.hid (D.out.trans (be.mono D.out.size))
      replace rG := Lib.hid (rG.out.below be (Nat.le_refl _))
      replace oG := Lib.hid (oG.out.below be (Nat.le_refl _))
      clear be g0 g1 g2 g3 g4 K9
      obtain ⟨x0, x1, x2, -, -, -⟩ := hXc.out _ D.out
      have Ka := Lib.hid (hXt.out _ D.out)
      go_wp2_with (fail)
      refine Ka.out.mono ?_
      rintro e wf ⟨vf, rfl, oF, bf⟩
      have Kb := Lib.hid (HU.out _ wf oF.tng)
      replace D := Lib.hid (D.out.trans (bf.mono D.out.size))
      replace rG := Lib.hid (rG.out.below bf (Nat.le_refl _))
      replace oG := Lib.hid (oG.out.below bf (Nat.le_refl _))
      clear bf oF x0 x1 x2 Ka
      go_wp2_with (fail)
      refine Kb.out.mono ?_
      rintro e wg ⟨vg, rfl, oH, bg⟩
      obtain ⟨H1, hx1, H2, hx2, H3, hx3, H5, hx5, rfl⟩ : ∃ H1 hx1 H2 hx2 H3 hx3 H5 hx5, vg = .agg #[.slice H1 u.t.us.length hx1, .slice H2 u.t.bs.length hx2, .slice H3 u.t.ns.length hx3, .int .i64 u.now, .slice H5 u.past.length hx5] := by
        obtain ⟨H1, hx1, H2, hx2, H3, hx3, H5, hx5, e, _⟩ := oH.dsk.ex
        exact ⟨H1, hx1, H2, hx2, H3, hx3, H5, hx5, e⟩
      have hAg := (Below.refl wg.heap.size wg).alloc (Nat.le_refl _) (.cells #[.slice H1 u.t.us.length hx1, .slice H2 u.t.bs.length hx2, .slice H3 u.t.ns.length hx3, .int .i64 u.now, .slice H5 u.past.length hx5] 28)
      have bg' := bg.trans (hAg.mono bg.size)
      have kH := Lib.hid (Blk.new wg 28 #[.slice H1 u.t.us.length hx1, .slice H2 u.t.bs.length hx2, .slice H3 u.t.ns.length hx3, .int .i64 u.now, .slice H5 u.past.length hx5])
      have tH := Lib.hid (oH.dsk.below hAg (Nat.le_refl _))
      replace D := Lib.hid (D.out.trans (bg'.mono D.out.size))
      replace rG := Lib.hid (rG.out.below bg' (Nat.le_refl _))
      replace oG := Lib.hid (oG.out.below bg' (Nat.le_refl _))
      clear bg bg' hAg oH Kb
      go_upto_region 25 with (fail)
      generalize wg.alloc (.cells #[.slice H1 u.t.us.length hx1, .slice H2 u.t.bs.length hx2, .slice H3 u.t.ns.length hx3, .int .i64 u.now, .slice H5 u.past.length hx5] 28) = Wh at *
      obtain ⟨y0, y1, y2, y3, y4⟩ := hYc.out _ D.out
      obtain ⟨h0, h1, h2, h3, h4⟩ := (blk5 kH.out).1
      have Kc := Lib.hid (eqDesk_same _ _ u Wh tH.out (hYt.out _ D.out) hfu.out)
      go_wp2_with (fail)
      refine Kc.out.mono ?_
      rintro e wi ⟨rfl, bi⟩
      replace D := Lib.hid (D.out.trans (bi.mono D.out.size))
      replace rG := Lib.hid (rG.out.below bi (Nat.le_refl _))
      replace oG := Lib.hid (oG.out.below bi (Nat.le_refl _))
      clear bi y0 y1 y2 y3 y4 h0 h1 h2 h3 h4 kH tH Kc
      obtain ⟨g0, g1, g2, g3, g4⟩ := rG.out.cells
      have Kd := Lib.hid (heldDesk_any _ u wi oG.out.dsk hfu.out)
      go_wp2_with (fail)
      refine Kd.out.mono ?_
      rintro e wj ⟨rfl, bj⟩
      replace D := Lib.hid (D.out.trans (bj.mono D.out.size))
      clear bj g0 g1 g2 g3 g4 Kd
      go_wp2
      go_ret
      exact ⟨rfl, hBo.out _ D.out⟩

set_option maxRecDepth 100000 in
theorem lifted (os : Os) (started : os.Started) (H : Type) (enc : TypeId × Value → H) :
    ReturnsInHanded {} Try.checked os 8 .any (Rows.fnExactDeskNewSpec.pre6 enc Try.prog Try.f8 Rows.fnExactDeskNewRow.domain false) (Rows.fnExactDeskNewSpec.post enc Try.prog Try.f8 false true false false) := by
  refine returnsInHanded_of_change (C := Try.checked) own started (by kernel_rfl) Try.func8
    (ChangeSpec.witness6 (enc := enc) (C := Try.checked) false ⟨#[], #[.agg #[.slice none 0 0, .slice none 0 0, .slice none 0 0], .int .i64 0], []⟩ 8 (by kernel_rfl) (by kernel_rfl) (by kernel_rfl) (by kernel_rfl)) ?_
  intro W base args ds gs before hval0 hW hcnd _
  have hval : ∀ (j : Nat) t v, Try.f8.params[j]? = some t → args[j]? = some v → Value.okWide Try.prog W .any base t v := hval0
  have hW' := hW
  obtain ⟨p, q, hA0, hV, rfl, hfz, hnd⟩ := hW
  have hA : DataW.TrodAll enc Try.prog W 0 (fun _ => true) true Try.f8.params.toList args.toList ds p := hA0
  rw [Try.params8] at hA hval
  obtain ⟨v0, vs0, d0, ds0, p0, q0, hargs, rfl, rfl, h0, r0⟩ := trodAll_cons hA
  obtain ⟨v1, vs1, d1, ds1, p1, q1, rfl, rfl, rfl, h1, r1⟩ := trodAll_cons r0
  obtain ⟨rfl, rfl, rfl⟩ := trodAll_nil r1
  obtain rfl : args = #[v0, v1] := by cases args; simp_all
  obtain ⟨rfl, rfl⟩ := trodVars_none hV
  have k0 := h0
  have lt0 : ∀ x ∈ p0, x.block < W.heap.size := by obtain ⟨m, hm⟩ := k0; exact DataW.trod_lt m _ _ _ hm
  obtain ⟨t0, n0⟩ := open_tongue (hval 0 52 v0 rfl rfl) h0
  obtain ⟨a1, rfl, rfl, rfl, w1⟩ := open_int Try.underlying3 (hval 1 3 v1 rfl rfl) h1
  clear hA0 hval0
  refine (walk W v0 t0 n0 a1 w1).mono fun e W' ⟨he, bel⟩ => ?_
  subst he
  exact ⟨_, rfl, _, _, _, [], _, [], hW', trodAll_mk1 (shut_bool Try.underlying4 _), (trodAll_cons_mk (Below.trod laidOut (by kernel_rfl) (of_decide_eq_true (by kernel_rfl)) k0 bel lt0) (trodAll_cons_mk (shut_int Try.underlying3 w1) trodAll_mk0)), rfl, bel.frame _, fun h => by cases h⟩

theorem over : Rows.fnExactDeskNewRow.holds Try.pinned (OpenSpec.ofChange Rows.fnExactDeskNewSpec) :=
  OpenClaim.holds_of_wide 8 Try.f8 rfl rfl rfl rfl rfl rfl rfl ⟨rfl, rfl, rfl, rfl, rfl⟩ rfl rfl rfl rfl rfl (by kernel_rfl) Try.func8 (by kernel_rfl)
    (of_decide_eq_true (by kernel_rfl)) (by unfold Func.isWrapper; first | (rw [if_pos (by decide +kernel)]; kernel_rfl) | (rw [if_neg (by decide +kernel)]; exact ⟨rfl, rfl⟩))
    (fun os started H enc _ => lifted os started H enc)
theorem proved : Rows.FnExactDeskNewSaid := over
end Go.Proofs.Ytgkhhabfaacchaa.fnExactDeskNew
