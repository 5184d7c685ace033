/-
  FnExactSwappedOf holds for every tongue and every two integers: SwappedOf answers as its model, leaves its argument unmodified, and returns memory of its own. No condition.
-/
import Derived.Test.YtdmldgikfjgmhaaRows
import Derived.Test.YtdmldgikfjgmhaaOpenT
import Derived.Test.YtdmldgikfjgmhaaSwapS
import Derived.Test.YtdmldgikfjgmhaaSwapM
import Derived.Test.YtdmldgikfjgmhaaHeldT
namespace Go.Proofs.Ytdmldgikfjgmhaa.fnExactSwappedOf
open Go.ChangeShapes Go.WideShapes Go.ChangeAt Go.RowKit
open Go.ChangeMaps (open_string shut_string)

theorem own : ownKnob Try.prog.godebug = none := by kernel_rfl
theorem laidOut : laidOutB Try.prog = true := by kernel_rfl

/-- Three cells of a block, as a row. -/
def Row3 (w : World) (g : Nat) (x y z : Value) : Prop := w.ownsRow g 30 1 (.slice (some ⟨g, 0, none⟩) 3 3) 3 [x, y, z]
theorem Row3.of_blk {w : World} {g : Nat} {x y z : Value} (h : Blk w g 30 #[x, y, z]) : Row3 w g x y z := owns_blk h rfl (Nat.le_refl _) (by unfold maxLen; omega)
theorem Row3.cells {w : World} {g : Nat} {x y z : Value} (h : Row3 w g x y z) : w.cell? ⟨g, 0, none⟩ = some x ∧ w.cell? ⟨g, 1, none⟩ = some y ∧ w.cell? ⟨g, 2, none⟩ = some z :=
  ⟨World.ownsRow.cellAt h 0 (by omega), World.ownsRow.cellAt h 1 (by omega), World.ownsRow.cellAt h 2 (by omega)⟩
theorem Row3.below {w w' : World} {S g : Nat} {x y z : Value} (h : Row3 w g x y z) (hb : Below S w w') (hS : w.heap.size ≤ S) : Row3 w' g x y z := own_below h hb hS
/-- What marking leaves as it is. -/
def Leaves (v : Value) (w w' : World) : Prop := ∀ (u : Value) (B2 n2 : Nat) (e2 : TypeId) (xs2 : List Value), OffTng v u → w.ownsRow B2 e2 1 u n2 xs2 → w'.ownsRow B2 e2 1 u n2 xs2
def OffFrom (v : Value) (C : Nat) : Prop := ∀ u : Value, (∀ k, u.ownBlock = some k → C ≤ k) → OffTng v u
theorem offFrom {w : World} {B : Nat} {v : Value} {t : Tg} (h : OwnTng w B v t) : OffFrom v w.heap.size := fun u hu => by
  obtain ⟨u1, u2, u3, e, e1, e2, e3, -⟩ := h.ex
  subst e
  refine ⟨_, _, _, rfl, fun k hk => ⟨fun h => ?_, fun h => ?_, fun h => ?_⟩⟩
  · have := (World.ownsRow.lt e1 k h).2; have := hu k hk; omega
  · have := (World.ownsRow.lt e2 k h).2; have := hu k hk; omega
  · have := (World.ownsRow.lt e3 k h).2; have := hu k hk; omega
theorem OwnTng.left {w w' : World} {B C : Nat} {v u : Value} {t : Tg} (h : OwnTng w B u t) (hl : Leaves v w w') (ho : OffFrom v C) (hC : C ≤ B) : OwnTng w' B u t := by
  obtain ⟨v1, v2, v3, e, o1, o2, o3, ap⟩ := h.ex
  refine ⟨v1, v2, v3, e, hl _ _ _ _ _ (ho _ fun k hk => ?_) o1, hl _ _ _ _ _ (ho _ fun k hk => ?_) o2, hl _ _ _ _ _ (ho _ fun k hk => ?_) o3, ap⟩
  · have := (World.ownsRow.lt o1 k hk).1; omega
  · have := (World.ownsRow.lt o2 k hk).1; omega
  · have := (World.ownsRow.lt o3 k hk).1; omega
theorem Row3.left {w w' : World} {g C : Nat} {v x y z : Value} (h : Row3 w g x y z) (hl : Leaves v w w') (ho : OffFrom v C) (hC : C ≤ g) : Row3 w' g x y z :=
  hl _ _ _ _ _ (ho _ fun k hk => by simp [Value.ownBlock] at hk; omega) h

set_option maxRecDepth 100000 in
set_option maxHeartbeats 8000000 in
theorem walk (w : World) (v : Value) (t : Tg) (h : TngIn w v t) (a : Int) (ha : (Lit.int .i64 a).wf = true) (b : Int) (hb : (Lit.int .i64 b).wf = true) :
    Calls Try.prog 14 #[v, .int .i64 a, .int .i64 b] w fun e w' => e = .returned (.bool true) ∧ Below w.heap.size w w' := by
  have ha2 : -9223372036854775808 ≤ a ∧ a ≤ 9223372036854775807 := by simpa [Lit.wf, IntKind.min, IntKind.max, IntKind.signed, IntKind.bits] using ha
  have hb2 : -9223372036854775808 ≤ b ∧ b ≤ 9223372036854775807 := by simpa [Lit.wf, IntKind.min, IntKind.max, IntKind.signed, IntKind.bits] using hb
  have HI := h
  obtain ⟨X1, xx1, X2, xx2, X3, xx3, rfl, -⟩ := h.ex
  have hB := (Below.refl w.heap.size w).alloc (Nat.le_refl _) (.cells #[.slice X1 t.us.length xx1, .slice X2 t.bs.length xx2, .slice X3 t.ns.length xx3] 45)
  have kX := Blk.new w 45 #[.slice X1 t.us.length xx1, .slice X2 t.bs.length xx2, .slice X3 t.ns.length xx3]
  have hS := Lib.hid (szTongue_any _ t _ (HI.below hB (Nat.le_refl _)))
  replace HI := Lib.hid HI
  replace hB := Lib.hid hB
  replace kX := Lib.hid kX
  replace ha2 := Lib.hid ha2
  replace hb2 := Lib.hid hb2
  clear h ha hb
  go_enter Try.func14, Try.ntmps14
  go_wp2_with (fail)
  refine hS.out.mono ?_
  rintro e w1 ⟨r, rfl, hr, b1⟩
  replace hB := Lib.hid (hB.out.trans (b1.mono hB.out.size))
  replace kX := Lib.hid (kX.out.below b1 kX.out.lt)
  clear b1 hS
  rcases hr with rfl | ⟨hr0, hf⟩
  · clear kX
    go_wp2
    go_ret
    exact ⟨rfl, hB.out⟩
  · have hr1 : ¬ r < 0 := by omega
    obtain ⟨x0, x1, x2, -, -, -⟩ := blk3 kX.out
    have K1 := Lib.hid (toTongue_any _ t w1 (HI.out.tng.below hB.out (Nat.le_refl _)) hf)
    have hfu := Lib.hid (swT_fine hf a b)
    replace hf := Lib.hid hf
    go_wp2_with (fail)
    refine K1.out.mono ?_
    rintro e w2 ⟨v2, rfl, o2, b2⟩
    replace hB := Lib.hid (hB.out.trans (b2.mono hB.out.size))
    replace kX := Lib.hid (kX.out.below b2 kX.out.lt)
    have K2 := Lib.hid (specSwappedOf_any v2 t a b w2 o2.tng hf.out ha2.out hb2.out)
    clear b2 o2 x0 x1 x2 K1
    go_wp2_with (fail)
    refine K2.out.mono ?_
    rintro e w3 ⟨v3, rfl, t3, b3⟩
    replace hB := Lib.hid (hB.out.trans (b3.mono hB.out.size))
    replace kX := Lib.hid (kX.out.below b3 kX.out.lt)
    have hfu' := hfu.out
    have HU : ∀ (v' : Value) (w' : World), Tng w' v' t → Calls Try.prog 33 #[v', .int .i64 a, .int .i64 b] w' (RetTng2 w' (swT t a b) (swB t a b)) := fun v' w' h => implSwappedOf_any v' t a b w' h hf.out ha2.out hb2.out
    replace HU := Lib.hid HU
    clear hfu' b3 K2
    generalize swT t a b = u at *
    generalize swB t a b = ok at *
    have hne : (ok != ok) = false := by simp
    obtain ⟨Y1, yx1, Y2, yx2, Y3, yx3, rfl⟩ : ∃ Y1 yx1 Y2 yx2 Y3 yx3, v3 = .agg #[.slice Y1 u.us.length yx1, .slice Y2 u.bs.length yx2, .slice Y3 u.ns.length yx3] := by
      obtain ⟨Y1, yx1, Y2, yx2, Y3, yx3, e, _⟩ := t3.ex
      exact ⟨Y1, yx1, Y2, yx2, Y3, yx3, e⟩
    have hA3 := (Below.refl w3.heap.size w3).alloc (Nat.le_refl _) (.cells #[.slice Y1 u.us.length yx1, .slice Y2 u.bs.length yx2, .slice Y3 u.ns.length yx3] 30)
    have kY := Lib.hid (Blk.new w3 30 #[.slice Y1 u.us.length yx1, .slice Y2 u.bs.length yx2, .slice Y3 u.ns.length yx3])
    replace t3 := Lib.hid (t3.below hA3 (Nat.le_refl _))
    replace hB := Lib.hid (hB.out.trans (hA3.mono hB.out.size))
    replace kX := Lib.hid (kX.out.below hA3 kX.out.lt)
    clear hA3
    go_upto_region 6 with (fail)
    generalize w3.alloc (.cells #[.slice Y1 u.us.length yx1, .slice Y2 u.bs.length yx2, .slice Y3 u.ns.length yx3] 30) = W3 at *
    have hTin := Lib.hid (HI.out.tng.below hB.out (Nat.le_refl _))
    have hXlt := Lib.hid kX.out.lt
    have hYlt := Lib.hid kY.out.lt
    have D := Lib.hid (Below.refl W3.heap.size W3)
    have hBo := Lib.hid (fun W (h : Below W3.heap.size W3 W) => hB.out.trans (h.mono hB.out.size))
    have hXc := Lib.hid (fun W (h : Below W3.heap.size W3 W) => blk3 (kX.out.below h hXlt.out))
    have hYc := Lib.hid (fun W (h : Below W3.heap.size W3 W) => blk3 (kY.out.below h hYlt.out))
    have hYt := Lib.hid (fun W (h : Below W3.heap.size W3 W) => t3.out.below h (Nat.le_refl _))
    have hXt := Lib.hid (fun W (h : Below W3.heap.size W3 W) => toTongue_any _ t W (hTin.out.below h (Nat.le_refl _)) hf.out)
    clear hTin t3 hB HI kX kY
    obtain ⟨x0, x1, x2, -, -, -⟩ := hXc.out _ D.out
    have K3 := Lib.hid (hXt.out _ D.out)
    go_wp2_with (fail)
    refine K3.out.mono ?_
    rintro e w4 ⟨v4, rfl, oZ, b4⟩
    obtain ⟨Z1, zx1, Z2, zx2, Z3, zx3, rfl⟩ : ∃ Z1 zx1 Z2 zx2 Z3 zx3, v4 = .agg #[.slice Z1 t.us.length zx1, .slice Z2 t.bs.length zx2, .slice Z3 t.ns.length zx3] := by
      obtain ⟨Z1, zx1, Z2, zx2, Z3, zx3, e, _⟩ := oZ.tng.ex
      exact ⟨Z1, zx1, Z2, zx2, Z3, zx3, e⟩
    have offZ := Lib.hid (offFrom oZ)
    have s34 := Lib.hid b4.size
    have hA4 := (Below.refl w4.heap.size w4).alloc (Nat.le_refl _) (.cells #[.slice Z1 t.us.length zx1, .slice Z2 t.bs.length zx2, .slice Z3 t.ns.length zx3] 30)
    have b4' := b4.trans (hA4.mono b4.size)
    have kZ := Lib.hid (Blk.new w4 30 #[.slice Z1 t.us.length zx1, .slice Z2 t.bs.length zx2, .slice Z3 t.ns.length zx3])
    replace oZ := Lib.hid (oZ.below hA4 (Nat.le_refl _))
    replace D := Lib.hid (D.out.trans (b4'.mono D.out.size))
    clear b4 b4' hA4 x0 x1 x2 K3
    go_upto_region 7 with (fail)
    generalize hW5 : w4.alloc (.cells #[.slice Z1 t.us.length zx1, .slice Z2 t.bs.length zx2, .slice Z3 t.ns.length zx3] 30) = W5 at *
    have s45 : w4.heap.size < W5.heap.size := by rw [← hW5]; simp
    replace s45 := Lib.hid s45
    clear hW5
    obtain ⟨z0, z1, z2, -, -, -⟩ := blk3 kZ.out
    have K4 := Lib.hid (HU.out _ W5 oZ.out.tng)
    go_wp2_with (fail)
    refine K4.out.mono ?_
    rintro e w6 ⟨v6, rfl, oG, b6⟩
    obtain ⟨G1, gx1, G2, gx2, G3, gx3, rfl⟩ : ∃ G1 gx1 G2 gx2 G3 gx3, v6 = .agg #[.slice G1 u.us.length gx1, .slice G2 u.bs.length gx2, .slice G3 u.ns.length gx3] := by
      obtain ⟨G1, gx1, G2, gx2, G3, gx3, e, _⟩ := oG.tng.ex
      exact ⟨G1, gx1, G2, gx2, G3, gx3, e⟩
    have offG := Lib.hid (offFrom oG)
    have s56 := Lib.hid b6.size
    have hA6 := (Below.refl w6.heap.size w6).alloc (Nat.le_refl _) (.cells #[.slice G1 u.us.length gx1, .slice G2 u.bs.length gx2, .slice G3 u.ns.length gx3] 30)
    have b6' := b6.trans (hA6.mono b6.size)
    have rG := Lib.hid (Row3.of_blk (Blk.new w6 30 #[.slice G1 u.us.length gx1, .slice G2 u.bs.length gx2, .slice G3 u.ns.length gx3]))
    replace oG := Lib.hid (oG.below hA6 (Nat.le_refl _))
    replace D := Lib.hid (D.out.trans (b6'.mono D.out.size))
    replace kZ := Lib.hid (kZ.out.below b6' kZ.out.lt)
    replace oZ := Lib.hid (oZ.out.below b6' (Nat.le_refl _))
    clear b6 b6' hA6 z0 z1 z2 K4
    go_upto_region 8 with (fail)
    generalize w6.alloc (.cells #[.slice G1 u.us.length gx1, .slice G2 u.bs.length gx2, .slice G3 u.ns.length gx3] 30) = W7 at *
    obtain ⟨y0, y1, y2, -, -, -⟩ := hYc.out _ D.out
    obtain ⟨g0, g1, g2⟩ := rG.out.cells
    have K5 := Lib.hid (eqTongue_same _ _ u W7 oG.out.tng (hYt.out _ D.out) hfu.out)
    go_wp2_with (fail)
    refine K5.out.mono ?_
    rintro e w8 ⟨rfl, b8⟩
    replace D := Lib.hid (D.out.trans (b8.mono D.out.size))
    replace kZ := Lib.hid (kZ.out.below b8 kZ.out.lt)
    replace oZ := Lib.hid (oZ.out.below b8 (Nat.le_refl _))
    replace rG := Lib.hid (rG.out.below b8 (Nat.le_refl _))
    replace oG := Lib.hid (oG.out.below b8 (Nat.le_refl _))
    clear b8 y0 y1 y2 g0 g1 g2 K5
    obtain ⟨x0, x1, x2, -, -, -⟩ := hXc.out _ D.out
    obtain ⟨z0, z1, z2, -, -, -⟩ := blk3 kZ.out
    have hZc := Lib.hid (fun W (h : Below w8.heap.size w8 W) => blk3 (kZ.out.below h kZ.out.lt))
    have hZt := Lib.hid (fun W (h : Below w8.heap.size w8 W) => oZ.out.tng.below h (Nat.le_refl _))
    have hDd := Lib.hid (fun W (h : Below w8.heap.size w8 W) => D.out.trans (h.mono D.out.size))
    go_upto_region 10 with (fail)
    go_region_held3 (fun w' => (w'.cell? ⟨w.heap.size, 0, none⟩ = some (.slice X1 t.us.length xx1) ∧ w'.cell? ⟨w.heap.size, 1, none⟩ = some (.slice X2 t.bs.length xx2) ∧ w'.cell? ⟨w.heap.size, 2, none⟩ = some (.slice X3 t.ns.length xx3)) ∧
        (w'.cell? ⟨w4.heap.size, 0, none⟩ = some (.slice Z1 t.us.length zx1) ∧ w'.cell? ⟨w4.heap.size, 1, none⟩ = some (.slice Z2 t.bs.length zx2) ∧ w'.cell? ⟨w4.heap.size, 2, none⟩ = some (.slice Z3 t.ns.length zx3)))
      (first | go_keep | exact hS9 | exact hSa)
      (first
        | (go_at_call 38; refine (hXt.out _ (by first | exact D.out.drew | exact D.out)).mono ?_; rintro e w9 ⟨v9, rfl, o9, b9'⟩; have b9 : Below w8.heap.size w8 w9 := ⟨b9'.os, b9'.tape, b9'.output, b9'.size, b9'.block⟩; obtain ⟨x0', x1', x2', -, -, -⟩ := hXc.out _ (hDd.out _ b9); obtain ⟨z0', z1', z2', -, -, -⟩ := hZc.out _ b9; have hS9 := And.intro (And.intro x0' (And.intro x1' x2')) (And.intro z0' (And.intro z1' z2')); have hE := Lib.hid (eqTongue_same _ _ t w9 (hZt.out _ b9) o9.tng hf.out); replace b9 := Lib.hid b9; clear b9' o9)
        | (go_at_call 39; refine hE.out.mono ?_; rintro e wa ⟨rfl, ba'⟩; have ba := b9.out.trans (ba'.mono b9.out.size); obtain ⟨x0'', x1'', x2'', -, -, -⟩ := hXc.out _ (hDd.out _ ba); obtain ⟨z0'', z1'', z2'', -, -, -⟩ := hZc.out _ ba; have hSa := And.intro (And.intro x0'' (And.intro x1'' x2'')) (And.intro z0'' (And.intro z1'' z2'')); replace ba := Lib.hid ba; clear ba'))
    all_goals
      clear hS9 hSa hE b9 x0' x1' x2' x0 x1 x2 z0 z1 z2 z0' z1' z2' x0'' x1'' x2'' hZc hZt hDd
      replace D := Lib.hid (D.out.trans (ba.out.mono D.out.size))
      replace kZ := Lib.hid (kZ.out.below ba.out kZ.out.lt)
      replace oZ := Lib.hid (oZ.out.below ba.out (Nat.le_refl _))
      replace rG := Lib.hid (rG.out.below ba.out (Nat.le_refl _))
      replace oG := Lib.hid (oG.out.below ba.out (Nat.le_refl _))
      clear ba
      have K6 := Lib.hid (markTongue_any _ t W3.heap.size 1 wa oZ.out hf.out D.out.size rfl)
      go_wp2_with (fail)
      refine K6.out.mono ?_
      rintro e wb ⟨rfl, -, cb, qb⟩
      have hpos : ¬ (1 + (t.us.length : Int) + (t.bs.length : Int) + (t.ns.length : Int) < 0) := by omega
      have qb' : Leaves (.agg #[.slice Z1 t.us.length zx1, .slice Z2 t.bs.length zx2, .slice Z3 t.ns.length zx3]) wa wb := qb
      replace oG := Lib.hid (OwnTng.left oG.out qb' offZ.out (by have := s45.out; omega))
      replace rG := Lib.hid (Row3.left rG.out qb' offZ.out (by have := s45.out; have := s56.out; omega))
      replace D := Lib.hid (D.out.trans cb)
      clear cb qb qb' K6 z0'' z1'' z2'' kZ oZ
      obtain ⟨y0, y1, y2, -, -, -⟩ := hYc.out _ D.out
      obtain ⟨g0, g1, g2⟩ := rG.out.cells
      have K7 := Lib.hid (eqTongue_same _ _ u wb oG.out.tng (hYt.out _ D.out) hfu.out)
      go_wp2_with (fail)
      refine K7.out.mono ?_
      rintro e wc ⟨rfl, bc⟩
      replace D := Lib.hid (D.out.trans (bc.mono D.out.size))
      replace rG := Lib.hid (rG.out.below bc (Nat.le_refl _))
      replace oG := Lib.hid (oG.out.below bc (Nat.le_refl _))
      clear bc y0 y1 y2 g0 g1 g2 K7
      obtain ⟨g0, g1, g2⟩ := rG.out.cells
      have K8 := Lib.hid (markTongue_any _ u W5.heap.size 1 wc oG.out hfu.out (by have h1 := World.ownsRow.lt rG.out w6.heap.size (by simp [Value.ownBlock]); have := s56.out; omega) rfl)
      go_wp2_with (fail)
      refine K8.out.mono ?_
      rintro e wd ⟨rfl, om, cd, qd⟩
      have qd' : Leaves (.agg #[.slice G1 u.us.length gx1, .slice G2 u.bs.length gx2, .slice G3 u.ns.length gx3]) wc wd := qd
      replace rG := Lib.hid (Row3.left rG.out qd' offG.out (Nat.le_refl _))
      replace D := Lib.hid (D.out.trans (cd.mono (by have := s45.out; have := s34.out; omega)))
      replace oG := Lib.hid om
      clear cd qd qd' K8 om g0 g1 g2
      obtain ⟨g0, g1, g2⟩ := rG.out.cells
      have K9 := Lib.hid (heldTongue_any _ u wd oG.out.tng hfu.out)
      have hup : ¬ (1 + (u.us.length : Int) + (u.bs.length : Int) + (u.ns.length : Int) < 0) := by omega
      have hne1 : ((1 + (u.us.length : Int) + (u.bs.length : Int) + (u.ns.length : Int)) != (1 + (u.us.length : Int) + (u.bs.length : Int) + (u.ns.length : Int))) = false := by simp
      go_wp2_with (fail)
      refine K9.out.mono ?_
      rintro e we ⟨rfl, be⟩
      replace D := Lib.hid (D.out.trans (be.mono D.out.size))
      replace rG := Lib.hid (rG.out.below be (Nat.le_refl _))
      replace oG := Lib.hid (oG.out.below be (Nat.le_refl _))
      clear be g0 g1 g2 K9
      obtain ⟨x0, x1, x2, -, -, -⟩ := hXc.out _ D.out
      have Ka := Lib.hid (hXt.out _ D.out)
      go_wp2_with (fail)
      refine Ka.out.mono ?_
      rintro e wf ⟨vf, rfl, oF, bf⟩
      have Kb := Lib.hid (HU.out _ wf oF.tng)
      replace D := Lib.hid (D.out.trans (bf.mono D.out.size))
      replace rG := Lib.hid (rG.out.below bf (Nat.le_refl _))
      replace oG := Lib.hid (oG.out.below bf (Nat.le_refl _))
      clear bf oF x0 x1 x2 Ka
      go_wp2_with (fail)
      refine Kb.out.mono ?_
      rintro e wg ⟨vg, rfl, oH, bg⟩
      obtain ⟨H1, hx1, H2, hx2, H3, hx3, rfl⟩ : ∃ H1 hx1 H2 hx2 H3 hx3, vg = .agg #[.slice H1 u.us.length hx1, .slice H2 u.bs.length hx2, .slice H3 u.ns.length hx3] := by
        obtain ⟨H1, hx1, H2, hx2, H3, hx3, e, _⟩ := oH.tng.ex
        exact ⟨H1, hx1, H2, hx2, H3, hx3, e⟩
      have hAg := (Below.refl wg.heap.size wg).alloc (Nat.le_refl _) (.cells #[.slice H1 u.us.length hx1, .slice H2 u.bs.length hx2, .slice H3 u.ns.length hx3] 30)
      have bg' := bg.trans (hAg.mono bg.size)
      have kH := Lib.hid (Blk.new wg 30 #[.slice H1 u.us.length hx1, .slice H2 u.bs.length hx2, .slice H3 u.ns.length hx3])
      have tH := Lib.hid (oH.tng.below hAg (Nat.le_refl _))
      replace D := Lib.hid (D.out.trans (bg'.mono D.out.size))
      replace rG := Lib.hid (rG.out.below bg' (Nat.le_refl _))
      replace oG := Lib.hid (oG.out.below bg' (Nat.le_refl _))
      clear bg bg' hAg oH Kb
      go_upto_region 25 with (fail)
      generalize wg.alloc (.cells #[.slice H1 u.us.length hx1, .slice H2 u.bs.length hx2, .slice H3 u.ns.length hx3] 30) = Wh at *
      obtain ⟨y0, y1, y2, -, -, -⟩ := hYc.out _ D.out
      obtain ⟨h0, h1, h2, -, -, -⟩ := blk3 kH.out
      have Kc := Lib.hid (eqTongue_same _ _ u Wh tH.out (hYt.out _ D.out) hfu.out)
      go_wp2_with (fail)
      refine Kc.out.mono ?_
      rintro e wi ⟨rfl, bi⟩
      replace D := Lib.hid (D.out.trans (bi.mono D.out.size))
      replace rG := Lib.hid (rG.out.below bi (Nat.le_refl _))
      replace oG := Lib.hid (oG.out.below bi (Nat.le_refl _))
      clear bi y0 y1 y2 h0 h1 h2 kH tH Kc
      obtain ⟨g0, g1, g2⟩ := rG.out.cells
      have Kd := Lib.hid (heldTongue_any _ u wi oG.out.tng hfu.out)
      go_wp2_with (fail)
      refine Kd.out.mono ?_
      rintro e wj ⟨rfl, bj⟩
      replace D := Lib.hid (D.out.trans (bj.mono D.out.size))
      clear bj g0 g1 g2 Kd
      go_wp2
      go_ret
      exact ⟨rfl, hBo.out _ D.out⟩

set_option maxRecDepth 100000 in
theorem lifted (os : Os) (started : os.Started) (H : Type) (enc : TypeId × Value → H) :
    ReturnsInHanded {} Try.checked os 14 .any (Rows.fnExactSwappedOfSpec.pre6 enc Try.prog Try.f14 Rows.fnExactSwappedOfRow.domain false) (Rows.fnExactSwappedOfSpec.post enc Try.prog Try.f14 false true false false) := by
  refine returnsInHanded_of_change (C := Try.checked) own started (by kernel_rfl) Try.func14
    (ChangeSpec.witness6 (enc := enc) (C := Try.checked) false ⟨#[], #[.agg #[.slice none 0 0, .slice none 0 0, .slice none 0 0], .int .i64 0, .int .i64 0], []⟩ 8 (by kernel_rfl) (by kernel_rfl) (by kernel_rfl) (by kernel_rfl)) ?_
  intro W base args ds gs before hval0 hW hcnd _
  have hval : ∀ (j : Nat) t v, Try.f14.params[j]? = some t → args[j]? = some v → Value.okWide Try.prog W .any base t v := hval0
  have hW' := hW
  obtain ⟨p, q, hA0, hV, rfl, hfz, hnd⟩ := hW
  have hA : DataW.TrodAll enc Try.prog W 0 (fun _ => true) true Try.f14.params.toList args.toList ds p := hA0
  rw [Try.params14] at hA hval
  obtain ⟨v0, vs0, d0, ds0, p0, q0, hargs, rfl, rfl, h0, r0⟩ := trodAll_cons hA
  obtain ⟨v1, vs1, d1, ds1, p1, q1, rfl, rfl, rfl, h1, r1⟩ := trodAll_cons r0
  obtain ⟨v2, vs2, d2, ds2, p2, q2, rfl, rfl, rfl, h2, r2⟩ := trodAll_cons r1
  obtain ⟨rfl, rfl, rfl⟩ := trodAll_nil r2
  obtain rfl : args = #[v0, v1, v2] := by cases args; simp_all
  obtain ⟨rfl, rfl⟩ := trodVars_none hV
  have k0 := h0
  have lt0 : ∀ x ∈ p0, x.block < W.heap.size := by obtain ⟨m, hm⟩ := k0; exact DataW.trod_lt m _ _ _ hm
  obtain ⟨t0, n0⟩ := open_tongue (hval 0 45 v0 rfl rfl) h0
  obtain ⟨a1, rfl, rfl, rfl, w1⟩ := open_int Try.underlying3 (hval 1 3 v1 rfl rfl) h1
  obtain ⟨a2, rfl, rfl, rfl, w2⟩ := open_int Try.underlying3 (hval 2 3 v2 rfl rfl) h2
  clear hA0 hval0
  refine (walk W v0 t0 n0 a1 w1 a2 w2).mono fun e W' ⟨he, bel⟩ => ?_
  subst he
  exact ⟨_, rfl, _, _, _, [], _, [], hW', trodAll_mk1 (shut_bool Try.underlying4 _), (trodAll_cons_mk (Below.trod laidOut (by kernel_rfl) (of_decide_eq_true (by kernel_rfl)) k0 bel lt0) (trodAll_cons_mk (shut_int Try.underlying3 w1) (trodAll_cons_mk (shut_int Try.underlying3 w2) trodAll_mk0))), rfl, bel.frame _, fun h => by cases h⟩

theorem over : Rows.fnExactSwappedOfRow.holds Try.pinned (OpenSpec.ofChange Rows.fnExactSwappedOfSpec) :=
  OpenClaim.holds_of_wide 14 Try.f14 rfl rfl rfl rfl rfl rfl rfl ⟨rfl, rfl, rfl, rfl, rfl⟩ rfl rfl rfl rfl rfl (by kernel_rfl) Try.func14 (by kernel_rfl)
    (of_decide_eq_true (by kernel_rfl)) (by unfold Func.isWrapper; first | (rw [if_pos (by decide +kernel)]; kernel_rfl) | (rw [if_neg (by decide +kernel)]; exact ⟨rfl, rfl⟩))
    (fun os started H enc _ => lifted os started H enc)
theorem proved : Rows.FnExactSwappedOfSaid := over
end Go.Proofs.Ytdmldgikfjgmhaa.fnExactSwappedOf
