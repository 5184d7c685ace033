/-
  Contracts of the exact laws' helpers for desks: copies, sizes, comparisons, marks.
-/
import Derived.Test.YtjnlpknjdclalaaDkL
import Derived.Test.YtjnlpknjdclalaaDMark
import Derived.Test.YtjnlpknjdclalaaGT
import Derived.Test.YtjnlpknjdclalaaHeldT
namespace Go.Proofs.Ytjnlpknjdclalaa
open Go.RowKit

/-- A desk as it comes in. -/
structure DskIn (w : World) (v : Value) (d : Dk) : Prop where
  ex : ∃ A1 c1 A2 c2 A3 c3 A5 c5, v = .agg #[.slice A1 d.t.us.length c1, .slice A2 d.t.bs.length c2, .slice A3 d.t.ns.length c3, .int .i64 d.now, .slice A5 d.past.length c5] ∧ TngIn w (.agg #[.slice A1 d.t.us.length c1, .slice A2 d.t.bs.length c2, .slice A3 d.t.ns.length c3]) d.t ∧ Ints w .i64 A5 d.past.length c5 d.past ∧ c5 ≤ maxLen
  wf : ∀ x ∈ d.past, (Lit.int .i64 x).wf = true
  now : -9223372036854775808 ≤ d.now ∧ d.now ≤ 9223372036854775807
theorem DskIn.dsk {w : World} {v : Value} {d : Dk} (h : DskIn w v d) : Dsk w v d := by
  obtain ⟨A1, c1, A2, c2, A3, c3, A5, c5, rfl, ht, h5, -⟩ := h.ex
  obtain ⟨B1, e1, B2, e2, B3, e3, e, h1, h2, h3, -⟩ := ht.ex
  cases e
  exact ⟨_, _, _, _, _, _, _, _, rfl, h1, h2, h3, h5⟩
theorem DskIn.below {w w' : World} {B : Nat} {v : Value} {d : Dk} (h : DskIn w v d) (hb : Below B w w') (hB : w.heap.size ≤ B) : DskIn w' v d := by
  obtain ⟨A1, c1, A2, c2, A3, c3, A5, c5, e, ht, h5, m⟩ := h.ex
  exact ⟨⟨A1, c1, A2, c2, A3, c3, A5, c5, e, ht.below hb hB, h5.below hb hB, m⟩, h.wf, h.now⟩
def RetSizeD (w : World) (d : Dk) (e : Ending) (w' : World) : Prop := ∃ r, e = .returned (.int .i64 r) ∧ (r = -1 ∨ (0 ≤ r ∧ r ≤ 1048576 ∧ d.Fine)) ∧ Below w.heap.size w w'

set_option maxRecDepth 100000 in
set_option maxHeartbeats 1000000 in
theorem szDesk_any (v : Value) (d : Dk) (w : World) (h : DskIn w v d) :
    Calls Try.prog 14 #[v, .int .i64 1048576] w (RetSizeD w d) := by
  obtain ⟨A1, c1, A2, c2, A3, c3, A5, c5, rfl, ht, h5, m⟩ := h.ex
  have hB := (Below.refl w.heap.size w).alloc (Nat.le_refl _) (.cells #[.slice A1 d.t.us.length c1, .slice A2 d.t.bs.length c2, .slice A3 d.t.ns.length c3, .int .i64 d.now, .slice A5 d.past.length c5] 40)
  have HX := Blk.new w 40 #[.slice A1 d.t.us.length c1, .slice A2 d.t.bs.length c2, .slice A3 d.t.ns.length c3, .int .i64 d.now, .slice A5 d.past.length c5]
  have K1 := Lib.hid (szTongue_bd _ d.t _ (ht.below hB (Nat.le_refl _)))
  have hpl : d.past.length ≤ 9223372036854775807 := by have := h5.le; unfold maxLen at m; omega
  have hfi := Lib.hid (Fits.of_wf h.wf)
  have hnow := Lib.hid h.now
  replace hB := Lib.hid hB
  replace HX := Lib.hid HX
  clear h ht h5 m
  go_enter Try.func14, Try.ntmps14
  go_upto_region 1 with (fail)
  generalize w.alloc (.cells #[.slice A1 d.t.us.length c1, .slice A2 d.t.bs.length c2, .slice A3 d.t.ns.length c3, .int .i64 d.now, .slice A5 d.past.length c5] 40) = W at *
  obtain ⟨x0, x1, x2, x3, x4⟩ := (blk5 HX.out).1
  go_wp2_with (fail)
  refine K1.out.mono ?_
  rintro e w1 ⟨r1, rfl, hr1, b1⟩
  have hB1 := Lib.hid (hB.out.trans (b1.mono hB.out.size))
  have HX1 := HX.out.below b1 HX.out.lt
  clear x0 x1 x2 x3 x4 b1 K1 HX hB
  obtain ⟨x0, x1, x2, x3, x4⟩ := (blk5 HX1).1
  clear HX1
  rcases hr1 with rfl | ⟨a1, e1, hft⟩
  · go_wp2
    go_ret
    exact ⟨-1, rfl, .inl rfl, hB1.out⟩
  · have g1 : ¬ r1 < 0 := by omega
    replace hft := Lib.hid hft
    go_wp2_with (fail)
    refine (szIntS_any A5 d.past.length c5 r1 w1 hpl a1 e1).mono ?_
    rintro e _ ⟨r2, rfl, hl2, rfl⟩
    rcases hl2 with rfl | ⟨a2, e2, d2, -⟩
    · go_wp2
      go_ret
      exact ⟨-1, rfl, .inl rfl, hB1.out⟩
    · have g2 : ¬ r2 < 0 := by omega
      have hfine := Lib.hid (⟨hft.out, hnow.out, by omega, hfi.out⟩ : d.Fine)
      go_wp2
      go_ret
      exact ⟨r2, rfl, .inr ⟨a2, by omega, hfine.out⟩, hB1.out⟩

set_option maxRecDepth 100000 in
set_option maxHeartbeats 4000000 in
theorem toDesk_any (v : Value) (d : Dk) (w : World) (h : Dsk w v d) (hf : d.Fine) :
    Calls Try.prog 16 #[v] w (RetDkW w d) := by
  obtain ⟨A1, c1, A2, c2, A3, c3, A5, c5, rfl, h1, h2, h3, h5⟩ := h.ex
  have hp := hf.past
  have hB := (((Below.refl w.heap.size w).alloc (Nat.le_refl _) (.cells #[.slice A1 d.t.us.length c1, .slice A2 d.t.bs.length c2, .slice A3 d.t.ns.length c3, .int .i64 d.now, .slice A5 d.past.length c5] 40)).alloc (by simp) (.cells #[.slice none 0 0, .slice none 0 0, .slice none 0 0, .int .i64 0, .slice none 0 0] 28)).alloc (by simp; omega) (.cells #[.slice none 0 0, .slice none 0 0, .slice none 0 0, .int .i64 0, .slice none 0 0] 28)
  have HX := ((Blk.new w 40 #[.slice A1 d.t.us.length c1, .slice A2 d.t.bs.length c2, .slice A3 d.t.ns.length c3, .int .i64 d.now, .slice A5 d.past.length c5]).alloc (.cells #[.slice none 0 0, .slice none 0 0, .slice none 0 0, .int .i64 0, .slice none 0 0] 28)).alloc (.cells #[.slice none 0 0, .slice none 0 0, .slice none 0 0, .int .i64 0, .slice none 0 0] 28)
  have HZ : Blk (((w.alloc (.cells #[.slice A1 d.t.us.length c1, .slice A2 d.t.bs.length c2, .slice A3 d.t.ns.length c3, .int .i64 d.now, .slice A5 d.past.length c5] 40)).alloc (.cells #[.slice none 0 0, .slice none 0 0, .slice none 0 0, .int .i64 0, .slice none 0 0] 28)).alloc (.cells #[.slice none 0 0, .slice none 0 0, .slice none 0 0, .int .i64 0, .slice none 0 0] 28)) (w.heap.size + 1) 28 #[.slice none 0 0, .slice none 0 0, .slice none 0 0, .int .i64 0, .slice none 0 0] := (blk_new_at _ (by simp)).alloc _
  have HO : Blk (((w.alloc (.cells #[.slice A1 d.t.us.length c1, .slice A2 d.t.bs.length c2, .slice A3 d.t.ns.length c3, .int .i64 d.now, .slice A5 d.past.length c5] 40)).alloc (.cells #[.slice none 0 0, .slice none 0 0, .slice none 0 0, .int .i64 0, .slice none 0 0] 28)).alloc (.cells #[.slice none 0 0, .slice none 0 0, .slice none 0 0, .int .i64 0, .slice none 0 0] 28)) (w.heap.size + 2) 28 #[.slice none 0 0, .slice none 0 0, .slice none 0 0, .int .i64 0, .slice none 0 0] := blk_new_at _ (by simp)
  have HT : Tng (((w.alloc (.cells #[.slice A1 d.t.us.length c1, .slice A2 d.t.bs.length c2, .slice A3 d.t.ns.length c3, .int .i64 d.now, .slice A5 d.past.length c5] 40)).alloc (.cells #[.slice none 0 0, .slice none 0 0, .slice none 0 0, .int .i64 0, .slice none 0 0] 28)).alloc (.cells #[.slice none 0 0, .slice none 0 0, .slice none 0 0, .int .i64 0, .slice none 0 0] 28)) (.agg #[.slice A1 d.t.us.length c1, .slice A2 d.t.bs.length c2, .slice A3 d.t.ns.length c3]) d.t := ⟨A1, c1, A2, c2, A3, c3, rfl, h1.below hB (Nat.le_refl _), h2.below hB (Nat.le_refl _), h3.below hB (Nat.le_refl _)⟩
  have H5 := h5.below hB (Nat.le_refl _)
  have hne5 : Hid (∀ b o, A5 = some ⟨b, o, none⟩ → 0 < d.past.length → b ≠ w.heap.size + 2) := fun b o e hn => by
    obtain ⟨b', o', e', hlt, -⟩ := h5.at_ hn
    rw [e] at e'; cases e'; omega
  have K1 := Lib.hid (toTongue_any _ d.t _ HT hf.t)
  replace hB := Lib.hid hB
  replace HX := Lib.hid HX
  replace HZ := Lib.hid HZ
  replace HO := Lib.hid HO
  replace H5 := Lib.hid H5
  clear h h1 h2 h3 h5 hf HT
  go_enter Try.func16, Try.ntmps16
  go_upto_region 2 with (fail)
  generalize ((w.alloc (.cells #[.slice A1 d.t.us.length c1, .slice A2 d.t.bs.length c2, .slice A3 d.t.ns.length c3, .int .i64 d.now, .slice A5 d.past.length c5] 40)).alloc (.cells #[.slice none 0 0, .slice none 0 0, .slice none 0 0, .int .i64 0, .slice none 0 0] 28)).alloc (.cells #[.slice none 0 0, .slice none 0 0, .slice none 0 0, .int .i64 0, .slice none 0 0] 28) = W at *
  obtain ⟨x0, x1, x2, x3, x4⟩ := (blk5 HX.out).1
  go_wp2_with (go_at_call 40; refine K1.out.mono ?_; rintro e w1 ⟨v1, rfl, o1, b1⟩; obtain ⟨X1, k1, X2, k2, X3, k3, rfl⟩ := o1.shape; refine Hid.out ?_)
  have HX1 := HX.out.below b1 HX.out.lt
  have HZ1 := HZ.out.below b1 HZ.out.lt
  have HO1 := HO.out.below b1 HO.out.lt
  have hB1 := hB.out.trans (b1.mono hB.out.size)
  have H51 := H5.out.below b1 (Nat.le_refl _)
  have hWs := HO.out.lt
  have hs1 := b1.size
  have XA := (((HX1.far (p := ⟨w.heap.size + 2, 0, none⟩) (by simp) (.slice X1 d.t.us.length k1)).far (p := ⟨w.heap.size + 2, 1, none⟩) (by simp) (.slice X2 d.t.bs.length k2)).far (p := ⟨w.heap.size + 2, 2, none⟩) (by simp) (.slice X3 d.t.ns.length k3)).far (p := ⟨w.heap.size + 2, 3, none⟩) (by simp) (.int .i64 d.now)
  have ZA := (((HZ1.far (p := ⟨w.heap.size + 2, 0, none⟩) (by simp) (.slice X1 d.t.us.length k1)).far (p := ⟨w.heap.size + 2, 1, none⟩) (by simp) (.slice X2 d.t.bs.length k2)).far (p := ⟨w.heap.size + 2, 2, none⟩) (by simp) (.slice X3 d.t.ns.length k3)).far (p := ⟨w.heap.size + 2, 3, none⟩) (by simp) (.int .i64 d.now)
  have OA := (((HO1.set_ 0 (.slice X1 d.t.us.length k1)).set_ 1 (.slice X2 d.t.bs.length k2)).set_ 2 (.slice X3 d.t.ns.length k3)).set_ 3 (.int .i64 d.now)
  simp at OA
  have BA := (((hB1.setCell (p := ⟨w.heap.size + 2, 0, none⟩) (by simp) (.slice X1 d.t.us.length k1)).setCell (p := ⟨w.heap.size + 2, 1, none⟩) (by simp) (.slice X2 d.t.bs.length k2)).setCell (p := ⟨w.heap.size + 2, 2, none⟩) (by simp) (.slice X3 d.t.ns.length k3)).setCell (p := ⟨w.heap.size + 2, 3, none⟩) (by simp) (.int .i64 d.now)
  have T1 := (own_tngD (u0 := .slice X1 d.t.us.length k1) (u1 := .slice X2 d.t.bs.length k2) (u2 := .slice X3 d.t.ns.length k3) (u3 := .int .i64 d.now) o1 HO1)
  have I1 : Ints ((((w1.setCell ⟨w.heap.size + 2, 0, none⟩ (.slice X1 d.t.us.length k1)).setCell ⟨w.heap.size + 2, 1, none⟩ (.slice X2 d.t.bs.length k2)).setCell ⟨w.heap.size + 2, 2, none⟩ (.slice X3 d.t.ns.length k3)).setCell ⟨w.heap.size + 2, 3, none⟩ (.int .i64 d.now)) .i64 A5 d.past.length c5 d.past := ints_offD HO1 H51 hne5.out
  replace XA := Lib.hid XA
  replace ZA := Lib.hid ZA
  replace OA := Lib.hid OA
  replace BA := Lib.hid BA
  replace T1 := Lib.hid T1
  replace I1 := Lib.hid I1
  clear x0 x1 x2 x3 x4
  obtain ⟨x0, x1, x2, x3, x4⟩ := (blk5 HX1).1
  obtain ⟨⟨y0, y1, y2, y3, y4⟩, ⟨f0, f1, f2, f3, f4⟩⟩ := blk5 HO1
  clear o1 b1 HX1 HZ1 HO1 hB1 H51 K1 HX HZ HO hB H5
  have hs2 : W.heap.size ≤ ((((w1.setCell ⟨w.heap.size + 2, 0, none⟩ (.slice X1 d.t.us.length k1)).setCell ⟨w.heap.size + 2, 1, none⟩ (.slice X2 d.t.bs.length k2)).setCell ⟨w.heap.size + 2, 2, none⟩ (.slice X3 d.t.ns.length k3)).setCell ⟨w.heap.size + 2, 3, none⟩ (.int .i64 d.now)).heap.size := by simpa using hs1
  replace hs2 := Lib.hid hs2
  refine Lib.hid ?_
  go_upto_region 4 with (fail)
  generalize (((w1.setCell ⟨w.heap.size + 2, 0, none⟩ (.slice X1 d.t.us.length k1)).setCell ⟨w.heap.size + 2, 1, none⟩ (.slice X2 d.t.bs.length k2)).setCell ⟨w.heap.size + 2, 2, none⟩ (.slice X3 d.t.ns.length k3)).setCell ⟨w.heap.size + 2, 3, none⟩ (.int .i64 d.now) = V at *
  clear x0 x1 x2 x3 x4 y0 y1 y2 y3 y4 f0 f1 f2 f3 f4
  obtain ⟨x0, x1, x2, x3, x4⟩ := (blk5 XA.out).1
  go_wp2_with (go_at_call 41; refine (toIntS_any A5 _ c5 d.past V I1.out hp).mono ?_; rintro e w2 ⟨gi, rfl, o2, b2⟩; refine Hid.out ?_)
  have o2r : OwnI w2 V.heap.size (.slice (some ⟨gi, 0, none⟩) d.past.length d.past.length) d.past := o2.row hp
  have ZB := ZA.out.below b2 ZA.out.lt
  have OB := OA.out.below b2 OA.out.lt
  have BB := BA.out.trans (b2.mono BA.out.size)
  have TB := T1.out.below b2 (Nat.le_refl _)
  have hs3 := hs2.out
  have QB := OB.set_ 4 (.slice (some ⟨gi, 0, none⟩) d.past.length d.past.length)
  simp at QB
  have ZC := ZB.far (p := ⟨w.heap.size + 2, 4, none⟩) (by simp) (.slice (some ⟨gi, 0, none⟩) d.past.length d.past.length)
  have PC : OwnI (w2.setCell ⟨w.heap.size + 2, 4, none⟩ (.slice (some ⟨gi, 0, none⟩) d.past.length d.past.length)) V.heap.size (.slice (some ⟨gi, 0, none⟩) d.past.length d.past.length) d.past := own_set o2r (own_blk_ne o2r OB (by decide))
  have TC := (own_tngD1 (i := 4) (u := .slice (some ⟨gi, 0, none⟩) d.past.length d.past.length) TB OB)
  have BC := BB.setCell (p := ⟨w.heap.size + 2, 4, none⟩) (by simp) (.slice (some ⟨gi, 0, none⟩) d.past.length d.past.length)
  have ap : ∀ k, (Value.slice X2 d.t.bs.length k2).ownBlock = some k → (Value.slice (some ⟨gi, 0, none⟩) d.past.length d.past.length).ownBlock ≠ some k := fun k hk he => by
    obtain ⟨y1, y2, y3, ee, -, q2, -, -⟩ := T1.out.ex
    cases ee
    have e1 := (World.ownsRow.lt q2 k hk).2
    have e2 := (World.ownsRow.lt o2r k he).1
    omega
  obtain ⟨⟨y0, y1, y2, y3, y4⟩, ⟨f0, f1, f2, f3, f4⟩⟩ := blk5 OB
  replace QB := Lib.hid QB
  replace ZC := Lib.hid ZC
  replace PC := Lib.hid PC
  replace TC := Lib.hid TC
  replace BC := Lib.hid BC
  replace ap := Lib.hid ap
  clear x0 x1 x2 x3 x4 o2 o2r b2 ZB OB BB TB XA ZA OA BA T1 I1
  refine Lib.hid ?_
  go_upto_region 5 with (fail)
  generalize w2.setCell ⟨w.heap.size + 2, 4, none⟩ (.slice (some ⟨gi, 0, none⟩) d.past.length d.past.length) = V9 at *
  clear y0 y1 y2 y3 y4 f0 f1 f2 f3 f4
  obtain ⟨x0, x1, x2, x3, x4⟩ := (blk5 QB.out).1
  obtain ⟨⟨z0, z1, z2, z3, z4⟩, ⟨e0, e1, e2, e3, e4⟩⟩ := blk5 ZC.out
  have HF := fun u0 u1 u2 u3 u4 => (own_dk5 (u0 := u0) (u1 := u1) (u2 := u2) (u3 := u3) (u4 := u4) (now := d.now) (d := d) rfl TC.out (PC.out.mono (B' := W.heap.size) hs3) ap.out ZC.out).mono (B' := w.heap.size) (by omega)
  have HG := fun u0 u1 u2 u3 u4 => below_dk5 (u0 := u0) (u1 := u1) (u2 := u2) (u3 := u3) (u4 := u4) (g := w.heap.size + 1) BC.out (by omega)
  replace HF := Lib.hid HF
  replace HG := Lib.hid HG
  clear QB ZC PC TC BC
  go_wp2
  refine bodyPost_ret (v := .agg #[.slice X1 d.t.us.length k1, .slice X2 d.t.bs.length k2, .slice X3 d.t.ns.length k3, .int .i64 d.now, .slice (some ⟨gi, 0, none⟩) d.past.length d.past.length]) (by simp [results, Try.results16, go_sem, z0, z1, z2, z3, z4]) rfl ?_
  exact ⟨_, rfl, HF.out _ _ _ _ _, HG.out _ _ _ _ _⟩

set_option maxRecDepth 100000 in
set_option maxHeartbeats 2000000 in
theorem eqDesk_same (v v' : Value) (d : Dk) (w : World) (h : Dsk w v d) (h' : Dsk w v' d) (hf : d.Fine) :
    Calls Try.prog 19 #[v, v'] w fun e w' => e = .returned (.bool true) ∧ Below w.heap.size w w' := by
  obtain ⟨A1, c1, A2, c2, A3, c3, A5, c5, rfl, h1, h2, h3, h5⟩ := h.ex
  obtain ⟨B1, d1, B2, d2, B3, d3, B5, d5, rfl, k1, k2, k3, k5⟩ := h'.ex
  have hp := hf.past
  have hB := ((Below.refl w.heap.size w).alloc (Nat.le_refl _) (.cells #[.slice A1 d.t.us.length c1, .slice A2 d.t.bs.length c2, .slice A3 d.t.ns.length c3, .int .i64 d.now, .slice A5 d.past.length c5] 28)).alloc (by simp) (.cells #[.slice B1 d.t.us.length d1, .slice B2 d.t.bs.length d2, .slice B3 d.t.ns.length d3, .int .i64 d.now, .slice B5 d.past.length d5] 28)
  have HX := (Blk.new w 28 #[.slice A1 d.t.us.length c1, .slice A2 d.t.bs.length c2, .slice A3 d.t.ns.length c3, .int .i64 d.now, .slice A5 d.past.length c5]).alloc (.cells #[.slice B1 d.t.us.length d1, .slice B2 d.t.bs.length d2, .slice B3 d.t.ns.length d3, .int .i64 d.now, .slice B5 d.past.length d5] 28)
  have HY : Blk ((w.alloc (.cells #[.slice A1 d.t.us.length c1, .slice A2 d.t.bs.length c2, .slice A3 d.t.ns.length c3, .int .i64 d.now, .slice A5 d.past.length c5] 28)).alloc (.cells #[.slice B1 d.t.us.length d1, .slice B2 d.t.bs.length d2, .slice B3 d.t.ns.length d3, .int .i64 d.now, .slice B5 d.past.length d5] 28)) (w.heap.size + 1) 28 #[.slice B1 d.t.us.length d1, .slice B2 d.t.bs.length d2, .slice B3 d.t.ns.length d3, .int .i64 d.now, .slice B5 d.past.length d5] := blk_new_at _ (by simp)
  have T1 : Tng w (.agg #[.slice A1 d.t.us.length c1, .slice A2 d.t.bs.length c2, .slice A3 d.t.ns.length c3]) d.t := ⟨A1, c1, A2, c2, A3, c3, rfl, h1, h2, h3⟩
  have T2 : Tng w (.agg #[.slice B1 d.t.us.length d1, .slice B2 d.t.bs.length d2, .slice B3 d.t.ns.length d3]) d.t := ⟨B1, d1, B2, d2, B3, d3, rfl, k1, k2, k3⟩
  have K1 := Lib.hid (eqTongue_same _ _ d.t _ (T1.below hB (Nat.le_refl _)) (T2.below hB (Nat.le_refl _)) hf.t)
  have K2 := Lib.hid (fun W (hb : Below w.heap.size w W) => by have hh := eqIntS_any A5 B5 d.past.length c5 d.past.length d5 d.past d.past W (h5.below hb (Nat.le_refl _)) (k5.below hb (Nat.le_refl _)) hp hp; rw [decide_eq_true rfl] at hh; exact hh)
  have hq : (d.now != d.now) = false := by simp
  replace hB := Lib.hid hB
  replace HX := Lib.hid HX
  replace HY := Lib.hid HY
  clear h h' h1 h2 h3 h5 k1 k2 k3 k5 hf T1 T2
  go_enter Try.func19, Try.ntmps19
  go_upto_region 1 with (fail)
  generalize (w.alloc (.cells #[.slice A1 d.t.us.length c1, .slice A2 d.t.bs.length c2, .slice A3 d.t.ns.length c3, .int .i64 d.now, .slice A5 d.past.length c5] 28)).alloc (.cells #[.slice B1 d.t.us.length d1, .slice B2 d.t.bs.length d2, .slice B3 d.t.ns.length d3, .int .i64 d.now, .slice B5 d.past.length d5] 28) = W at *
  obtain ⟨x0, x1, x2, x3, x4⟩ := (blk5 HX.out).1
  obtain ⟨y0, y1, y2, y3, y4⟩ := (blk5 HY.out).1
  go_wp2_with (fail)
  refine K1.out.mono ?_
  rintro e w1 ⟨rfl, b1⟩
  have hB1 := Lib.hid (hB.out.trans (b1.mono hB.out.size))
  have HX1 := HX.out.below b1 HX.out.lt
  have HY1 := HY.out.below b1 HY.out.lt
  clear x0 x1 x2 x3 x4 y0 y1 y2 y3 y4 b1 K1 HX HY hB
  obtain ⟨x0, x1, x2, x3, x4⟩ := (blk5 HX1).1
  obtain ⟨y0, y1, y2, y3, y4⟩ := (blk5 HY1).1
  have K3 := Lib.hid (K2.out _ hB1.out)
  clear HX1 HY1 K2
  go_wp2_with (fail)
  refine K3.out.mono ?_
  rintro e _ ⟨rfl, m1, rfl⟩
  go_wp2
  go_ret
  exact ⟨rfl, below_drewN hB1.out _⟩
end Go.Proofs.Ytjnlpknjdclalaa
