/-
  Contracts of the draws of a tongue and words, and of a tongue and a text.
-/
import Derived.Test.YteemgkabhkdeaaaDrawSe
import Derived.Test.YteemgkabhkdeaaaDrawR
namespace Go.Proofs.Yteemgkabhkdeaaa
open Go.RowKit

/-- While a law runs: the drawn tongue in its box. -/
structure LSt (w : World) (z : Nat) (cs : Array Value) (t : Tg) (W : World) : Prop where
  low : Below w.heap.size w W
  hz : Blk W z 26 cs
  ht : Tng W (.agg cs) t
theorem LSt.step {w W W' : World} {z : Nat} {cs : Array Value} {t : Tg} (h : LSt w z cs t W) (b : Below W.heap.size W W') : LSt w z cs t W' :=
  ⟨h.low.trans (b.mono h.low.size), h.hz.below b h.hz.lt, h.ht.below b (Nat.le_refl _)⟩

/-- A tongue and words are drawn. -/
def DrawnSaid (w : World) (e : Ending) (w' : World) : Prop := ∃ v t u xs, e = .returned (.tuple #[v, u]) ∧ OwnTng w' w.heap.size v t ∧ OwnStrs w' w.heap.size u xs ∧ SmallT 40 t ∧ SmallW 44 xs ∧ Below w.heap.size w w'

set_option maxRecDepth 100000 in
set_option maxHeartbeats 2000000 in
theorem drawReadName_any (A : Option Addr) (n c : Nat) (xs : List Int) (w : World) (h : Ints w .u8 A n c xs) (hn : n ≤ 1048576) (hwf : ∀ x ∈ xs, (Lit.int .u8 x).wf = true) (hc : c ≤ maxLen) :
    Calls Try.prog 8 #[.slice A n c] w (DrawnSaid w) := by
  have hB0 : Below w.heap.size w (w.alloc zeroTng) := (Below.refl _ _).alloc (Nat.le_refl _) _
  have HO := Lib.hid (open_any A n c xs (w.alloc zeroTng) (h.below hB0 (Nat.le_refl _)) hn hwf hc)
  have HB0 := Lib.hid hB0
  have HX := Lib.hid (Blk.new w 26 #[.slice none 0 0, .slice none 0 0, .slice none 0 0])
  clear h hwf hc hB0
  go_enter Try.func8, Try.ntmps8
  go_wp2_with (fail)
  refine HO.out.mono ?_
  rintro e w1 ⟨rfl, hr, hb, -⟩
  have hX1 := Lib.hid (HX.out.below hb (by simp))
  have hB1 := Lib.hid (HB0.out.trans (hb.mono (by simp)))
  have hs1 := hb.size
  simp only [World.size_alloc] at hs1
  rw [World.size_alloc] at hr
  clear hb HO
  go_wp2_with (fail)
  refine (said_any _ w1 hr).mono ?_
  rintro e w2 ⟨v, t, u, ys, q, rfl, ho, hou, hsm, hsw, -, -, hg⟩
  obtain ⟨A1, c1, A2, c2, A3, c3, rfl⟩ := ho.shape
  obtain ⟨A4, c4, rfl, -⟩ := hou.strs
  have hX2 : Blk w2 w.heap.size 26 #[.slice none 0 0, .slice none 0 0, .slice none 0 0] := hX1.out.grown hg (by simp)
  have hB2 := below_read hB1.out hg (by omega) (by simp)
  obtain ⟨r0, r1, r2, f0, f1, f2⟩ := blk3 hX2
  have HF := fun u0 u1 u2 => ho.set3 (u0 := u0) (u1 := u1) (u2 := u2) hX2
  have HU : ∀ u0 u1 u2 : Value, OwnStrs (((w2.setCell ⟨w.heap.size, 0, none⟩ u0).setCell ⟨w.heap.size, 1, none⟩ u1).setCell ⟨w.heap.size, 2, none⟩ u2) w1.heap.size (.slice A4 ys.length c4) ys := fun u0 u1 u2 => own_far (own_far (own_far hou (by omega) _) (by omega) _) (by omega) _
  replace HF := Lib.hid HF
  replace HU := Lib.hid HU
  replace hB2 := Lib.hid hB2
  replace hsm := Lib.hid hsm
  replace hsw := Lib.hid hsw
  clear hr hg ho hou hX2
  go_wp2
  refine bodyPost_ret (v := .tuple #[.agg #[.slice A1 t.us.length c1, .slice A2 t.bs.length c2, .slice A3 t.ns.length c3], .slice A4 ys.length c4]) (by simp [results, Try.results8, go_sem, r0, r1, r2]) rfl ?_
  exact ⟨_, t, _, ys, rfl, (HF.out _ _ _).mono (by omega), OwnStrs.mono (HU.out _ _ _) (by omega), hsm.out, hsw.out, below_tng3 hB2.out (Nat.le_refl _)⟩
set_option maxRecDepth 100000 in
set_option maxHeartbeats 2000000 in
theorem drawNextName_any (A : Option Addr) (n c : Nat) (xs : List Int) (w : World) (h : Ints w .u8 A n c xs) (hn : n ≤ 1048576) (hwf : ∀ x ∈ xs, (Lit.int .u8 x).wf = true) (hc : c ≤ maxLen) :
    Calls Try.prog 14 #[.slice A n c] w (DrawnSaid w) := by
  have hB0 : Below w.heap.size w (w.alloc zeroTng) := (Below.refl _ _).alloc (Nat.le_refl _) _
  have HO := Lib.hid (open_any A n c xs (w.alloc zeroTng) (h.below hB0 (Nat.le_refl _)) hn hwf hc)
  have HB0 := Lib.hid hB0
  have HX := Lib.hid (Blk.new w 26 #[.slice none 0 0, .slice none 0 0, .slice none 0 0])
  clear h hwf hc hB0
  go_enter Try.func14, Try.ntmps14
  go_wp2_with (fail)
  refine HO.out.mono ?_
  rintro e w1 ⟨rfl, hr, hb, -⟩
  have hX1 := Lib.hid (HX.out.below hb (by simp))
  have hB1 := Lib.hid (HB0.out.trans (hb.mono (by simp)))
  have hs1 := hb.size
  simp only [World.size_alloc] at hs1
  rw [World.size_alloc] at hr
  clear hb HO
  go_wp2_with (fail)
  refine (said_any _ w1 hr).mono ?_
  rintro e w2 ⟨v, t, u, ys, q, rfl, ho, hou, hsm, hsw, -, -, hg⟩
  obtain ⟨A1, c1, A2, c2, A3, c3, rfl⟩ := ho.shape
  obtain ⟨A4, c4, rfl, -⟩ := hou.strs
  have hX2 : Blk w2 w.heap.size 26 #[.slice none 0 0, .slice none 0 0, .slice none 0 0] := hX1.out.grown hg (by simp)
  have hB2 := below_read hB1.out hg (by omega) (by simp)
  obtain ⟨r0, r1, r2, f0, f1, f2⟩ := blk3 hX2
  have HF := fun u0 u1 u2 => ho.set3 (u0 := u0) (u1 := u1) (u2 := u2) hX2
  have HU : ∀ u0 u1 u2 : Value, OwnStrs (((w2.setCell ⟨w.heap.size, 0, none⟩ u0).setCell ⟨w.heap.size, 1, none⟩ u1).setCell ⟨w.heap.size, 2, none⟩ u2) w1.heap.size (.slice A4 ys.length c4) ys := fun u0 u1 u2 => own_far (own_far (own_far hou (by omega) _) (by omega) _) (by omega) _
  replace HF := Lib.hid HF
  replace HU := Lib.hid HU
  replace hB2 := Lib.hid hB2
  replace hsm := Lib.hid hsm
  replace hsw := Lib.hid hsw
  clear hr hg ho hou hX2
  go_wp2
  refine bodyPost_ret (v := .tuple #[.agg #[.slice A1 t.us.length c1, .slice A2 t.bs.length c2, .slice A3 t.ns.length c3], .slice A4 ys.length c4]) (by simp [results, Try.results14, go_sem, r0, r1, r2]) rfl ?_
  exact ⟨_, t, _, ys, rfl, (HF.out _ _ _).mono (by omega), OwnStrs.mono (HU.out _ _ _) (by omega), hsm.out, hsw.out, below_tng3 hB2.out (Nat.le_refl _)⟩
end Go.Proofs.Yteemgkabhkdeaaa
