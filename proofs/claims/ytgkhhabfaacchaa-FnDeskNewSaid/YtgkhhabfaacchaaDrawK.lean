/-
  The draw of DeskNew.
-/
import Derived.Test.YtgkhhabfaacchaaGD
namespace Go.Proofs.Ytgkhhabfaacchaa
open Go.RowKit

set_option maxRecDepth 100000 in
set_option maxHeartbeats 2000000 in
theorem drawDeskNew_any (A : Option Addr) (n c : Nat) (xs : List Int) (w : World) (h : Ints w .u8 A n c xs) (hn : n ≤ 1048576) (hwf : ∀ x ∈ xs, (Lit.int .u8 x).wf = true) (hc : c ≤ maxLen) :
    Calls Try.prog 15 #[.slice A n c] w (DrawnNum w) := by
  have hB0 : Below w.heap.size w (w.alloc zeroTng) := (Below.refl _ _).alloc (Nat.le_refl _) _
  have HO := Lib.hid (open_any A n c xs (w.alloc zeroTng) (h.below hB0 (Nat.le_refl _)) hn hwf hc)
  have HB0 := Lib.hid hB0
  have HX := Lib.hid (Blk.new w 26 #[.slice none 0 0, .slice none 0 0, .slice none 0 0])
  clear h hwf hc hB0
  go_enter Try.func15, Try.ntmps15
  go_wp2_with (fail)
  refine HO.out.mono ?_
  rintro e w1 ⟨rfl, hr, hb, -⟩
  have hX1 := Lib.hid (HX.out.below hb (by simp))
  have hB1 := Lib.hid (HB0.out.trans (hb.mono (by simp)))
  have hs1 := hb.size
  simp only [World.size_alloc] at hs1
  rw [World.size_alloc] at hr
  clear hb HO
  go_wp2_with (fail)
  refine (named_any _ w1 hr).mono ?_
  rintro e w2 ⟨v, t, m, q, rfl, ho, hsm, hm, -, -, hg⟩
  obtain ⟨A1, c1, A2, c2, A3, c3, rfl⟩ := ho.shape
  have hX2 : Blk w2 w.heap.size 26 #[.slice none 0 0, .slice none 0 0, .slice none 0 0] := hX1.out.grown hg (by simp)
  have hB2 := below_read hB1.out hg (by omega) (by simp)
  obtain ⟨r0, r1, r2, f0, f1, f2⟩ := blk3 hX2
  have HF := fun u0 u1 u2 => ho.set3 (u0 := u0) (u1 := u1) (u2 := u2) hX2
  replace HF := Lib.hid HF
  replace hB2 := Lib.hid hB2
  replace hsm := Lib.hid hsm
  clear hr hg ho hX2
  go_wp2
  refine bodyPost_ret (v := .tuple #[.agg #[.slice A1 t.us.length c1, .slice A2 t.bs.length c2, .slice A3 t.ns.length c3], .int .i64 m]) (by simp [results, Try.results15, go_sem, r0, r1, r2]) rfl ?_
  exact ⟨_, t, m, rfl, (HF.out _ _ _).mono (by omega), hsm.out, hm, below_tng3 hB2.out (Nat.le_refl _)⟩
end Go.Proofs.Ytgkhhabfaacchaa
