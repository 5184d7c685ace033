/-
  Contracts of the draws of bases with counts, as the laws call them.
-/
import Derived.Test.YtkjcbahdpmhfgaaDrawE
import Derived.Test.YtkjcbahdpmhfgaaMathB
namespace Go.Proofs.Ytkjcbahdpmhfgaa
open Go.RowKit

theorem drawSumOf_any (A : Option Addr) (n c : Nat) (xs : List Int) (w : World) (h : Ints w .u8 A n c xs) (hn : n ≤ 1048576) (hwf : ∀ x ∈ xs, (Lit.int .u8 x).wf = true) (hc : c ≤ maxLen) :
    Calls Try.prog 23 #[.slice A n c] w (DrawnTwo w) := by
  have HO := Lib.hid (open_any A n c xs w h hn hwf hc)
  clear h hwf hc
  go_enter Try.func23, Try.ntmps23
  go_wp2_with (fail)
  refine HO.out.mono ?_
  rintro e w1 ⟨rfl, hr, hb, -⟩
  go_wp2_with (fail)
  refine (counts_any _ 0 w1 hr (by omega)).mono ?_
  rintro e w2 ⟨A1, n1, c1, xs1, A2, n2, c2, ys, rfl, i1, f1, hn1, i2, f2, hn2, hg⟩
  have HF : DrawnTwo w (.returned (.tuple #[.slice A1 n1 c1, .slice A2 n2 c2])) w2 := ⟨_, _, _, xs1, _, _, _, ys, rfl, i1, f1, hn1, i2, f2, hn2, hb.grown hg hb.size (fun k e => by cases e; exact Nat.le_refl _)⟩
  replace HF := Lib.hid HF
  clear i1 i2 hg hb hr
  go_wp2
  go_ret2
  exact HF.out

theorem drawGreedyOk_any (A : Option Addr) (n c : Nat) (xs : List Int) (w : World) (h : Ints w .u8 A n c xs) (hn : n ≤ 1048576) (hwf : ∀ x ∈ xs, (Lit.int .u8 x).wf = true) (hc : c ≤ maxLen) :
    Calls Try.prog 25 #[.slice A n c] w (DrawnTwo w) := by
  have HO := Lib.hid (open_any A n c xs w h hn hwf hc)
  clear h hwf hc
  go_enter Try.func25, Try.ntmps25
  go_wp2_with (fail)
  refine HO.out.mono ?_
  rintro e w1 ⟨rfl, hr, hb, -⟩
  go_wp2_with (fail)
  refine (counts_any _ 0 w1 hr (by omega)).mono ?_
  rintro e w2 ⟨A1, n1, c1, xs1, A2, n2, c2, ys, rfl, i1, f1, hn1, i2, f2, hn2, hg⟩
  have HF : DrawnTwo w (.returned (.tuple #[.slice A1 n1 c1, .slice A2 n2 c2])) w2 := ⟨_, _, _, xs1, _, _, _, ys, rfl, i1, f1, hn1, i2, f2, hn2, hb.grown hg hb.size (fun k e => by cases e; exact Nat.le_refl _)⟩
  replace HF := Lib.hid HF
  clear i1 i2 hg hb hr
  go_wp2
  go_ret2
  exact HF.out
end Go.Proofs.Ytkjcbahdpmhfgaa
