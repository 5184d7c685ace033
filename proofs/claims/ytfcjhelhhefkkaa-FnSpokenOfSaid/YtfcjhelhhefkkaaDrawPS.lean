/-
  The draw of a tongue and a row.
-/
import Derived.Test.YtfcjhelhhefkkaaDrawPB
import Derived.Test.YtfcjhelhhefkkaaGC
namespace Go.Proofs.Ytfcjhelhhefkkaa
open Go.RowKit

/-- A tongue and a text are drawn. -/
def DrawnTS (w : World) (e : Ending) (w' : World) : Prop := ∃ v t s, e = .returned (.tuple #[v, .string s]) ∧ OwnTng w' w.heap.size v t ∧ SmallT 40 t ∧ s.size ≤ 63 ∧ Below w.heap.size w w'

set_option maxRecDepth 100000 in
set_option maxHeartbeats 8000000 in
theorem drawSpokenOf_any (A : Option Addr) (n c : Nat) (xs : List Int) (w : World) (h : Ints w .u8 A n c xs) (hn : n ≤ 1048576) (hwf : ∀ x ∈ xs, (Lit.int .u8 x).wf = true) (hc : c ≤ maxLen) :
    Calls Try.prog 37 #[.slice A n c] w (DrawnTS w) := by
  have hB0 : Below w.heap.size w (w.alloc zeroTng) := (Below.refl _ _).alloc (Nat.le_refl _) _
  have HO := Lib.hid (open_any A n c xs (w.alloc zeroTng) (h.below hB0 (Nat.le_refl _)) hn hwf hc)
  have HB0 := Lib.hid hB0
  have HX := Lib.hid (Blk.new w 43 #[.slice none 0 0, .slice none 0 0, .slice none 0 0])
  clear h hwf hc hB0
  go_enter Try.func37, Try.ntmps37
  go_wp2_with (fail)
  refine HO.out.mono ?_
  rintro e w1 ⟨rfl, hr, hb, -⟩
  have hX1 := Lib.hid (HX.out.below hb (by simp))
  have hB1 := Lib.hid (HB0.out.trans (hb.mono (by simp)))
  have hs1 := hb.size
  simp only [World.size_alloc] at hs1
  rw [World.size_alloc] at hr
  clear hb HO
  go_wp2_with (fail)
  refine (drawn_any _ 0 9 w1 hr (by omega) (by omega) (by omega)).mono ?_
  rintro e w2 ⟨v, t, q, rfl, ho, hsm, hr2, hq, hg⟩
  obtain ⟨A1, c1, A2, c2, A3, c3, rfl⟩ := ho.shape
  have hgl := hr.lt
  replace ho := Lib.hid ho
  replace hsm := Lib.hid hsm
  replace hg := Lib.hid hg
  clear hr
  go_wp2_with (fail)
  refine (digits_any _ q 9 w2 hr2 (by omega) (by omega)).mono ?_
  rintro e w3 ⟨s, q3, rfl, hs, hq3, HD⟩
  have hgg := hg.out.trans HD.gr
  have hX2 : Blk w3 w.heap.size 43 #[.slice none 0 0, .slice none 0 0, .slice none 0 0] := hX1.out.grown hgg (by simp)
  have hB2 := below_read hB1.out hgg (by omega) (by simp)
  have ho5 := ho.out.kept HD.gr hgl
  obtain ⟨r0, r1, r2, f0, f1, f2⟩ := blk3 hX2
  have HF := fun u0 u1 u2 => ho5.set3 (u0 := u0) (u1 := u1) (u2 := u2) hX2
  replace HF := Lib.hid HF
  replace hB2 := Lib.hid hB2
  clear hr2 HD hgg hg ho ho5 hX2 hX1 hB1 HX HB0
  go_wp2
  refine bodyPost_ret (v := .tuple #[(.agg #[.slice A1 t.us.length c1, .slice A2 t.bs.length c2, .slice A3 t.ns.length c3]), .string s]) (by simp [results, Try.results37, go_sem, r0, r1, r2]) rfl ?_
  exact ⟨_, t, _, rfl, (HF.out _ _ _).mono (by omega), hsm.out, hs, below_tng3 hB2.out (Nat.le_refl _)⟩
end Go.Proofs.Ytfcjhelhhefkkaa
