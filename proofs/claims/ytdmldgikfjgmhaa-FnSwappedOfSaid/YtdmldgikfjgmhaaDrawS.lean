/-
  The contract of the draw of a tongue and two places.
-/
import Derived.Test.YtdmldgikfjgmhaaDrawU
namespace Go.Proofs.Ytdmldgikfjgmhaa
open Go.RowKit

/-- A tongue and two places are drawn. -/
def DrawnSw (w : World) (e : Ending) (w' : World) : Prop := ∃ v t a b, e = .returned (.tuple #[v, .int .i64 a, .int .i64 b]) ∧ OwnTng w' w.heap.size v t ∧ SmallT 40 t ∧ (-1 ≤ a ∧ a ≤ 8) ∧ (0 ≤ b ∧ b ≤ 8) ∧ Below w.heap.size w w'

set_option maxRecDepth 100000 in
set_option maxHeartbeats 2000000 in
theorem drawSwappedOf_any (A : Option Addr) (n c : Nat) (xs : List Int) (w : World) (h : Ints w .u8 A n c xs) (hn : n ≤ 1048576) (hwf : ∀ x ∈ xs, (Lit.int .u8 x).wf = true) (hc : c ≤ maxLen) :
    Calls Try.prog 32 #[.slice A n c] w (DrawnSw w) := by
  have hB0 : Below w.heap.size w (w.alloc zeroTng) := (Below.refl _ _).alloc (Nat.le_refl _) _
  have HO := Lib.hid (open_any A n c xs (w.alloc zeroTng) (h.below hB0 (Nat.le_refl _)) hn hwf hc)
  have HB0 := Lib.hid hB0
  have HX := Lib.hid (Blk.new w 30 #[.slice none 0 0, .slice none 0 0, .slice none 0 0])
  clear h hwf hc hB0
  go_enter Try.func32, Try.ntmps32
  go_wp2_with (fail)
  refine HO.out.mono ?_
  rintro e w1 ⟨rfl, hr, hb, -⟩
  have hX1 := Lib.hid (HX.out.below hb (by simp))
  have hB1 := Lib.hid (HB0.out.trans (hb.mono (by simp)))
  have hs1 := hb.size
  simp only [World.size_alloc] at hs1
  rw [World.size_alloc] at hr
  clear hb HO
  go_wp2_with (fail)
  refine (drawn_any _ 0 12 w1 hr (by omega) (by omega) (by omega)).mono ?_
  rintro e w2 ⟨v, t, q, rfl, ho, hsm, hr2, hq, hg⟩
  obtain ⟨A1, c1, A2, c2, A3, c3, rfl⟩ := ho.shape
  have hgl := hr.lt
  replace ho := Lib.hid ho
  replace hsm := Lib.hid hsm
  replace hg := Lib.hid hg
  clear hr
  go_wp2_with (fail)
  refine (pick_any _ q 9 w2 hr2 (by omega) (by omega) (by omega)).mono ?_
  rintro e w3 ⟨k3, rfl, hk3, hr3, hg3, -⟩
  have a3 : 0 ≤ k3 := hk3.1
  have b3 : k3 < 9 := by omega
  replace hg3 := Lib.hid hg3
  clear hr2 hk3
  go_wp2_with (fail)
  refine (pick_any _ (q+1) 20 w3 hr3 (by omega) (by omega) (by omega)).mono ?_
  rintro e w4 ⟨k4, rfl, hk4, hr4, hg4, -⟩
  have a4 : 0 ≤ k4 := hk4.1
  have b4 : k4 < 20 := by omega
  have q4 : 0 ≤ k4 / 19 ∧ k4 / 19 ≤ 1 := by omega
  obtain ⟨q40, q41⟩ := q4
  replace hg4 := Lib.hid hg4
  clear hr3 hk4
  go_wp2_with (fail)
  refine (pick_any _ (q+2) 9 w4 hr4 (by omega) (by omega) (by omega)).mono ?_
  rintro e w5 ⟨k5, rfl, hk5, hr5, hg5, -⟩
  have a5 : 0 ≤ k5 := hk5.1
  have b5 : k5 < 9 := by omega
  have h25 := hg3.out.trans (hg4.out.trans hg5)
  have hgg := hg.out.trans h25
  have hX2 : Blk w5 w.heap.size 30 #[.slice none 0 0, .slice none 0 0, .slice none 0 0] := hX1.out.grown hgg (by simp)
  have hB2 := below_read hB1.out hgg (by omega) (by simp)
  have ho5 := ho.out.kept h25 hgl
  obtain ⟨r0, r1, r2, f0, f1, f2⟩ := blk3 hX2
  have HF := fun u0 u1 u2 => ho5.set3 (u0 := u0) (u1 := u1) (u2 := u2) hX2
  replace HF := Lib.hid HF
  replace hB2 := Lib.hid hB2
  clear hr4 hr5 hg3 hg4 hg5 h25 hgg hg ho ho5 hX2 hk5 hX1 hB1 HX HB0
  go_wp2
  refine bodyPost_ret (v := .tuple #[.agg #[.slice A1 t.us.length c1, .slice A2 t.bs.length c2, .slice A3 t.ns.length c3], .int .i64 (k3 - k4 / 19), .int .i64 k5]) (by simp [results, Try.results32, go_sem, r0, r1, r2]) rfl ?_
  exact ⟨_, t, _, _, rfl, (HF.out _ _ _).mono (by omega), hsm.out, by omega, by omega, below_tng3 hB2.out (Nat.le_refl _)⟩
end Go.Proofs.Ytdmldgikfjgmhaa
