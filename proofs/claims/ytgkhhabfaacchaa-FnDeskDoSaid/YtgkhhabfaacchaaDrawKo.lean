/-
  The draw of DeskOk.
-/
import Derived.Test.YtgkhhabfaacchaaDrawDk
namespace Go.Proofs.Ytgkhhabfaacchaa
open Go.RowKit

def DrawnDk (w : World) (e : Ending) (w' : World) : Prop := ∃ v d, e = .returned v ∧ MDk w' w.heap.size v d ∧ SmallD d ∧ Below w.heap.size w w'
set_option maxRecDepth 100000 in
set_option maxHeartbeats 2000000 in
theorem drawDeskOk_any (A : Option Addr) (n c : Nat) (xs : List Int) (w : World) (h : Ints w .u8 A n c xs) (hn : n ≤ 1048576) (hwf : ∀ x ∈ xs, (Lit.int .u8 x).wf = true) (hc : c ≤ maxLen) :
    Calls Try.prog 11 #[.slice A n c] w (DrawnDk w) := by
  have hB0 : Below w.heap.size w (w.alloc (.cells #[.slice none 0 0, .slice none 0 0, .slice none 0 0, .int .i64 0, .slice none 0 0] 28)) := (Below.refl _ _).alloc (Nat.le_refl _) _
  have HO := Lib.hid (open_any A n c xs (w.alloc (.cells #[.slice none 0 0, .slice none 0 0, .slice none 0 0, .int .i64 0, .slice none 0 0] 28)) (h.below hB0 (Nat.le_refl _)) hn hwf hc)
  have HB0 := Lib.hid hB0
  have HX := Lib.hid (Blk.new w 28 #[.slice none 0 0, .slice none 0 0, .slice none 0 0, .int .i64 0, .slice none 0 0])
  clear h hwf hc hB0
  go_enter Try.func11, Try.ntmps11
  go_wp2_with (fail)
  refine HO.out.mono ?_
  rintro e w1 ⟨rfl, hr, hb, -⟩
  have hX1 := Lib.hid (HX.out.below hb (by simp))
  have hB1 := Lib.hid (HB0.out.trans (hb.mono (by simp)))
  have hs1 := hb.size
  simp only [World.size_alloc] at hs1
  rw [World.size_alloc] at hr
  clear hb HO
  go_wp2_with (fail)
  refine (desk_any _ 0 2 w1 hr (by omega) (by omega) (by omega)).mono ?_
  rintro e w2 ⟨v, d, q, rfl, ho, hsm, -, -, hg⟩
  obtain ⟨A1, c1, A2, c2, A3, c3, A5, c5, rfl, -⟩ := ho.dsk.ex
  have hX2 : Blk w2 w.heap.size 28 #[.slice none 0 0, .slice none 0 0, .slice none 0 0, .int .i64 0, .slice none 0 0] := hX1.out.grown hg (by simp)
  have hB2 := below_read hB1.out hg (by omega) (by simp)
  obtain ⟨⟨r0, r1, r2, r3, r4⟩, ⟨f0, f1, f2, f3, f4⟩⟩ := blk5 hX2
  have HF := fun u0 u1 u2 u3 u4 => own_md5 (u0 := u0) (u1 := u1) (u2 := u2) (u3 := u3) (u4 := u4) ho hX2
  replace HF := Lib.hid HF
  replace hB2 := Lib.hid hB2
  replace hsm := Lib.hid hsm
  clear hr hg ho hX2
  go_wp2
  refine bodyPost_ret (v := .agg #[.slice A1 d.t.us.length c1, .slice A2 d.t.bs.length c2, .slice A3 d.t.ns.length c3, .int .i64 d.now, .slice A5 d.past.length c5]) (by simp [results, Try.results11, go_sem, r0, r1, r2, r3, r4]) rfl ?_
  exact ⟨_, d, rfl, (HF.out _ _ _ _ _).mono (by omega), hsm.out, below_dk5 hB2.out (Nat.le_refl _)⟩
end Go.Proofs.Ytgkhhabfaacchaa
