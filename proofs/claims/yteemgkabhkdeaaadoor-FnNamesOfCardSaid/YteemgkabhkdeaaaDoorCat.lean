/-
  Contracts of slices.Grow and slices.Concat at strings.
-/
import Derived.Test.YteemgkabhkdeaaaDoorApp
import Derived.Lib.AppendZeros
namespace Go.Proofs.YteemgkabhkdeaaaDoor
open Go.RowKit

set_option maxRecDepth 100000 in
theorem grow_any (n : Nat) (w : World) (hn : n ≤ 4000000) :
    Calls Tryd.prog 70 #[.slice none 0 0, .int .i64 n] w fun e w' => ∃ v, e = .returned v ∧ w'.ownsRow w.heap.size 9 1 v 0 [] ∧ Below w.heap.size w w' := by
  obtain ⟨i0, hi, hz0, hz1, hz2⟩ := info_parts str_info
  by_cases h0 : 0 < n
  · have hrun := Lib.run_append_nil_zeros (P := Tryd.prog) w 23 3 23 9 i0 _ .i64 .i64 Tryd.underlying23 Tryd.underlying3 hi hz0 n h0 (by omega) (by omega) (by rw [hz2]; omega)
    have hge := grownCap_ge w n 0 9
    have hle := grownCap_le_maxLen w n 0 9 (by unfold maxLen; omega)
    have hsz : ∀ k, (Builtin.zeroCells (Value.string ByteArray.empty).cells k).size = k := fun k => by simp [Builtin.zeroCells, Value.cells]
    generalize grownCap w n 0 9 = c at *
    have HO : (w.drew.alloc (.cells (Builtin.zeroCells (Value.string ByteArray.empty).cells n ++ Builtin.zeroCells (Value.string ByteArray.empty).cells (c - n)) 9)).ownsRow w.heap.size 9 1 (.slice (some ⟨w.heap.size, 0, none⟩) 0 c) 0 [] :=
      ⟨rfl, .inr ⟨w.heap.size, c, _, rfl, Nat.le_refl _, heap_alloc_new w.drew _, Nat.zero_le _, hle, by simp [hsz]; omega, by simp⟩⟩
    have HR := Lib.hid hrun
    replace HO := Lib.hid HO
    unfold maxLen at hle
    clear hrun hz0 hz1 hz2
    have hc0 : ¬ c = 0 := by omega
    go_enter Tryd.func70, Tryd.ntmps70
    go_wp2_with (at_builtin; refine Lib.wpList_append_run _ rfl _ _ _ _ rfl _ _ rfl rfl _ _ HR.out ?_)
    go_ret
    exact ⟨_, rfl, HO.out, (Below.refl _ _).drew.alloc (Nat.le_refl _) _⟩
  · obtain rfl : n = 0 := by omega
    go_enter Tryd.func70, Tryd.ntmps70
    go_wp2
    go_ret
    exact ⟨_, rfl, owns_none _ _ _, Below.refl _ _⟩

set_option maxRecDepth 100000 in
set_option maxHeartbeats 1000000 in
theorem concat_any (A A' : Option Addr) (g n c n' c' : Nat) (xs ys : List ByteArray) (w : World) (hg : g < w.heap.size) (h0 : w.cell? ⟨g, 0, none⟩ = some (.slice A n c)) (h1 : w.cell? ⟨g, 1, none⟩ = some (.slice A' n' c'))
    (h : Strs w A n c xs) (h' : Strs w A' n' c' ys) (hn : n ≤ 1048576) (hn' : n' ≤ 1048576) :
    Calls Tryd.prog 53 #[.slice (some ⟨g, 0, none⟩) 2 2] w fun e w' => ∃ v, e = .returned v ∧ w'.ownsRow w.heap.size 9 1 v (n + n') ((xs ++ ys).map Value.string) ∧ Below w.heap.size w w' := by
  obtain ⟨i0, hi, hz0, hz1, hz2⟩ := info_parts str_info
  have HS := Lib.hid h.src
  have HS' := Lib.hid h'.src
  have hG0 := grow_any (n + n') w (by omega)
  rw [Int.natCast_add] at hG0
  have hG := Lib.hid hG0
  clear hG0
  clear h h'
  go_enter Tryd.func53, Tryd.ntmps53
  go_wp2
  refine wp_loop_rounds 3 ?_
  rw [rounds_succ]
  go_wp2
  rw [rounds_succ]
  go_wp2
  rw [rounds_succ]
  go_wp2_with (fail)
  refine hG.out.mono ?_
  rintro e w1 ⟨v1, rfl, ho1, hb1⟩
  have c0 := (hb1.cell (p := ⟨g, 0, none⟩) hg).trans h0
  have c1 := (hb1.cell (p := ⟨g, 1, none⟩) hg).trans h1
  have S1 := Lib.hid (HS.out.below hb1 (Nat.le_refl _))
  replace ho1 := Lib.hid ho1
  replace hb1 := Lib.hid hb1
  clear h0 h1
  go_wp2
  refine wp_loop_rounds 3 ?_
  rw [rounds_succ]
  go_wp2_with (at_builtin; refine wpList_app _ rfl (.tmp 31) (.tmp 32) _ rfl w.heap.size 9 i0 _ 16 Tryd.underlying23 hi hz0 hz1 hz2 rfl v1 0 [] rfl ho1.out A n c _ rfl S1.out (by unfold maxLen; omega) (by omega) hb1.out.size ?_; intro v2 w2 ho2 hg2 _)
  have hb2 := below_own hb1.out ho1.out hg2 hb1.out.size (Nat.le_refl _)
  have c2 := (hb2.cell (p := ⟨g, 1, none⟩) hg).trans ((hb1.out.cell (p := ⟨g, 1, none⟩) hg).symm.trans c1)
  have S2 := Lib.hid (HS'.out.below hb2 (Nat.le_refl _))
  replace ho2 := Lib.hid ho2
  replace hb2 := Lib.hid hb2
  clear c0 c1 hg2
  rw [rounds_succ]
  go_wp2_with (at_builtin; refine wpList_app _ rfl (.tmp 31) (.tmp 32) _ rfl w.heap.size 9 i0 _ 16 Tryd.underlying23 hi hz0 hz1 hz2 rfl v2 _ _ rfl ho2.out A' n' c' _ rfl S2.out (by unfold maxLen; omega) (by omega) hb2.out.size ?_; intro v3 w3 ho3 hg3 _)
  have hb3 := below_own hb2.out ho2.out hg3 hb2.out.size (Nat.le_refl _)
  rw [rounds_succ]
  replace ho3 := Lib.hid ho3
  replace hb3 := Lib.hid hb3
  clear hg3 c2
  go_wp2
  go_ret
  exact ⟨_, rfl, by have := ho3.out; simpa using this, hb3.out⟩
end Go.Proofs.YteemgkabhkdeaaaDoor
