/-
  The contract of sameIn, at bases.
-/
import Derived.Test.YtdmldgikfjgmhaaSwap
namespace Go.Proofs.Ytdmldgikfjgmhaa
open Go.RowKit

set_option maxHeartbeats 1000000 in
theorem sameIn_any (v v' : Value) (t t' : Tg) (w : World) (h : Tng w v t) (h' : Tng w v' t') (hb : t.bs.length ≤ 1048576) (hb' : t'.bs.length ≤ 1048576) :
    Calls Try.prog 55 #[v, v', .func (.func 56) #[] #[]] w fun e w' => e = .returned (.bool (decide (t.bs = t'.bs))) ∧ Below w.heap.size w w' := by
  obtain ⟨A1, c1, A2, c2, A3, c3, rfl, h1, h2, h3⟩ := h.ex
  obtain ⟨B1, d1, B2, d2, B3, d3, rfl, k1, k2, k3⟩ := h'.ex
  have hBel : Below w.heap.size w ((w.alloc (.cells #[.slice A1 t.us.length c1, .slice A2 t.bs.length c2, .slice A3 t.ns.length c3] 30)).alloc (.cells #[.slice B1 t'.us.length d1, .slice B2 t'.bs.length d2, .slice B3 t'.ns.length d3] 30)) := ((Below.refl _ _).alloc (Nat.le_refl _) _).alloc (by simp) _
  have HE : ∀ W d os, Below w.heap.size w W → Calls Try.prog 70 #[.slice A2 t.bs.length c2, .slice B2 t'.bs.length d2] (Go.Sort.grow (redrawn W d) os) fun e w' => e = .returned (.bool (decide (t.bs = t'.bs))) ∧ Below (Go.Sort.grow (redrawn W d) os).heap.size (Go.Sort.grow (redrawn W d) os) w' := fun W d os hW =>
    (equalInt_any A2 B2 _ c2 _ d2 t.bs t'.bs _ ((h2.below hW (Nat.le_refl _)).below (below_regrown W d os) (Nat.le_refl _)) ((k2.below hW (Nat.le_refl _)).below (below_regrown W d os) (Nat.le_refl _)) hb hb').mono (fun e w' ⟨he, m, hw⟩ => ⟨he, by rw [hw]; exact below_drewN (Below.refl _ _) m⟩)
  replace HE := Lib.hid HE
  replace hBel := Lib.hid hBel
  generalize decide (t.bs = t'.bs) = r at *
  clear h h' h1 h2 h3 k1 k2 k3
  go_enter Try.func55, Try.ntmps55
  go_wp2
  generalize hW : (w.alloc (.cells #[.slice A1 t.us.length c1, .slice A2 t.bs.length c2, .slice A3 t.ns.length c3] 30)).alloc (.cells #[.slice B1 t'.us.length d1, .slice B2 t'.bs.length d2, .slice B3 t'.ns.length d3] 30) = W at *
  have x1 : ∀ i, i < 3 → W.cell? ⟨w.heap.size, i, none⟩ = #[Value.slice A1 t.us.length c1, .slice A2 t.bs.length c2, .slice A3 t.ns.length c3][i]? := fun i _ => by rw [← hW]; exact ((Blk.new w _ _).alloc _).cell i
  have x2 : ∀ i, i < 3 → W.cell? ⟨w.heap.size + 1, i, none⟩ = #[Value.slice B1 t'.us.length d1, .slice B2 t'.bs.length d2, .slice B3 t'.ns.length d3][i]? := fun i _ => by rw [← hW]; exact (blk_new_at (w.heap.size + 1) (by simp)).cell i
  have a0 := x1 0 (by omega)
  have a1 := x1 1 (by omega)
  have a2 := x1 2 (by omega)
  have b0 := x2 0 (by omega)
  have b1 := x2 1 (by omega)
  have b2 := x2 2 (by omega)
  simp at a0 a1 a2 b0 b1 b2
  clear x1 x2 hW
  refine wp_region_quiet_below (by kernel_rfl) (by kernel_rfl) ?_
  have ca0 := cell_regrown a0
  have ca1 := cell_regrown a1
  have ca2 := cell_regrown a2
  have cb0 := cell_regrown b0
  have cb1 := cell_regrown b1
  have cb2 := cell_regrown b2
  repeat (go_big_quiet_step (first | (go_at_call 56; exact Calls.regrown_of (basesIn_any _ _ _ _ rfl)) | (go_at_call 70; exact Calls.regrown_of (HE.out _ _ _ hBel.out))))
  refine wpQuiet_nil ?_
  intro _ hw'
  obtain ⟨pq, hw''⟩ := hw'
  have HBq := hBel.out.trans ((below_regrown W pq.d pq.os).mono hBel.out.size)
  subst hw''
  replace HBq := Lib.hid HBq
  go_wp2
  go_ret
  exact ⟨rfl, HBq.out⟩
end Go.Proofs.Ytdmldgikfjgmhaa
