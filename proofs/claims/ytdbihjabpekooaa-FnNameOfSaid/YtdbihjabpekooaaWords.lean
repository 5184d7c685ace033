/-
  The contract of WordsOf of the model.
-/
import Derived.Test.YtdbihjabpekooaaTngT
import Derived.Test.YtdbihjabpekooaaOwn
namespace Go.Proofs.Ytdbihjabpekooaa
open Go.RowKit Go.WideMaps Go.Maps

def wordsOf (t : Tg) : List ByteArray := if t.ok then t.words else []
set_option maxRecDepth 100000 in
set_option maxHeartbeats 1000000 in
theorem specWordsOf_any (v : Value) (t : Tg) (w : World) (h : Tng w v t) (hf : t.Fine) :
    Calls Try.prog 16 #[v] w (RetStrs w (wordsOf t)) := by
  obtain ⟨i0, hi, hz0, hz1, hz2⟩ := info_parts str_info
  obtain ⟨A1, c1, A2, c2, A3, c3, rfl, h1, h2, h3⟩ := h.ex
  have hBel : Below w.heap.size w (w.alloc (.cells #[.slice A1 t.us.length c1, .slice A2 t.bs.length c2, .slice A3 t.ns.length c3] 26)) := (Below.refl _ _).alloc (Nat.le_refl _) _
  have hT := Lib.hid (specTongueOk_any _ t _ (h.below hBel (Nat.le_refl _)) hf)
  have H1 := Lib.hid h1
  have H3 := Lib.hid h3
  have HF := Lib.hid hf
  have hu1 := hf.us
  have hu3 := hf.ns
  have HX := (Blk.new w 26 #[.slice A1 t.us.length c1, .slice A2 t.bs.length c2, .slice A3 t.ns.length c3])
  have hZ : (w.alloc (.cells #[.slice A1 t.us.length c1, .slice A2 t.bs.length c2, .slice A3 t.ns.length c3] 26)).heap.size = w.heap.size + 1 := by simp
  replace HX := Lib.hid HX
  replace hBel := Lib.hid hBel
  replace hZ := Lib.hid hZ
  have hR1 : ∀ v w', w'.ownsRow w.heap.size 9 1 v 0 [] → Below w.heap.size w w' → t.ok = false → RetStrs w (wordsOf t) (.returned v) w' := fun v w' ho hb hk =>
    ⟨_, rfl, by unfold wordsOf; rw [hk]; exact ho, hb⟩
  have hR2 : ∀ v w', w'.ownsRow w.heap.size 9 1 v (0 + t.us.length + t.ns.length) (([] ++ t.us.map Value.string) ++ t.ns.map Value.string) → Below w.heap.size w w' → t.ok = true → RetStrs w (wordsOf t) (.returned v) w' := fun v w' ho hb hk =>
    ⟨_, rfl, by unfold wordsOf OwnStrs; rw [hk, if_pos rfl, words_length]; simpa [Tg.words] using ho, hb⟩
  replace hR1 := Lib.hid hR1
  replace hR2 := Lib.hid hR2
  clear h h1 h2 h3 hf
  go_enter Try.func16, Try.ntmps16
  go_wp2_with (fail)
  refine hT.out.mono ?_
  rintro e w1 ⟨rfl, hb1⟩
  clear hT
  have hB1 := hBel.out.trans (hb1.mono (by rw [hZ.out]; omega))
  have hX1 := HX.out.below hb1 (by rw [hZ.out]; omega)
  have hzw : w.heap.size < w1.heap.size := by have := hb1.size; rw [hZ.out] at this; omega
  clear hb1 HX hBel hZ
  cases hok : t.ok
  · have HR := Lib.hid (hR1.out (.slice (some ⟨w1.heap.size, 0, none⟩) 0 0) (w1.alloc (.cells #[] 9)) (owns_empty (Blk.new w1 9 #[]) (by omega)) (hB1.alloc (by omega) _) hok)
    clear hB1 hX1 hR1 hR2
    go_wp2
    go_ret
    exact HR.out
  · replace hR2 := Lib.hid (fun v w' a b => hR2.out v w' a b hok)
    have x0 : w1.cell? ⟨w.heap.size, 0, none⟩ = some (.slice A1 t.us.length c1) := hX1.cell 0
    have x2 : w1.cell? ⟨w.heap.size, 2, none⟩ = some (.slice A3 t.ns.length c3) := hX1.cell 2
    clear hX1
    have HB0 : Below w1.heap.size w1 ((w1.alloc (.cells #[] 9)).drew) := ((Below.refl _ _).alloc (Nat.le_refl _) _).drew
    have HO0 : ((w1.alloc (.cells #[] 9)).drew).ownsRow w1.heap.size 9 1 (.slice (some ⟨w1.heap.size, 0, none⟩) 0 0) 0 [] := owns_empty ((Blk.new w1 9 #[]).drew) (Nat.le_refl _)
    have HS1 := Lib.hid (((H1.out.below hB1 (Nat.le_refl _)).below HB0 (Nat.le_refl _)).src)
    have HS3 := Lib.hid ((H3.out.below hB1 (Nat.le_refl _)))
    have k1 : 0 + t.us.length ≤ maxLen := by unfold maxLen; omega
    have k2 : (0 + t.us.length) * 16 ≤ 140737488355328 := by omega
    have k3 : 0 + t.us.length + t.ns.length ≤ maxLen := by unfold maxLen; omega
    have k4 : (0 + t.us.length + t.ns.length) * 16 ≤ 140737488355328 := by omega
    replace k1 := Lib.hid k1
    replace k2 := Lib.hid k2
    replace k3 := Lib.hid k3
    replace k4 := Lib.hid k4
    replace HB0 := Lib.hid HB0
    replace HO0 := Lib.hid HO0
    replace hB1 := Lib.hid hB1
    go_wp2
    go_region_law (first
      | (refine step_app _ (by rfl) (.tmp 7) (.tmp 9) _ (by rfl) w1.heap.size 9 i0 _ 16 Try.underlying23 hi hz0 hz1 hz2 rfl (.slice (some ⟨w1.heap.size, 0, none⟩) 0 0) 0 [] (by rfl) HO0.out A1 _ c1 _ (by rfl) HS1.out k1.out k2.out (by simp) ?_; intro v5 w5 ho5 hg5 hat5; have hB5 := below_own HB0.out HO0.out hg5 (by simp) (Nat.le_refl _); have x2' : w5.cell? ⟨w.heap.size, 2, none⟩ = some (.slice A3 t.ns.length c3) := (hB5.cell (p := ⟨w.heap.size, 2, none⟩) hzw).trans x2; have hS5 := (HS3.out.below hB5 (Nat.le_refl _)).src; replace ho5 := Lib.hid ho5; replace hg5 := Lib.hid hg5; replace hB5 := Lib.hid hB5; replace hS5 := Lib.hid hS5)
      | (refine step_app _ (by rfl) (.tmp 10) (.tmp 12) _ (by rfl) w1.heap.size 9 i0 _ 16 Try.underlying23 hi hz0 hz1 hz2 rfl v5 _ _ (by rfl) ho5.out A3 _ c3 _ (by rfl) hS5.out k3.out k4.out hB5.out.size ?_; intro v6 w6 ho6 hg6 hat6; have hB6 := below_own hB5.out ho5.out hg6 hB5.out.size (Nat.le_refl _); replace ho6 := Lib.hid ho6; replace hg6 := Lib.hid hg6; replace hB6 := Lib.hid hB6))
    all_goals
      have HR := Lib.hid (hR2.out v6 w6 (own_mono ho6.out (by omega)) (hB1.out.trans (hB6.out.mono (by omega))))
      clear ho6 ho5 hB6 hB5 hS5 x2' hg5 hg6 hat5 hat6 HB0 HO0 HS1 HS3 x0 x2 hzw hB1 H1 H3 hR1 hR2
      go_wp2
      go_ret
      exact HR.out
end Go.Proofs.Ytdbihjabpekooaa
