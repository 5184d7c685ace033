/-
  The contract of WordsOf of the program.
-/
import Derived.Test.YtebfoofiaokhdaaGB
namespace Go.Proofs.Ytebfoofiaokhdaa
open Go.RowKit Go.WideMaps Go.Maps

set_option maxRecDepth 100000 in
set_option maxHeartbeats 1000000 in
theorem implWordsOf_any (v : Value) (t : Tg) (w : World) (h : Tng w v t) (hf : t.Fine) :
    Calls Try.prog 90 #[v] w (RetStrs w (wordsOf t)) := by
  obtain ⟨A1, c1, A2, c2, A3, c3, rfl, h1, h2, h3⟩ := h.ex
  have hBel : Below w.heap.size w (w.alloc (.cells #[.slice A1 t.us.length c1, .slice A2 t.bs.length c2, .slice A3 t.ns.length c3] 26)) := (Below.refl _ _).alloc (Nat.le_refl _) _
  have hT := Lib.hid (implTongueOk_any _ t _ (h.below hBel (Nat.le_refl _)) hf)
  have H1 := Lib.hid h1
  have H3 := Lib.hid h3
  have HF := Lib.hid hf
  have HX := (Blk.new w 26 #[.slice A1 t.us.length c1, .slice A2 t.bs.length c2, .slice A3 t.ns.length c3])
  have hZ : (w.alloc (.cells #[.slice A1 t.us.length c1, .slice A2 t.bs.length c2, .slice A3 t.ns.length c3] 26)).heap.size = w.heap.size + 1 := by simp
  replace HX := Lib.hid HX
  replace hBel := Lib.hid hBel
  replace hZ := Lib.hid hZ
  have hR1 : ∀ w', Below w.heap.size w w' → t.ok = false → RetStrs w (wordsOf t) (.returned (.slice none 0 0)) w' := fun w' hb ho =>
    ⟨_, rfl, by unfold wordsOf; rw [ho]; exact owns_none _ _ _, hb⟩
  have hR2 : ∀ v w', w'.ownsRow w.heap.size 9 1 v (t.us.length + t.ns.length) ((t.us ++ t.ns).map Value.string) → Below w.heap.size w w' → t.ok = true → RetStrs w (wordsOf t) (.returned v) w' := fun v w' ho hb hk =>
    ⟨_, rfl, by unfold wordsOf OwnStrs; rw [hk, if_pos rfl, words_length]; exact ho, hb⟩
  replace hR1 := Lib.hid hR1
  replace hR2 := Lib.hid hR2
  clear h h1 h2 h3 hf
  go_enter Try.func90, Try.ntmps90
  go_wp2_with (fail)
  refine hT.out.mono ?_
  rintro e w1 ⟨rfl, hb1⟩
  clear hT
  have hB1 := hBel.out.trans (hb1.mono (by rw [hZ.out]; omega))
  have hX1 := HX.out.below hb1 (by rw [hZ.out]; omega)
  have hz1 : w.heap.size < w1.heap.size := by have := hb1.size; rw [hZ.out] at this; omega
  clear hb1 HX hBel hZ
  cases hok : t.ok
  · have HR := Lib.hid (hR1.out w1 hB1 hok)
    clear hB1 hX1 hR1 hR2
    go_wp2
    go_ret
    exact HR.out
  · replace hR2 := Lib.hid (fun v w' a b => hR2.out v w' a b hok)
    have x0 : w1.cell? ⟨w.heap.size, 0, none⟩ = some (.slice A1 t.us.length c1) := hX1.cell 0
    have x2 : w1.cell? ⟨w.heap.size, 2, none⟩ = some (.slice A3 t.ns.length c3) := hX1.cell 2
    clear hX1
    replace hB1 := Lib.hid hB1
    go_wp2_with (fail)
    have hW2 : Below w.heap.size w (w1.alloc (.cells #[.slice A1 t.us.length c1, .slice A3 t.ns.length c3] 23)) := hB1.out.alloc (by omega) _
    have hC := concat_any A1 A3 w1.heap.size _ c1 _ c3 t.us t.ns (w1.alloc (.cells #[.slice A1 t.us.length c1, .slice A3 t.ns.length c3] 23)) (by simp) (by go_simp) (by go_simp) (H1.out.below hW2 (Nat.le_refl _)) (H3.out.below hW2 (Nat.le_refl _)) HF.out.us HF.out.ns
    refine hC.mono ?_
    rintro e w2 ⟨v2, rfl, ho2, hb2⟩
    have HR := Lib.hid (hR2.out v2 w2 (own_mono ho2 (by simp; omega)) (hW2.trans (hb2.mono (by simp; omega))))
    clear hC x0 x2 hW2 ho2 hb2 hB1 hR1 hR2
    go_wp2
    go_ret
    exact HR.out

end Go.Proofs.Ytebfoofiaokhdaa
