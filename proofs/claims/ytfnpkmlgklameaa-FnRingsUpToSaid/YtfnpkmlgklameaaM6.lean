/-
  RingFrom and StepsToRing of the program.
-/
import Derived.Test.YtfnpkmlgklameaaM5
namespace Go.Proofs.Ytfnpkmlgklameaa
open Go.RowKit Go.WideMaps Go.Maps

set_option maxRecDepth 100000 in
set_option maxHeartbeats 4000000 in
theorem implRingFrom_any (v : Value) (t : Tg) (n : Int) (w : World) (h : Tng w v t) (hf : t.Fine) (hn : -9223372036854775808 ≤ n ∧ n ≤ 9223372036854775807) :
    Calls Try.prog 22 #[v, .int .i64 n] w (RetO2 w (ringF (lettersOf t) n) (okF (lettersOf t) n)) := by
  obtain ⟨A1, c1, A2, c2, A3, c3, rfl, -⟩ := h.ex
  have hB := (Below.refl w.heap.size w).alloc (Nat.le_refl _) (.cells #[.slice A1 t.us.length c1, .slice A2 t.bs.length c2, .slice A3 t.ns.length c3] 26)
  have HX := Blk.new w 26 #[.slice A1 t.us.length c1, .slice A2 t.bs.length c2, .slice A3 t.ns.length c3]
  have HT := h.below hB (Nat.le_refl _)
  have KP := Lib.hid (pathIn_any (lettersOf t) A1 A2 A3 t.us.length t.bs.length t.ns.length c1 c2 c3 (w.alloc (.cells #[.slice A1 t.us.length c1, .slice A2 t.bs.length c2, .slice A3 t.ns.length c3] 26)))
  have KR := Lib.hid (fun b W hp => ringFrom_any _ A1 A2 A3 c1 c2 c3 t HT hf b 0 (by omega) n hn W hp)
  have hpos := ringF_pos (n := n) (letters_bd t)
  have hrl := ringF_le (n := n) (letters_bd t)
  generalize lettersOf t = f at *
  replace hB := Lib.hid hB
  replace HX := Lib.hid HX
  clear h HT
  go_enter Try.func22, Try.ntmps22
  go_upto_region 1 with (fail)
  obtain ⟨x0, x1, x2, -, -, -⟩ := blk3 HX.out
  generalize w.alloc (.cells #[.slice A1 t.us.length c1, .slice A2 t.bs.length c2, .slice A3 t.ns.length c3] 26) = W at *
  go_wp2_with (fail)
  refine KP.out.mono ?_
  rintro e w1 ⟨b, rfl, p1⟩
  have KR1 := Lib.hid (KR.out b w1 p1)
  have hw1 := p1.low.size
  have hwW := hB.out.size
  clear p1 KP KR
  go_wp2_with (fail)
  refine KR1.out.mono ?_
  rintro e w2 ⟨v, rfl, ho, p2, -⟩
  have hBf := Lib.hid (hB.out.trans (p2.low.mono hB.out.size))
  have ho2 := Lib.hid (ho.mono (show w.heap.size ≤ w1.heap.size by omega))
  obtain ⟨A, c, rfl, -⟩ := ho.ints
  clear ho p2 KR1 x0 x1 x2 HX
  have hb := hpos
  have HF : RetO2 w (ringF f n) (okF f n) (.returned (.tuple #[.slice A (ringF f n).length c, .bool (decide (0 < (ringF f n).length))])) w2 := ⟨_, by rw [hb], ho2.out, hBf.out⟩
  replace HF := Lib.hid HF
  clear hb hpos
  generalize (ringF f n).length = L at *
  go_wp2
  go_ret2
  exact HF.out
set_option maxRecDepth 100000 in
set_option maxHeartbeats 4000000 in
theorem implStepsToRing_any (v : Value) (t : Tg) (n : Int) (w : World) (h : Tng w v t) (hf : t.Fine) (hn : -9223372036854775808 ≤ n ∧ n ≤ 9223372036854775807) :
    Calls Try.prog 34 #[v, .int .i64 n] w (RetN2 w (stepsF (lettersOf t) n) (okF (lettersOf t) n)) := by
  obtain ⟨A1, c1, A2, c2, A3, c3, rfl, -⟩ := h.ex
  have hB := (Below.refl w.heap.size w).alloc (Nat.le_refl _) (.cells #[.slice A1 t.us.length c1, .slice A2 t.bs.length c2, .slice A3 t.ns.length c3] 26)
  have HX := Blk.new w 26 #[.slice A1 t.us.length c1, .slice A2 t.bs.length c2, .slice A3 t.ns.length c3]
  have HT := h.below hB (Nat.le_refl _)
  have KP := Lib.hid (pathIn_any (lettersOf t) A1 A2 A3 t.us.length t.bs.length t.ns.length c1 c2 c3 (w.alloc (.cells #[.slice A1 t.us.length c1, .slice A2 t.bs.length c2, .slice A3 t.ns.length c3] 26)))
  have KR := Lib.hid (fun b W hp => ringFrom_any _ A1 A2 A3 c1 c2 c3 t HT hf b 0 (by omega) n hn W hp)
  have hpos := ringF_pos (n := n) (letters_bd t)
  have hrl := ringF_le (n := n) (letters_bd t)
  generalize lettersOf t = f at *
  replace hB := Lib.hid hB
  replace HX := Lib.hid HX
  clear h HT
  go_enter Try.func34, Try.ntmps34
  go_upto_region 1 with (fail)
  obtain ⟨x0, x1, x2, -, -, -⟩ := blk3 HX.out
  generalize w.alloc (.cells #[.slice A1 t.us.length c1, .slice A2 t.bs.length c2, .slice A3 t.ns.length c3] 26) = W at *
  go_wp2_with (fail)
  refine KP.out.mono ?_
  rintro e w1 ⟨b, rfl, p1⟩
  have KR1 := Lib.hid (KR.out b w1 p1)
  have hw1 := p1.low.size
  have hwW := hB.out.size
  clear p1 KP KR
  go_wp2_with (fail)
  refine KR1.out.mono ?_
  rintro e w2 ⟨v, rfl, ho, p2, -⟩
  have hBf := Lib.hid (hB.out.trans (p2.low.mono hB.out.size))
  have ho2 := Lib.hid (ho.mono (show w.heap.size ≤ w1.heap.size by omega))
  obtain ⟨A, c, rfl, -⟩ := ho.ints
  clear ho p2 KR1 x0 x1 x2 HX
  have hb := hpos
  have HF : RetN2 w (stepsF f n) (okF f n) (.returned (.tuple #[.int .i64 (stepsF f n), .bool (decide (0 < (ringF f n).length))])) w2 := ⟨by rw [hb], hBf.out⟩
  replace HF := Lib.hid HF
  clear hb hpos ho2
  generalize (ringF f n).length = L at *
  generalize stepsF f n = S at *
  go_wp2
  go_ret2
  exact HF.out
end Go.Proofs.Ytfnpkmlgklameaa
