/-
  The contract of the program's LongOf.
-/
import Derived.Test.YtebfoofiaokhdaaP3d
import Derived.Test.YtebfoofiaokhdaaGN
namespace Go.Proofs.Ytebfoofiaokhdaa
open Go.RowKit

set_option maxRecDepth 100000 in
set_option maxHeartbeats 1000000 in
theorem implLong_any (v : Value) (t : Tg) (m : Nat) (w : World) (h : Tng w v t) (ho : t.ok = true) (h1 : 1 ≤ m) (h2 : m ≤ 99999) :
    Calls Try.prog 50 #[v, .int .i64 m] w fun e w' => e = .returned (.int .i64 (longOf t m)) ∧ Below w.heap.size w w' := by
  have h0 := h
  obtain ⟨A1, c1, A2, c2, A3, c3, rfl, -⟩ := h.ex
  have hB := (Below.refl w.heap.size w).alloc (Nat.le_refl _) (.cells #[.slice A1 t.us.length c1, .slice A2 t.bs.length c2, .slice A3 t.ns.length c3] 26)
  have HX := Blk.new w 26 #[.slice A1 t.us.length c1, .slice A2 t.bs.length c2, .slice A3 t.ns.length c3]
  have hok : okN t m = true := by
    unfold okN
    rw [ho, decide_eq_true (by omega)]
    rfl
  have hlt := HX.lt
  have e1 := nameOf_yes hok
  have e2 := namedB_eq hok
  have hg : longOf t m = if decide (nameT t m ≠ []) then ((nameT t m).length : Int) else -1 := by
    unfold longOf
    rw [e1, e2]
  replace hB := Lib.hid hB
  replace HX := Lib.hid HX
  replace h0 := Lib.hid h0
  replace e1 := Lib.hid e1
  replace e2 := Lib.hid e2
  replace hok := Lib.hid hok
  clear h
  go_enter Try.func50, Try.ntmps50
  go_upto_region 1 with (fail)
  generalize hW1 : w.alloc (.cells #[.slice A1 t.us.length c1, .slice A2 t.bs.length c2, .slice A3 t.ns.length c3] 26) = w1 at *
  replace hW1 := Lib.hid hW1
  have hw5 : CntSt w #[.slice A1 t.us.length c1, .slice A2 t.bs.length c2, .slice A3 t.ns.length c3] w1.heap.size w.heap.size (w1.heap.size + 1)
      ((w1.alloc (.cells #[.int .i64 0] 3)).alloc (.cells #[.func (.func 73) #[] #[.pointer (some ⟨w1.heap.size, 0, none⟩), .pointer (some ⟨w.heap.size, 0, none⟩), .pointer (some ⟨w1.heap.size + 1, 0, none⟩)]] 78)) 0 :=
    ⟨(hB.out.alloc hB.out.size _).alloc (by have := hB.out.size; simp; omega) _, (Blk.new _ _ _).alloc _, (HX.out.alloc _).alloc _, blk_new_at _ (by simp)⟩
  have K2 := Lib.hid (implCount_any ho h0.out (hB.out.size) (by omega) (by omega) m h1 h2 _ 0 hw5 (by omega))
  replace ho := Lib.hid ho
  replace hw5 := Lib.hid hw5
  go_wp2_with (fail)
  refine K2.out.mono ?_
  rintro e w5 ⟨rfl, k5, hs5, -, hy5⟩
  have y1 := hs5.hw.cell 0
  simp only [List.getElem?_toArray, List.getElem?_cons_zero] at y1
  have hB5 := hs5.bel
  by_cases hne : nameT t m = []
  · have hg2 : longOf t m = -1 := by rw [hg, decide_eq_false (fun h => h hne)]; rfl
    rw [decide_eq_false (fun h => h hne)]
    replace hg2 := Lib.hid hg2
    replace hB5 := Lib.hid hB5
    clear hs5 hy5 hg
    go_wp2
    go_ret
    exact ⟨ret_int hg2.out.symm, hB5.out⟩
  · have hg2 : longOf t m = (k5 : Int) := by rw [hg, decide_eq_true hne, hy5 hne]; simp
    rw [decide_eq_true hne]
    replace hg2 := Lib.hid hg2
    replace hB5 := Lib.hid hB5
    clear hs5 hy5 hg
    go_wp2
    go_ret
    exact ⟨ret_int hg2.out.symm, hB5.out⟩

set_option maxRecDepth 100000 in
set_option maxHeartbeats 1000000 in
theorem implLongOf_any (v : Value) (t : Tg) (n : Int) (w : World) (h : Tng w v t) (hf : t.Fine) (hn : -9223372036854775808 ≤ n ∧ n ≤ 9223372036854775807) :
    Calls Try.prog 20 #[v, .int .i64 n] w fun e w' => e = .returned (.int .i64 (longOf t n)) ∧ Below w.heap.size w w' := by
  have h0 := h
  obtain ⟨A1, c1, A2, c2, A3, c3, rfl, -⟩ := h.ex
  have hB := (Below.refl w.heap.size w).alloc (Nat.le_refl _) (.cells #[.slice A1 t.us.length c1, .slice A2 t.bs.length c2, .slice A3 t.ns.length c3] 26)
  have HX := Blk.new w 26 #[.slice A1 t.us.length c1, .slice A2 t.bs.length c2, .slice A3 t.ns.length c3]
  have HT := h.below hB (Nat.le_refl _)
  have K1 := Lib.hid (implAskable_any _ t n _ HT hf hn)
  replace hB := Lib.hid hB
  replace HX := Lib.hid HX
  replace h0 := Lib.hid h0
  clear h hf HT
  go_enter Try.func20, Try.ntmps20
  go_upto_region 1 with (fail)
  generalize w.alloc (.cells #[.slice A1 t.us.length c1, .slice A2 t.bs.length c2, .slice A3 t.ns.length c3] 26) = W at *
  obtain ⟨x0, x1, x2, -, -, -⟩ := blk3 HX.out
  go_wp2_with (fail)
  refine K1.out.mono ?_
  rintro e w1 ⟨rfl, b1⟩
  replace hB := Lib.hid (hB.out.trans (b1.mono hB.out.size))
  replace HX := Lib.hid (HX.out.below b1 HX.out.lt)
  clear b1 x0 x1 x2 K1
  obtain ⟨x0, x1, x2, -, -, -⟩ := blk3 HX.out
  cases hok : okN t n
  · have hg : longOf t n = -1 := by
      unfold longOf
      rw [(nameOf_no hok).2]
      rfl
    replace hg := Lib.hid hg
    replace hok := Lib.hid hok
    go_wp2
    go_ret
    exact ⟨ret_int hg.out.symm, hB.out⟩
  · have ho := hok
    unfold okN at ho
    rw [Bool.and_eq_true, decide_eq_true_eq] at ho
    obtain ⟨ho, hd⟩ := ho
    obtain ⟨m, rfl⟩ : ∃ m : Nat, n = m := ⟨n.toNat, by omega⟩
    have K2 := Lib.hid (implLong_any _ t m w1 (h0.out.below hB.out (Nat.le_refl _)) ho (by omega) (by omega))
    replace hok := Lib.hid hok
    replace ho := Lib.hid ho
    replace hd := Lib.hid hd
    go_wp2_with (fail)
    refine K2.out.mono ?_
    rintro e w5 ⟨rfl, b5⟩
    have hB5 := Lib.hid (hB.out.trans (b5.mono hB.out.size))
    clear b5 x0 x1 x2 K2
    go_wp2
    go_ret
    exact ⟨rfl, hB5.out⟩
end Go.Proofs.Ytebfoofiaokhdaa
