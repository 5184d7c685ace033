/-
  The contract of SwappedOf of the program.
-/
import Derived.Test.YtdmldgikfjgmhaaExchB
namespace Go.Proofs.Ytdmldgikfjgmhaa
open Go.RowKit

def swB (t : Tg) (a b : Int) : Bool := t.ok && decide (inPl t a b)
def swT (t : Tg) (a b : Int) : Tg := if t.ok then exT t a b else noTg
def RetTng2 (w : World) (t : Tg) (b : Bool) (e : Ending) (w' : World) : Prop := ∃ v, e = .returned (.tuple #[v, .bool b]) ∧ OwnTng w' w.heap.size v t ∧ Below w.heap.size w w'

theorem exchanged_any (v : Value) (t : Tg) (a b : Int) (w : World) (h : Tng w v t) (hf : t.Fine) (hok : t.ok = true) (ha : -9223372036854775808 ≤ a ∧ a ≤ 9223372036854775807) (hb : -9223372036854775808 ≤ b ∧ b ≤ 9223372036854775807) :
    Calls Try.prog 54 #[v, .int .i64 a, .int .i64 b] w (RetTng w (exT t a b)) := by
  by_cases hab : inPl t a b
  · obtain ⟨i, rfl⟩ : ∃ i : Nat, a = i := ⟨a.toNat, by have := hab.1; omega⟩
    obtain ⟨j, rfl⟩ : ∃ j : Nat, b = j := ⟨b.toNat, by have := hab.2; omega⟩
    exact exchanged_yes v t i j w h hf hok (by have := hab.1; omega) (by have := hab.2; omega)
  · exact exchanged_no v t a b w h hf hab ha hb
theorem same_bases {t : Tg} (hok : t.ok = true) (a b : Int) : decide (t.bs = (exT t a b).bs) = swB t a b := by
  unfold swB exT
  rw [hok, Bool.true_and]
  by_cases h : inPl t a b
  · rw [if_pos h, decide_eq_true h]; simp
  · rw [if_neg h, decide_eq_false h]
    have := bases_len (ok_shape hok).bs
    refine decide_eq_false fun e => ?_
    rw [e] at this
    simp [noTg] at this
theorem exT_bs (t : Tg) (a b : Int) (h : t.bs.length ≤ 1048576) : (exT t a b).bs.length ≤ 1048576 := by
  unfold exT; split
  · exact h
  · simp [noTg]

set_option maxRecDepth 100000 in
set_option maxHeartbeats 4000000 in
theorem implSwappedOf_any (v : Value) (t : Tg) (a b : Int) (w : World) (h : Tng w v t) (hf : t.Fine) (ha : -9223372036854775808 ≤ a ∧ a ≤ 9223372036854775807) (hb : -9223372036854775808 ≤ b ∧ b ≤ 9223372036854775807) :
    Calls Try.prog 33 #[v, .int .i64 a, .int .i64 b] w (RetTng2 w (swT t a b) (swB t a b)) := by
  obtain ⟨A1, c1, A2, c2, A3, c3, rfl, h1, h2, h3⟩ := h.ex
  have hW2 : Below w.heap.size w ((w.alloc (.cells #[.slice A1 t.us.length c1, .slice A2 t.bs.length c2, .slice A3 t.ns.length c3] 30)).alloc (.cells #[.slice none 0 0, .slice none 0 0, .slice none 0 0] 30)) := ((Below.refl _ _).alloc (Nat.le_refl _) _).alloc (by simp) _
  have HX : Blk ((w.alloc (.cells #[.slice A1 t.us.length c1, .slice A2 t.bs.length c2, .slice A3 t.ns.length c3] 30)).alloc (.cells #[.slice none 0 0, .slice none 0 0, .slice none 0 0] 30)) (w.heap.size + 1) 30 #[.slice none 0 0, .slice none 0 0, .slice none 0 0] := (blk_new_at (w.heap.size + 1) (by simp))
  have HY : Blk ((w.alloc (.cells #[.slice A1 t.us.length c1, .slice A2 t.bs.length c2, .slice A3 t.ns.length c3] 30)).alloc (.cells #[.slice none 0 0, .slice none 0 0, .slice none 0 0] 30)) w.heap.size 30 #[.slice A1 t.us.length c1, .slice A2 t.bs.length c2, .slice A3 t.ns.length c3] := ((Blk.new _ _ _).alloc _)
  have hsz : ((w.alloc (.cells #[.slice A1 t.us.length c1, .slice A2 t.bs.length c2, .slice A3 t.ns.length c3] 30)).alloc (.cells #[.slice none 0 0, .slice none 0 0, .slice none 0 0] 30)).heap.size = w.heap.size + 2 := by simp
  have HT := Lib.hid (h.below hW2 (Nat.le_refl _))
  have HOK := Lib.hid (implTongueOk_any _ t _ HT.out hf)
  replace hW2 := Lib.hid hW2
  replace HX := Lib.hid HX
  replace HY := Lib.hid HY
  replace hsz := Lib.hid hsz
  have HF := Lib.hid hf
  clear h h1 h2 h3 hf
  go_enter Try.func33, Try.ntmps33
  go_wp2_with (fail)
  refine HOK.out.mono ?_
  rintro e w1 ⟨rfl, hb1⟩
  have hB := hW2.out.trans (hb1.mono hW2.out.size)
  have hX := HX.out.below hb1 HX.out.lt
  have hY := HY.out.below hb1 HY.out.lt
  have hT := HT.out.below hb1 (Nat.le_refl _)
  have hsz1 : w.heap.size + 2 ≤ w1.heap.size := by have := hb1.size; rw [hsz.out] at this; exact this
  obtain ⟨r0, r1, r2, f0, f1, f2⟩ := blk3 hX
  clear hb1 HOK HX HY HT hW2 hsz
  replace hB := Lib.hid hB
  cases hok : t.ok
  · have HR : ∀ w', Below w.heap.size w w' → RetTng2 w (swT t a b) (swB t a b) (.returned (.tuple #[.agg #[.slice none 0 0, .slice none 0 0, .slice none 0 0], .bool false])) w' := fun w' hb => ⟨_, by unfold swB; rw [hok]; rfl, by unfold swT; rw [hok]; exact own_noTg _ _, hb⟩
    replace HR := Lib.hid HR
    clear hX hY hT
    go_wp2
    refine bodyPost_ret (v := .tuple #[.agg #[.slice none 0 0, .slice none 0 0, .slice none 0 0], .bool false]) (by simp [results, Try.results33, go_sem, r0, r1, r2]) rfl (HR.out _ ?_)
    exact below_tng3 hB.out (by omega)
  · have hS := same_bases hok a b
    have hE := exT_bs t a b HF.out.bs
    have hsw : swT t a b = exT t a b := by unfold swT; rw [hok]; rfl
    replace hS := Lib.hid hS
    replace hsw := Lib.hid hsw
    obtain ⟨x0, x1, x2, -, -, -⟩ := blk3 hY
    have HC := Lib.hid (exchanged_any _ t a b w1 hT HF.out hok ha hb)
    replace hX := Lib.hid hX
    replace hY := Lib.hid hY
    replace hT := Lib.hid hT
    go_wp2_with (fail)
    refine HC.out.mono ?_
    rintro e w2 ⟨v2, rfl, ho2, hb2⟩
    generalize exT t a b = u at *
    have hB2 := hB.out.trans (hb2.mono hB.out.size)
    have hX2 := hX.out.below hb2 hX.out.lt
    have hY2 := hY.out.below hb2 hY.out.lt
    have hT2 := hT.out.below hb2 (Nat.le_refl _)
    have hsz2 := hb2.size
    have ho2' := ho2
    obtain ⟨v1, v2, v3, rfl, o1, o2, o3, hap⟩ := ho2'.ex
    obtain ⟨B1, d1, rfl, -⟩ := o1.strs
    obtain ⟨B2, d2, rfl, -⟩ := o2.ints
    obtain ⟨B3, d3, rfl, -⟩ := o3.strs
    have hB3 : Below w.heap.size w (w2.alloc (.cells #[.slice B1 u.us.length d1, .slice B2 u.bs.length d2, .slice B3 u.ns.length d3] 30)) := hB2.alloc (by omega) _
    have hX3 : Blk (w2.alloc (.cells #[.slice B1 u.us.length d1, .slice B2 u.bs.length d2, .slice B3 u.ns.length d3] 30)) _ _ _ := hX2.alloc _
    have hY3 : Blk (w2.alloc (.cells #[.slice B1 u.us.length d1, .slice B2 u.bs.length d2, .slice B3 u.ns.length d3] 30)) _ _ _ := hY2.alloc _
    have hZ3 := Blk.new w2 30 #[.slice B1 u.us.length d1, .slice B2 u.bs.length d2, .slice B3 u.ns.length d3]
    have hT3 := hT2.below ((Below.refl _ _).alloc (Nat.le_refl _) (.cells #[.slice B1 u.us.length d1, .slice B2 u.bs.length d2, .slice B3 u.ns.length d3] 30)) (Nat.le_refl _)
    have hU3 := ho2.tng.below ((Below.refl _ _).alloc (Nat.le_refl _) (.cells #[.slice B1 u.us.length d1, .slice B2 u.bs.length d2, .slice B3 u.ns.length d3] 30)) (Nat.le_refl _)
    have ho3 := ho2.below ((Below.refl _ _).alloc (Nat.le_refl _) (.cells #[.slice B1 u.us.length d1, .slice B2 u.bs.length d2, .slice B3 u.ns.length d3] 30)) (Nat.le_refl _)
    clear hb2 hX2 hY2 hT2 hB2 ho2 o1 o2 o3 hap ho2' x0 x1 x2 r0 r1 r2 f0 f1 f2 HC hX hY hT hB
    replace hB3 := Lib.hid hB3
    replace hX3 := Lib.hid hX3
    replace hY3 := Lib.hid hY3
    replace hZ3 := Lib.hid hZ3
    replace hT3 := Lib.hid hT3
    replace hU3 := Lib.hid hU3
    replace ho3 := Lib.hid ho3
    go_wp2
    generalize w2.alloc (.cells #[.slice B1 u.us.length d1, .slice B2 u.bs.length d2, .slice B3 u.ns.length d3] 30) = W at *
    obtain ⟨y0, y1, y2, -, -, -⟩ := blk3 hY3.out
    obtain ⟨z0, z1, z2, -, -, -⟩ := blk3 hZ3.out
    obtain ⟨r0, r1, r2, f0, f1, f2⟩ := blk3 hX3.out
    have hSame := fun W' (hb : Below W.heap.size W W') => sameIn_any _ _ t u W' (hT3.out.below hb (Nat.le_refl _)) (hU3.out.below hb (Nat.le_refl _)) HF.out.bs hE
    replace hSame := Lib.hid hSame
    generalize decide (t.bs = u.bs) = bb at *
    go_region_with (go_at_call 55; refine (hSame.out _ (by first | exact (Below.refl _ _).drew | exact Below.refl _ _)).mono ?_; rintro e w3 ⟨rfl, hb3⟩; have hW3 : Below W.heap.size W w3 := ⟨hb3.os, hb3.tape, hb3.output, hb3.size, hb3.block⟩; obtain ⟨y0', y1', y2', -, -, -⟩ := blk3 (hY3.out.below hW3 hY3.out.lt); obtain ⟨z0', z1', z2', -, -, -⟩ := blk3 (hZ3.out.below hW3 hZ3.out.lt); obtain ⟨r0', r1', r2', f0', f1', f2'⟩ := blk3 (hX3.out.below hW3 hX3.out.lt); clear hb3)
    all_goals
      have hHB := Lib.hid (hB3.out.trans (hW3.mono hB3.out.size))
      have hHO := Lib.hid (ho3.out.below hW3 (Nat.le_refl _))
      clear hW3 y0 y1 y2 z0 z1 z2 y0' y1' y2' z0' z1' z2'
      go_wp2
      refine bodyPost_ret (v := .tuple #[.agg #[.slice B1 u.us.length d1, .slice B2 u.bs.length d2, .slice B3 u.ns.length d3], .bool bb]) (by simp [results, Try.results33, go_sem, r0', r1', r2']) rfl ?_
      rw [hsw.out, ← hS.out]
      obtain ⟨w1', w2', w3', e, o1, o2, o3, hap⟩ := hHO.out.ex
      cases e
      exact ⟨_, rfl, own_tng3 (B := w1.heap.size) o1 o2 o3 hap (by omega) (by omega), below_tng3 hHB.out (by omega)⟩
end Go.Proofs.Ytdmldgikfjgmhaa
