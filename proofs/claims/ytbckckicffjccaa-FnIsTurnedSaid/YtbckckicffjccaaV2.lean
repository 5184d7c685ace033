/-
  Contracts of the program's order in which the unit comes first: its parts, and its two function values.
-/
import Derived.Test.YtbckckicffjccaaV1
import Derived.Laws.EntriesVeiled
namespace Go.Proofs.Ytbckckicffjccaa
open Go.RowKit

set_option maxRecDepth 100000 in
set_option maxHeartbeats 1000000 in
theorem partsOf_any {t : Tg} (hok : t.ok = true) (hl2 : 2 ≤ t.bs.length) (hne : nested t.bs = true) (n : Nat) (hn2 : n ≤ 99999) (A : Option Addr) (c : Nat) (w : World) (h : Ints w .i64 A t.bs.length c t.bs) :
    Calls Try.prog 57 #[.slice A t.bs.length c, .int .i64 n] w fun e w' => e = .returned (.tuple #[.int .i64 (n - tensU t n : Nat), .int .i64 (tensU t n - lowU t n : Nat), .int .i64 (lowU t n : Nat)]) ∧ w = w' := by
  have hbs := (ok_shape hok).bs
  have htl := tens_le t n
  have hle := low_le hne (n := n) (by omega)
  have hlow := tens_low hne (n := n) (by omega)
  obtain ⟨b, o, rfl, -, hc⟩ := h.at_ (by omega)
  have i1 := bN_int hbs (k := 1) (by omega)
  have ck1 := hc 1 (by omega)
  rw [← i1.1] at ck1
  have p1 := i1.2
  have v1 : ((n - tensU t n : Nat) : Int) = (n : Int) - (tensU t n : Nat) := by omega
  have v2 : ((tensU t n - lowU t n : Nat) : Int) = (tensU t n : Int) - (lowU t n : Nat) := by omega
  have w1 : IntKind.i64.wrap ((n : Int) - (tensU t n : Nat)) = (n : Int) - (tensU t n : Nat) := IntWalk.i64_in _ (by omega)
  have w2 : IntKind.i64.wrap ((tensU t n : Int) - (lowU t n : Nat)) = (tensU t n : Int) - (lowU t n : Nat) := IntWalk.i64_in _ (by omega)
  have e1 : (tensU t n : Int) % (bN t 1 : Int) = ((lowU t n : Nat) : Int) := by rw [← hlow]; rfl
  rw [v1, v2]
  by_cases h3 : 3 ≤ t.bs.length
  · have i2 := bN_int hbs (k := 2) (by omega)
    have ck2 := hc 2 (by omega)
    rw [← i2.1] at ck2
    have p2 := i2.2
    have e2 : (n : Int) % (bN t 2 : Int) = ((tensU t n : Nat) : Int) := by unfold tensU modT; rw [if_pos h3]; rfl
    have t1 : (2 : Int) < (t.bs.length : Int) := by omega
    have q2 : (0 : Int) ≤ (n : Int) % (bN t 2 : Int) := by rw [e2]; omega
    have q1 : (0 : Int) ≤ (tensU t n : Int) % (bN t 1 : Int) := by rw [e1]; omega
    replace e1 := Lib.hid e1
    replace e2 := Lib.hid e2
    replace i1 := Lib.hid i1
    replace i2 := Lib.hid i2
    replace v1 := Lib.hid v1
    replace v2 := Lib.hid v2
    replace hlow := Lib.hid hlow
    clear hc h
    generalize bN t 1 = B1 at *
    generalize bN t 2 = B2 at *
    generalize tensU t n = T at *
    generalize lowU t n = L at *
    go_enter Try.func57, Try.ntmps57
    go_upto_region 4 with (fail)
    rw [e2.out]
    clear q2
    go_upto_region 5 with (fail)
    rw [e1.out]
    clear q1
    go_wp2
    go_ret3
    exact ⟨rfl, rfl⟩
  · have e2 : tensU t n = n := by unfold tensU modT; rw [if_neg h3]; exact Nat.mod_eq_of_lt (by omega)
    have t1 : ¬ (2 : Int) < (t.bs.length : Int) := by omega
    rw [e2] at e1 v1 v2 w1 w2 hle ⊢
    have q1 : (0 : Int) ≤ (n : Int) % (bN t 1 : Int) := by rw [e1]; omega
    replace e1 := Lib.hid e1
    replace e2 := Lib.hid e2
    replace i1 := Lib.hid i1
    replace v1 := Lib.hid v1
    replace v2 := Lib.hid v2
    replace hlow := Lib.hid hlow
    clear hc h htl
    generalize bN t 1 = B1 at *
    generalize lowU t n = L at *
    go_enter Try.func57, Try.ntmps57
    go_upto_region 5 with (fail)
    rw [e1.out]
    clear q1
    go_wp2
    go_ret3
    exact ⟨rfl, rfl⟩

/-- The two function values of the order, with the word between in block g. -/
abbrev orderV (g : Nat) : Value := .agg #[.func (.func 58) #[] #[.pointer (some ⟨g, 0, none⟩)], .func (.func 60) #[] #[.pointer (some ⟨g, 0, none⟩)]]

set_option maxRecDepth 100000 in
theorem unitFirst_any (x : ByteArray) (w : World) :
    Calls Try.prog 36 #[.string x] w fun e w' => ∃ g, e = .returned (orderV g) ∧ Blk w' g 9 #[.string x] ∧ Below w.heap.size w w' := by
  have HB := blk_new_at (w := w.alloc (.cells #[.string x] 9)) (t := 59) (cs := #[.nilFunc, .nilFunc]) (w.heap.size + 1) (by simp)
  have x0 := HB.cell 0
  have x1 := HB.cell 1
  have f0 := HB.frozen 0
  have f1 := HB.frozen 1
  simp only [List.getElem?_toArray, List.getElem?_cons_zero, List.getElem?_cons_succ] at x0 x1
  replace HB := Lib.hid HB
  go_enter Try.func36, Try.ntmps36
  go_wp2
  have HC := blk_new_at (w := w.alloc (.cells #[.string x] 9)) (t := 59) (cs := #[.func (.func 58) #[] #[.pointer (some ⟨w.heap.size, 0, none⟩)], .func (.func 60) #[] #[.pointer (some ⟨w.heap.size, 0, none⟩)]]) (w.heap.size + 1) (by simp)
  have y0 := HC.cell 0
  have y1 := HC.cell 1
  simp only [List.getElem?_toArray, List.getElem?_cons_zero, List.getElem?_cons_succ] at y0 y1
  refine bodyPost_ret (v := orderV w.heap.size) (by simp [results, Try.results36, go_sem, y0, y1]) rfl ?_
  exact ⟨w.heap.size, rfl, (Blk.new w 9 #[.string x]).alloc _, ((Below.refl w.heap.size w).alloc (Nat.le_refl _) _).alloc (by simp) _⟩

set_option maxRecDepth 100000 in
set_option maxHeartbeats 1000000 in
theorem join_any (x u : ByteArray) (A : Option Addr) (n c g : Nat) (l : List ByteArray) (w : World) (hg : Blk w g 9 #[.string x]) (h : Strs w A n c l) (hn : n ≤ 1048576) :
    Calls Try.prog 58 #[.slice A n c, .string u, .pointer (some ⟨g, 0, none⟩)] w (RetStrs w ([u, x] ++ l)) := by
  have cg := hg.cell 0
  simp only [List.getElem?_toArray, List.getElem?_cons_zero] at cg
  have hB1 := (Below.refl w.heap.size w).alloc (Nat.le_refl _) (.cells #[.string u, .string x] 9)
  have hB2 := hB1.alloc hB1.size (.cells #[.slice (some ⟨w.heap.size, 0, none⟩) 2 2, .slice A n c] 23)
  have S1 := strs_of_blk [u, x] (Blk.new w 9 #[.string u, .string x])
  have S1' := S1.below ((Below.refl _ _).alloc (Nat.le_refl _) (.cells #[.slice (some ⟨w.heap.size, 0, none⟩) 2 2, .slice A n c] 23)) (Nat.le_refl _)
  have hln := h.len
  have S2 := h.below hB2 (Nat.le_refl _)
  have K := concat_any (some ⟨w.heap.size, 0, none⟩) A (w.heap.size + 1) 2 2 n c [u, x] l ((w.alloc (.cells #[.string u, .string x] 9)).alloc (.cells #[.slice (some ⟨w.heap.size, 0, none⟩) 2 2, .slice A n c] 23)) (by simp) (by go_simp) (by go_simp) S1' S2 (by omega) hn
  replace K := Lib.hid K
  replace hB2 := Lib.hid hB2
  replace hln := Lib.hid hln
  clear hB1 S1 S1' S2 h hg
  go_enter Try.func58, Try.ntmps58
  go_wp2_with (fail)
  refine K.out.mono ?_
  rintro e w3 ⟨v3, rfl, o3, b3⟩
  have e2 : ([u, x] ++ l).length = 2 + n := by rw [← hln.out]; simp; omega
  have hsz : w.heap.size ≤ ((w.alloc (.cells #[.string u, .string x] 9)).alloc (.cells #[.slice (some ⟨w.heap.size, 0, none⟩) 2 2, .slice A n c] 23)).heap.size := hB2.out.size
  have o4 : OwnStrs w3 w.heap.size v3 ([u, x] ++ l) := by
    unfold OwnStrs
    rw [e2]
    exact own_mono o3 hsz
  have hF : RetStrs w ([u, x] ++ l) (.returned v3) w3 := ⟨_, rfl, o4, hB2.out.trans (b3.mono hsz)⟩
  replace hF := Lib.hid hF
  clear o3 o4 b3 e2 hsz
  go_wp2
  go_ret
  exact hF.out
end Go.Proofs.Ytbckckicffjccaa
