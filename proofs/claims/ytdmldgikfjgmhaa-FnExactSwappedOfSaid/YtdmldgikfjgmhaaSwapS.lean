/-
  The contract of SwappedOf of the model.
-/
import Derived.Test.YtdmldgikfjgmhaaSwapped
namespace Go.Proofs.Ytdmldgikfjgmhaa
open Go.RowKit

/-- A tongue is returned, and a truth; the slices may lie anywhere. -/
def RetTngS (w : World) (t : Tg) (b : Bool) (e : Ending) (w' : World) : Prop := ∃ v, e = .returned (.tuple #[v, .bool b]) ∧ Tng w' v t ∧ Below w.heap.size w w'
theorem swB_words {t : Tg} {a b : Int} : swB t a b = true ↔ ((0 ≤ a ∧ a < (wordsOf t).length) ∧ (0 ≤ b ∧ b < (wordsOf t).length)) := by
  unfold swB wordsOf
  cases h : t.ok
  · simp
  · rw [Bool.true_and, if_pos rfl]; exact decide_eq_true_iff (p := inPl t a b)
theorem Strs.far {w : World} {g i b n c : Nat} {o : Nat} {u : Value} {xs : List ByteArray} (h : Strs w (some ⟨b, o, none⟩) n c xs) (hb : b ≠ g) : Strs (w.setCell ⟨g, i, none⟩ u) (some ⟨b, o, none⟩) n c xs :=
  ⟨h.len, h.le, fun h0 => by
    obtain ⟨b', o', e, hl, hc⟩ := h.at_ h0
    cases e
    exact ⟨b, o, rfl, by simpa [World.setCell] using hl, fun j hj => (World.cell?_setCell_other w _ _ u (by rintro e; cases e; exact hb rfl)).trans (hc j hj)⟩⟩
theorem ints_of_own' {w : World} {B n c : Nat} {A : Option Addr} {xs : List Int} (h : w.ownsRow B 3 1 (.slice A n c) n (xs.map (Value.int .i64))) : Ints w .i64 A n c xs := by
  obtain ⟨A', c', e, hi⟩ := ints_of_own h
  cases e; exact hi
/-- Three slices read as a tongue, behind what was written into block g. -/
theorem tng_set3 {w : World} {b o1 o3 n1 c1 n3 c3 B g n2 c2 : Nat} {A2 : Option Addr} {u0 u1 u2 : Value} {t : Tg}
    (h1 : Strs w (some ⟨b, o1, none⟩) n1 c1 t.us) (h2 : w.ownsRow B 3 1 (.slice A2 n2 c2) n2 (t.bs.map (Value.int .i64))) (h3 : Strs w (some ⟨b, o3, none⟩) n3 c3 t.ns) (hb : b ≠ g) (hg : g < B) :
    Tng (((w.setCell ⟨g, 0, none⟩ u0).setCell ⟨g, 1, none⟩ u1).setCell ⟨g, 2, none⟩ u2) (.agg #[.slice (some ⟨b, o1, none⟩) n1 c1, .slice A2 n2 c2, .slice (some ⟨b, o3, none⟩) n3 c3]) t := by
  have l1 := h1.len
  have l3 := h3.len
  have l2 : t.bs.length = n2 := by have := h2.1; simpa using this
  subst l1 l2 l3
  exact ⟨some ⟨b, o1, none⟩, c1, A2, c2, some ⟨b, o3, none⟩, c3, rfl, ((h1.far hb).far hb).far hb, ints_of_own' (own_far (own_far (own_far h2 hg _) hg _) hg _), ((h3.far hb).far hb).far hb⟩
theorem tng_noTg (w : World) : Tng w (.agg #[.slice none 0 0, .slice none 0 0, .slice none 0 0]) noTg := (own_noTg w 0).tng
theorem swT_no {t : Tg} {a b : Int} (h : swB t a b = false) : swT t a b = noTg := by
  unfold swB at h
  unfold swT exT
  cases ho : t.ok
  · rfl
  · rw [ho, Bool.true_and] at h
    rw [if_pos rfl, if_neg (by simpa using h)]

set_option maxRecDepth 100000 in
set_option maxHeartbeats 4000000 in
theorem specSwapped_no (v : Value) (t : Tg) (a b : Int) (w : World) (h : Tng w v t) (hf : t.Fine) (hsw : swB t a b = false) (ha : -9223372036854775808 ≤ a ∧ a ≤ 9223372036854775807) (hb : -9223372036854775808 ≤ b ∧ b ≤ 9223372036854775807) :
    Calls Try.prog 34 #[v, .int .i64 a, .int .i64 b] w (RetTngS w (swT t a b) (swB t a b)) := by
  obtain ⟨A1, c1, A2, c2, A3, c3, rfl, h1, h2, h3⟩ := h.ex
  have hW2 : Below w.heap.size w ((w.alloc (.cells #[.slice A1 t.us.length c1, .slice A2 t.bs.length c2, .slice A3 t.ns.length c3] 30)).alloc (.cells #[.slice none 0 0, .slice none 0 0, .slice none 0 0] 30)) := ((Below.refl _ _).alloc (Nat.le_refl _) _).alloc (by simp) _
  have HX : Blk ((w.alloc (.cells #[.slice A1 t.us.length c1, .slice A2 t.bs.length c2, .slice A3 t.ns.length c3] 30)).alloc (.cells #[.slice none 0 0, .slice none 0 0, .slice none 0 0] 30)) (w.heap.size + 1) 30 #[.slice none 0 0, .slice none 0 0, .slice none 0 0] := (blk_new_at (w.heap.size + 1) (by simp))
  have HOK := Lib.hid (specWordsOf_any _ t _ (h.below hW2 (Nat.le_refl _)) hf)
  have HR : ∀ w', Below w.heap.size w w' → RetTngS w (swT t a b) (swB t a b) (.returned (.tuple #[.agg #[.slice none 0 0, .slice none 0 0, .slice none 0 0], .bool false])) w' := fun w' hb => ⟨_, by rw [hsw], by rw [swT_no hsw]; exact tng_noTg _, hb⟩
  replace HR := Lib.hid HR
  have hno : ¬ ((0 ≤ a ∧ a < (wordsOf t).length) ∧ (0 ≤ b ∧ b < (wordsOf t).length)) := fun h => by
    rw [swB_words.2 h] at hsw; cases hsw
  have hln := wordsOf_len t hf
  replace hW2 := Lib.hid hW2
  replace HX := Lib.hid HX
  clear h h1 h2 h3 hf hsw
  go_enter Try.func34, Try.ntmps34
  go_wp2_with (fail)
  refine HOK.out.mono ?_
  rintro e w1 ⟨v1, rfl, ho1, hb1⟩
  have hB := hW2.out.trans (hb1.mono hW2.out.size)
  have hX := HX.out.below hb1 HX.out.lt
  obtain ⟨r0, r1, r2, f0, f1, f2⟩ := blk3 hX
  clear hb1 HOK HX hW2 hX
  replace hB := Lib.hid hB
  obtain ⟨A, c, rfl, -⟩ := ho1.strs
  clear ho1
  generalize (wordsOf t).length = n at *
  by_cases h1 : 0 ≤ a ∧ a ≤ (n : Int) - 1
  · have hd1 : decide (0 ≤ a ∧ a ≤ (n : Int) - 1) = true := decide_eq_true h1
    have h2 : ¬ (0 ≤ b ∧ b ≤ (n : Int) - 1) := fun h2 => hno (by omega)
    have hd2 : decide (0 ≤ b ∧ b ≤ (n : Int) - 1) = false := decide_eq_false h2
    clear hno h1 h2
    have K1 := Lib.hid (fun W => in_any a 0 ((n : Int) - 1) W)
    have K2 := Lib.hid (fun W => in_any b 0 ((n : Int) - 1) W)
    rw [hd1] at K1
    rw [hd2] at K2
    clear hd1 hd2
    go_wp2_with (fail)
    refine (K1.out _).mono ?_
    rintro e _ ⟨rfl, rfl⟩
    go_wp2_with (fail)
    refine (K2.out _).mono ?_
    rintro e _ ⟨rfl, rfl⟩
    go_wp2
    refine bodyPost_ret (v := .tuple #[.agg #[.slice none 0 0, .slice none 0 0, .slice none 0 0], .bool false]) (by simp [results, Try.results34, go_sem, r0, r1, r2]) rfl (HR.out _ ?_)
    exact below_tng3 hB.out (by omega)
  · have hd1 : decide (0 ≤ a ∧ a ≤ (n : Int) - 1) = false := decide_eq_false h1
    clear hno h1
    have K1 := Lib.hid (fun W => in_any a 0 ((n : Int) - 1) W)
    rw [hd1] at K1
    clear hd1
    go_wp2_with (fail)
    refine (K1.out _).mono ?_
    rintro e _ ⟨rfl, rfl⟩
    go_wp2
    refine bodyPost_ret (v := .tuple #[.agg #[.slice none 0 0, .slice none 0 0, .slice none 0 0], .bool false]) (by simp [results, Try.results34, go_sem, r0, r1, r2]) rfl (HR.out _ ?_)
    exact below_tng3 hB.out (by omega)

set_option maxRecDepth 100000 in
set_option maxHeartbeats 8000000 in
theorem specSwapped_yes (v : Value) (t : Tg) (i j : Nat) (w : World) (h : Tng w v t) (hf : t.Fine) (hok : t.ok = true) (hi : i < t.words.length) (hj : j < t.words.length) :
    Calls Try.prog 34 #[v, .int .i64 i, .int .i64 j] w (RetTngS w (swT t i j) (swB t i j)) := by
  obtain ⟨ii0, hii, hz0, hz1, hz2⟩ := info_parts int_info0
  obtain ⟨A1, c1, A2, c2, A3, c3, rfl, h1, h2, h3⟩ := h.ex
  have hW2 : Below w.heap.size w ((w.alloc (.cells #[.slice A1 t.us.length c1, .slice A2 t.bs.length c2, .slice A3 t.ns.length c3] 30)).alloc (.cells #[.slice none 0 0, .slice none 0 0, .slice none 0 0] 30)) := ((Below.refl _ _).alloc (Nat.le_refl _) _).alloc (by simp) _
  have HX : Blk ((w.alloc (.cells #[.slice A1 t.us.length c1, .slice A2 t.bs.length c2, .slice A3 t.ns.length c3] 30)).alloc (.cells #[.slice none 0 0, .slice none 0 0, .slice none 0 0] 30)) (w.heap.size + 1) 30 #[.slice none 0 0, .slice none 0 0, .slice none 0 0] := (blk_new_at (w.heap.size + 1) (by simp))
  have HY : Blk ((w.alloc (.cells #[.slice A1 t.us.length c1, .slice A2 t.bs.length c2, .slice A3 t.ns.length c3] 30)).alloc (.cells #[.slice none 0 0, .slice none 0 0, .slice none 0 0] 30)) w.heap.size 30 #[.slice A1 t.us.length c1, .slice A2 t.bs.length c2, .slice A3 t.ns.length c3] := ((Blk.new _ _ _).alloc _)
  have hsz : ((w.alloc (.cells #[.slice A1 t.us.length c1, .slice A2 t.bs.length c2, .slice A3 t.ns.length c3] 30)).alloc (.cells #[.slice none 0 0, .slice none 0 0, .slice none 0 0] 30)).heap.size = w.heap.size + 2 := by simp
  have hwo : wordsOf t = t.words := by unfold wordsOf; rw [hok]; rfl
  have HOK := specWordsOf_any _ t _ (h.below hW2 (Nat.le_refl _)) hf
  rw [hwo] at HOK
  have H2 := Lib.hid h2
  have hwl := Lib.hid (words_length t)
  have hsh := ok_shape hok
  obtain ⟨u1, u2⟩ := hsh.us
  have hbl := bases_len hsh.bs
  have hnl : t.ns.length ≤ 4 := by have := hsh.ns; omega
  have hsB : swB t i j = true := swB_words.2 (by rw [hwo]; omega)
  have hsT : swT t i j = ⟨(swapAt t.words i j).take t.us.length, t.bs, (swapAt t.words i j).drop t.us.length⟩ := by
    unfold swT exT
    rw [hok, if_pos rfl, if_pos (by unfold inPl; omega)]; rfl
  replace HOK := Lib.hid HOK
  replace hW2 := Lib.hid hW2
  replace HX := Lib.hid HX
  replace HY := Lib.hid HY
  replace hsz := Lib.hid hsz
  replace hsB := Lib.hid hsB
  replace hsT := Lib.hid hsT
  clear h h1 h2 h3 hf hok hwo hsh
  go_enter Try.func34, Try.ntmps34
  go_wp2_with (fail)
  refine HOK.out.mono ?_
  rintro e w1 ⟨v1, rfl, ho1, hb1⟩
  have hB := hW2.out.trans (hb1.mono hW2.out.size)
  have hX := HX.out.below hb1 HX.out.lt
  have hY := HY.out.below hb1 HY.out.lt
  rw [hsz.out] at ho1
  clear hb1 HX HY hW2 hsz HOK
  unfold OwnStrs at ho1
  rw [hwl.out] at hi hj ho1
  obtain ⟨g, c, rfl, hg3, hg⟩ := World.ownsRow.form ho1 (by omega)
  have ci := World.ownsRow.cellAt ho1 i (by omega)
  have cj := World.ownsRow.cellAt ho1 j (by omega)
  have fi := World.ownsRow.frozenAt ho1 i
  have fj := World.ownsRow.frozenAt ho1 j
  have hml : t.words.length = t.us.length + t.ns.length := hwl.out
  have ei : (t.words.map Value.string)[i]? = some (.string (t.words.getD i ByteArray.empty)) := by
    have hk : i < t.words.length := by omega
    rw [List.getElem?_map, List.getElem?_eq_getElem hk]
    simp [List.getD_eq_getElem?_getD, List.getElem?_eq_getElem hk]
  have ej : (t.words.map Value.string)[j]? = some (.string (t.words.getD j ByteArray.empty)) := by
    have hk : j < t.words.length := by omega
    rw [List.getElem?_map, List.getElem?_eq_getElem hk]
    simp [List.getD_eq_getElem?_getD, List.getElem?_eq_getElem hk]
  rw [ei] at ci
  rw [ej] at cj
  clear ei ej hml
  generalize hxi : t.words.getD i ByteArray.empty = xi at *
  generalize hxj : t.words.getD j ByteArray.empty = xj at *
  obtain ⟨v', hy'⟩ := cell?_setCell_some (w := w1) (p := ⟨g, i, none⟩) (x := .string xj) (q := ⟨g, j, none⟩) (v := .string xj) cj
  have HO1 := (World.ownsRow.stored ho1 i (.string xj)).1
  have HO2 := (HO1.stored j (.string xi)).1
  have hg1 : w1.grownBy ((w1.setCell ⟨g, i, none⟩ (.string xj)).setCell ⟨g, j, none⟩ (.string xi)) (some g) := (World.ownsRow.stored ho1 i (.string xj)).2.trans (HO1.stored j (.string xi)).2
  have hB2 : Below w.heap.size w ((w1.setCell ⟨g, i, none⟩ (.string xj)).setCell ⟨g, j, none⟩ (.string xi)) := (hB.grown hg1 hB.size (fun k e => by cases e; omega))
  have hX2 : Blk ((w1.setCell ⟨g, i, none⟩ (.string xj)).setCell ⟨g, j, none⟩ (.string xi)) (w.heap.size + 1) 30 #[.slice none 0 0, .slice none 0 0, .slice none 0 0] := (hX.grown (row := some g) hg1 (by simp; omega))
  have hY2 : Blk ((w1.setCell ⟨g, i, none⟩ (.string xj)).setCell ⟨g, j, none⟩ (.string xi)) w.heap.size 30 #[.slice A1 t.us.length c1, .slice A2 t.bs.length c2, .slice A3 t.ns.length c3] := (hY.grown (row := some g) hg1 (by simp; omega))
  have hws : ((t.words.map Value.string).set i (.string xj)).set j (.string xi) = (swapAt t.words i j).map Value.string := by
    unfold swapAt
    rw [hxi, hxj, List.map_set, List.map_set]
  rw [hws] at HO2
  obtain ⟨A, c', e, hS⟩ := strs_of_own HO2
  cases e
  have hcap := hS.le
  have hglt := (HO2.lt g rfl).2
  have hd1 : decide (0 ≤ (i : Int) ∧ (i : Int) ≤ (t.us.length : Int) + (t.ns.length : Int) - 1) = true := decide_eq_true (by omega)
  have hd2 : decide (0 ≤ (j : Int) ∧ (j : Int) ≤ (t.us.length : Int) + (t.ns.length : Int) - 1) = true := decide_eq_true (by omega)
  have K1 := Lib.hid (fun W => in_any i 0 ((t.us.length : Int) + (t.ns.length : Int) - 1) W)
  have K2 := Lib.hid (fun W => in_any j 0 ((t.us.length : Int) + (t.ns.length : Int) - 1) W)
  rw [hd1] at K1
  rw [hd2] at K2
  have hwl2 : (swapAt t.words i j).length = t.us.length + t.ns.length := by rw [swapAt_length, hwl.out]
  have htd := take_drop_len hwl2
  clear hd1 hd2 HO1 HO2 hg1 hX hY hws hB hxi hxj ho1 hwl2
  replace hB2 := Lib.hid hB2
  replace hX2 := Lib.hid hX2
  replace hY2 := Lib.hid hY2
  replace hS := Lib.hid hS
  replace htd := Lib.hid htd
  go_wp2_with (fail)
  refine (K1.out _).mono ?_
  rintro e _ ⟨rfl, rfl⟩
  go_wp2_with (fail)
  refine (K2.out _).mono ?_
  rintro e _ ⟨rfl, rfl⟩
  go_wp2
  generalize (w1.setCell ⟨g, i, none⟩ (.string xj)).setCell ⟨g, j, none⟩ (.string xi) = W at *
  clear ci cj fi fj hy'
  obtain ⟨y0, y1, y2, -, -, -⟩ := blk3 hY2.out
  obtain ⟨r0, r1, r2, f0, f1, f2⟩ := blk3 hX2.out
  have HB0 : Below W.heap.size W ((W.alloc (.cells #[] 3)).drew) := ((Below.refl _ _).alloc (Nat.le_refl _) _).drew
  have HO0 : ((W.alloc (.cells #[] 3)).drew).ownsRow W.heap.size 3 1 (.slice (some ⟨W.heap.size, 0, none⟩) 0 0) 0 [] := owns_empty ((Blk.new W 3 #[]).drew) (Nat.le_refl _)
  have HS1 := Lib.hid (((H2.out.below hB2.out (Nat.le_refl _)).below HB0 (Nat.le_refl _)).src)
  have k1 := Lib.hid (show 0 + t.bs.length ≤ maxLen by unfold maxLen; omega)
  have k2 := Lib.hid (show (0 + t.bs.length) * 8 ≤ 140737488355328 by omega)
  have q1 : (0 : Int) ≤ (t.us.length : Int) := by omega
  have q2 : (t.us.length : Int) ≤ (c : Int) := by omega
  have q3 : (t.us.length : Int) ≤ (t.us.length : Int) + (t.ns.length : Int) := by omega
  have q4 : (t.us.length : Int) + (t.ns.length : Int) ≤ (c : Int) := by omega
  have hwW : w.heap.size + 1 < W.heap.size := hX2.out.lt
  have hwW0 : w.heap.size < W.heap.size := by omega
  replace HB0 := Lib.hid HB0
  replace HO0 := Lib.hid HO0
  by_cases hcu : c = t.us.length
  · have hn0 : t.ns.length = 0 := by omega
    have hd0 := Lib.hid (show (swapAt t.words i j).drop t.us.length = [] from List.eq_nil_of_length_eq_zero (by rw [htd.out.2]; exact hn0))
    subst hcu
    replace hn0 := Lib.hid hn0
    go_region_held3 (fun w' => w'.cell? ⟨w.heap.size, 0, none⟩ = some (.slice A1 t.us.length c1) ∧ w'.cell? ⟨w.heap.size, 1, none⟩ = some (.slice A2 t.bs.length c2)) (first | go_keep | exact ⟨y0', y1'⟩ | (constructor <;> go_keep)) (first
      | (refine step_app _ (by rfl) (.tmp 47) (.tmp 49) _ (by rfl) W.heap.size 3 ii0 _ 8 Try.underlying28 hii hz0 hz1 hz2 rfl (.slice (some ⟨W.heap.size, 0, none⟩) 0 0) 0 [] (by rfl) HO0.out A2 _ c2 _ (by rfl) HS1.out k1.out k2.out (by simp) ?_; intro v5 w5 ho5 hg5 hat5; have hB5 := below_own HB0.out HO0.out hg5 (by simp) (Nat.le_refl _); obtain ⟨y0', y1', y2', -, -, -⟩ := blk3 (hY2.out.below hB5 hY2.out.lt); obtain ⟨r0', r1', r2', f0', f1', f2'⟩ := blk3 (hX2.out.below hB5 hX2.out.lt); replace ho5 : w5.ownsRow W.heap.size 3 1 v5 t.bs.length (t.bs.map (Value.int .i64)) := (by simpa using ho5); obtain ⟨A5, c5, rfl, hI5⟩ := ints_of_own ho5; replace ho5 := Lib.hid ho5; replace hg5 := Lib.hid hg5; replace hB5 := Lib.hid hB5; replace hI5 := Lib.hid hI5))
    all_goals
      have HZ := Lib.hid (hB2.out.trans (hB5.out.mono hB2.out.size))
      have S1 := Lib.hid ((hS.out.take (m := t.us.length) (by omega)).below hB5.out (Nat.le_refl _))
      have S3 := Lib.hid ((show Strs W (some ⟨g, 0, none⟩) 0 0 ((swapAt t.words i j).drop t.us.length) by rw [hd0.out]; exact ⟨rfl, Nat.le_refl _, fun h => absurd h (by omega)⟩).below hB5.out (Nat.le_refl _))
      clear y0 y1 y2 r0 r1 r2 f0 f1 f2 y0' y1' y2'
      go_wp2
      refine bodyPost_ret (v := .tuple #[.agg #[.slice (some ⟨g, 0, none⟩) t.us.length t.us.length, .slice A5 t.bs.length c5, .slice (some ⟨g, 0, none⟩) 0 0], .bool true]) (by simp [results, Try.results34, go_sem, r0', r1', r2']) rfl ?_
      refine ⟨_, by rw [hsB.out], ?_, below_tng3 HZ.out (by omega)⟩
      rw [hsT.out]
      exact tng_set3 (B := W.heap.size) S1.out ho5.out S3.out (by omega) (by omega)
  ·
    go_region_held3 (fun w' => w'.cell? ⟨w.heap.size, 0, none⟩ = some (.slice A1 t.us.length c1) ∧ w'.cell? ⟨w.heap.size, 1, none⟩ = some (.slice A2 t.bs.length c2)) (first | go_keep | exact ⟨y0', y1'⟩ | (constructor <;> go_keep)) (first
      | (refine step_app _ (by rfl) (.tmp 47) (.tmp 49) _ (by rfl) W.heap.size 3 ii0 _ 8 Try.underlying28 hii hz0 hz1 hz2 rfl (.slice (some ⟨W.heap.size, 0, none⟩) 0 0) 0 [] (by rfl) HO0.out A2 _ c2 _ (by rfl) HS1.out k1.out k2.out (by simp) ?_; intro v5 w5 ho5 hg5 hat5; have hB5 := below_own HB0.out HO0.out hg5 (by simp) (Nat.le_refl _); obtain ⟨y0', y1', y2', -, -, -⟩ := blk3 (hY2.out.below hB5 hY2.out.lt); obtain ⟨r0', r1', r2', f0', f1', f2'⟩ := blk3 (hX2.out.below hB5 hX2.out.lt); replace ho5 : w5.ownsRow W.heap.size 3 1 v5 t.bs.length (t.bs.map (Value.int .i64)) := (by simpa using ho5); obtain ⟨A5, c5, rfl, hI5⟩ := ints_of_own ho5; replace ho5 := Lib.hid ho5; replace hg5 := Lib.hid hg5; replace hB5 := Lib.hid hB5; replace hI5 := Lib.hid hI5))
    all_goals
      have HZ := Lib.hid (hB2.out.trans (hB5.out.mono hB2.out.size))
      have S1 := Lib.hid ((hS.out.take (m := t.us.length) (by omega)).below hB5.out (Nat.le_refl _))
      have S3 := Lib.hid ((show Strs W (some ⟨g, t.us.length, none⟩) t.ns.length (c - t.us.length) _ by have := hS.out.drop (m := t.us.length) (by omega); rwa [Nat.zero_add, Nat.add_sub_cancel_left] at this).below hB5.out (Nat.le_refl _))
      clear y0 y1 y2 r0 r1 r2 f0 f1 f2 y0' y1' y2'
      go_wp2
      refine bodyPost_ret (v := .tuple #[.agg #[.slice (some ⟨g, 0, none⟩) t.us.length c, .slice A5 t.bs.length c5, .slice (some ⟨g, t.us.length, none⟩) t.ns.length (c - t.us.length)], .bool true]) (by simp [results, Try.results34, go_sem, r0', r1', r2']) rfl ?_
      refine ⟨_, by rw [hsB.out], ?_, below_tng3 HZ.out (by omega)⟩
      rw [hsT.out]
      exact tng_set3 (B := W.heap.size) S1.out ho5.out S3.out (by omega) (by omega)

theorem specSwappedOf_any (v : Value) (t : Tg) (a b : Int) (w : World) (h : Tng w v t) (hf : t.Fine) (ha : -9223372036854775808 ≤ a ∧ a ≤ 9223372036854775807) (hb : -9223372036854775808 ≤ b ∧ b ≤ 9223372036854775807) :
    Calls Try.prog 34 #[v, .int .i64 a, .int .i64 b] w (RetTngS w (swT t a b) (swB t a b)) := by
  cases hsw : swB t a b
  · have := specSwapped_no v t a b w h hf hsw ha hb
    rwa [hsw] at this
  · have hs := hsw
    unfold swB at hs
    rw [Bool.and_eq_true, decide_eq_true_eq] at hs
    obtain ⟨hok, hi, hj⟩ := hs
    obtain ⟨i, rfl⟩ : ∃ i : Nat, a = i := ⟨a.toNat, by omega⟩
    obtain ⟨j, rfl⟩ : ∃ j : Nat, b = j := ⟨b.toNat, by omega⟩
    have := specSwapped_yes v t i j w h hf hok (by omega) (by omega)
    rwa [hsw] at this
end Go.Proofs.Ytdmldgikfjgmhaa
