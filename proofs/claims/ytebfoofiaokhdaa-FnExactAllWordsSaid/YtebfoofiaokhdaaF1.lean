/-
  The program's table of how many numbers have so many words: its cells, the closure that keeps a number.
-/
import Derived.Test.YtebfoofiaokhdaaMathM
import Derived.Test.YtebfoofiaokhdaaP3e
import Derived.Test.YtebfoofiaokhdaaInv
import Derived.Laws.Rows
import Derived.Laws.Tables
namespace Go.Proofs.Ytebfoofiaokhdaa
open Go.RowKit

/-- The cells of a table. -/
def tabV (l : List Int) : Array Value := (l.map (Value.int .i64)).toArray
theorem tabV_size (l : List Int) : (tabV l).size = l.length := by simp [tabV]
theorem tabV_one (l : List Int) : (tabV l).all (·.oneCell') = true := Array.all_eq_true_iff_forall_mem.2 fun v hv => by
  unfold tabV at hv
  obtain ⟨x, -, rfl⟩ := List.mem_map.1 (by simpa using hv)
  rfl
theorem tabV_at {l : List Int} {i : Nat} (hi : i < l.length) : (tabV l)[i]? = some (.int .i64 (l.getD i 0)) := by
  simp [tabV, hi]
theorem tabV_set (l : List Int) (i : Nat) (x : Int) : (tabV l).setIfInBounds i (.int .i64 x) = tabV (l.set i x) := by
  unfold tabV
  rw [List.setIfInBounds_toArray, List.map_set]

section
variable (f : Nat → Int)
/-- How many of the first k numbers have so many words. -/
def tabC (k : Nat) : List Int := (List.range 32).map fun i : Nat => if i = 0 then 0 else (cwTo f (i : Int) k : Int)
/-- The least of these. -/
def tabL (k : Nat) : List Int := (List.range 32).map fun i : Nat => if i = 0 then 0 else (lwTo f (i : Int) k : Int)
end
section
variable {f : Nat → Int} {k : Nat}
theorem tabC_len : (tabC f k).length = 32 := by simp [tabC]
theorem tabL_len : (tabL f k).length = 32 := by simp [tabL]
theorem tabC_at {i : Nat} (h1 : 1 ≤ i) (hi : i < 32) : (tabC f k).getD i 0 = (cwTo f (i : Int) k : Int) := by
  have : i ≠ 0 := by omega
  simp [tabC, hi, this]
theorem tabL_at {i : Nat} (h1 : 1 ≤ i) (hi : i < 32) : (tabL f k).getD i 0 = (lwTo f (i : Int) k : Int) := by
  have : i ≠ 0 := by omega
  simp [tabL, hi, this]
theorem tabC_zero : (tabC f k).getD 0 0 = 0 := by simp [tabC]
theorem tabL_zero : (tabL f k).getD 0 0 = 0 := by simp [tabL]
theorem tabC_start : tabC f 0 = List.replicate 32 0 := by
  rw [List.eq_replicate_iff]
  refine ⟨tabC_len, fun b hb => ?_⟩
  obtain ⟨i, -, rfl⟩ := List.mem_map.1 hb
  split <;> rfl
theorem tabL_start : tabL f 0 = List.replicate 32 0 := by
  rw [List.eq_replicate_iff]
  refine ⟨tabL_len, fun b hb => ?_⟩
  obtain ⟨i, -, rfl⟩ := List.mem_map.1 hb
  split <;> rfl
theorem tab_none (h : f (k + 1) < 1) : tabC f (k + 1) = tabC f k ∧ tabL f (k + 1) = tabL f k := by
  constructor
  · refine List.map_congr_left fun i _ => ?_
    by_cases h0 : i = 0
    · rw [if_pos h0, if_pos h0]
    · rw [if_neg h0, if_neg h0, cw_no (by omega)]
  · refine List.map_congr_left fun i _ => ?_
    by_cases h0 : i = 0
    · rw [if_pos h0, if_pos h0]
    · rw [if_neg h0, if_neg h0, lw_same (by omega)]
theorem tab_some {j : Nat} (h1 : 1 ≤ j) (hj : j < 32) (h : f (k + 1) = (j : Int)) :
    tabC f (k + 1) = (tabC f k).set j ((tabC f k).getD j 0 + 1) ∧ tabL f (k + 1) = (if (tabC f k).getD j 0 = 0 then (tabL f k).set j ((k : Int) + 1) else tabL f k) := by
  have hj0 : j ≠ 0 := by omega
  constructor
  · rw [tabC_at h1 hj]
    refine List.ext_getElem (by simp [tabC]) fun i hi _ => ?_
    have hi' : i < 32 := by simpa [tabC] using hi
    rw [List.getElem_set]
    by_cases e : j = i
    · subst e
      rw [if_pos rfl]
      simp [tabC, hj0, cw_yes h]
    · rw [if_neg e]
      by_cases h0 : i = 0
      · simp [tabC, h0]
      · simp [tabC, h0, cw_no (f := f) (k := k) (w := (i : Int)) (by omega)]
  · have hcl := cw_lw (f := f) (w := (j : Int)) k
    rw [tabC_at h1 hj]
    by_cases hc : cwTo f (j : Int) k = 0
    · rw [if_pos (by omega)]
      have hl := hcl.1 hc
      refine List.ext_getElem (by simp [tabL]) fun i hi _ => ?_
      have hi' : i < 32 := by simpa [tabL] using hi
      rw [List.getElem_set]
      by_cases e : j = i
      · subst e
        rw [if_pos rfl]
        simp [tabL, hj0, lw_new hl h]
      · rw [if_neg e]
        by_cases h0 : i = 0
        · simp [tabL, h0]
        · simp [tabL, h0, lw_same (f := f) (k := k) (w := (i : Int)) (by omega)]
    · rw [if_neg (by omega)]
      refine List.map_congr_left fun i _ => ?_
      by_cases h0 : i = 0
      · rw [if_pos h0, if_pos h0]
      · rw [if_neg h0, if_neg h0]
        by_cases e : j = i
        · subst e
          rw [lw_kept (fun h => hc (hcl.2 h))]
        · rw [lw_same (by omega)]
end

/-- A number is kept. -/
def KeptIn (bc bl : Nat) (C L : List Int) (j : Nat) (n : Int) (w : World) (e : Ending) (w' : World) : Prop :=
  e = .returned (.tuple #[]) ∧ Blk w' bc 55 (tabV (C.set j (C.getD j 0 + 1))) ∧ Blk w' bl 55 (tabV (if C.getD j 0 = 0 then L.set j n else L)) ∧ ∀ B, B ≤ bc → B ≤ bl → Below B w w'

set_option maxRecDepth 100000 in
set_option maxHeartbeats 1000000 in
theorem keep_any (bc bl : Nat) (C L : List Int) (j : Nat) (n : Int) (w : World) (h1 : Blk w bc 55 (tabV C)) (h2 : Blk w bl 55 (tabV L)) (hne : bc ≠ bl) (hC : C.length = 32) (hL : L.length = 32) (hj : j < 32) (hb : 0 ≤ C.getD j 0 ∧ C.getD j 0 ≤ 4000) :
    Calls Try.prog 70 #[.int .i64 j, .int .i64 n, .pointer (some ⟨bc, 0, none⟩), .pointer (some ⟨bl, 0, none⟩)] w (KeptIn bc bl C L j n w) := by
  have y1 := (h1.cell j).trans (tabV_at (by omega))
  have y2 := (h2.cell j).trans (tabV_at (by omega))
  have f1 := h1.frozen j
  have f2 := h2.frozen j
  have HC := h1.set_ j (.int .i64 (C.getD j 0 + 1))
  rw [tabV_set] at HC
  have HL := h2.set_ j (.int .i64 n)
  rw [tabV_set] at HL
  have j0 : (0 : Int) ≤ (j : Int) := by omega
  have j1 : (j : Int) < 32 := by omega
  obtain ⟨hb1, hb2⟩ := hb
  have e1 : IntKind.i64.wrap (C.getD j 0 + 1) = C.getD j 0 + 1 := IntWalk.i64_in _ (by omega)
  by_cases h0 : C.getD j 0 = 0
  · have H1 := (HL.far (p := ⟨bc, j, none⟩) (Ne.symm hne) (.int .i64 (C.getD j 0 + 1)))
    have H2 := h1.far (p := ⟨bl, j, none⟩) hne (.int .i64 n)
    have H3 := H2.set_ j (.int .i64 (C.getD j 0 + 1))
    rw [tabV_set] at H3
    have y3 := (H2.cell j).trans (tabV_at (by omega))
    have f3 := H2.frozen j
    have HF : KeptIn bc bl C L j n w (.returned (.tuple #[])) ((w.setCell ⟨bl, j, none⟩ (.int .i64 n)).setCell ⟨bc, j, none⟩ (.int .i64 (C.getD j 0 + 1))) :=
      ⟨rfl, H3, by rw [if_pos h0]; exact H1, fun B hB1 hB2 => ((Below.refl B w).setCell (p := ⟨bl, j, none⟩) hB2 _).setCell (p := ⟨bc, j, none⟩) hB1 _⟩
    rw [h0] at HF y1 y3 e1
    replace HF := Lib.hid HF
    replace h0 := Lib.hid h0
    clear H1 H2 H3 HC HL hb1 hb2 h1 h2
    go_enter Try.func70, Try.ntmps70
    go_wp2
    refine bodyPost_ret (v := .tuple #[]) (by simp [results, Try.results70, go_sem]) rfl ?_
    exact HF.out
  · have H1 := h2.far (p := ⟨bc, j, none⟩) (Ne.symm hne) (.int .i64 (C.getD j 0 + 1))
    have HF : KeptIn bc bl C L j n w (.returned (.tuple #[])) (w.setCell ⟨bc, j, none⟩ (.int .i64 (C.getD j 0 + 1))) :=
      ⟨rfl, HC, by rw [if_neg h0]; exact H1, fun B hB1 _ => (Below.refl B w).setCell (p := ⟨bc, j, none⟩) hB1 _⟩
    have g0 : (C.getD j 0 == 0) = false := by rw [beq_eq_false_iff_ne]; exact h0
    generalize C.getD j 0 = x at *
    replace HF := Lib.hid HF
    clear H1 HC HL h1 h2
    go_enter Try.func70, Try.ntmps70
    go_wp2
    refine bodyPost_ret (v := .tuple #[]) (by simp [results, Try.results70, go_sem]) rfl ?_
    exact HF.out
end Go.Proofs.Ytebfoofiaokhdaa
