/-
  The contract of exchanged.
-/
import Derived.Test.YtdmldgikfjgmhaaSwapB
import Derived.Deep.RegionHeld3
import Derived.WalkLawsBesides
namespace Go.Proofs.Ytdmldgikfjgmhaa
open Go.RowKit

/-- A tongue of the call's own: three rows, those of strings apart. -/
structure OwnTng (w : World) (B : Nat) (v : Value) (t : Tg) : Prop where
  ex : ∃ v1 v2 v3, v = .agg #[v1, v2, v3] ∧ OwnStrs w B v1 t.us ∧ OwnI w B v2 t.bs ∧ OwnStrs w B v3 t.ns ∧ ∀ k, v1.ownBlock = some k → v3.ownBlock ≠ some k
theorem OwnTng.below {w w' : World} {B S : Nat} {v : Value} {t : Tg} (h : OwnTng w B v t) (hb : Below S w w') (hS : w.heap.size ≤ S) : OwnTng w' B v t := by
  obtain ⟨v1, v2, v3, e, h1, h2, h3, ha⟩ := h.ex
  exact ⟨v1, v2, v3, e, h1.below hb hS, h2.below hb hS, h3.below hb hS, ha⟩
theorem OwnTng.mono {w : World} {B B' : Nat} {v : Value} {t : Tg} (h : OwnTng w B v t) (hB : B' ≤ B) : OwnTng w B' v t := by
  obtain ⟨v1, v2, v3, e, h1, h2, h3, ha⟩ := h.ex
  exact ⟨v1, v2, v3, e, h1.mono hB, h2.mono hB, h3.mono hB, ha⟩
theorem OwnTng.tng {w : World} {B : Nat} {v : Value} {t : Tg} (h : OwnTng w B v t) : Tng w v t := by
  obtain ⟨v1, v2, v3, e, h1, h2, h3, ha⟩ := h.ex
  obtain ⟨A1, c1, rfl, s1⟩ := h1.strs
  obtain ⟨A2, c2, rfl, s2⟩ := h2.ints
  obtain ⟨A3, c3, rfl, s3⟩ := h3.strs
  exact ⟨A1, c1, A2, c2, A3, c3, e, s1, s2, s3⟩
def noTg : Tg := ⟨[], [], []⟩
theorem own_noTg (w : World) (B : Nat) : OwnTng w B (.agg #[.slice none 0 0, .slice none 0 0, .slice none 0 0]) noTg :=
  ⟨_, _, _, rfl, owns_none _ _ _, owns_none _ _ _, owns_none _ _ _, fun k hk => by simp [Value.ownBlock] at hk⟩
def RetTng (w : World) (t : Tg) (e : Ending) (w' : World) : Prop := ∃ v, e = .returned v ∧ OwnTng w' w.heap.size v t ∧ Below w.heap.size w w'

/-- Two places of words. -/
def inPl (t : Tg) (a b : Int) : Prop := (0 ≤ a ∧ a < t.words.length) ∧ (0 ≤ b ∧ b < t.words.length)
instance (t : Tg) (a b : Int) : Decidable (inPl t a b) := inferInstanceAs (Decidable (_ ∧ _))
def exT (t : Tg) (a b : Int) : Tg := if inPl t a b then ⟨(swapAt t.words a.toNat b.toNat).take t.us.length, t.bs, (swapAt t.words a.toNat b.toNat).drop t.us.length⟩ else noTg


theorem inPl_no {t : Tg} {a b : Int} (h : ¬ inPl t a b) : min a b < 0 ∨ (0 ≤ min a b ∧ (t.words.length : Int) ≤ max a b) := by
  unfold inPl at h; omega

set_option maxRecDepth 100000 in
set_option maxHeartbeats 2000000 in
theorem exchanged_no (v : Value) (t : Tg) (a b : Int) (w : World) (h : Tng w v t) (hf : t.Fine) (hab : ¬ inPl t a b) (ha : -9223372036854775808 ≤ a ∧ a ≤ 9223372036854775807) (hb : -9223372036854775808 ≤ b ∧ b ≤ 9223372036854775807) :
    Calls Try.prog 54 #[v, .int .i64 a, .int .i64 b] w (RetTng w (exT t a b)) := by
  obtain ⟨A1, c1, A2, c2, A3, c3, rfl, h1, h2, h3⟩ := h.ex
  have HR : ∀ w', Below w.heap.size w w' → RetTng w (exT t a b) (.returned (.agg #[.slice none 0 0, .slice none 0 0, .slice none 0 0])) w' := fun w' hb => ⟨_, rfl, by unfold exT; rw [if_neg hab]; exact own_noTg _ _, hb⟩
  replace HR := Lib.hid HR
  have H1 := Lib.hid h1
  have H3 := Lib.hid h3
  have HF := Lib.hid hf
  have hwl := Lib.hid (words_length t)
  have hu := hf.us
  have hn := hf.ns
  have hcase := inPl_no hab
  have hW2 : Below w.heap.size w (((w.alloc (.cells #[.slice A1 t.us.length c1, .slice A2 t.bs.length c2, .slice A3 t.ns.length c3] 30)).alloc (.cells #[.slice none 0 0, .slice none 0 0, .slice none 0 0] 30)).alloc (.cells #[.slice A1 t.us.length c1, .slice A3 t.ns.length c3] 27)) := (((Below.refl _ _).alloc (Nat.le_refl _) _).alloc (by simp) _).alloc (by simp; omega) _
  have HX : Blk (((w.alloc (.cells #[.slice A1 t.us.length c1, .slice A2 t.bs.length c2, .slice A3 t.ns.length c3] 30)).alloc (.cells #[.slice none 0 0, .slice none 0 0, .slice none 0 0] 30)).alloc (.cells #[.slice A1 t.us.length c1, .slice A3 t.ns.length c3] 27)) (w.heap.size + 1) 30 #[.slice none 0 0, .slice none 0 0, .slice none 0 0] := (blk_new_at (w.heap.size + 1) (by simp)).alloc _
  replace hW2 := Lib.hid hW2
  replace HX := Lib.hid HX
  clear h h1 h2 h3 hf hab
  go_enter Try.func54, Try.ntmps54
  go_wp2_with (fail)
  refine (concat_any A1 A3 (w.heap.size + 2) _ c1 _ c3 t.us t.ns _ (by simp) (by go_simp) (by go_simp) (H1.out.below hW2.out (Nat.le_refl _)) (H3.out.below hW2.out (Nat.le_refl _)) HF.out.us HF.out.ns).mono ?_
  rintro e w1 ⟨v1, rfl, ho1, hb1⟩
  have hB := hW2.out.trans (hb1.mono hW2.out.size)
  have hX := HX.out.below hb1 HX.out.lt
  have r0 : w1.cell? ⟨w.heap.size + 1, 0, none⟩ = some (.slice none 0 0) := hX.cell 0
  have r1 : w1.cell? ⟨w.heap.size + 1, 1, none⟩ = some (.slice none 0 0) := hX.cell 1
  have r2 : w1.cell? ⟨w.heap.size + 1, 2, none⟩ = some (.slice none 0 0) := hX.cell 2
  have f0 := hX.frozen 0
  have f1 := hX.frozen 1
  have f2 := hX.frozen 2
  obtain ⟨A, c, rfl, hS⟩ := strs_of_own ho1
  rw [hwl.out] at hcase
  clear hX ho1 hb1 HX hW2 H1 H3 hS
  replace hB := Lib.hid hB
  rcases hcase with hlt | ⟨hge, hlt⟩
  · go_wp2
    all_goals
      refine bodyPost_ret (v := .agg #[.slice none 0 0, .slice none 0 0, .slice none 0 0]) (by simp [results, Try.results54, go_sem, r0, r1, r2]) rfl (HR.out _ ?_)
      exact ((hB.out.setCell (by simp) _).setCell (by simp) _).setCell (by simp) _
  · go_wp2
    all_goals
      refine bodyPost_ret (v := .agg #[.slice none 0 0, .slice none 0 0, .slice none 0 0]) (by simp [results, Try.results54, go_sem, r0, r1, r2]) rfl (HR.out _ ?_)
      exact ((hB.out.setCell (by simp) _).setCell (by simp) _).setCell (by simp) _
end Go.Proofs.Ytdmldgikfjgmhaa
