/-
  Desks in rows of the call's own whose past is a whole row; small desks.
-/
import Derived.Test.YtjnlpknjdclalaaDkL
import Derived.Test.YtjnlpknjdclalaaGC
namespace Go.Proofs.Ytjnlpknjdclalaa
open Go.RowKit

structure WDk (w : World) (B : Nat) (v : Value) (d : Dk) : Prop where
  ex : ∃ v1 v2 v3 v5, v = .agg #[v1, v2, v3, .int .i64 d.now, v5] ∧ LTng w B (.agg #[v1, v2, v3]) d.t ∧ OwnI w B v5 d.past ∧ ∀ k, v2.ownBlock = some k → v5.ownBlock ≠ some k
section
variable {w w' : World} {B B' S g i : Nat} {v u : Value} {d : Dk} {cs : Array Value}
theorem WDk.m (h : WDk w B v d) : MDk w B v d := let ⟨v1, v2, v3, v5, e, h1, h2, _⟩ := h.ex; ⟨v1, v2, v3, v5, e, h1, h2.tail⟩
theorem WDk.dsk (h : WDk w B v d) : Dsk w v d := h.m.dsk
theorem WDk.below (h : WDk w B v d) (hb : Below S w w') (hS : w.heap.size ≤ S) : WDk w' B v d := let ⟨v1, v2, v3, v5, e, h1, h2, h3⟩ := h.ex; ⟨v1, v2, v3, v5, e, h1.below hb hS, h2.below hb hS, h3⟩
theorem WDk.mono (h : WDk w B v d) (hB : B' ≤ B) : WDk w B' v d := let ⟨v1, v2, v3, v5, e, h1, h2, h3⟩ := h.ex; ⟨v1, v2, v3, v5, e, h1.mono hB, h2.mono hB, h3⟩
theorem LDk.whole (h : LDk w B v d) : WDk w B v d := h.ex.elim fun v1 ⟨v2, v3, v5, e, h1, h2, h3⟩ => ⟨v1, v2, v3, v5, e, h1, h2, h3⟩
theorem WDk.setM (h : WDk w B v d) (hb : Blk w g 28 cs) : WDk (w.setCell ⟨g, i, none⟩ u) B v d := let ⟨v1, v2, v3, v5, e, h1, h2, h3⟩ := h.ex; ⟨v1, v2, v3, v5, e, h1.setM hb, own_set h2 (own_blk_ne h2 hb (by decide)), h3⟩
theorem LTng.keptG {t : Tg} (h : LTng w B v t) (hg : w.grownBy w' (some g)) (g0 : g < B) : LTng w' B v t := by
  obtain ⟨v1, v2, v3, e, o1, o2, o3⟩ := h.ex
  exact ⟨v1, v2, v3, e, own_kept o1 hg (fun r e => .inl (by cases e; exact g0)), own_kept o2 hg (fun r e => .inl (by cases e; exact g0)), own_kept o3 hg (fun r e => .inl (by cases e; exact g0))⟩
theorem MDk.keptG (h : MDk w B v d) (hg : w.grownBy w' (some g)) (g0 : g < B) : MDk w' B v d := by
  obtain ⟨v1, v2, v3, v5, e, h1, h2⟩ := h.ex
  exact ⟨v1, v2, v3, v5, e, h1.keptG hg g0, h2.grown hg (fun k hk e => by have := (h2.lt k hk).1; cases e; omega)⟩
theorem WDk.keptG (h : WDk w B v d) (hg : w.grownBy w' (some g)) (g0 : g < B) : WDk w' B v d := by
  obtain ⟨v1, v2, v3, v5, e, h1, h2, h3⟩ := h.ex
  exact ⟨v1, v2, v3, v5, e, h1.keptG hg g0, own_kept h2 hg (fun r e => .inl (by cases e; exact g0)), h3⟩
end
theorem own_wd5 {w : World} {B g : Nat} {v u0 u1 u2 u3 u4 : Value} {cs : Array Value} {d : Dk} (h : WDk w B v d) (hb : Blk w g 28 cs) :
    WDk (((((w.setCell ⟨g, 0, none⟩ u0).setCell ⟨g, 1, none⟩ u1).setCell ⟨g, 2, none⟩ u2).setCell ⟨g, 3, none⟩ u3).setCell ⟨g, 4, none⟩ u4) B v d :=
  ((((h.setM hb).setM (hb.set_ 0 u0)).setM ((hb.set_ 0 u0).set_ 1 u1)).setM (((hb.set_ 0 u0).set_ 1 u1).set_ 2 u2)).setM ((((hb.set_ 0 u0).set_ 1 u1).set_ 2 u2).set_ 3 u3)
theorem own_wdNo (w : World) (B : Nat) : WDk w B (.agg #[.slice none 0 0, .slice none 0 0, .slice none 0 0, .int .i64 0, .slice none 0 0]) noDk := ⟨_, _, _, _, rfl, own_ltNo w B, owns_none _ _ _, fun k _ e => by simp [Value.ownBlock] at e⟩
/-- What the model returns of a desk with n0 numbers of before: with fewer than eight the past is a whole row. -/
def RetMW (w : World) (n0 : Nat) (d : Dk) (b : Bool) (e : Ending) (w' : World) : Prop := ∃ v, e = .returned (.tuple #[v, .bool b]) ∧ MDk w' w.heap.size v d ∧ (n0 ≤ 7 → WDk w' w.heap.size v d) ∧ Below w.heap.size w w'

/-- A drawn desk is small. -/
structure SmallD (d : Dk) : Prop where
  t : SmallT 40 d.t
  now : -200000 ≤ d.now ∧ d.now ≤ 200000
  len : d.past.length ≤ 9
  bd : ∀ x ∈ d.past, -200000 ≤ x ∧ x ≤ 200000
theorem SmallD.fine {d : Dk} (h : SmallD d) : d.Fine := ⟨h.t.fine (by omega), by have := h.now; omega, by have := h.len; omega, Fits.of_small fun x hx => by have := h.bd x hx; omega⟩
theorem small_noTg : SmallT 40 noTg := ⟨by simp [noTg], by simp [noTg], by simp [noTg], by simp [noTg], by simp [noTg]⟩
theorem small_noDk : SmallD noDk := ⟨small_noTg, by simp [noDk], by simp [noDk], by simp [noDk]⟩
theorem new_small {t : Tg} {n : Int} (h : SmallT 40 t) (hn : -200000 ≤ n ∧ n ≤ 200000) : SmallD (dkNew t n) ∧ (dkNew t n).past.length = 0 := by
  unfold dkNew
  split
  · exact ⟨⟨h, hn, by simp, by simp⟩, rfl⟩
  · exact ⟨small_noDk, rfl⟩
theorem do_small {d : Dk} (h : SmallD d) (a : Dd) : SmallD (dkDo d a).1 := by
  cases hok : dkOk d
  · rw [do_no hok]; exact small_noDk
  · obtain ⟨h1, h2, h3⟩ := (dkOk_iff d).1 hok
    by_cases ha : a.kind = 4 ∧ a.n = 0
    · rw [do_back hok ha]
      unfold backD
      split
      · rename_i h0
        refine ⟨h.t, h.bd _ (getD_mem (by omega)), ?_, fun x hx => h.bd x (List.mem_of_mem_take hx)⟩
        show (d.past.take _).length ≤ 9
        rw [List.length_take]; omega
      · exact h
    · rw [do_put hok ha]
      by_cases hp : namedB d.t (madeOf d a) = true ∧ madeOf d a ≠ d.now
      · rw [put_yes hp]
        have hm := named_bd hp.1
        refine ⟨h.t, by show -200000 ≤ madeOf d a ∧ madeOf d a ≤ 200000; omega, ?_, fun x hx => ?_⟩
        · show (List.drop _ (d.past ++ [d.now])).length ≤ 9
          rw [List.length_drop, List.length_append, List.length_singleton]; omega
        · rcases List.mem_append.1 (List.mem_of_mem_drop hx) with hm' | hm'
          · exact h.bd x hm'
          · rw [List.mem_singleton] at hm'; rw [hm']; exact h.now
      · rw [put_no hp]; exact h
theorem do_len (d : Dk) (a : Dd) : (dkDo d a).1.past.length ≤ d.past.length + 1 := by
  cases hok : dkOk d
  · rw [do_no hok]; exact Nat.zero_le _
  · by_cases ha : a.kind = 4 ∧ a.n = 0
    · rw [do_back hok ha]
      unfold backD
      split
      · show (d.past.take _).length ≤ _
        rw [List.length_take]; omega
      · exact Nat.le_succ _
    · rw [do_put hok ha]
      by_cases hp : namedB d.t (madeOf d a) = true ∧ madeOf d a ≠ d.now
      · rw [put_yes hp]
        show (List.drop _ (d.past ++ [d.now])).length ≤ _
        rw [List.length_drop, List.length_append, List.length_singleton]; omega
      · rw [put_no hp]; exact Nat.le_succ _
end Go.Proofs.Ytjnlpknjdclalaa
