/-
  Desks in memory: anywhere, and of the call's own; a row without its first number.
-/
import Derived.Test.YtjnlpknjdclalaaMathW
import Derived.Test.YtjnlpknjdclalaaGA
import Derived.Test.YtjnlpknjdclalaaGB
import Derived.Test.YtjnlpknjdclalaaGC
namespace Go.Proofs.Ytjnlpknjdclalaa
open Go.RowKit

/-- The value v is the desk d, with slices anywhere. -/
structure Dsk (w : World) (v : Value) (d : Dk) : Prop where
  ex : ∃ A1 c1 A2 c2 A3 c3 A5 c5, v = .agg #[.slice A1 d.t.us.length c1, .slice A2 d.t.bs.length c2, .slice A3 d.t.ns.length c3, .int .i64 d.now, .slice A5 d.past.length c5] ∧ Strs w A1 d.t.us.length c1 d.t.us ∧ Ints w .i64 A2 d.t.bs.length c2 d.t.bs ∧ Strs w A3 d.t.ns.length c3 d.t.ns ∧ Ints w .i64 A5 d.past.length c5 d.past
theorem Dsk.below {w w' : World} {B : Nat} {v : Value} {d : Dk} (h : Dsk w v d) (hb : Below B w w') (hB : w.heap.size ≤ B) : Dsk w' v d := by
  obtain ⟨A1, c1, A2, c2, A3, c3, A5, c5, e, h1, h2, h3, h5⟩ := h.ex
  exact ⟨A1, c1, A2, c2, A3, c3, A5, c5, e, h1.below hb hB, h2.below hb hB, h3.below hb hB, h5.below hb hB⟩
theorem Dsk.drewN {w : World} {v : Value} {d : Dk} (h : Dsk w v d) (m : Nat) : Dsk (w.drewN m) v d := h.below (below_drewN (Below.refl _ _) m) (Nat.le_refl _)

/-- A row of the call's own, or one without its first number. -/
structure TailI (w : World) (B : Nat) (v : Value) (xs : List Int) : Prop where
  ex : OwnI w B v xs ∨ ∃ z g cap, OwnI w B (.slice (some ⟨g, 0, none⟩) (xs.length + 1) (cap + 1)) (z :: xs) ∧ v = .slice (some ⟨g, 1, none⟩) xs.length cap
section
variable {w w' : World} {B B' S : Nat} {v : Value} {xs : List Int}
theorem OwnI.tail (h : OwnI w B v xs) : TailI w B v xs := ⟨.inl h⟩
theorem TailI.below (h : TailI w B v xs) (hb : Below S w w') (hS : w.heap.size ≤ S) : TailI w' B v xs := by
  rcases h.ex with h | ⟨z, g, cap, h, e⟩
  · exact ⟨.inl (h.below hb hS)⟩
  · exact ⟨.inr ⟨z, g, cap, h.below hb hS, e⟩⟩
theorem TailI.mono (h : TailI w B v xs) (hB : B' ≤ B) : TailI w B' v xs := by
  rcases h.ex with h | ⟨z, g, cap, h, e⟩
  · exact ⟨.inl (h.mono hB)⟩
  · exact ⟨.inr ⟨z, g, cap, h.mono hB, e⟩⟩
theorem TailI.ints (h : TailI w B v xs) : ∃ A c, v = .slice A xs.length c ∧ Ints w .i64 A xs.length c xs := by
  rcases h.ex with ho | ⟨z, g, cap, ho, rfl⟩
  · exact ho.ints
  · obtain ⟨A, c, e, hi⟩ := ho.ints
    cases e
    refine ⟨some ⟨g, 1, none⟩, cap, rfl, rfl, by have := hi.le; simp only [List.length_cons] at this; omega, fun _ => ?_⟩
    obtain ⟨b, o, e, hlt, hc⟩ := hi.at_ (by simp)
    cases e
    refine ⟨g, 1, rfl, hlt, fun j hj => ?_⟩
    have := hc (1 + j) (by simp only [List.length_cons]; omega)
    rw [Nat.zero_add, Nat.add_comm 1 j] at this
    rw [Nat.add_comm 1 j, this]
    simp
theorem TailI.lt (h : TailI w B v xs) : ∀ k, v.ownBlock = some k → B ≤ k ∧ k < w.heap.size := by
  rcases h.ex with ho | ⟨z, g, cap, ho, rfl⟩
  · exact World.ownsRow.lt ho
  · intro k hk
    exact World.ownsRow.lt ho k hk
/-- Kept where its block is. -/
theorem TailI.grown {row : Option Nat} (h : TailI w B v xs) (hg : w.grownBy w' row) (hne : ∀ k, v.ownBlock = some k → row ≠ some k) : TailI w' B v xs := by
  have hk : ∀ {u : Value} {n : Nat} {ys : List Value}, u.ownBlock = v.ownBlock → w.ownsRow B 3 1 u n ys → w'.ownsRow B 3 1 u n ys := fun {u n ys} e ho => by
    refine World.ownsRow.kept ho hg ?_
    cases hv : u.ownBlock with
    | none => exact .inl rfl
    | some k => exact .inr fun e2 => hne k (by rw [← e]; exact hv) e2.symm
  rcases h.ex with ho | ⟨z, g, cap, ho, rfl⟩
  · exact ⟨.inl (hk rfl ho)⟩
  · exact ⟨.inr ⟨z, g, cap, hk rfl ho, rfl⟩⟩
end

/-- A desk of the call's own. -/
structure OwnDk (w : World) (B : Nat) (v : Value) (d : Dk) : Prop where
  ex : ∃ v1 v2 v3 v5, v = .agg #[v1, v2, v3, .int .i64 d.now, v5] ∧ OwnTng w B (.agg #[v1, v2, v3]) d.t ∧ TailI w B v5 d.past ∧ ∀ k, v2.ownBlock = some k → v5.ownBlock ≠ some k
section
variable {w w' : World} {B B' S : Nat} {v : Value} {d : Dk}
theorem OwnDk.below (h : OwnDk w B v d) (hb : Below S w w') (hS : w.heap.size ≤ S) : OwnDk w' B v d := by
  obtain ⟨v1, v2, v3, v5, e, h1, h2, h3⟩ := h.ex
  exact ⟨v1, v2, v3, v5, e, h1.below hb hS, h2.below hb hS, h3⟩
theorem OwnDk.mono (h : OwnDk w B v d) (hB : B' ≤ B) : OwnDk w B' v d := by
  obtain ⟨v1, v2, v3, v5, e, h1, h2, h3⟩ := h.ex
  exact ⟨v1, v2, v3, v5, e, h1.mono hB, h2.mono hB, h3⟩
theorem OwnDk.dsk (h : OwnDk w B v d) : Dsk w v d := by
  obtain ⟨v1, v2, v3, v5, rfl, h1, h2, h3⟩ := h.ex
  obtain ⟨A1, c1, A2, c2, A3, c3, e, s1, s2, s3⟩ := h1.tng.ex
  obtain ⟨A5, c5, rfl, s5⟩ := h2.ints
  cases e
  exact ⟨A1, c1, A2, c2, A3, c3, A5, c5, rfl, s1, s2, s3, s5⟩
end
theorem own_noDk (w : World) (B : Nat) : OwnDk w B (.agg #[.slice none 0 0, .slice none 0 0, .slice none 0 0, .int .i64 0, .slice none 0 0]) noDk :=
  ⟨_, _, _, _, rfl, own_noTg w B, OwnI.tail (owns_none _ _ _), fun k hk => by simp [Value.ownBlock] at hk⟩
def zeroDk : Obj := .cells #[.slice none 0 0, .slice none 0 0, .slice none 0 0, .int .i64 0, .slice none 0 0] 28
/-- A desk is returned. -/
def RetDk (w : World) (d : Dk) (e : Ending) (w' : World) : Prop := ∃ v, e = .returned v ∧ OwnDk w' w.heap.size v d ∧ Below w.heap.size w w'
/-- A desk and a Boolean. -/
def RetDkB (w : World) (d : Dk) (b : Bool) (e : Ending) (w' : World) : Prop := ∃ v, e = .returned (.tuple #[v, .bool b]) ∧ OwnDk w' w.heap.size v d ∧ Below w.heap.size w w'
/-- A desk and a number. -/
def RetDkN (w : World) (d : Dk) (n : Int) (e : Ending) (w' : World) : Prop := ∃ v, e = .returned (.tuple #[v, .int .i64 n]) ∧ OwnDk w' w.heap.size v d ∧ Below w.heap.size w w'
/-- A desk, anywhere in memory, and a Boolean: what the model returns. -/
def RetDskB (w : World) (d : Dk) (b : Bool) (e : Ending) (w' : World) : Prop := ∃ v, e = .returned (.tuple #[v, .bool b]) ∧ Dsk w' v d ∧ Below w.heap.size w w'
theorem blk5 {w : World} {g : Nat} {t : TypeId} {a b c d e : Value} (h : Blk w g t #[a, b, c, d, e]) : (w.cell? ⟨g, 0, none⟩ = some a ∧ w.cell? ⟨g, 1, none⟩ = some b ∧ w.cell? ⟨g, 2, none⟩ = some c ∧ w.cell? ⟨g, 3, none⟩ = some d ∧ w.cell? ⟨g, 4, none⟩ = some e) ∧ (w.frozen? ⟨g, 0, none⟩ = false ∧ w.frozen? ⟨g, 1, none⟩ = false ∧ w.frozen? ⟨g, 2, none⟩ = false ∧ w.frozen? ⟨g, 3, none⟩ = false ∧ w.frozen? ⟨g, 4, none⟩ = false) :=
  ⟨⟨h.cell 0, h.cell 1, h.cell 2, h.cell 3, h.cell 4⟩, ⟨h.frozen 0, h.frozen 1, h.frozen 2, h.frozen 3, h.frozen 4⟩⟩
end Go.Proofs.Ytjnlpknjdclalaa
