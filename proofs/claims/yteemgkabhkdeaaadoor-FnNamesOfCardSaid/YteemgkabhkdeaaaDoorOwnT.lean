/-
  Tongues of the call's own.
-/
import Derived.Test.YteemgkabhkdeaaaDoorTngT
import Derived.Test.YteemgkabhkdeaaaDoorOwn
import Derived.Deep.RegionHeld3
import Derived.WalkLawsBesides
import Derived.Deep.DeepCutAuto
namespace Go.Proofs.YteemgkabhkdeaaaDoor
open Go.RowKit

/-- A tongue of the call's own: three rows, those of strings apart. -/
structure OwnTng (w : World) (B : Nat) (v : Value) (t : Tg) : Prop where
  ex : ∃ v1 v2 v3, v = .agg #[v1, v2, v3] ∧ OwnStrs w B v1 t.us ∧ OwnI w B v2 t.bs ∧ OwnStrs w B v3 t.ns ∧ ∀ k, v1.ownBlock = some k → v3.ownBlock ≠ some k
theorem OwnTng.below {w w' : World} {B S : Nat} {v : Value} {t : Tg} (h : OwnTng w B v t) (hb : Below S w w') (hS : w.heap.size ≤ S) : OwnTng w' B v t := by
  obtain ⟨v1, v2, v3, e, h1, h2, h3, ha⟩ := h.ex
  exact ⟨v1, v2, v3, e, h1.below hb hS, h2.below hb hS, h3.below hb hS, ha⟩
theorem OwnTng.mono {w : World} {B B' : Nat} {v : Value} {t : Tg} (h : OwnTng w B v t) (hB : B' ≤ B) : OwnTng w B' v t := by
  obtain ⟨v1, v2, v3, e, h1, h2, h3, ha⟩ := h.ex
  exact ⟨v1, v2, v3, e, h1.mono hB, h2.mono hB, h3.mono hB, ha⟩
theorem OwnTng.tng {w : World} {B : Nat} {v : Value} {t : Tg} (h : OwnTng w B v t) : Tng w v t := by
  obtain ⟨v1, v2, v3, e, h1, h2, h3, ha⟩ := h.ex
  obtain ⟨A1, c1, rfl, s1⟩ := h1.strs
  obtain ⟨A2, c2, rfl, s2⟩ := h2.ints
  obtain ⟨A3, c3, rfl, s3⟩ := h3.strs
  exact ⟨A1, c1, A2, c2, A3, c3, e, s1, s2, s3⟩
def noTg : Tg := ⟨[], [], []⟩
theorem own_noTg (w : World) (B : Nat) : OwnTng w B (.agg #[.slice none 0 0, .slice none 0 0, .slice none 0 0]) noTg :=
  ⟨_, _, _, rfl, owns_none _ _ _, owns_none _ _ _, owns_none _ _ _, fun k hk => by simp [Value.ownBlock] at hk⟩
def RetTng (w : World) (t : Tg) (e : Ending) (w' : World) : Prop := ∃ v, e = .returned v ∧ OwnTng w' w.heap.size v t ∧ Below w.heap.size w w'

theorem OwnStrs.lt {w : World} {B : Nat} {v : Value} {xs : List ByteArray} (h : OwnStrs w B v xs) : ∀ k, v.ownBlock = some k → B ≤ k ∧ k < w.heap.size := World.ownsRow.lt h
theorem own_far {w : World} {B : Nat} {t : TypeId} {v : Value} {n : Nat} {xs : List Value} (h : w.ownsRow B t 1 v n xs) {g i : Nat} (hp : g < B) (u : Value) : (w.setCell ⟨g, i, none⟩ u).ownsRow B t 1 v n xs :=
  h.kept (grown_setCell w g i u) (by
    cases hv : v.ownBlock with
    | none => exact .inl rfl
    | some k => exact .inr fun e => by have := (h.lt k hv).1; cases e; omega)
/-- A result of three rows, written into its cell. -/
theorem own_tng3 {w : World} {B B' g : Nat} {v1 v2 v3 u0 u1 u2 : Value} {t : Tg} (h1 : OwnStrs w B v1 t.us) (h2 : OwnI w B v2 t.bs) (h3 : OwnStrs w B v3 t.ns) (ha : ∀ k, v1.ownBlock = some k → v3.ownBlock ≠ some k) (hg : g < B) (hB : B' ≤ B) :
    OwnTng (((w.setCell ⟨g, 0, none⟩ u0).setCell ⟨g, 1, none⟩ u1).setCell ⟨g, 2, none⟩ u2) B' (.agg #[v1, v2, v3]) t :=
  OwnTng.mono (B := B) ⟨v1, v2, v3, rfl, own_far (own_far (own_far h1 hg _) hg _) hg _, own_far (own_far (own_far h2 hg _) hg _) hg _, own_far (own_far (own_far h3 hg _) hg _) hg _, ha⟩ hB
theorem below_tng3 {w w1 : World} {g : Nat} {u0 u1 u2 : Value} (h : Below w.heap.size w w1) (hg : w.heap.size ≤ g) : Below w.heap.size w (((w1.setCell ⟨g, 0, none⟩ u0).setCell ⟨g, 1, none⟩ u1).setCell ⟨g, 2, none⟩ u2) :=
  ((h.setCell (by simpa using hg) _).setCell (by simpa using hg) _).setCell (by simpa using hg) _
theorem blk3 {w : World} {g : Nat} {t : TypeId} {x y z : Value} (h : Blk w g t #[x, y, z]) : w.cell? ⟨g, 0, none⟩ = some x ∧ w.cell? ⟨g, 1, none⟩ = some y ∧ w.cell? ⟨g, 2, none⟩ = some z ∧ w.frozen? ⟨g, 0, none⟩ = false ∧ w.frozen? ⟨g, 1, none⟩ = false ∧ w.frozen? ⟨g, 2, none⟩ = false :=
  ⟨h.cell 0, h.cell 1, h.cell 2, h.frozen 0, h.frozen 1, h.frozen 2⟩
theorem take_drop_len {ws : List ByteArray} {n m : Nat} (h : ws.length = n + m) : (ws.take n).length = n ∧ (ws.drop n).length = m := by simp; omega
end Go.Proofs.YteemgkabhkdeaaaDoor
