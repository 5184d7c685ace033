/-
  Words for the exact laws with desks as results: rows that marks leave as they are.
-/
import Derived.Test.YtjnlpknjdclalaaDHp
namespace Go.Proofs.Ytjnlpknjdclalaa
open Go.RowKit

/-- Five cells of a block, as a row. -/
def Row5 (w : World) (g : Nat) (c0 c1 c2 c3 c4 : Value) : Prop := w.ownsRow g 28 1 (.slice (some ⟨g, 0, none⟩) 5 5) 5 [c0, c1, c2, c3, c4]
theorem Row5.of_blk {w : World} {g : Nat} {c0 c1 c2 c3 c4 : Value} (h : Blk w g 28 #[c0, c1, c2, c3, c4]) : Row5 w g c0 c1 c2 c3 c4 := owns_blk h rfl (Nat.le_refl _) (by unfold maxLen; omega)
theorem Row5.cells {w : World} {g : Nat} {c0 c1 c2 c3 c4 : Value} (h : Row5 w g c0 c1 c2 c3 c4) : w.cell? ⟨g, 0, none⟩ = some c0 ∧ w.cell? ⟨g, 1, none⟩ = some c1 ∧ w.cell? ⟨g, 2, none⟩ = some c2 ∧ w.cell? ⟨g, 3, none⟩ = some c3 ∧ w.cell? ⟨g, 4, none⟩ = some c4 :=
  ⟨World.ownsRow.cellAt h 0 (by omega), World.ownsRow.cellAt h 1 (by omega), World.ownsRow.cellAt h 2 (by omega), World.ownsRow.cellAt h 3 (by omega), World.ownsRow.cellAt h 4 (by omega)⟩
theorem Row5.below {w w' : World} {S g : Nat} {c0 c1 c2 c3 c4 : Value} (h : Row5 w g c0 c1 c2 c3 c4) (hb : Below S w w') (hS : w.heap.size ≤ S) : Row5 w' g c0 c1 c2 c3 c4 := own_below h hb hS
/-- What marking leaves as it is: rows that it was shown to leave, by whatever word. -/
def Keeps (w w' : World) (C : Nat) : Prop := ∀ (u : Value) (B2 n2 : Nat) (e2 : TypeId) (xs2 : List Value), (∀ k, u.ownBlock = some k → C ≤ k) → w.ownsRow B2 e2 1 u n2 xs2 → w'.ownsRow B2 e2 1 u n2 xs2
theorem keeps_tng {w0 w w' : World} {B : Nat} {v : Value} {t : Tg} (h : OwnTng w0 B v t) (hl : ∀ (u : Value) (B2 n2 : Nat) (e2 : TypeId) (xs2 : List Value), OffTng v u → w.ownsRow B2 e2 1 u n2 xs2 → w'.ownsRow B2 e2 1 u n2 xs2) : Keeps w w' w0.heap.size := fun u B2 n2 e2 xs2 hu hr => by
  obtain ⟨u1, u2, u3, e, e1, e2', e3, -⟩ := h.ex
  subst e
  refine hl u B2 n2 e2 xs2 ⟨_, _, _, rfl, fun k hk => ⟨fun h => ?_, fun h => ?_, fun h => ?_⟩⟩ hr
  · have := (World.ownsRow.lt e1 k h).2; have := hu k hk; omega
  · have := (World.ownsRow.lt e2' k h).2; have := hu k hk; omega
  · have := (World.ownsRow.lt e3 k h).2; have := hu k hk; omega
theorem keeps_dk {w0 w w' : World} {B : Nat} {v : Value} {d : Dk} (h : OwnDk w0 B v d) (hl : LeavesD v w w') : Keeps w w' w0.heap.size := fun u B2 n2 e2 xs2 hu hr => by
  obtain ⟨v1, v2, v3, v5, e, ht, h5, -⟩ := h.ex
  obtain ⟨u1, u2, u3, e0, e1, e2', e3, -⟩ := ht.ex
  cases e0
  subst e
  refine hl u B2 n2 e2 xs2 ⟨_, _, _, _, _, rfl, fun k hk => ⟨fun h => ?_, fun h => ?_, fun h => ?_, fun h => ?_⟩⟩ hr
  · have := (World.ownsRow.lt e1 k h).2; have := hu k hk; omega
  · have := (World.ownsRow.lt e2' k h).2; have := hu k hk; omega
  · have := (World.ownsRow.lt e3 k h).2; have := hu k hk; omega
  · have := (h5.lt k h).2; have := hu k hk; omega
theorem OwnDk.keeps {w w' : World} {B C : Nat} {u : Value} {d : Dk} (h : OwnDk w B u d) (hl : Keeps w w' C) (hC : C ≤ B) : OwnDk w' B u d := by
  obtain ⟨v1, v2, v3, v5, e, ht, h5, ap⟩ := h.ex
  obtain ⟨u1, u2, u3, e0, o1, o2, o3, a13⟩ := ht.ex
  cases e0
  refine ⟨_, _, _, _, e, ⟨_, _, _, rfl, hl _ _ _ _ _ (fun k hk => ?_) o1, hl _ _ _ _ _ (fun k hk => ?_) o2, hl _ _ _ _ _ (fun k hk => ?_) o3, a13⟩, ?_, ap⟩
  · have := (World.ownsRow.lt o1 k hk).1; omega
  · have := (World.ownsRow.lt o2 k hk).1; omega
  · have := (World.ownsRow.lt o3 k hk).1; omega
  · rcases h5.ex with ho | ⟨z, g, cap, ho, rfl⟩
    · exact ⟨.inl (hl _ _ _ _ _ (fun k hk => by have := (World.ownsRow.lt ho k hk).1; omega) ho)⟩
    · exact ⟨.inr ⟨z, g, cap, hl _ _ _ _ _ (fun k hk => by have := (World.ownsRow.lt ho k hk).1; omega) ho, rfl⟩⟩
theorem Row5.keeps {w w' : World} {g C : Nat} {c0 c1 c2 c3 c4 : Value} (h : Row5 w g c0 c1 c2 c3 c4) (hl : Keeps w w' C) (hC : C ≤ g) : Row5 w' g c0 c1 c2 c3 c4 :=
  hl _ _ _ _ _ (fun k hk => by simp [Value.ownBlock] at hk; omega) h
theorem OwnDk.shape {w : World} {B : Nat} {v : Value} {u : Dk} (h : OwnDk w B v u) : ∃ A1 c1 A2 c2 A3 c3 A5 c5, v = .agg #[.slice A1 u.t.us.length c1, .slice A2 u.t.bs.length c2, .slice A3 u.t.ns.length c3, .int .i64 u.now, .slice A5 u.past.length c5] := by
  obtain ⟨A1, c1, A2, c2, A3, c3, A5, c5, e, -⟩ := h.dsk.ex
  exact ⟨A1, c1, A2, c2, A3, c3, A5, c5, e⟩
end Go.Proofs.Ytjnlpknjdclalaa
