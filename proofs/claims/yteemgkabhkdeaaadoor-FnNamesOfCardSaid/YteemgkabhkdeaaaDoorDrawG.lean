/-
  Words for drawn tongues.
-/
import Derived.Test.YteemgkabhkdeaaaDoorDTngB
namespace Go.Proofs.YteemgkabhkdeaaaDoor
open Go.RowKit

theorem Src.lit {w : World} {b n : Nat} {t : TypeId} {us : List Value} (h : Blk w b t us.toArray) (hn : us.length = n := by rfl) (h1 : ∀ u ∈ us, u.oneCell' = true := by decide) : Src w (some ⟨b, 0, none⟩) n us :=
  ⟨hn, h1, fun _ => ⟨b, 0, rfl, h.lt, fun j u hu => by rw [Nat.zero_add, h.cell]; simpa using hu⟩⟩
/-- A tongue is drawn. -/
def DrawnTng (w : World) (e : Ending) (w' : World) : Prop := ∃ v t, e = .returned v ∧ OwnTng w' w.heap.size v t ∧ SmallT 40 t ∧ Below w.heap.size w w'
/-- What was below stays below, behind a reader's draws. -/
theorem below_read {w a b : World} {g B : Nat} (h : Below B w a) (hg : a.grownBy b (some g)) (hB : B ≤ a.heap.size) (hgB : B ≤ g) : Below B w b := h.grown hg hB (fun k e => by cases e; exact hgB)
/-- A tongue's rows are not the cell of a tongue. -/
theorem OwnTng.set3 {w : World} {B g : Nat} {v u0 u1 u2 : Value} {t : Tg} {cs : Array Value} (h : OwnTng w B v t) (hb : Blk w g 26 cs) :
    OwnTng (((w.setCell ⟨g, 0, none⟩ u0).setCell ⟨g, 1, none⟩ u1).setCell ⟨g, 2, none⟩ u2) B v t := by
  obtain ⟨v1, v2, v3, e, o1, o2, o3, ap⟩ := h.ex
  have m1 := own_blk_ne o1 hb ne_string_tongue
  have m2 := own_blk_ne o2 hb ne_int_tongue
  have m3 := own_blk_ne o3 hb ne_string_tongue
  exact ⟨v1, v2, v3, e, own_set (own_set (own_set o1 m1) m1) m1, own_set (own_set (own_set o2 m2) m2) m2, own_set (own_set (own_set o3 m3) m3) m3, ap⟩
theorem OwnTng.shape {w : World} {B : Nat} {v : Value} {t : Tg} (h : OwnTng w B v t) : ∃ A1 c1 A2 c2 A3 c3, v = .agg #[.slice A1 t.us.length c1, .slice A2 t.bs.length c2, .slice A3 t.ns.length c3] := by
  obtain ⟨A1, c1, A2, c2, A3, c3, e, _⟩ := h.tng.ex
  exact ⟨A1, c1, A2, c2, A3, c3, e⟩

theorem OwnTng.kept {w w' : World} {B g : Nat} {v : Value} {t : Tg} (h : OwnTng w B v t) (hg : w.grownBy w' (some g)) (hgB : g < B) : OwnTng w' B v t := by
  obtain ⟨v1, v2, v3, e, o1, o2, o3, ap⟩ := h.ex
  exact ⟨v1, v2, v3, e, own_kept o1 hg (fun r e => .inl (by cases e; exact hgB)), own_kept o2 hg (fun r e => .inl (by cases e; exact hgB)), own_kept o3 hg (fun r e => .inl (by cases e; exact hgB)), ap⟩
end Go.Proofs.YteemgkabhkdeaaaDoor
