/-
  Words for memory, for slices of strings: a slice that reads as a list of strings, nil included; what is kept of it.
-/
import Derived.Test.YteemgkabhkdeaaaDoorKit
namespace Go.Proofs.YteemgkabhkdeaaaDoor
open Go.RowKit

/-- The slice '.slice A n c' holds the strings xs. -/
structure Strs (w : World) (A : Option Addr) (n c : Nat) (xs : List ByteArray) : Prop where
  len : xs.length = n
  le : n ≤ c
  at_ : 0 < n → ∃ b o, A = some ⟨b, o, none⟩ ∧ b < w.heap.size ∧ ∀ j, j < n → w.cell? ⟨b, o + j, none⟩ = some (.string (xs.getD j ByteArray.empty))

section
variable {w w' : World} {n c : Nat} {A : Option Addr} {xs : List ByteArray}
theorem Strs.none_ : Strs w none 0 0 [] := ⟨rfl, Nat.le_refl _, fun h => absurd h (by omega)⟩
theorem Strs.below {B : Nat} (h : Strs w A n c xs) (hb : Below B w w') (hB : w.heap.size ≤ B) : Strs w' A n c xs :=
  ⟨h.len, h.le, fun hn => by
    obtain ⟨b, o, e, hlt, hc⟩ := h.at_ hn
    exact ⟨b, o, e, Nat.lt_of_lt_of_le hlt hb.size, fun j hj => (hb.cell (p := ⟨b, o + j, none⟩) (Nat.lt_of_lt_of_le hlt hB)).trans (hc j hj)⟩⟩
theorem Strs.drewN (h : Strs w A n c xs) (m : Nat) : Strs (w.drewN m) A n c xs := ⟨h.len, h.le, h.at_⟩
theorem Strs.take (h : Strs w A n c xs) {m : Nat} (hm : m ≤ n) : Strs w A m c (xs.take m) :=
  ⟨by have := h.len; simp; omega, by have := h.le; omega, fun h0 => by
    obtain ⟨b, o, e, hl, hc⟩ := h.at_ (by omega)
    exact ⟨b, o, e, hl, fun j hj => by rw [hc j (by omega)]; simp [List.getD_eq_getElem?_getD, hj]⟩⟩
/-- The slice behind the first m. -/
theorem Strs.drop {b o : Nat} (h : Strs w (some ⟨b, o, none⟩) n c xs) {m : Nat} (hm : m ≤ n) : Strs w (some ⟨b, o + m, none⟩) (n - m) (c - m) (xs.drop m) :=
  ⟨by have := h.len; simp; omega, by have := h.le; omega, fun h0 => by
    obtain ⟨b', o', e, hl, hc⟩ := h.at_ (by omega)
    simp only [Option.some.injEq, Addr.mk.injEq] at e
    obtain ⟨rfl, rfl, -⟩ := e
    exact ⟨b, o + m, rfl, hl, fun j hj => by rw [Nat.add_assoc, hc (m + j) (by omega)]; simp [List.getD_eq_getElem?_getD]⟩⟩
theorem strs_of_own {B : Nat} {t : TypeId} {v : Value} (h : w.ownsRow B t 1 v n (xs.map Value.string)) : ∃ A c, v = .slice A n c ∧ Strs w A n c xs := by
  have hl : xs.length = n := by have := h.1; simpa using this
  rcases h.2 with ⟨rfl, rfl⟩ | ⟨g, cap, cur, rfl, hb, hg, hnc, hcm, hcs, htake⟩
  · exact ⟨none, 0, rfl, hl, Nat.le_refl _, fun h => absurd h (by omega)⟩
  · refine ⟨_, cap, rfl, hl, hnc, fun hn => ⟨g, 0, rfl, ?_, fun j hj => ?_⟩⟩
    · rcases Nat.lt_or_ge g w.heap.size with hlt | hge
      · exact hlt
      · rw [Array.getElem?_eq_none hge] at hg; cases hg
    · have := h.cellAt (g := g) (cap := cap) j (by omega)
      rw [Nat.zero_add, this]
      simp [List.getElem?_eq_getElem (show j < xs.length by omega)]
theorem strs_of_blk {g : Nat} {t : TypeId} (xs : List ByteArray) (h : Blk w g t (xs.map Value.string).toArray) : Strs w (some ⟨g, 0, none⟩) xs.length xs.length xs :=
  ⟨rfl, Nat.le_refl _, fun _ => ⟨g, 0, rfl, h.lt, fun j hj => by rw [Nat.zero_add, h.cell]; simp [hj]⟩⟩
/-- A slice of strings as it comes in by a row's form (the law open_strs of the library). -/
theorem strs_of_cells {x : Addr} {Sx : Nat → ByteArray} {m : Nat} (hl : n ≤ c) (hnm : n ≤ m) (hc : ∀ i, i < m → w.cell? (x.add i) = some (.string (Sx i))) : Strs w (some x) n c ((List.range n).map Sx) := by
  refine ⟨by simp, hl, fun hn => ?_⟩
  obtain ⟨b, o, p⟩ := x
  have hp : p = none := by simpa [Addr.add] using World.cell?_spot (hc 0 (by omega))
  subst hp
  refine ⟨b, o, rfl, ?_, fun j hj => ?_⟩
  · have h0 := hc 0 (by omega)
    exact lt_of_cell (a := ⟨b, o, none⟩) (by simpa [add_plain'] using h0)
  · have := hc j (by omega)
    rw [add_plain'] at this
    rw [this]; simp [List.getD_eq_getElem?_getD, hj]
end
end Go.Proofs.YteemgkabhkdeaaaDoor
