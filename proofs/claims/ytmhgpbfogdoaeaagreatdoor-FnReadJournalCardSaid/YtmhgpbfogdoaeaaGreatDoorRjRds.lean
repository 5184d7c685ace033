/-
  A cell is written beside a reader.
-/
import Derived.Test.YtmhgpbfogdoaeaaGreatDoorRjGA
namespace Go.Proofs.YtmhgpbfogdoaeaaGreatDoor
open Go.RowKit

section
variable {w : World} {g q : Nat}
/-- A cell is written. -/
theorem grown_set {a : World} (h : w.grownBy a (some g)) {b i : Nat} (hb : w.heap.size ≤ b) (u : Value) : w.grownBy (a.setCell ⟨b, i, none⟩ u) (some g) :=
  ⟨h.os, h.tape, h.output, by simpa [World.setCell] using h.size, fun k hk hne => (Below.heap_setCell a ⟨b, i, none⟩ u k (fun e => by subst e; exact absurd hk (Nat.not_lt.2 hb))).trans (h.block k hk hne)⟩
theorem rd_set {a : World} (h : Rd a g q) {b i : Nat} (hb : g < b) (u : Value) : Rd (a.setCell ⟨b, i, none⟩ u) g q := by
  obtain ⟨A, n, c, xs, hb1, hi, hn, hx, ha⟩ := h.ex
  have hg : a.grownBy (a.setCell ⟨b, i, none⟩ u) (some b) := grown_setCell a b i u
  exact ⟨A, n, c, xs, hb1.grown hg (fun e => by cases e; omega), hi.grown hg (fun h0 b' o e e2 => by cases e2; have := ha h0 _ o e; omega), hn, hx, ha⟩
theorem own_set {a : World} {B b i n : Nat} {e : TypeId} {v u : Value} {xs : List Value} (h : a.ownsRow B e 1 v n xs) (hne : v.ownBlock ≠ some b) : (a.setCell ⟨b, i, none⟩ u).ownsRow B e 1 v n xs :=
  h.kept (grown_setCell a b i u) (by
    cases hv : v.ownBlock with
    | none => exact .inl rfl
    | some k => exact .inr fun e => hne (by rw [hv, e]))
end
end Go.Proofs.YtmhgpbfogdoaeaaGreatDoor
