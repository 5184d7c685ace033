/-
  Contracts of the laws' own helpers: numbers compared, marks written and held.
-/
import Derived.Test.YteemgkabhkdeaaaDoorAlive
import Derived.Test.YteemgkabhkdeaaaDoorHold
namespace Go.Proofs.YteemgkabhkdeaaaDoor
open Go.RowKit

def marks (k : Int) (n : Nat) : List Int := (List.range n).map (fun i : Nat => k + (i : Int))
theorem marks_length (k : Int) (n : Nat) : (marks k n).length = n := by simp [marks]
theorem marks_at (k : Int) {n j : Nat} (hj : j < n) : (marks k n).getD j 0 = k + j := by simp [marks, List.getD_eq_getElem?_getD, hj]

theorem ownsRow_nil_n {w : World} {B : Nat} {t : TypeId} {n : Nat} {xs : List Value} {v : Value} (h : w.ownsRow B t 1 v n xs) : ∃ A c, v = .slice A n c := by
  rcases h.2 with ⟨rfl, rfl⟩ | ⟨g, cap, cur, rfl, _⟩
  · exact ⟨_, _, rfl⟩
  · exact ⟨_, _, rfl⟩

theorem OwnInts.row {w : World} {B : Nat} {g n : Nat} {xs : List Int} (h : OwnInts w B 3 .i64 g n xs) (hn : n ≤ 1048576) : w.ownsRow B 3 1 (.slice (some ⟨g, 0, none⟩) n n) n (xs.map (Value.int .i64)) := by
  obtain ⟨hge, rfl, hb⟩ := h
  exact ⟨by simp, .inr ⟨g, xs.length, _, rfl, hge, hb, Nat.le_refl _, by unfold maxLen; omega, by simp, by rw [List.take_of_length_le (by simp)]⟩⟩
theorem row_below {w w' : World} {B S : Nat} {v : Value} {n : Nat} {xs : List Value} (h : w.ownsRow B 3 1 v n xs) (hb : Below S w w') (hS : w.heap.size ≤ S) : w'.ownsRow B 3 1 v n xs :=
  h.kept (row := none) ⟨hb.os, hb.tape, hb.output, hb.size, fun k hk _ => hb.block k (by omega)⟩ (by
    cases hv : v.ownBlock
    · exact .inl rfl
    · exact .inr (by simp))
theorem below_row {w a b : World} {S B : Nat} {v : Value} {n : Nat} {xs : List Value} (h : Below S w a) (ho : a.ownsRow B 3 1 v n xs) (hg : a.grownBy b v.ownBlock) (hS : S ≤ a.heap.size) (hB : S ≤ B) : Below S w b :=
  h.grown hg hS (fun k e => Nat.le_trans hB (ho.lt k e).1)
theorem countsOf_len (b : List Int) (n : Int) : (countsOf b n).length ≤ b.length := by
  unfold countsOf; split <;> simp
end Go.Proofs.YteemgkabhkdeaaaDoor
