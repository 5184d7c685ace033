/-
  Words for rows of numbers: a slice from a place on, a row with one number more, a slice of numbers and a truth as result; the numbers seen on the way into a ring.
-/
import Derived.Test.YtjggdlnbfoglaaaMathL
import Derived.Test.YtjggdlnbfoglaaaGA
namespace Go.Proofs.Ytjggdlnbfoglaaa
open Go.RowKit

theorem Ints.dropI {w : World} {k : IntKind} {b o n c : Nat} {xs : List Int} (h : Ints w k (some ⟨b, o, none⟩) n c xs) {m : Nat} (hm : m ≤ n) : Ints w k (some ⟨b, o + m, none⟩) (n - m) (c - m) (xs.drop m) := by
  obtain ⟨rfl, hle, ha⟩ := h
  refine ⟨by simp, by omega, fun hn => ?_⟩
  obtain ⟨b', o', e, hlt, hc⟩ := ha (by omega)
  cases e
  refine ⟨b, o + m, rfl, hlt, fun j hj => ?_⟩
  rw [Nat.add_assoc, hc (m + j) (by omega)]
  simp [List.getD_eq_getElem?_getD, List.getElem?_drop]
theorem own_snocW {w : World} {B n : Nat} {v : Value} {bs : List Int} {x : Int} (h : w.ownsRow B 3 1 v n (bs.map (Value.int .i64) ++ [.int .i64 x])) : OwnI w B v (bs ++ [x]) := by
  have hl := h.1
  simp only [List.length_append, List.length_map, List.length_singleton, Nat.mul_one] at hl
  unfold OwnI
  rw [List.map_append, List.length_append, List.length_singleton, hl]
  exact h
/-- A slice of numbers and a truth. -/
def RetI2 (w : World) (xs : List Int) (b : Bool) (e : Ending) (w' : World) : Prop := ∃ A c, e = .returned (.tuple #[.slice A xs.length c, .bool b]) ∧ Ints w' .i64 A xs.length c xs ∧ Below w.heap.size w w'
/-- A row of the call's own of numbers, and a truth; the like with a number. -/
def RetO2 (w : World) (xs : List Int) (b : Bool) (e : Ending) (w' : World) : Prop := ∃ v, e = .returned (.tuple #[v, .bool b]) ∧ OwnI w' w.heap.size v xs ∧ Below w.heap.size w w'
def RetO1 (w : World) (xs : List Int) (e : Ending) (w' : World) : Prop := ∃ v, e = .returned v ∧ OwnI w' w.heap.size v xs ∧ Below w.heap.size w w'
theorem ints_nil (w : World) (k : IntKind) (A : Option Addr) (c : Nat) : Ints w k A 0 c [] := ⟨rfl, Nat.zero_le _, fun h => absurd h (by omega)⟩

/-- A row of the call's own with a block: its shape. -/
theorem own_shape {w : World} {B n g : Nat} {t : TypeId} {v : Value} {xs : List Value} (h : w.ownsRow B t 1 v n xs) (hg : v.ownBlock = some g) : ∃ c, v = .slice (some ⟨g, 0, none⟩) n c ∧ n ≤ c ∧ g < w.heap.size ∧ B ≤ g := by
  have hb := World.ownsRow.lt h g hg
  rcases h.2 with ⟨rfl, -⟩ | ⟨g', cap, cur, rfl, h3, h4, h5, -⟩
  · cases hg
  · cases hg
    exact ⟨cap, rfl, h5, hb.2, hb.1⟩
theorem src_none (w : World) (A : Option Addr) : Src w A 0 [] := ⟨rfl, by simp, fun h => absurd h (by omega)⟩
/-- The numbers seen. -/
def seenL (f : Int → Int) (n : Int) (k : Nat) : List Int := (List.range (k + 1)).map fun i => itF f i n
theorem seen_len (f : Int → Int) (n : Int) (k : Nat) : (seenL f n k).length = k + 1 := by simp [seenL]
theorem seen_at (f : Int → Int) (n : Int) {k i : Nat} (h : i ≤ k) : (seenL f n k).getD i 0 = itF f i n := by
  simp [seenL, List.getD_eq_getElem?_getD, show i < k + 1 by omega]
theorem seen_succ (f : Int → Int) (n : Int) (k : Nat) : seenL f n (k + 1) = seenL f n k ++ [f (itF f k n)] := by
  unfold seenL; rw [List.range_succ, List.map_append]; rfl
theorem seen_zero (f : Int → Int) (n : Int) : seenL f n 0 = [n] := rfl
theorem seen_ring {f : Int → Int} {n : Int} {j k : Nat} (h : RingIs f n j (k + 1 - j)) (_hj : j ≤ k) (ho : okF f n = true) : (seenL f n k).drop j = ringF f n := by
  rw [h.ring ho]
  apply List.ext_getElem
  · simp [seenL]
  · intro i h1 h2
    simp [seenL, List.getElem_drop]
theorem itF_bd {f : Int → Int} (hf : ∀ x, -1 ≤ f x ∧ f x ≤ 320) {n : Int} (hn : -9223372036854775808 ≤ n ∧ n ≤ 9223372036854775807) (k : Nat) : -9223372036854775808 ≤ itF f k n ∧ itF f k n ≤ 9223372036854775807 := by
  cases k with
  | zero => exact hn
  | succ k => have := hf (itF f k n); show _ ≤ f _ ∧ f _ ≤ _; omega

/-- The numbers from 1 to k that are as many as their letters. -/
def trueTo (f : Int → Int) : Nat → List Int
  | 0 => []
  | k + 1 => trueTo f k ++ (if f ((k + 1 : Nat) : Int) = ((k + 1 : Nat) : Int) then [((k + 1 : Nat) : Int)] else [])
def trueF (f : Int → Int) (m : Int) : List Int := if m ≤ 500 then trueTo f m.toNat else []
theorem true_len (f : Int → Int) : ∀ k, (trueTo f k).length ≤ k := by
  intro k
  induction k with
  | zero => exact Nat.le_refl _
  | succ k ih => rw [trueTo, List.length_append]; split <;> simp <;> omega
theorem true_yes {f : Int → Int} {k : Nat} (h : f ((k : Int) + 1) = (k : Int) + 1) : trueTo f (k + 1) = trueTo f k ++ [(k : Int) + 1] := by
  rw [trueTo]
  show trueTo f k ++ (if f ((k : Int) + 1) = (k : Int) + 1 then [(k : Int) + 1] else []) = _
  rw [if_pos h]
theorem true_no {f : Int → Int} {k : Nat} (h : ¬ f ((k : Int) + 1) = (k : Int) + 1) : trueTo f (k + 1) = trueTo f k := by
  rw [trueTo]
  show trueTo f k ++ (if f ((k : Int) + 1) = (k : Int) + 1 then [(k : Int) + 1] else []) = _
  rw [if_neg h, List.append_nil]
theorem true_mem {f : Int → Int} {x : Int} : ∀ {k : Nat}, x ∈ trueTo f k → 1 ≤ x ∧ x ≤ k ∧ f x = x := by
  intro k
  induction k with
  | zero => intro h; cases h
  | succ k ih =>
    intro h
    rw [trueTo] at h
    rcases List.mem_append.1 h with h | h
    · have := ih h; omega
    · split at h
      · rename_i e
        rw [List.mem_singleton] at h
        subst h
        exact ⟨by omega, Int.le_refl _, e⟩
      · cases h
theorem true_asc (f : Int → Int) : ∀ k, Asc (trueTo f k) := by
  intro k
  induction k with
  | zero => exact List.Pairwise.nil
  | succ k ih =>
    rw [trueTo]
    unfold Asc
    rw [List.pairwise_append]
    refine ⟨ih, by split <;> simp, fun x hx y hy => ?_⟩
    have h1 := true_mem hx
    split at hy
    · rw [List.mem_singleton] at hy; omega
    · cases hy
theorem trueF_out {f : Int → Int} {m : Int} (h : m < 1 ∨ 500 < m) : trueF f m = [] := by
  unfold trueF
  split
  · rw [show m.toNat = 0 by omega]; rfl
  · rfl
theorem trueF_in {f : Int → Int} {m : Nat} (h : m ≤ 500) : trueF f m = trueTo f m := by
  unfold trueF; rw [if_pos (by omega)]; rfl
theorem trueF_len (f : Int → Int) (m : Int) : (trueF f m).length ≤ 500 := by
  unfold trueF
  split
  · have := true_len f m.toNat; omega
  · simp
theorem trueF_mem {f : Int → Int} {m x : Int} (h : x ∈ trueF f m) : 1 ≤ x ∧ x ≤ m ∧ x ≤ 500 ∧ f x = x := by
  unfold trueF at h
  split at h
  · have := true_mem h; omega
  · cases h
theorem trueF_asc (f : Int → Int) (m : Int) : Asc (trueF f m) := by
  unfold trueF
  split
  · exact true_asc f _
  · exact List.Pairwise.nil
end Go.Proofs.Ytjggdlnbfoglaaa
