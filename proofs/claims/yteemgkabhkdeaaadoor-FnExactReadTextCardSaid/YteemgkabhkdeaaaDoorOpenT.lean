/-
  A tongue that comes in by a row's form, opened.
-/
import Derived.Test.YteemgkabhkdeaaaDoorTHoldC
import Derived.Test.YteemgkabhkdeaaaDoorChecked
import Derived.Lib.SmallJoins
import Derived.Deep.Strs
import Derived.OpenShut
import Derived.KernelRfl
namespace Go.Proofs.YteemgkabhkdeaaaDoor
open Go.ChangeShapes Go.WideShapes Go.RowKit Go.Joins Go.Deep

theorem in_strs {H : Type} {enc : TypeId × Value → H} {W : World} {v : Value} {n : Nat} {y : DataW H × List MemPlace} (h : DataW.trod enc Tryd.prog W 0 (fun _ => true) true n 23 [v] = some y) :
    ∃ A c xs, v = .slice A (List.length xs) c ∧ Strs W A xs.length c xs ∧ c ≤ maxLen ∧ ∀ x ∈ xs, x.size ≤ maxLen := by
  rcases open_strs Tryd.underlying23 Tryd.underlying9 (by kernel_rfl) h with ⟨hcs, _⟩ | ⟨a, len, cap, m, Sx, hcs, _, hl, hm, hmm, _, hx⟩
  · simp at hcs
    subst hcs
    exact ⟨none, 0, [], rfl, Strs.none_, Nat.zero_le _, by simp⟩
  · simp at hcs
    subst hcs
    have hmc : m = cap := by simpa using hmm
    have hs := strs_of_cells (w := W) (x := a) (Sx := Sx) (m := m) (n := len) (c := cap) hl (by omega) (fun i hi => (hx i hi).1)
    have hlen : ((List.range len).map Sx).length = len := by simp
    refine ⟨some a, cap, (List.range len).map Sx, by rw [hlen], by rw [hlen]; exact hs, hm, fun x hxm => ?_⟩
    obtain ⟨i, hi, rfl⟩ := List.mem_map.1 hxm
    exact (hx i (by have := List.mem_range.1 hi; omega)).2
theorem in_ints {H : Type} {enc : TypeId × Value → H} {W : World} {v : Value} {n : Nat} {y : DataW H × List MemPlace} (h : DataW.trod enc Tryd.prog W 0 (fun _ => true) true n 24 [v] = some y) :
    ∃ A c xs, v = .slice A (List.length xs) c ∧ Ints W .i64 A xs.length c xs ∧ c ≤ maxLen ∧ ∀ x ∈ xs, (Lit.int .i64 x).wf = true := by
  rcases open_ints Tryd.underlying24 Tryd.underlying3 (by kernel_rfl) h with ⟨hcs, _⟩ | ⟨x, l, c, zs, hcs, _, hl, hm, hz, _, hcell, hwz⟩
  · simp at hcs
    subst hcs
    exact ⟨none, 0, [], rfl, Ints.none_, Nat.zero_le _, by simp⟩
  · simp at hcs
    subst hcs
    have hzl : zs.length = c := by simpa using hz
    have hlen : (zs.take l).length = l := by simp; omega
    exact ⟨some x, c, zs.take l, by rw [hlen], by rw [hlen]; exact Ints.of_row hl hzl hcell, hm, fun n hn => hwz n (List.mem_of_mem_take hn)⟩

set_option maxRecDepth 100000 in
theorem open_tongue {H : Type} {enc : TypeId × Value → H} {W : World} {v : Value} {d : DataW H} {p : List MemPlace} (hv : Value.okWide Tryd.prog W .any 0 38 v) (h : DataW.Trod enc Tryd.prog W 0 (fun _ => true) true 38 v d p) : ∃ t, TngIn W v t := by
  obtain ⟨v0, v1, v2, y0, y1, y2, n, rfl, -, -, h0, h1, h2⟩ := open_agg3 Tryd.underlying38 (by kernel_rfl) (by kernel_rfl) hv h
  obtain ⟨A1, c1, us, rfl, s1, m1, z1⟩ := in_strs h0
  obtain ⟨A2, c2, bs, rfl, s2, m2, z2⟩ := in_ints h1
  obtain ⟨A3, c3, ns, rfl, s3, m3, z3⟩ := in_strs h2
  exact ⟨⟨us, bs, ns⟩, ⟨A1, c1, A2, c2, A3, c3, rfl, s1, s2, s3, m1, m2, m3⟩, z2, fun x hx => by
    rcases List.mem_append.1 hx with h | h
    · exact z1 x h
    · exact z3 x h⟩
end Go.Proofs.YteemgkabhkdeaaaDoor
