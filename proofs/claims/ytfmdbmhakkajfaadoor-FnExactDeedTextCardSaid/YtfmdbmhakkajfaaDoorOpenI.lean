/-
  Numbers and deeds that come in by a row's form, opened; rows of two cells an element as rows of one.
-/
import Derived.Test.YtfmdbmhakkajfaaDoorChecked
import Derived.Test.YtfmdbmhakkajfaaDoorDdsB
import Derived.Lib.SmallJoins
import Derived.Deep.SlicePairs
import Derived.OpenShut
import Derived.KernelRfl
namespace Go.Proofs.YtfmdbmhakkajfaaDoor
open Go.ChangeShapes Go.WideShapes Go.RowKit Go.Joins Go.Deep

set_option maxRecDepth 100000 in
theorem in_int {H : Type} {enc : TypeId × Value → H} {W : World} {v : Value} {n : Nat} {y : DataW H × List MemPlace} (h : DataW.trod enc Tryd.prog W 0 (fun _ => true) true n 3 [v] = some y) : ∃ x : Int, v = .int .i64 x ∧ (Lit.int .i64 x).wf = true := by
  cases n with
  | zero => simp [DataW.trod] at h
  | succ n =>
    simp only [DataW.trod, Tryd.underlying3] at h
    cases v <;> simp at h
    obtain ⟨⟨rfl, hw⟩, -⟩ := h
    exact ⟨_, rfl, hw⟩
theorem wfI_bd {x : Int} (h : (Lit.int .i64 x).wf = true) : -9223372036854775808 ≤ x ∧ x ≤ 9223372036854775807 := by simpa [Lit.wf, IntKind.min, IntKind.max, IntKind.signed, IntKind.bits] using h

/-- A deed that comes in. -/
structure DdIn (v : Value) (a : Dd) : Prop where
  e : v = .agg #[.int .i64 a.kind, .int .i64 a.n]
  kind : -9223372036854775808 ≤ a.kind ∧ a.kind ≤ 9223372036854775807
  n : -9223372036854775808 ≤ a.n ∧ a.n ≤ 9223372036854775807
set_option maxRecDepth 100000 in
theorem open_deed {H : Type} {enc : TypeId × Value → H} {W : World} {v : Value} {d : DataW H} {p : List MemPlace} (hv : Value.okWide Tryd.prog W .any 0 38 v) (h : DataW.Trod enc Tryd.prog W 0 (fun _ => true) true 38 v d p) : ∃ a, DdIn v a := by
  obtain ⟨v0, v1, y0, y1, n, rfl, -, -, h0, h1⟩ := open_agg2 Tryd.underlying38 (by kernel_rfl) (by kernel_rfl) hv h
  obtain ⟨x, rfl, hx⟩ := in_int h0
  obtain ⟨y, rfl, hy⟩ := in_int h1
  exact ⟨⟨x, y⟩, rfl, wfI_bd hx, wfI_bd hy⟩
/-- Deeds that come in. -/
structure DdsIn (W : World) (v : Value) (q : List Dd) : Prop where
  ex : ∃ A c, v = .slice A q.length c ∧ DeedsAre W A q.length c q ∧ c ≤ maxLen
  wf : ∀ x ∈ q, (-9223372036854775808 ≤ x.kind ∧ x.kind ≤ 9223372036854775807) ∧ (-9223372036854775808 ≤ x.n ∧ x.n ≤ 9223372036854775807)
theorem DdsIn.below {w w' : World} {B : Nat} {v : Value} {q : List Dd} (h : DdsIn w v q) (hb : Below B w w') (hB : w.heap.size ≤ B) : DdsIn w' v q := by
  obtain ⟨A, c, e, hd, hc⟩ := h.ex
  exact ⟨⟨A, c, e, hd.below hb hB, hc⟩, h.wf⟩
set_option maxRecDepth 100000 in
theorem open_deeds {H : Type} {enc : TypeId × Value → H} {W : World} {v : Value} {d : DataW H} {p : List MemPlace} (hv : Value.okWide Tryd.prog W .any 0 43 v) (h : DataW.Trod enc Tryd.prog W 0 (fun _ => true) true 43 v d p) : ∃ q, DdsIn W v q := by
  obtain ⟨a0, l0, c0, rfl⟩ := okWide_slice Tryd.underlying43 hv
  obtain ⟨fuel, hf⟩ := h
  rcases open_slice_pairs Tryd.underlying43 Tryd.underlying38 (by kernel_rfl) (by kernel_rfl) (by kernel_rfl) (by kernel_rfl) (by kernel_rfl) hf with ⟨hcs, _⟩ | ⟨a, len, cap, m, n, V0, V1, D0, D1, P0, P1, hcs, _, hl, hm, hmm, _, hx⟩
  · simp [Value.cells] at hcs
    obtain ⟨rfl, rfl, rfl⟩ := hcs
    exact ⟨[], ⟨none, 0, rfl, ⟨rfl, Nat.le_refl _, fun h => absurd h (by simp)⟩, Nat.zero_le _⟩, by simp⟩
  · simp [Value.cells] at hcs
    obtain ⟨rfl, rfl, rfl⟩ := hcs
    have hmc : m = c0 := by simpa using hmm
    subst hmc
    have h0 : ∀ i, i < m → ∃ x y : Int, V0 i = .int .i64 x ∧ V1 i = .int .i64 y ∧ (-9223372036854775808 ≤ x ∧ x ≤ 9223372036854775807) ∧ (-9223372036854775808 ≤ y ∧ y ≤ 9223372036854775807) ∧ W.cell? (a.add (i * 2)) = some (.int .i64 x) ∧ W.cell? (a.add (i * 2 + 1)) = some (.int .i64 y) := fun i hi => by
      obtain ⟨e0, e1, t0, t1⟩ := hx i hi
      obtain ⟨x, ex, wx⟩ := in_int t0
      obtain ⟨y, ey, wy⟩ := in_int t1
      exact ⟨x, y, ex, ey, wfI_bd wx, wfI_bd wy, by rw [e0, ex], by rw [e1, ey]⟩
    refine ⟨(List.range l0).map fun i => ⟨intOf (V0 i), intOf (V1 i)⟩, ⟨some a, m, by simp, ⟨rfl, by simpa using hl, fun hn => ?_⟩, hm⟩, fun z hz => ?_⟩
    · have hn' : 0 < l0 := by simpa using hn
      obtain ⟨b, o, p⟩ := a
      obtain ⟨x, y, -, -, -, -, c0', -⟩ := h0 0 (by omega)
      have hp : p = none := by simpa [Addr.add] using World.cell?_spot c0'
      subst hp
      refine ⟨b, o, rfl, lt_of_cell (a := ⟨b, o, none⟩) (by simpa [add_plain'] using c0'), fun j z hj => ?_⟩
      have hjl : j < l0 := by
        rcases Nat.lt_or_ge j l0 with h1 | h1
        · exact h1
        · rw [List.getElem?_eq_none (by simpa using h1)] at hj; cases hj
      obtain ⟨x, y, ex, ey, -, -, k0, k1⟩ := h0 j (by omega)
      rw [add_plain'] at k0 k1
      simp [hjl] at hj
      subst hj
      rw [k0, show o + j * 2 + 1 = o + (j * 2 + 1) by omega, k1, ex, ey]
      exact ⟨rfl, rfl⟩
    · obtain ⟨i, hi, rfl⟩ := List.mem_map.1 hz
      obtain ⟨x, y, ex, ey, wx, wy, -, -⟩ := h0 i (by have := List.mem_range.1 hi; omega)
      rw [ex, ey]
      exact ⟨wx, wy⟩

/-- A row of two cells an element, as one of one cell an element. -/
theorem own2_as1 {w : World} {B g n c : Nat} {e : TypeId} {xs : List Value} (h : w.ownsRow B e 2 (.slice (some ⟨g, 0, none⟩) n c) n xs) (hm : c * 2 ≤ maxLen) : w.ownsRow B e 1 (.slice (some ⟨g, 0, none⟩) (n * 2) (c * 2)) (n * 2) xs := by
  obtain ⟨hl, h⟩ := h
  rcases h with ⟨e0, _⟩ | ⟨g', cap, cur, e0, hb, hg, hn, hc, hs, ht⟩
  · cases e0
  · cases e0
    exact ⟨by omega, .inr ⟨g, c * 2, cur, rfl, hb, hg, by omega, hm, by omega, by rw [Nat.mul_one]; exact ht⟩⟩
theorem own1_as2 {w : World} {B g n c : Nat} {e : TypeId} {xs : List Value} (h : w.ownsRow B e 1 (.slice (some ⟨g, 0, none⟩) (n * 2) (c * 2)) (n * 2) xs) : w.ownsRow B e 2 (.slice (some ⟨g, 0, none⟩) n c) n xs := by
  obtain ⟨hl, h⟩ := h
  rcases h with ⟨e0, _⟩ | ⟨g', cap, cur, e0, hb, hg, hn, hc, hs, ht⟩
  · cases e0
  · simp only [Value.slice.injEq, Option.some.injEq, Addr.mk.injEq, and_true] at e0
    obtain ⟨rfl, -, rfl⟩ := e0
    exact ⟨by omega, .inr ⟨g, c, cur, rfl, hb, hg, by omega, by omega, by omega, by rw [Nat.mul_one] at ht; exact ht⟩⟩
theorem ownN_type_ne {w : World} {B B' z z' : Nat} {e e' : TypeId} {n n' : Nat} {v v' : Value} {xs xs' : List Value} (h : w.ownsRow B e z v n xs) (h' : w.ownsRow B' e' z' v' n' xs') (hne : e ≠ e') : ∀ k, v.ownBlock = some k → v'.ownBlock ≠ some k := by
  intro k hk hk'
  rcases h.2 with ⟨rfl, _⟩ | ⟨g, cap, cur, rfl, _, hh, _⟩
  · simp [Value.ownBlock] at hk
  · rcases h'.2 with ⟨rfl, _⟩ | ⟨g', cap', cur', rfl, _, hh', _⟩
    · simp [Value.ownBlock] at hk'
    · simp [Value.ownBlock] at hk hk'
      subst hk
      subst hk'
      rw [hh] at hh'
      injection hh' with e1
      injection e1 with _ e2
      exact hne e2
theorem ownN_off {a b : World} {B n z : Nat} {e : TypeId} {u : Value} {xs : List Value} {row : Option Nat} (h : a.ownsRow B e z u n xs) (hg : a.grownBy b row) (hne : ∀ k, u.ownBlock = some k → row ≠ some k) : b.ownsRow B e z u n xs := by
  refine h.kept hg ?_
  cases hv : u.ownBlock with
  | none => exact .inl rfl
  | some k => exact .inr fun e => hne k hv e.symm
theorem belowD_own {w a b : World} {B S z : Nat} {t : TypeId} {v : Value} {n : Nat} {xs : List Value} (h : Below S w a) (ho : a.ownsRow B t z v n xs) (hg : a.grownBy b v.ownBlock) (hS : S ≤ a.heap.size) (hB : S ≤ B) : Below S w b :=
  h.grown hg hS (fun k e => by have := (ho.lt k e).1; omega)
end Go.Proofs.YtfmdbmhakkajfaaDoor
