/-
  Desks and deeds that come in by a row's form, opened.
-/
import Derived.Test.YtjnlpknjdclalaaDHo
import Derived.Test.YtjnlpknjdclalaaGT
namespace Go.Proofs.Ytjnlpknjdclalaa
open Go.ChangeShapes Go.WideShapes Go.RowKit Go.Joins Go.Deep

theorem array5 {α : Type} {cs : Array α} (h : cs.size = 5) : ∃ c0 c1 c2 c3 c4, cs = #[c0, c1, c2, c3, c4] := by
  obtain ⟨l⟩ := cs
  match l, h with
  | [a, b, c, d, e], _ => exact ⟨a, b, c, d, e, rfl⟩
theorem in_int {H : Type} {enc : TypeId × Value → H} {W : World} {v : Value} {n : Nat} {y : DataW H × List MemPlace} (h : DataW.trod enc Try.prog W 0 (fun _ => true) true n 3 [v] = some y) : ∃ x : Int, v = .int .i64 x ∧ (Lit.int .i64 x).wf = true := by
  cases n with
  | zero => simp [DataW.trod] at h
  | succ n =>
    simp only [DataW.trod, Try.underlying3] at h
    cases v <;> simp at h
    obtain ⟨⟨rfl, hw⟩, -⟩ := h
    exact ⟨_, rfl, hw⟩
theorem wf_bd {x : Int} (h : (Lit.int .i64 x).wf = true) : -9223372036854775808 ≤ x ∧ x ≤ 9223372036854775807 := by simpa [Lit.wf, IntKind.min, IntKind.max, IntKind.signed, IntKind.bits] using h

set_option maxRecDepth 100000 in
theorem open_desk {H : Type} {enc : TypeId × Value → H} {W : World} {v : Value} {d : DataW H} {p : List MemPlace} (hv : Value.okWide Try.prog W .any 0 40 v) (h : DataW.Trod enc Try.prog W 0 (fun _ => true) true 40 v d p) : ∃ d, DskIn W v d := by
  obtain ⟨cs, rfl, hsz⟩ := okWide_struct Try.underlying40 hv
  obtain ⟨c0, c1, c2, c3, c4, rfl⟩ := array5 (hsz.trans (by kernel_rfl))
  obtain ⟨fuel, hf⟩ := h
  obtain ⟨y0, y1, y2, n, -, -, h0, h1, h2⟩ := trod_struct3 Try.underlying40 hf
  have k0 : Try.prog.cellsOf 38 = 3 := by kernel_rfl
  have k1 : Try.prog.cellsOf 3 = 1 := by kernel_rfl
  have k2 : Try.prog.cellsOf 24 = 1 := by kernel_rfl
  have g0 : DataW.trod enc Try.prog W 0 (fun _ => true) true n 38 [c0, c1, c2] = some y0 := by simpa [Value.cells, k0] using h0
  have g1 : DataW.trod enc Try.prog W 0 (fun _ => true) true n 3 [c3] = some y1 := by simpa [Value.cells, k1] using h1
  have g2 : DataW.trod enc Try.prog W 0 (fun _ => true) true n 24 [c4] = some y2 := by simpa [Value.cells, k2] using h2
  obtain ⟨z0, z1, z2, m, -, -, t0, t1, t2⟩ := trod_struct3 Try.underlying38 g0
  have k3 : Try.prog.cellsOf 23 = 1 := by kernel_rfl
  have s0 : DataW.trod enc Try.prog W 0 (fun _ => true) true m 23 [c0] = some z0 := by simpa [k3] using t0
  have s1 : DataW.trod enc Try.prog W 0 (fun _ => true) true m 24 [c1] = some z1 := by simpa [k2] using t1
  have s2 : DataW.trod enc Try.prog W 0 (fun _ => true) true m 23 [c2] = some z2 := by simpa [k3] using t2
  obtain ⟨A1, c1', us, rfl, q1, m1, w1⟩ := in_strs s0
  obtain ⟨A2, c2', bs, rfl, q2, m2, w2⟩ := in_ints s1
  obtain ⟨A3, c3', ns, rfl, q3, m3, w3⟩ := in_strs s2
  obtain ⟨x, rfl, hx⟩ := in_int g1
  obtain ⟨A5, c5', ps, rfl, q5, m5, w5⟩ := in_ints g2
  exact ⟨⟨⟨us, bs, ns⟩, x, ps⟩, ⟨A1, c1', A2, c2', A3, c3', A5, c5', rfl, ⟨⟨A1, c1', A2, c2', A3, c3', rfl, q1, q2, q3, m1, m2, m3⟩, w2, fun x hx => by
    rcases List.mem_append.1 hx with h | h
    · exact w1 x h
    · exact w3 x h⟩, q5, m5⟩, w5, wf_bd hx⟩
/-- A deed that comes in. -/
structure DdIn (v : Value) (a : Dd) : Prop where
  e : v = .agg #[.int .i64 a.kind, .int .i64 a.n]
  kind : -9223372036854775808 ≤ a.kind ∧ a.kind ≤ 9223372036854775807
  n : -9223372036854775808 ≤ a.n ∧ a.n ≤ 9223372036854775807
set_option maxRecDepth 100000 in
theorem open_deed {H : Type} {enc : TypeId × Value → H} {W : World} {v : Value} {d : DataW H} {p : List MemPlace} (hv : Value.okWide Try.prog W .any 0 42 v) (h : DataW.Trod enc Try.prog W 0 (fun _ => true) true 42 v d p) : ∃ a, DdIn v a := by
  obtain ⟨v0, v1, y0, y1, n, rfl, -, -, h0, h1⟩ := open_agg2 Try.underlying42 (by kernel_rfl) (by kernel_rfl) hv h
  obtain ⟨x, rfl, hx⟩ := in_int h0
  obtain ⟨y, rfl, hy⟩ := in_int h1
  exact ⟨⟨x, y⟩, rfl, wf_bd hx, wf_bd hy⟩
end Go.Proofs.Ytjnlpknjdclalaa
