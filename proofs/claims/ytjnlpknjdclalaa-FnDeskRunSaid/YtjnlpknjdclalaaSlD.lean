/-
  Slices of rows of deeds, and a desk in a box.
-/
import Derived.Test.YtjnlpknjdclalaaDds
namespace Go.Proofs.Ytjnlpknjdclalaa
open Go.RowKit

theorem dd_elem : Try.prog.underlying 29 = some (.slice (Try.prog.elem 29)) := by kernel_rfl
theorem dd_size (W : World) : (sizeOf (Try.prog.elem 29)).run Try.prog W = .ok 2 W := by
  have e : Try.prog.elem 29 = 47 := by kernel_rfl
  rw [e]
  simp [sizeOf, go_sem]
  trace_state
  rfl
theorem add_zero (A : Option Addr) : A.map (·.add 0) = A := by
  cases A with
  | none => rfl
  | some a => obtain ⟨b, o, f⟩ := a; simp [Addr.add]
section
variable {w : World} {A : Option Addr} {n c : Nat} {q : List Dd}
theorem DeedsAre.cutHi (h : DeedsAre w A n c q) (m : Nat) (hm : m ≤ n) (W : World) : (Instr.slice 29 (.slice A n c) none (some (.int .i64 (m : Int))) none).run Try.prog W = .ok (.slice A m c) W := by
  have hle := h.le
  rw [run_slice_h (ht := dd_elem) (kh := .i64) (h := (m : Int)) (h0 := by omega) (h2 := by omega), dd_size]
  simp only [Result.andThen, sliced, Nat.zero_mul, add_zero, ite_self, Int.toNat_natCast, Nat.sub_zero]
theorem DeedsAre.cutLo (h : DeedsAre w A n c q) (m : Nat) (hm : m ≤ n) : ∃ A', (∀ W : World, (Instr.slice 29 (.slice A n c) (some (.int .i64 (m : Int))) none none).run Try.prog W = .ok (.slice A' (n - m) (c - m)) W) ∧ DeedsAre w A' (n - m) (c - m) (q.drop m) := by
  have hle := h.le
  refine ⟨if c = m then A else A.map (·.add (m * 2)), fun W => ?_, ?_⟩
  · rw [run_slice_l (ht := dd_elem) (kl := .i64) (l := (m : Int)) (h0 := by omega) (h1 := by omega), dd_size]
    simp only [Result.andThen, sliced, Int.toNat_natCast]
  · refine ⟨by rw [List.length_drop, h.len], by omega, fun h0 => ?_⟩
    rw [if_neg (by omega)]
    obtain ⟨b, o, rfl, hlt, hc⟩ := h.at_ (by omega)
    obtain ⟨b', o', e, r⟩ := (h.drop m hm).at_ h0
    cases e
    exact ⟨b, o + m * 2, by simp [Addr.add], r⟩
end
/-- A desk in a box of the call's own. -/
structure BXM (W : World) (B q : Nat) (cs : Array Value) (d : Dk) : Prop where
  k : Blk W q 28 cs
  o : MDk W B (.agg cs) d
section
variable {W W' : World} {B B' q g : Nat} {cs cs' : Array Value} {d : Dk} {u0 u1 u2 u3 u4 : Value}
theorem BXM.step (h : BXM W B q cs d) (hb : Below W.heap.size W W') : BXM W' B q cs d := ⟨h.k.below hb h.k.lt, h.o.below hb (Nat.le_refl _)⟩
theorem BXM.new (o : MDk W B (.agg cs) d) : BXM (W.alloc (.cells cs 28)) B W.heap.size cs d := ⟨Blk.new _ _ _, o.below ((Below.refl _ _).alloc (Nat.le_refl _) _) (Nat.le_refl _)⟩
theorem BXM.mono (h : BXM W B q cs d) (hB : B' ≤ B) : BXM W B' q cs d := ⟨h.k, h.o.mono hB⟩
theorem BXM.shape (h : BXM W B q cs d) : ∃ A1 c1 A2 c2 A3 c3 A5 c5, cs = #[.slice A1 d.t.us.length c1, .slice A2 d.t.bs.length c2, .slice A3 d.t.ns.length c3, .int .i64 d.now, .slice A5 d.past.length c5] := by
  obtain ⟨A1, c1, A2, c2, A3, c3, A5, c5, e, -⟩ := h.o.dsk.ex
  injection e with e
  exact ⟨A1, c1, A2, c2, A3, c3, A5, c5, e⟩
end
end Go.Proofs.Ytjnlpknjdclalaa
