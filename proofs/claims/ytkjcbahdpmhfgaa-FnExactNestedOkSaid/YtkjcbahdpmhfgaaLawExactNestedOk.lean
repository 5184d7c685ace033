/-
  FnExactNestedOk holds for every slice of integers: NestedOk answers as its model and leaves its argument unmodified. No condition.
-/
import Derived.Test.YtkjcbahdpmhfgaaRows
import Derived.Test.YtkjcbahdpmhfgaaHold
import Derived.Test.YtkjcbahdpmhfgaaC1c
namespace Go.Proofs.Ytkjcbahdpmhfgaa.fnExactNestedOk
open Go.ChangeShapes Go.WideShapes Go.ChangeAt Go.RowKit
open Go.ChangeMaps (open_string shut_string)

theorem own : ownKnob Try.prog.godebug = none := by kernel_rfl
theorem laidOut : laidOutB Try.prog = true := by kernel_rfl

theorem walk (w : World) (A : Option Addr) (n c : Nat) (xs : List Int) (h : Ints w .i64 A n c xs) (hwf : ∀ x ∈ xs, (Lit.int .i64 x).wf = true) (hc : c ≤ maxLen) :
    Calls Try.prog 12 #[.slice A n c] w fun e w' => e = .returned (.bool true) ∧ Below w.heap.size w w' := by
  have hn : n ≤ 9223372036854775807 := by have := h.le; unfold maxLen at hc; omega
  by_cases hl : n ≤ 1048576
  · have H := Lib.hid h
    have HF := Lib.hid (Fits.of_wf hwf)
    clear h hwf hc
    go_enter Try.func12, Try.ntmps12
    go_wp2_with (fail)
    refine (toIntS_any _ _ _ _ _ H.out hl).mono ?_
    rintro e w1 ⟨g1, rfl, o1, b1⟩
    go_wp2_with (fail)
    refine (specNestedOk_any _ _ _ _ _ o1.ints hl HF.out).mono ?_
    rintro e w1' ⟨rfl, m1, rfl⟩
    go_wp2_with (fail)
    refine (toIntS_any _ _ _ _ _ ((H.out.below b1 (Nat.le_refl _)).drewN _) hl).mono ?_
    rintro e w2 ⟨g2, rfl, o2, b2⟩
    go_wp2_with (fail)
    refine (implNestedOk_any _ _ _ _ _ o2.ints hl HF.out).mono ?_
    rintro e _ ⟨rfl, rfl⟩
    have b2' := below_of_drewN b2
    go_wp2_with (fail)
    refine (toIntS_any _ _ _ _ _ ((H.out.below b1 (Nat.le_refl _)).below b2' (Nat.le_refl _)) hl).mono ?_
    rintro e w3 ⟨g3, rfl, o3, b3⟩
    go_wp2_with (fail)
    refine (eqIntS_any _ _ _ _ _ _ _ _ _ (o2.ints.below b3 (Nat.le_refl _)) o3.ints hl hl).mono ?_
    rintro e w3' ⟨rfl, m3, rfl⟩
    rw [decide_eq_true rfl]
    go_wp2_with (fail)
    go_ret
    exact ⟨rfl, below_drewN (b1.trans ((b2'.trans (b3.mono b2.size)).mono b1.size)) _⟩
  · have hl' : 1048576 < n := by omega
    go_enter Try.func12, Try.ntmps12
    go_wp2
    go_ret
    exact ⟨rfl, Below.refl _ _⟩

set_option maxRecDepth 100000 in
theorem lifted (os : Os) (started : os.Started) (H : Type) (enc : TypeId × Value → H) :
    ReturnsInHanded {} Try.checked os 12 .any (Rows.fnExactNestedOkSpec.pre6 enc Try.prog Try.f12 Rows.fnExactNestedOkRow.domain false) (Rows.fnExactNestedOkSpec.post enc Try.prog Try.f12 false true false false) := by
  refine returnsInHanded_of_change (C := Try.checked) own started (by kernel_rfl) Try.func12
    (ChangeSpec.witness6 (enc := enc) (C := Try.checked) false ⟨#[], #[.slice none 0 0], []⟩ 8 (by kernel_rfl) (by kernel_rfl) (by kernel_rfl) (by kernel_rfl)) ?_
  intro W base args ds gs before hval0 hW hcnd _
  have hval : ∀ (j : Nat) t v, Try.f12.params[j]? = some t → args[j]? = some v → Value.okWide Try.prog W .any base t v := hval0
  have hW' := hW
  obtain ⟨p, q, hA0, hV, rfl, hfz, hnd⟩ := hW
  have hA : DataW.TrodAll enc Try.prog W 0 (fun _ => true) true Try.f12.params.toList args.toList ds p := hA0
  rw [Try.params12] at hA hval
  obtain ⟨v0, vs0, d0, ds0, p0, q0, hargs, rfl, rfl, h0, r0⟩ := trodAll_cons hA
  obtain ⟨rfl, rfl, rfl⟩ := trodAll_nil r0
  obtain rfl : args = #[v0] := by cases args; simp_all
  obtain ⟨rfl, rfl⟩ := trodVars_none hV
  obtain ⟨a0, len0, cap0, rfl⟩ := okWide_slice Try.underlying23 (hval 0 23 v0 rfl rfl)
  have k0 := h0
  have lt0 : ∀ x ∈ p0, x.block < W.heap.size := by obtain ⟨m, hm⟩ := k0; exact DataW.trod_lt m _ _ _ hm
  obtain ⟨z0, s0, w0, m0⟩ : ∃ zs, Ints W .i64 a0 len0 cap0 zs ∧ (∀ n ∈ zs, (Lit.int .i64 n).wf = true) ∧ cap0 ≤ maxLen := by
    obtain ⟨fuel, hf⟩ := h0
    rcases open_ints Try.underlying23 Try.underlying3 (by kernel_rfl) hf with ⟨hcs, _⟩ | ⟨x, l, c, zs, hcs, _, hl, hm, hz, _, hcell, hwz⟩
    · simp [Value.cells] at hcs
      obtain ⟨rfl, rfl, rfl⟩ := hcs
      exact ⟨[], Ints.none_, by simp, Nat.zero_le _⟩
    · simp [Value.cells] at hcs
      obtain ⟨rfl, rfl, rfl⟩ := hcs
      exact ⟨_, Ints.of_row hl (by simpa using hz) hcell, fun n hn => hwz n (List.mem_of_mem_take hn), hm⟩
  clear hA0 hval0
  refine (walk W a0 len0 cap0 z0 s0 w0 m0).mono fun e W' ⟨he, bel⟩ => ?_
  subst he
  exact ⟨_, rfl, _, _, _, [], _, [], hW', trodAll_mk1 (shut_bool Try.underlying4 _), (trodAll_cons_mk (Below.trod laidOut (by kernel_rfl) (of_decide_eq_true (by kernel_rfl)) k0 bel lt0) trodAll_mk0), rfl, bel.frame _, fun h => by cases h⟩

theorem over : Rows.fnExactNestedOkRow.holds Try.pinned (OpenSpec.ofChange Rows.fnExactNestedOkSpec) :=
  OpenClaim.holds_of_wide 12 Try.f12 rfl rfl rfl rfl rfl rfl rfl ⟨rfl, rfl, rfl, rfl, rfl⟩ rfl rfl rfl rfl rfl (by kernel_rfl) Try.func12 (by kernel_rfl)
    (of_decide_eq_true (by kernel_rfl)) (by unfold Func.isWrapper; first | (rw [if_pos (by decide +kernel)]; kernel_rfl) | (rw [if_neg (by decide +kernel)]; exact ⟨rfl, rfl⟩))
    (fun os started H enc _ => lifted os started H enc)
theorem proved : Rows.FnExactNestedOkSaid := over
end Go.Proofs.Ytkjcbahdpmhfgaa.fnExactNestedOk
