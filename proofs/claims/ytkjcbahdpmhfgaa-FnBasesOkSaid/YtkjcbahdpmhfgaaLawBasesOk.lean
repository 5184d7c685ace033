/-
  FnBasesOk holds for every input: the drawn bases are judged by BasesOk as by its model; 1 alone is bases, bases without the last one are, 1 and 1 are not. No condition.
-/
import Derived.Test.YtkjcbahdpmhfgaaRows
import Derived.Test.YtkjcbahdpmhfgaaDrawC
import Derived.Test.YtkjcbahdpmhfgaaHold
namespace Go.Proofs.Ytkjcbahdpmhfgaa.fnBasesOk
open Go.ChangeShapes Go.WideShapes Go.ChangeAt Go.RowKit
open Go.ChangeMaps (open_string shut_string)

theorem own : ownKnob Try.prog.godebug = none := by kernel_rfl
theorem laidOut : laidOutB Try.prog = true := by kernel_rfl

theorem walk (w : World) (A : Option Addr) (n c : Nat) (xs : List Int) (h : Ints w .u8 A n c xs) (hwf : ∀ x ∈ xs, (Lit.int .u8 x).wf = true) (hc : c ≤ maxLen) :
    Calls Try.prog 3 #[.slice A n c] w fun e w' => e = .returned (.bool true) ∧ Below w.heap.size w w' := by
  have hn : n ≤ 9223372036854775807 := by have := h.le; unfold maxLen at hc; omega
  by_cases hl : n ≤ 1048576
  · have HD := Lib.hid (drawBasesOk_any A n c xs w h hl hwf hc)
    clear h hwf hc
    have k1 : basesOk [1] = true := by decide
    have k2 : basesOk [1, 1] = false := by decide
    have f1 : Fits [1] := Fits.of_small (by decide)
    have f2 : Fits [1, 1] := Fits.of_small (by decide)
    go_enter Try.func3, Try.ntmps3
    go_wp2_with (fail)
    refine HD.out.mono ?_
    rintro e w1 ⟨A1, n1, c1, ys, rfl, hi, hf, hn1, hb⟩
    have hle := hi.le
    have hlen := hi.len
    replace hlen := Lib.hid hlen
    go_wp2_with (fail)
    refine (implBasesOk_any _ _ _ ys _ hi (by omega) hf).mono ?_
    rintro e _ ⟨rfl, rfl⟩
    go_wp2_with (fail)
    refine (specBasesOk_any _ _ _ ys _ hi (by omega) hf).mono ?_
    rintro e _ ⟨rfl, m, rfl⟩
    have hi := hi.drewN m
    have hb := below_drewN hb m
    cases hok : basesOk ys
    · go_wp2_with (fail)
      refine (implBasesOk_any _ _ _ [1] _ (lit_ints _ [1]) (by simp) f1).mono ?_
      rintro e _ ⟨rfl, rfl⟩
      rw [k1]
      go_wp2_with (fail)
      refine (implBasesOk_any _ _ _ [1, 1] _ (by have := lit_ints ((w1.drewN m).alloc (.cells #[.int .i64 1] 3)) [1, 1]; simpa using this) (by simp) f2).mono ?_
      rintro e _ ⟨rfl, rfl⟩
      rw [k2]
      go_wp2_with (fail)
      refine (alive_any _).mono ?_
      rintro e w3 ⟨rfl, hb3⟩
      go_wp2
      go_ret
      exact ⟨rfl, (((hb.alloc hb.size _).alloc (by have := hb.size; simp at this ⊢; omega) _).trans (hb3.mono (by have := hb.size; simp at this ⊢; omega)))⟩
    · by_cases h1 : n1 = 1
      · subst h1
        go_wp2_with (fail)
        refine (implBasesOk_any _ _ _ [1] _ (lit_ints _ [1]) (by simp) f1).mono ?_
        rintro e _ ⟨rfl, rfl⟩
        rw [k1]
        go_wp2_with (fail)
        refine (implBasesOk_any _ _ _ [1, 1] _ (by have := lit_ints ((w1.drewN m).alloc (.cells #[.int .i64 1] 3)) [1, 1]; simpa using this) (by simp) f2).mono ?_
        rintro e _ ⟨rfl, rfl⟩
        rw [k2]
        go_wp2_with (fail)
        refine (alive_any _).mono ?_
        rintro e w3 ⟨rfl, hb3⟩
        go_wp2
        go_ret
        exact ⟨rfl, (((hb.alloc hb.size _).alloc (by have := hb.size; simp at this ⊢; omega) _).trans (hb3.mono (by have := hb.size; simp at this ⊢; omega)))⟩
      · have hb1 : ((n1 : Int) == 1) = false := by rw [beq_eq_false_iff_ne]; omega
        have h2 := bases_len hok
        rw [hlen.out] at h2
        have k3 : basesOk (ys.take (n1 - 1)) = true := by
          have := basesOk_init hok (by rw [hlen.out]; omega)
          rwa [hlen.out] at this
        have K3 := Lib.hid k3
        clear k3
        go_wp2_with (fail)
        refine (implBasesOk_any _ _ _ [1] _ (lit_ints _ [1]) (by simp) f1).mono ?_
        rintro e _ ⟨rfl, rfl⟩
        rw [k1]
        go_wp2_with (fail)
        refine (implBasesOk_any _ _ _ (ys.take (n1 - 1)) _ ((hi.below ((Below.refl _ _).alloc (Nat.le_refl _) _) (Nat.le_refl _)).take (by omega)) (by omega) (hf.take _)).mono ?_
        rintro e _ ⟨rfl, rfl⟩
        rw [K3.out]
        go_wp2_with (fail)
        refine (implBasesOk_any _ _ _ [1, 1] _ (by have := lit_ints ((w1.drewN m).alloc (.cells #[.int .i64 1] 3)) [1, 1]; simpa using this) (by simp) f2).mono ?_
        rintro e _ ⟨rfl, rfl⟩
        rw [k2]
        go_wp2_with (fail)
        refine (alive_any _).mono ?_
        rintro e w3 ⟨rfl, hb3⟩
        go_wp2
        go_ret
        exact ⟨rfl, (((hb.alloc hb.size _).alloc (by have := hb.size; simp at this ⊢; omega) _).trans (hb3.mono (by have := hb.size; simp at this ⊢; omega)))⟩
  · have hl' : 1048576 < n := by omega
    go_enter Try.func3, Try.ntmps3
    go_wp2
    go_ret
    exact ⟨rfl, Below.refl _ _⟩

set_option maxRecDepth 100000 in
theorem lifted (os : Os) (started : os.Started) (H : Type) (enc : TypeId × Value → H) :
    ReturnsInHanded {} Try.checked os 3 .any (Rows.fnBasesOkSpec.pre6 enc Try.prog Try.f3 Rows.fnBasesOkRow.domain false) (Rows.fnBasesOkSpec.post enc Try.prog Try.f3 false true false false) := by
  refine returnsInHanded_of_change (C := Try.checked) own started (by kernel_rfl) Try.func3
    (ChangeSpec.witness6 (enc := enc) (C := Try.checked) false ⟨#[], #[.slice none 0 0], []⟩ 8 (by kernel_rfl) (by kernel_rfl) (by kernel_rfl) (by kernel_rfl)) ?_
  intro W base args ds gs before hval0 hW hcnd _
  have hval : ∀ (j : Nat) t v, Try.f3.params[j]? = some t → args[j]? = some v → Value.okWide Try.prog W .any base t v := hval0
  have hW' := hW
  obtain ⟨p, q, hA0, hV, rfl, hfz, hnd⟩ := hW
  have hA : DataW.TrodAll enc Try.prog W 0 (fun _ => true) true Try.f3.params.toList args.toList ds p := hA0
  rw [Try.params3] at hA hval
  obtain ⟨v0, vs0, d0, ds0, p0, q0, hargs, rfl, rfl, h0, r0⟩ := trodAll_cons hA
  obtain ⟨rfl, rfl, rfl⟩ := trodAll_nil r0
  obtain rfl : args = #[v0] := by cases args; simp_all
  obtain ⟨rfl, rfl⟩ := trodVars_none hV
  obtain ⟨a0, len0, cap0, rfl⟩ := okWide_slice Try.underlying22 (hval 0 22 v0 rfl rfl)
  have k0 := h0
  have lt0 : ∀ x ∈ p0, x.block < W.heap.size := by obtain ⟨m, hm⟩ := k0; exact DataW.trod_lt m _ _ _ hm
  obtain ⟨z0, s0, w0, m0⟩ : ∃ zs, Ints W .u8 a0 len0 cap0 zs ∧ (∀ n ∈ zs, (Lit.int .u8 n).wf = true) ∧ cap0 ≤ maxLen := by
    obtain ⟨fuel, hf⟩ := h0
    rcases open_ints Try.underlying22 Try.underlying5 (by kernel_rfl) hf with ⟨hcs, _⟩ | ⟨x, l, c, zs, hcs, _, hl, hm, hz, _, hcell, hwz⟩
    · simp [Value.cells] at hcs
      obtain ⟨rfl, rfl, rfl⟩ := hcs
      exact ⟨[], Ints.none_, by simp, Nat.zero_le _⟩
    · simp [Value.cells] at hcs
      obtain ⟨rfl, rfl, rfl⟩ := hcs
      exact ⟨_, Ints.of_row hl (by simpa using hz) hcell, fun n hn => hwz n (List.mem_of_mem_take hn), hm⟩
  clear hA0 hval0
  refine (walk W a0 len0 cap0 z0 s0 w0 m0).mono fun e W' ⟨he, bel⟩ => ?_
  subst he
  exact ⟨_, rfl, _, _, _, [], _, [], hW', trodAll_mk1 (shut_bool Try.underlying4 _), (trodAll_cons_mk (Below.trod laidOut (by kernel_rfl) (of_decide_eq_true (by kernel_rfl)) k0 bel lt0) trodAll_mk0), rfl, bel.frame _, fun h => by cases h⟩

theorem over : Rows.fnBasesOkRow.holds Try.pinned (OpenSpec.ofChange Rows.fnBasesOkSpec) :=
  OpenClaim.holds_of_wide 3 Try.f3 rfl rfl rfl rfl rfl rfl rfl ⟨rfl, rfl, rfl, rfl, rfl⟩ rfl rfl rfl rfl rfl (by kernel_rfl) Try.func3 (by kernel_rfl)
    (of_decide_eq_true (by kernel_rfl)) (by unfold Func.isWrapper; first | (rw [if_pos (by decide +kernel)]; kernel_rfl) | (rw [if_neg (by decide +kernel)]; exact ⟨rfl, rfl⟩))
    (fun os started H enc _ => lifted os started H enc)
theorem proved : Rows.FnBasesOkSaid := over
end Go.Proofs.Ytkjcbahdpmhfgaa.fnBasesOk
