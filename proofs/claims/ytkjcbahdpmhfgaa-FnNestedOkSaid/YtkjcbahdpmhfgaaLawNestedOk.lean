/-
  FnNestedOk holds for every input: bases that divide bound the counts of 0 to 300. No condition.
-/
import Derived.Test.YtkjcbahdpmhfgaaRows
import Derived.Test.YtkjcbahdpmhfgaaDrawC
import Derived.Test.YtkjcbahdpmhfgaaMathB
import Derived.Test.YtkjcbahdpmhfgaaHold
import Derived.Test.YtkjcbahdpmhfgaaC1b
import Derived.Test.YtkjcbahdpmhfgaaC1e
namespace Go.Proofs.Ytkjcbahdpmhfgaa.fnNestedOk
open Go.ChangeShapes Go.WideShapes Go.ChangeAt Go.RowKit
open Go.ChangeMaps (open_string shut_string)

theorem own : ownKnob Try.prog.godebug = none := by kernel_rfl
theorem laidOut : laidOutB Try.prog = true := by kernel_rfl

set_option maxRecDepth 100000 in
set_option maxHeartbeats 4000000 in
theorem walk (w : World) (A : Option Addr) (n c : Nat) (xs : List Int) (h : Ints w .u8 A n c xs) (hwf : ∀ x ∈ xs, (Lit.int .u8 x).wf = true) (hc : c ≤ maxLen) :
    Calls Try.prog 7 #[.slice A n c] w fun e w' => e = .returned (.bool true) ∧ Below w.heap.size w w' := by
  have hn : n ≤ 9223372036854775807 := by have := h.le; unfold maxLen at hc; omega
  by_cases hl : n ≤ 1048576
  · have HD := Lib.hid (drawNestedOk_any A n c xs w h hl hwf hc)
    clear h hwf hc
    have k1 : nested [1, 10, 100] = true := by decide
    have k2 : nested [1, 2, 3] = false := by decide
    have f1 : Fits [1, 10, 100] := Fits.of_small (by decide)
    have f2 : Fits [1, 2, 3] := Fits.of_small (by decide)
    go_enter Try.func7, Try.ntmps7
    go_wp2_with (fail)
    refine HD.out.mono ?_
    rintro e w1 ⟨A1, n1, c1, ys, rfl, hi, hf, hn1, hb⟩
    have hlen := hi.len
    replace hlen := Lib.hid hlen
    go_wp2_with (fail)
    refine (implNestedOk_any _ _ _ ys _ hi (by omega) hf).mono ?_
    rintro e _ ⟨rfl, rfl⟩
    go_wp2_with (fail)
    refine (specNestedOk_any _ _ _ ys _ hi (by omega) hf).mono ?_
    rintro e _ ⟨rfl, m, rfl⟩
    replace hi := hi.drewN m
    replace hb := below_drewN hb m
    generalize w1.drewN m = w2 at *
    cases hok : nested ys
    · replace hok := Lib.hid hok
      clear hi
      go_wp2
      refine wp_loop_rounds 1 ?_
      rw [rounds_succ]
      go_wp2_with (fail)
      refine (implNestedOk_any _ _ _ [1, 10, 100] _ (lit_ints _ [1, 10, 100]) (by simp) f1).mono ?_
      rintro e _ ⟨rfl, rfl⟩
      rw [k1]
      go_wp2_with (fail)
      refine (implNestedOk_any _ _ _ [1, 2, 3] _ (by have := lit_ints (w2.alloc (.cells #[.int .i64 1, .int .i64 10, .int .i64 100] 3)) [1, 2, 3]; simpa using this) (by simp) f2).mono ?_
      rintro e _ ⟨rfl, rfl⟩
      rw [k2]
      go_wp2_with (fail)
      refine (alive_any _).mono ?_
      rintro e w3 ⟨rfl, hb3⟩
      go_wp2
      go_ret
      exact ⟨rfl, (((hb.alloc hb.size _).alloc (by have := hb.size; simp at this ⊢; omega) _).trans (hb3.mono (by have := hb.size; simp at this ⊢; omega)))⟩
    · have hbo : basesOk ys = true := by simp only [nested, Bool.and_eq_true] at hok; exact hok.1
      have hbl := bases_len hbo
      have hpos := bases_pos hbo
      have hnc := fun (j : Nat) (hj : j ≤ 300) (k : Nat) (hk : k + 1 < ys.length) => nested_cnt (n := (j : Int)) hok (by omega) hk
      have hcl := fun (j : Nat) (hj : j ≤ 300) => countsOf_length (b := ys) (n := (j : Int)) ((countsOk_iff _ _).2 ⟨hbo, by omega⟩)
      have hcg := fun (j : Nat) (hj : j ≤ 300) (k : Nat) (hk : k < ys.length) => countsOf_getD (b := ys) (n := (j : Int)) ((countsOk_iff _ _).2 ⟨hbo, by omega⟩) (k := k) hk
      rw [hlen.out] at hbl hpos
      simp only [hlen.out] at hnc hcl hcg
      obtain ⟨b1, o1, rfl, _, _⟩ := hi.at_ (by omega)
      replace hok := Lib.hid hok
      replace hbo := Lib.hid hbo
      replace hpos := Lib.hid hpos
      replace hnc := Lib.hid hnc
      replace hcl := Lib.hid hcl
      replace hcg := Lib.hid hcg
      go_wp2
      go_loopw [5] (fun i wr => ∃ j : Nat, j ≤ 301 ∧ i = .int .i64 j ∧ Ints wr .i64 (some ⟨b1, o1, none⟩) n1 c1 ys ∧ Below w.heap.size w wr) (fun i _ => 301 - (intOf i).toNat)
      case atStart => exact ⟨0, by omega, rfl, hi, hb⟩
      case round =>
        clear hi hb
        obtain ⟨j, hj, rfl, hi, hb⟩ := hrel
        by_cases hgo : j ≤ 300
        · have hjb : decide ((j : Int) ≤ 300) = true := decide_eq_true (by omega)
          go_wp2_with (fail)
          refine (specCountsOf_any _ _ _ ys j _ hi (by omega) hf (by omega)).mono ?_
          rintro e w3 ⟨v3, rfl, r3, b3⟩
          obtain ⟨A3, c3, rfl, i3⟩ := ints_of_own r3
          replace hi := hi.below b3 (Nat.le_refl _)
          replace hb := hb.trans (b3.mono hb.size)
          clear r3 b3
          have hcs : ∀ k, k < n1 → (countsOf ys j).getD k 0 = cntN ys j k := fun k hk => hcg.out j hgo k hk
          have hlt3 : ∀ k, k + 1 < n1 → cntN ys j k < ys.getD (k+1) 0 / ys.getD k 0 := fun k hk => hnc.out j hgo k hk
          rw [hcl.out j hgo] at i3 ⊢
          generalize countsOf ys j = cs at *
          obtain ⟨b3, o3, rfl, _, hc3⟩ := i3.at_ (by omega)
          obtain ⟨_, _, e1, _, hc1⟩ := hi.at_ (by omega)
          cases e1
          replace hcs := Lib.hid hcs
          replace hlt3 := Lib.hid hlt3
          clear i3
          go_wp2
          go_loopw [7] (fun i wr => ∃ k m : Nat, k + 1 ≤ n1 ∧ i = .int .i64 k ∧ wr = w3.drewN m) (fun i _ => n1 - (intOf i).toNat)
          case atStart => exact ⟨0, 0, by omega, rfl, rfl⟩
          case round =>
            obtain ⟨k, m, hk, rfl, rfl⟩ := hrel
            by_cases hlt : k + 1 < n1
            · have x3 := hc3 k (by omega)
              have x1 := hc1 (k+1) hlt
              have x1' := at_succ (fun _ : True => x1) trivial
              have x0 := hc1 k (by omega)
              have p1 := hpos.out (k+1) (by omega)
              have p0 := hpos.out k (by omega)
              rw [hcs.out k (by omega)] at x3
              have hd : decide (ys.getD (k+1) 0 / ys.getD k 0 ≤ cntN ys j k) = false := decide_eq_false (by have := hlt3.out k hlt; omega)
              generalize ys.getD (k+1) 0 = y1 at *
              generalize ys.getD k 0 = y0 at *
              generalize cntN ys j k = y3 at *
              clear hc1 hc3 hi
              go_wp2
              go_quiet (fail)
              go_wp2
              go_roundw
              case rel => exact ⟨k + 1, m + nq, by omega, by go_num, by first | rfl | exact World.drewN_drewN _ _ _⟩
              case measure => simp [intOf]; omega
            · replace hi := hi.drewN m
              replace hb := below_drewN hb m
              clear hc1 hc3
              go_wp2
              go_roundw
              case rel => exact ⟨j + 1, by omega, by go_num, hi, hb⟩
              case measure => simp [intOf]; omega
        · have hjb : decide ((j : Int) ≤ 300) = false := decide_eq_false (by omega)
          clear hi
          go_wp2_with (fail)
          refine (implNestedOk_any _ _ _ [1, 10, 100] _ (lit_ints _ [1, 10, 100]) (by simp) f1).mono ?_
          rintro e _ ⟨rfl, rfl⟩
          rw [k1]
          go_wp2_with (fail)
          refine (implNestedOk_any _ _ _ [1, 2, 3] _ (by have := lit_ints (wr.alloc (.cells #[.int .i64 1, .int .i64 10, .int .i64 100] 3)) [1, 2, 3]; simpa using this) (by simp) f2).mono ?_
          rintro e _ ⟨rfl, rfl⟩
          rw [k2]
          go_wp2_with (fail)
          refine (alive_any _).mono ?_
          rintro e w3 ⟨rfl, hb3⟩
          go_wp2
          go_ret
          exact ⟨rfl, (((hb.alloc hb.size _).alloc (by have := hb.size; simp at this ⊢; omega) _).trans (hb3.mono (by have := hb.size; simp at this ⊢; omega)))⟩
  · have hl' : 1048576 < n := by omega
    go_enter Try.func7, Try.ntmps7
    go_wp2
    go_ret
    exact ⟨rfl, Below.refl _ _⟩

set_option maxRecDepth 100000 in
theorem lifted (os : Os) (started : os.Started) (H : Type) (enc : TypeId × Value → H) :
    ReturnsInHanded {} Try.checked os 7 .any (Rows.fnNestedOkSpec.pre6 enc Try.prog Try.f7 Rows.fnNestedOkRow.domain false) (Rows.fnNestedOkSpec.post enc Try.prog Try.f7 false true false false) := by
  refine returnsInHanded_of_change (C := Try.checked) own started (by kernel_rfl) Try.func7
    (ChangeSpec.witness6 (enc := enc) (C := Try.checked) false ⟨#[], #[.slice none 0 0], []⟩ 8 (by kernel_rfl) (by kernel_rfl) (by kernel_rfl) (by kernel_rfl)) ?_
  intro W base args ds gs before hval0 hW hcnd _
  have hval : ∀ (j : Nat) t v, Try.f7.params[j]? = some t → args[j]? = some v → Value.okWide Try.prog W .any base t v := hval0
  have hW' := hW
  obtain ⟨p, q, hA0, hV, rfl, hfz, hnd⟩ := hW
  have hA : DataW.TrodAll enc Try.prog W 0 (fun _ => true) true Try.f7.params.toList args.toList ds p := hA0
  rw [Try.params7] at hA hval
  obtain ⟨v0, vs0, d0, ds0, p0, q0, hargs, rfl, rfl, h0, r0⟩ := trodAll_cons hA
  obtain ⟨rfl, rfl, rfl⟩ := trodAll_nil r0
  obtain rfl : args = #[v0] := by cases args; simp_all
  obtain ⟨rfl, rfl⟩ := trodVars_none hV
  obtain ⟨a0, len0, cap0, rfl⟩ := okWide_slice Try.underlying22 (hval 0 22 v0 rfl rfl)
  have k0 := h0
  have lt0 : ∀ x ∈ p0, x.block < W.heap.size := by obtain ⟨m, hm⟩ := k0; exact DataW.trod_lt m _ _ _ hm
  obtain ⟨z0, s0, w0, m0⟩ : ∃ zs, Ints W .u8 a0 len0 cap0 zs ∧ (∀ n ∈ zs, (Lit.int .u8 n).wf = true) ∧ cap0 ≤ maxLen := by
    obtain ⟨fuel, hf⟩ := h0
    rcases open_ints Try.underlying22 Try.underlying5 (by kernel_rfl) hf with ⟨hcs, _⟩ | ⟨x, l, c, zs, hcs, _, hl, hm, hz, _, hcell, hwz⟩
    · simp [Value.cells] at hcs
      obtain ⟨rfl, rfl, rfl⟩ := hcs
      exact ⟨[], Ints.none_, by simp, Nat.zero_le _⟩
    · simp [Value.cells] at hcs
      obtain ⟨rfl, rfl, rfl⟩ := hcs
      exact ⟨_, Ints.of_row hl (by simpa using hz) hcell, fun n hn => hwz n (List.mem_of_mem_take hn), hm⟩
  clear hA0 hval0
  refine (walk W a0 len0 cap0 z0 s0 w0 m0).mono fun e W' ⟨he, bel⟩ => ?_
  subst he
  exact ⟨_, rfl, _, _, _, [], _, [], hW', trodAll_mk1 (shut_bool Try.underlying4 _), (trodAll_cons_mk (Below.trod laidOut (by kernel_rfl) (of_decide_eq_true (by kernel_rfl)) k0 bel lt0) trodAll_mk0), rfl, bel.frame _, fun h => by cases h⟩

theorem over : Rows.fnNestedOkRow.holds Try.pinned (OpenSpec.ofChange Rows.fnNestedOkSpec) :=
  OpenClaim.holds_of_wide 7 Try.f7 rfl rfl rfl rfl rfl rfl rfl ⟨rfl, rfl, rfl, rfl, rfl⟩ rfl rfl rfl rfl rfl (by kernel_rfl) Try.func7 (by kernel_rfl)
    (of_decide_eq_true (by kernel_rfl)) (by unfold Func.isWrapper; first | (rw [if_pos (by decide +kernel)]; kernel_rfl) | (rw [if_neg (by decide +kernel)]; exact ⟨rfl, rfl⟩))
    (fun os started H enc _ => lifted os started H enc)
theorem proved : Rows.FnNestedOkSaid := over
end Go.Proofs.Ytkjcbahdpmhfgaa.fnNestedOk
