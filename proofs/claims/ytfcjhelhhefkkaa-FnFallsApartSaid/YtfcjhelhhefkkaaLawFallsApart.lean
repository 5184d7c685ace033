/-
  FnFallsApart holds for every input: the drawn texts are answered by FallsApart as by its model; if it holds, both are told, what is said of both together, if that is told, is what is said of the first one and of the second one behind it, and it holds for one time less. No condition.
-/
import Derived.Test.YtfcjhelhhefkkaaRows
import Derived.Test.YtfcjhelhhefkkaaGA
import Derived.Test.YtfcjhelhhefkkaaDrawPB
import Derived.Test.YtfcjhelhhefkkaaT7
import Derived.Test.YtfcjhelhhefkkaaMathPL
namespace Go.Proofs.Ytfcjhelhhefkkaa.fnFallsApart
open Go.ChangeShapes Go.WideShapes Go.ChangeAt Go.RowKit
open Go.ChangeMaps (open_string shut_string)

theorem own : ownKnob Try.prog.godebug = none := by kernel_rfl
theorem laidOut : laidOutB Try.prog = true := by kernel_rfl

set_option maxRecDepth 100000 in
set_option maxHeartbeats 8000000 in
theorem walk (w : World) (A : Option Addr) (n c : Nat) (xs : List Int) (h : Ints w .u8 A n c xs) (hwf : ∀ x ∈ xs, (Lit.int .u8 x).wf = true) (hc : c ≤ maxLen) :
    Calls Try.prog 8 #[.slice A n c] w fun e w' => e = .returned (.bool true) ∧ Below w.heap.size w w' := by
  have hn : n ≤ 9223372036854775807 := by have := h.le; unfold maxLen at hc; omega
  by_cases hl : n ≤ 1048576
  · have HD := Lib.hid (drawFallsApart_any A n c xs w h hl hwf hc)
    clear h hwf hc
    go_enter Try.func8, Try.ntmps8
    go_wp2_with (fail)
    refine HD.out.mono ?_
    rintro e w1 ⟨s, u, k, rfl, hs, hu, hk, hb⟩
    have hB := Lib.hid hb
    clear hb HD
    have hn0 := Lib.hid (show -1000 ≤ k ∧ k ≤ 1000 from hk)
    have K1 := implFallsApart_any s u k w1 (by omega) (by omega)
    have K2 := Lib.hid (fun W => specFallsApart_any s u k W (by omega) (by omega))
    cases hap : apartL (tl s) (tl u) k
    · simp only [hap] at K1 K2
      replace hap := Lib.hid hap
      go_wp2_with (fail)
      refine K1.mono ?_
      rintro e w2 ⟨rfl, b⟩
      replace hB := Lib.hid (hB.out.trans (b.mono hB.out.size))
      clear b
      go_wp2_with (fail)
      refine (K2.out w2).mono ?_
      rintro e w3 ⟨rfl, b⟩
      replace hB := Lib.hid (hB.out.trans (b.mono hB.out.size))
      clear b
      go_wp2_with (fail)
      refine (alive_any _).mono ?_
      rintro e w9 ⟨rfl, b⟩
      replace hB := Lib.hid (hB.out.trans (b.mono hB.out.size))
      clear b
      go_wp2
      go_ret
      exact ⟨rfl, hB.out⟩
    · simp only [hap] at K1 K2
      obtain ⟨x, y, hx, hy⟩ := apart_told hap
      have hk0 := (apart_at hap).1
      have K3 := Lib.hid (fun W => implSaidAgain_any s k W (by omega))
      have K4 := Lib.hid (fun W => implSaidAgain_any u k W (by omega))
      have K5 := Lib.hid (fun W => implSaidAgain_any (s ++ u) k W (by rw [ByteArray.size_append]; omega))
      simp only [hx, hy, optV_some] at K3 K4
      rw [tl_app] at K5
      have K6 : Hid (k ≠ 0 → ∀ W, Calls Try.prog 35 #[.string s, .string u, .int .i64 (k - 1)] W fun e w' => e = .returned (.bool true) ∧ Below W.heap.size W w') := fun h0 W => by
        have := implFallsApart_any s u (k - 1) W (by omega) (by omega)
        rw [apart_less hap h0] at this
        exact this
      have hcat : ¬ (9223372036854775807 < s.size + u.size) := by omega
      have hx60 := again_len hx
      have hy60 := again_len hy
      have hcat2 : ¬ (9223372036854775807 < (strOf x).size + (strOf y).size) := by rw [strOf_size, strOf_size]; omega
      have hkw : IntKind.i64.wrap (k - 1) = k - 1 := IntWalk.i64_in _ (by omega)
      cases hz : againL (tl s ++ tl u) k with
      | none =>
        simp only [hz, optV_none] at K5
        replace hap := Lib.hid hap
        replace hx := Lib.hid hx
        replace hy := Lib.hid hy
        replace hz := Lib.hid hz
        generalize strOf x = xs at *
        generalize strOf y = ys at *
        generalize (⟨#[]⟩ : ByteArray) = zs at *
        go_wp2_with (fail)
        refine K1.mono ?_
        rintro e w2 ⟨rfl, b⟩
        replace hB := Lib.hid (hB.out.trans (b.mono hB.out.size))
        clear b
        go_wp2_with (fail)
        refine (K2.out w2).mono ?_
        rintro e w3 ⟨rfl, b⟩
        replace hB := Lib.hid (hB.out.trans (b.mono hB.out.size))
        clear b
        go_wp2_with (fail)
        refine (K3.out w3).mono ?_
        rintro e w4 ⟨rfl, b⟩
        replace hB := Lib.hid (hB.out.trans (b.mono hB.out.size))
        clear b
        go_wp2_with (fail)
        refine (K4.out w4).mono ?_
        rintro e w5 ⟨rfl, b⟩
        replace hB := Lib.hid (hB.out.trans (b.mono hB.out.size))
        clear b
        go_wp2_with (fail)
        refine (K5.out w5).mono ?_
        rintro e w6 ⟨rfl, b⟩
        replace hB := Lib.hid (hB.out.trans (b.mono hB.out.size))
        clear b
        by_cases h0 : k = 0
        · have hk1 : (k == 0) = true := by rw [beq_iff_eq]; exact h0
          go_wp2_with (fail)
          refine (alive_any _).mono ?_
          rintro e w9 ⟨rfl, b⟩
          replace hB := Lib.hid (hB.out.trans (b.mono hB.out.size))
          clear b
          go_wp2
          go_ret
          exact ⟨rfl, hB.out⟩
        · have hk1 : (k == 0) = false := by rw [beq_eq_false_iff_ne]; exact h0
          replace K6 := Lib.hid (K6.out h0)
          replace h0 := Lib.hid h0
          go_wp2_with (fail)
          refine (K6.out _).mono ?_
          rintro e w7 ⟨rfl, b⟩
          replace hB := Lib.hid (hB.out.trans (b.mono hB.out.size))
          clear b
          go_wp2_with (fail)
          refine (alive_any _).mono ?_
          rintro e w9 ⟨rfl, b⟩
          replace hB := Lib.hid (hB.out.trans (b.mono hB.out.size))
          clear b
          go_wp2
          go_ret
          exact ⟨rfl, hB.out⟩
      | some z =>
        simp only [hz, optV_some] at K5
        have hzz := apart_both hap hx hy hz
        have heq : ((strOf z).toList == (strOf x ++ strOf y).toList) = true := by
          rw [str_eq]; refine decide_eq_true (tl_inj ?_); rw [tl_app, strOf_tl, strOf_tl, strOf_tl]; exact hzz
        replace hap := Lib.hid hap
        replace hx := Lib.hid hx
        replace hy := Lib.hid hy
        replace hz := Lib.hid hz
        replace hzz := Lib.hid hzz
        generalize strOf x = xs at *
        generalize strOf y = ys at *
        generalize strOf z = zs at *
        go_wp2_with (fail)
        refine K1.mono ?_
        rintro e w2 ⟨rfl, b⟩
        replace hB := Lib.hid (hB.out.trans (b.mono hB.out.size))
        clear b
        go_wp2_with (fail)
        refine (K2.out w2).mono ?_
        rintro e w3 ⟨rfl, b⟩
        replace hB := Lib.hid (hB.out.trans (b.mono hB.out.size))
        clear b
        go_wp2_with (fail)
        refine (K3.out w3).mono ?_
        rintro e w4 ⟨rfl, b⟩
        replace hB := Lib.hid (hB.out.trans (b.mono hB.out.size))
        clear b
        go_wp2_with (fail)
        refine (K4.out w4).mono ?_
        rintro e w5 ⟨rfl, b⟩
        replace hB := Lib.hid (hB.out.trans (b.mono hB.out.size))
        clear b
        go_wp2_with (fail)
        refine (K5.out w5).mono ?_
        rintro e w6 ⟨rfl, b⟩
        replace hB := Lib.hid (hB.out.trans (b.mono hB.out.size))
        clear b
        by_cases h0 : k = 0
        · have hk1 : (k == 0) = true := by rw [beq_iff_eq]; exact h0
          go_wp2_with (fail)
          refine (alive_any _).mono ?_
          rintro e w9 ⟨rfl, b⟩
          replace hB := Lib.hid (hB.out.trans (b.mono hB.out.size))
          clear b
          go_wp2
          go_ret
          exact ⟨rfl, hB.out⟩
        · have hk1 : (k == 0) = false := by rw [beq_eq_false_iff_ne]; exact h0
          replace K6 := Lib.hid (K6.out h0)
          replace h0 := Lib.hid h0
          go_wp2_with (fail)
          refine (K6.out _).mono ?_
          rintro e w7 ⟨rfl, b⟩
          replace hB := Lib.hid (hB.out.trans (b.mono hB.out.size))
          clear b
          go_wp2_with (fail)
          refine (alive_any _).mono ?_
          rintro e w9 ⟨rfl, b⟩
          replace hB := Lib.hid (hB.out.trans (b.mono hB.out.size))
          clear b
          go_wp2
          go_ret
          exact ⟨rfl, hB.out⟩
  · have t1 : (1048576 : Int) < (n : Int) := by omega
    go_enter Try.func8, Try.ntmps8
    go_wp2
    go_ret
    exact ⟨rfl, Below.refl _ _⟩

set_option maxRecDepth 100000 in
theorem lifted (os : Os) (started : os.Started) (H : Type) (enc : TypeId × Value → H) :
    ReturnsInHanded {} Try.checked os 8 .any (Rows.fnFallsApartSpec.pre6 enc Try.prog Try.f8 Rows.fnFallsApartRow.domain false) (Rows.fnFallsApartSpec.post enc Try.prog Try.f8 false true false false) := by
  refine returnsInHanded_of_change (C := Try.checked) own started (by kernel_rfl) Try.func8
    (ChangeSpec.witness6 (enc := enc) (C := Try.checked) false ⟨#[], #[.slice none 0 0], []⟩ 8 (by kernel_rfl) (by kernel_rfl) (by kernel_rfl) (by kernel_rfl)) ?_
  intro W base args ds gs before hval0 hW hcnd _
  have hval : ∀ (j : Nat) t v, Try.f8.params[j]? = some t → args[j]? = some v → Value.okWide Try.prog W .any base t v := hval0
  have hW' := hW
  obtain ⟨p, q, hA0, hV, rfl, hfz, hnd⟩ := hW
  have hA : DataW.TrodAll enc Try.prog W 0 (fun _ => true) true Try.f8.params.toList args.toList ds p := hA0
  rw [Try.params8] at hA hval
  obtain ⟨v0, vs0, d0, ds0, p0, q0, hargs, rfl, rfl, h0, r0⟩ := trodAll_cons hA
  obtain ⟨rfl, rfl, rfl⟩ := trodAll_nil r0
  obtain rfl : args = #[v0] := by cases args; simp_all
  obtain ⟨rfl, rfl⟩ := trodVars_none hV
  obtain ⟨a0, len0, cap0, rfl⟩ := okWide_slice Try.underlying22 (hval 0 22 v0 rfl rfl)
  have k0 := h0
  have lt0 : ∀ x ∈ p0, x.block < W.heap.size := by obtain ⟨m, hm⟩ := k0; exact DataW.trod_lt m _ _ _ hm
  obtain ⟨z0, s0, w0, m0⟩ : ∃ zs, Ints W .u8 a0 len0 cap0 zs ∧ (∀ n ∈ zs, (Lit.int .u8 n).wf = true) ∧ cap0 ≤ maxLen := by
    obtain ⟨fuel, hf⟩ := h0
    rcases open_ints Try.underlying22 Try.underlying5 (by kernel_rfl) hf with ⟨hcs, _⟩ | ⟨x, l, c, zs, hcs, _, hl, hm, hz, _, hcell, hwz⟩
    · simp [Value.cells] at hcs
      obtain ⟨rfl, rfl, rfl⟩ := hcs
      exact ⟨[], Ints.none_, by simp, Nat.zero_le _⟩
    · simp [Value.cells] at hcs
      obtain ⟨rfl, rfl, rfl⟩ := hcs
      exact ⟨_, Ints.of_row hl (by simpa using hz) hcell, fun n hn => hwz n (List.mem_of_mem_take hn), hm⟩
  clear hA0 hval0
  refine (walk W a0 len0 cap0 z0 s0 w0 m0).mono fun e W' ⟨he, bel⟩ => ?_
  subst he
  exact ⟨_, rfl, _, _, _, [], _, [], hW', trodAll_mk1 (shut_bool Try.underlying4 _), (trodAll_cons_mk (Below.trod laidOut (by kernel_rfl) (of_decide_eq_true (by kernel_rfl)) k0 bel lt0) trodAll_mk0), rfl, bel.frame _, fun h => by cases h⟩

theorem over : Rows.fnFallsApartRow.holds Try.pinned (OpenSpec.ofChange Rows.fnFallsApartSpec) :=
  OpenClaim.holds_of_wide 8 Try.f8 rfl rfl rfl rfl rfl rfl rfl ⟨rfl, rfl, rfl, rfl, rfl⟩ rfl rfl rfl rfl rfl (by kernel_rfl) Try.func8 (by kernel_rfl)
    (of_decide_eq_true (by kernel_rfl)) (by unfold Func.isWrapper; first | (rw [if_pos (by decide +kernel)]; kernel_rfl) | (rw [if_neg (by decide +kernel)]; exact ⟨rfl, rfl⟩))
    (fun os started H enc _ => lifted os started H enc)
theorem proved : Rows.FnFallsApartSaid := over
end Go.Proofs.Ytfcjhelhhefkkaa.fnFallsApart
