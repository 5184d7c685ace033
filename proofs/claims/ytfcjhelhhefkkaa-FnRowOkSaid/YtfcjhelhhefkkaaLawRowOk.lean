/-
  FnRowOk holds for every input: the drawn text is answered by RowOk as by its model; the empty text and the digits 1 and 9 alone are rows, 0 is none, and a row without its last digit is one. No condition.
-/
import Derived.Test.YtfcjhelhhefkkaaRows
import Derived.Test.YtfcjhelhhefkkaaGA
import Derived.Test.YtfcjhelhhefkkaaDrawPB
import Derived.Test.YtfcjhelhhefkkaaT2
import Derived.Test.YtfcjhelhhefkkaaS7
namespace Go.Proofs.Ytfcjhelhhefkkaa.fnRowOk
open Go.ChangeShapes Go.WideShapes Go.ChangeAt Go.RowKit
open Go.ChangeMaps (open_string shut_string)

theorem own : ownKnob Try.prog.godebug = none := by kernel_rfl
theorem laidOut : laidOutB Try.prog = true := by kernel_rfl

set_option maxRecDepth 100000 in
set_option maxHeartbeats 8000000 in
theorem walk (w : World) (A : Option Addr) (n c : Nat) (xs : List Int) (h : Ints w .u8 A n c xs) (hwf : ∀ x ∈ xs, (Lit.int .u8 x).wf = true) (hc : c ≤ maxLen) :
    Calls Try.prog 3 #[.slice A n c] w fun e w' => e = .returned (.bool true) ∧ Below w.heap.size w w' := by
  have hn : n ≤ 9223372036854775807 := by have := h.le; unfold maxLen at hc; omega
  by_cases hl : n ≤ 1048576
  · have HD := Lib.hid (drawRowOk_any A n c xs w h hl hwf hc)
    clear h hwf hc
    go_enter Try.func3, Try.ntmps3
    go_wp2_with (fail)
    refine HD.out.mono ?_
    rintro e w1 ⟨s, rfl, hs, hb⟩
    have hB := Lib.hid hb
    clear hb HD
    have K1 := implRowOk_any s w1 (by omega)
    have K2 := Lib.hid (fun W => specRowOk_any s W (by omega))
    have L0 := Lib.hid (fun W => implRowOk_any ⟨#[]⟩ W (by decide))
    have L1 := Lib.hid (fun W => implRowOk_any ⟨#[49]⟩ W (by decide))
    have L9 := Lib.hid (fun W => implRowOk_any ⟨#[57]⟩ W (by decide))
    have LZ := Lib.hid (fun W => implRowOk_any ⟨#[48]⟩ W (by decide))
    rw [show rowL (tl ⟨#[]⟩) = true by decide] at L0
    rw [show rowL (tl ⟨#[49]⟩) = true by decide] at L1
    rw [show rowL (tl ⟨#[57]⟩) = true by decide] at L9
    rw [show rowL (tl ⟨#[48]⟩) = false by decide] at LZ
    have K3 : Hid (rowL (tl s) = true → ∀ W, Calls Try.prog 18 #[.string (s.extract 0 (s.size - 1))] W fun e w' => e = .returned (.bool true) ∧ Below W.heap.size W w') := fun hr W => by
      have := implRowOk_any (s.extract 0 (s.size - 1)) W (by rw [ByteArray.size_extract]; omega)
      rw [tl_ext, List.drop_zero, row_take _ hr] at this
      exact this
    have hes := str_none s
    generalize rowL (tl s) = ok at *
    have hne : (ok != ok) = false := by simp
    go_wp2_with (fail)
    refine K1.mono ?_
    rintro e w2 ⟨rfl, b⟩
    replace hB := Lib.hid (hB.out.trans (b.mono hB.out.size))
    clear b
    go_wp2_with (fail)
    refine (K2.out w2).mono ?_
    rintro e _ ⟨rfl, m, rfl⟩
    replace hB := Lib.hid (below_drewN hB.out m)
    generalize w2.drewN m = w3 at *
    go_wp2_with (fail)
    refine (L0.out w3).mono ?_
    rintro e w4 ⟨rfl, b⟩
    replace hB := Lib.hid (hB.out.trans (b.mono hB.out.size))
    clear b
    go_wp2_with (fail)
    refine (L1.out w4).mono ?_
    rintro e w5 ⟨rfl, b⟩
    replace hB := Lib.hid (hB.out.trans (b.mono hB.out.size))
    clear b
    go_wp2_with (fail)
    refine (L9.out w5).mono ?_
    rintro e w6 ⟨rfl, b⟩
    replace hB := Lib.hid (hB.out.trans (b.mono hB.out.size))
    clear b
    go_wp2_with (fail)
    refine (LZ.out w6).mono ?_
    rintro e w7 ⟨rfl, b⟩
    replace hB := Lib.hid (hB.out.trans (b.mono hB.out.size))
    clear b
    cases ok
    · go_wp2_with (fail)
      refine (alive_any _).mono ?_
      rintro e w9 ⟨rfl, b⟩
      replace hB := Lib.hid (hB.out.trans (b.mono hB.out.size))
      clear b
      go_wp2
      go_ret
      exact ⟨rfl, hB.out⟩
    · by_cases h0 : s = ⟨#[]⟩
      · rw [decide_eq_true h0] at hes
        replace h0 := Lib.hid h0
        go_wp2_with (fail)
        refine (alive_any _).mono ?_
        rintro e w9 ⟨rfl, b⟩
        replace hB := Lib.hid (hB.out.trans (b.mono hB.out.size))
        clear b
        go_wp2
        go_ret
        exact ⟨rfl, hB.out⟩
      · rw [decide_eq_false h0] at hes
        have hp : s.size ≠ 0 := fun e => by
          have e' : tl s = [] := List.eq_nil_of_length_eq_zero (by rw [tl_len]; exact e)
          exact h0 (tl_inj e')
        obtain ⟨m, hm⟩ : ∃ m, s.size = m + 1 := ⟨s.size - 1, by omega⟩
        have e1 : s.size - 1 = m := by omega
        have e2 : (s.size : Int) - 1 = (m : Int) := by omega
        have e3 : IntKind.i64.wrap (m : Int) = (m : Int) := IntWalk.i64_in _ (by omega)
        have e4 : (m : Int) ≤ (s.size : Int) := by omega
        have e5 : (0 : Int) ≤ (m : Int) := by omega
        replace K3 := Lib.hid (K3.out rfl)
        rw [e1] at K3
        replace h0 := Lib.hid h0
        replace hm := Lib.hid hm
        go_wp2_with (fail)
        refine (K3.out _).mono ?_
        rintro e w8 ⟨rfl, b⟩
        replace hB := Lib.hid (hB.out.trans (b.mono hB.out.size))
        clear b
        go_wp2_with (fail)
        refine (alive_any _).mono ?_
        rintro e w9 ⟨rfl, b⟩
        replace hB := Lib.hid (hB.out.trans (b.mono hB.out.size))
        clear b
        go_wp2
        go_ret
        exact ⟨rfl, hB.out⟩
  · have t1 : (1048576 : Int) < (n : Int) := by omega
    go_enter Try.func3, Try.ntmps3
    go_wp2
    go_ret
    exact ⟨rfl, Below.refl _ _⟩

set_option maxRecDepth 100000 in
theorem lifted (os : Os) (started : os.Started) (H : Type) (enc : TypeId × Value → H) :
    ReturnsInHanded {} Try.checked os 3 .any (Rows.fnRowOkSpec.pre6 enc Try.prog Try.f3 Rows.fnRowOkRow.domain false) (Rows.fnRowOkSpec.post enc Try.prog Try.f3 false true false false) := by
  refine returnsInHanded_of_change (C := Try.checked) own started (by kernel_rfl) Try.func3
    (ChangeSpec.witness6 (enc := enc) (C := Try.checked) false ⟨#[], #[.slice none 0 0], []⟩ 8 (by kernel_rfl) (by kernel_rfl) (by kernel_rfl) (by kernel_rfl)) ?_
  intro W base args ds gs before hval0 hW hcnd _
  have hval : ∀ (j : Nat) t v, Try.f3.params[j]? = some t → args[j]? = some v → Value.okWide Try.prog W .any base t v := hval0
  have hW' := hW
  obtain ⟨p, q, hA0, hV, rfl, hfz, hnd⟩ := hW
  have hA : DataW.TrodAll enc Try.prog W 0 (fun _ => true) true Try.f3.params.toList args.toList ds p := hA0
  rw [Try.params3] at hA hval
  obtain ⟨v0, vs0, d0, ds0, p0, q0, hargs, rfl, rfl, h0, r0⟩ := trodAll_cons hA
  obtain ⟨rfl, rfl, rfl⟩ := trodAll_nil r0
  obtain rfl : args = #[v0] := by cases args; simp_all
  obtain ⟨rfl, rfl⟩ := trodVars_none hV
  obtain ⟨a0, len0, cap0, rfl⟩ := okWide_slice Try.underlying22 (hval 0 22 v0 rfl rfl)
  have k0 := h0
  have lt0 : ∀ x ∈ p0, x.block < W.heap.size := by obtain ⟨m, hm⟩ := k0; exact DataW.trod_lt m _ _ _ hm
  obtain ⟨z0, s0, w0, m0⟩ : ∃ zs, Ints W .u8 a0 len0 cap0 zs ∧ (∀ n ∈ zs, (Lit.int .u8 n).wf = true) ∧ cap0 ≤ maxLen := by
    obtain ⟨fuel, hf⟩ := h0
    rcases open_ints Try.underlying22 Try.underlying5 (by kernel_rfl) hf with ⟨hcs, _⟩ | ⟨x, l, c, zs, hcs, _, hl, hm, hz, _, hcell, hwz⟩
    · simp [Value.cells] at hcs
      obtain ⟨rfl, rfl, rfl⟩ := hcs
      exact ⟨[], Ints.none_, by simp, Nat.zero_le _⟩
    · simp [Value.cells] at hcs
      obtain ⟨rfl, rfl, rfl⟩ := hcs
      exact ⟨_, Ints.of_row hl (by simpa using hz) hcell, fun n hn => hwz n (List.mem_of_mem_take hn), hm⟩
  clear hA0 hval0
  refine (walk W a0 len0 cap0 z0 s0 w0 m0).mono fun e W' ⟨he, bel⟩ => ?_
  subst he
  exact ⟨_, rfl, _, _, _, [], _, [], hW', trodAll_mk1 (shut_bool Try.underlying4 _), (trodAll_cons_mk (Below.trod laidOut (by kernel_rfl) (of_decide_eq_true (by kernel_rfl)) k0 bel lt0) trodAll_mk0), rfl, bel.frame _, fun h => by cases h⟩

theorem over : Rows.fnRowOkRow.holds Try.pinned (OpenSpec.ofChange Rows.fnRowOkSpec) :=
  OpenClaim.holds_of_wide 3 Try.f3 rfl rfl rfl rfl rfl rfl rfl ⟨rfl, rfl, rfl, rfl, rfl⟩ rfl rfl rfl rfl rfl (by kernel_rfl) Try.func3 (by kernel_rfl)
    (of_decide_eq_true (by kernel_rfl)) (by unfold Func.isWrapper; first | (rw [if_pos (by decide +kernel)]; kernel_rfl) | (rw [if_neg (by decide +kernel)]; exact ⟨rfl, rfl⟩))
    (fun os started H enc _ => lifted os started H enc)
theorem proved : Rows.FnRowOkSaid := over
end Go.Proofs.Ytfcjhelhhefkkaa.fnRowOk
