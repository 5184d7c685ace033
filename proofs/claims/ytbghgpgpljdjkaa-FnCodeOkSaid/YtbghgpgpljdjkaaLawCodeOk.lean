/-
  FnCodeOk holds for every input: the drawn code is answered by CodeOk as by its model; each letter alone is a code, a code without its last word is one, and a word twice is none. No condition.
-/
import Derived.Test.YtbghgpgpljdjkaaRows
import Derived.Test.YtbghgpgpljdjkaaGA
import Derived.Test.YtbghgpgpljdjkaaW3
import Derived.Test.YtbghgpgpljdjkaaQ1
import Derived.Test.YtbghgpgpljdjkaaMathJ
namespace Go.Proofs.Ytbghgpgpljdjkaa.fnCodeOk
open Go.ChangeShapes Go.WideShapes Go.ChangeAt Go.RowKit
open Go.ChangeMaps (open_string shut_string)

theorem own : ownKnob Try.prog.godebug = none := by kernel_rfl
theorem laidOut : laidOutB Try.prog = true := by kernel_rfl

set_option maxRecDepth 100000 in
set_option maxHeartbeats 8000000 in
theorem walk (w : World) (A : Option Addr) (n c : Nat) (xs : List Int) (h : Ints w .u8 A n c xs) (hwf : ∀ x ∈ xs, (Lit.int .u8 x).wf = true) (hc : c ≤ maxLen) :
    Calls Try.prog 3 #[.slice A n c] w fun e w' => e = .returned (.bool true) ∧ Below w.heap.size w w' := by
  have hn : n ≤ 9223372036854775807 := by have := h.le; unfold maxLen at hc; omega
  by_cases hl : n ≤ 1048576
  · have HD := Lib.hid (drawCodeOk_any A n c xs w h hl hwf hc)
    clear h hwf hc
    go_enter Try.func3, Try.ntmps3
    go_wp2_with (fail)
    refine HD.out.mono ?_
    rintro e w1 ⟨v, l, rfl, ho, hfw, hb⟩
    obtain ⟨A4, c4, rfl, hls⟩ := ho.strs
    have hl6 := hfw.1
    have hlz := Lib.hid (fun (x : ByteArray) (hx : x ∈ l) => show x.size ≤ 1048576 by have := hfw.2 x hx; omega)
    have hB := Lib.hid hb
    have hL := Lib.hid hls
    clear ho hfw hls hb HD
    have K1 := Lib.hid (implCodeOk_any A4 _ c4 l w1 hL.out (by omega) hlz.out)
    go_wp2_with (fail)
    refine K1.out.mono ?_
    rintro e w2 ⟨rfl, b⟩
    replace hB := Lib.hid (hB.out.trans (b.mono hB.out.size))
    replace hL := Lib.hid (hL.out.below b (Nat.le_refl _))
    clear b K1
    have K2 := Lib.hid (specCodeOk_any A4 _ c4 l w2 hL.out (by omega) hlz.out)
    go_wp2_with (fail)
    refine K2.out.mono ?_
    rintro e _ ⟨rfl, m, rfl⟩
    have b := below_drewN (Below.refl w2.heap.size w2) m
    replace hB := Lib.hid (hB.out.trans (b.mono hB.out.size))
    replace hL := Lib.hid (hL.out.below b (Nat.le_refl _))
    generalize w2.drewN m = w3 at *
    clear b K2
    have hI := Lib.hid (fun (h : codeOk l = true) (h2 : 2 ≤ l.length) => codeOk_init h h2)
    have hP := fun (h : codeOk l = true) => (codeOk_iff.1 h).1.1
    have hcap := hL.out.le
    generalize codeOk l = ok at *
    have hne : (ok != ok) = false := by simp
    have K3 := implCodeOk_any _ 1 1 [cA] _ (strs_new w3 [cA] #[.string cA] rfl) (by omega) (by decide)
    rw [code_a] at K3
    replace K3 := Lib.hid K3
    replace hB := Lib.hid (hB.out.alloc hB.out.size (.cells #[.string cA] 9))
    replace hL := Lib.hid (hL.out.below ((Below.refl w3.heap.size w3).alloc (Nat.le_refl _) (.cells #[.string cA] 9)) (Nat.le_refl _))
    go_wp2_with (fail)
    refine K3.out.mono ?_
    rintro e w4 ⟨rfl, b⟩
    replace hB := Lib.hid (hB.out.trans (b.mono hB.out.size))
    replace hL := Lib.hid (hL.out.below b (Nat.le_refl _))
    clear b K3
    cases ok
    · have K5 := implCodeOk_any _ 2 2 [cA, cA] _ (strs_new w4 [cA, cA] #[.string cA, .string cA] rfl) (by omega) (by decide)
      rw [code_aa] at K5
      replace K5 := Lib.hid K5
      replace hB := Lib.hid (hB.out.alloc hB.out.size (.cells #[.string cA, .string cA] 9))
      clear hL
      go_wp2_with (fail)
      refine K5.out.mono ?_
      rintro e w6 ⟨rfl, b⟩
      replace hB := Lib.hid (hB.out.trans (b.mono hB.out.size))
      clear b K5
      go_wp2_with (fail)
      refine (alive_any _).mono ?_
      rintro e w9 ⟨rfl, b⟩
      replace hB := Lib.hid (hB.out.trans (b.mono hB.out.size))
      clear b
      go_wp2
      go_ret
      exact ⟨rfl, hB.out⟩
    · have h1 := hP rfl
      by_cases he : l.length = 1
      · have he' : ((l.length : Int) == 1) = true := by rw [beq_iff_eq]; omega
        have K5 := implCodeOk_any _ 2 2 [cA, cA] _ (strs_new w4 [cA, cA] #[.string cA, .string cA] rfl) (by omega) (by decide)
        rw [code_aa] at K5
        replace K5 := Lib.hid K5
        replace hB := Lib.hid (hB.out.alloc hB.out.size (.cells #[.string cA, .string cA] 9))
        clear hL
        go_wp2_with (fail)
        refine K5.out.mono ?_
        rintro e w6 ⟨rfl, b⟩
        replace hB := Lib.hid (hB.out.trans (b.mono hB.out.size))
        clear b K5
        go_wp2_with (fail)
        refine (alive_any _).mono ?_
        rintro e w9 ⟨rfl, b⟩
        replace hB := Lib.hid (hB.out.trans (b.mono hB.out.size))
        clear b
        go_wp2
        go_ret
        exact ⟨rfl, hB.out⟩
      · have he' : ((l.length : Int) == 1) = false := by rw [beq_eq_false_iff_ne]; omega
        have e1 : IntKind.i64.wrap ((l.length : Int) - 1) = ((l.length - 1 : Nat) : Int) := by
          rw [show ((l.length - 1 : Nat) : Int) = (l.length : Int) - 1 by omega]
          exact IntWalk.i64_in _ (by omega)
        have e2 : (0 : Int) ≤ ((l.length - 1 : Nat) : Int) := by omega
        have e3 : ((l.length - 1 : Nat) : Int) ≤ (c4 : Int) := by omega
        have K4 := implCodeOk_any A4 (l.length - 1) c4 (l.take (l.length - 1)) w4 (hL.out.take (by omega)) (by omega) (fun x hx => hlz.out x (List.mem_of_mem_take hx))
        rw [hI.out rfl (by omega)] at K4
        replace K4 := Lib.hid K4
        generalize l.length - 1 = d at *
        go_wp2_with (fail)
        refine K4.out.mono ?_
        rintro e w5 ⟨rfl, b⟩
        replace hB := Lib.hid (hB.out.trans (b.mono hB.out.size))
        replace hL := Lib.hid (hL.out.below b (Nat.le_refl _))
        clear b K4
        have K5 := implCodeOk_any _ 2 2 [cA, cA] _ (strs_new w5 [cA, cA] #[.string cA, .string cA] rfl) (by omega) (by decide)
        rw [code_aa] at K5
        replace K5 := Lib.hid K5
        replace hB := Lib.hid (hB.out.alloc hB.out.size (.cells #[.string cA, .string cA] 9))
        clear hL
        go_wp2_with (fail)
        refine K5.out.mono ?_
        rintro e w6 ⟨rfl, b⟩
        replace hB := Lib.hid (hB.out.trans (b.mono hB.out.size))
        clear b K5
        go_wp2_with (fail)
        refine (alive_any _).mono ?_
        rintro e w9 ⟨rfl, b⟩
        replace hB := Lib.hid (hB.out.trans (b.mono hB.out.size))
        clear b
        go_wp2
        go_ret
        exact ⟨rfl, hB.out⟩
  · have t1 : (1048576 : Int) < (n : Int) := by omega
    go_enter Try.func3, Try.ntmps3
    go_wp2
    go_ret
    exact ⟨rfl, Below.refl _ _⟩

set_option maxRecDepth 100000 in
theorem lifted (os : Os) (started : os.Started) (H : Type) (enc : TypeId × Value → H) :
    ReturnsInHanded {} Try.checked os 3 .any (Rows.fnCodeOkSpec.pre6 enc Try.prog Try.f3 Rows.fnCodeOkRow.domain false) (Rows.fnCodeOkSpec.post enc Try.prog Try.f3 false true false false) := by
  refine returnsInHanded_of_change (C := Try.checked) own started (by kernel_rfl) Try.func3
    (ChangeSpec.witness6 (enc := enc) (C := Try.checked) false ⟨#[], #[.slice none 0 0], []⟩ 8 (by kernel_rfl) (by kernel_rfl) (by kernel_rfl) (by kernel_rfl)) ?_
  intro W base args ds gs before hval0 hW hcnd _
  have hval : ∀ (j : Nat) t v, Try.f3.params[j]? = some t → args[j]? = some v → Value.okWide Try.prog W .any base t v := hval0
  have hW' := hW
  obtain ⟨p, q, hA0, hV, rfl, hfz, hnd⟩ := hW
  have hA : DataW.TrodAll enc Try.prog W 0 (fun _ => true) true Try.f3.params.toList args.toList ds p := hA0
  rw [Try.params3] at hA hval
  obtain ⟨v0, vs0, d0, ds0, p0, q0, hargs, rfl, rfl, h0, r0⟩ := trodAll_cons hA
  obtain ⟨rfl, rfl, rfl⟩ := trodAll_nil r0
  obtain rfl : args = #[v0] := by cases args; simp_all
  obtain ⟨rfl, rfl⟩ := trodVars_none hV
  obtain ⟨a0, len0, cap0, rfl⟩ := okWide_slice Try.underlying22 (hval 0 22 v0 rfl rfl)
  have k0 := h0
  have lt0 : ∀ x ∈ p0, x.block < W.heap.size := by obtain ⟨m, hm⟩ := k0; exact DataW.trod_lt m _ _ _ hm
  obtain ⟨z0, s0, w0, m0⟩ : ∃ zs, Ints W .u8 a0 len0 cap0 zs ∧ (∀ n ∈ zs, (Lit.int .u8 n).wf = true) ∧ cap0 ≤ maxLen := by
    obtain ⟨fuel, hf⟩ := h0
    rcases open_ints Try.underlying22 Try.underlying5 (by kernel_rfl) hf with ⟨hcs, _⟩ | ⟨x, l, c, zs, hcs, _, hl, hm, hz, _, hcell, hwz⟩
    · simp [Value.cells] at hcs
      obtain ⟨rfl, rfl, rfl⟩ := hcs
      exact ⟨[], Ints.none_, by simp, Nat.zero_le _⟩
    · simp [Value.cells] at hcs
      obtain ⟨rfl, rfl, rfl⟩ := hcs
      exact ⟨_, Ints.of_row hl (by simpa using hz) hcell, fun n hn => hwz n (List.mem_of_mem_take hn), hm⟩
  clear hA0 hval0
  refine (walk W a0 len0 cap0 z0 s0 w0 m0).mono fun e W' ⟨he, bel⟩ => ?_
  subst he
  exact ⟨_, rfl, _, _, _, [], _, [], hW', trodAll_mk1 (shut_bool Try.underlying4 _), (trodAll_cons_mk (Below.trod laidOut (by kernel_rfl) (of_decide_eq_true (by kernel_rfl)) k0 bel lt0) trodAll_mk0), rfl, bel.frame _, fun h => by cases h⟩

theorem over : Rows.fnCodeOkRow.holds Try.pinned (OpenSpec.ofChange Rows.fnCodeOkSpec) :=
  OpenClaim.holds_of_wide 3 Try.f3 rfl rfl rfl rfl rfl rfl rfl ⟨rfl, rfl, rfl, rfl, rfl⟩ rfl rfl rfl rfl rfl (by kernel_rfl) Try.func3 (by kernel_rfl)
    (of_decide_eq_true (by kernel_rfl)) (by unfold Func.isWrapper; first | (rw [if_pos (by decide +kernel)]; kernel_rfl) | (rw [if_neg (by decide +kernel)]; exact ⟨rfl, rfl⟩))
    (fun os started H enc _ => lifted os started H enc)
theorem proved : Rows.FnCodeOkSaid := over
end Go.Proofs.Ytbghgpgpljdjkaa.fnCodeOk
