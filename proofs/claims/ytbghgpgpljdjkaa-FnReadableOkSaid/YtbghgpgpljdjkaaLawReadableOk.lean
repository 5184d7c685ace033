/-
  FnReadableOk holds for every input: the drawn code is answered by ReadableOk as by its model; what can be read has no text of two ways, and is read turned round. No condition.
-/
import Derived.Test.YtbghgpgpljdjkaaRows
import Derived.Test.YtbghgpgpljdjkaaGA
import Derived.Test.YtbghgpgpljdjkaaW3
import Derived.Test.YtbghgpgpljdjkaaQ4
import Derived.Test.YtbghgpgpljdjkaaZ3
import Derived.Test.YtbghgpgpljdjkaaZ9
import Derived.Test.YtbghgpgpljdjkaaZ10
import Derived.Test.YtbghgpgpljdjkaaMathJ
namespace Go.Proofs.Ytbghgpgpljdjkaa.fnReadableOk
open Go.ChangeShapes Go.WideShapes Go.ChangeAt Go.RowKit
open Go.ChangeMaps (open_string shut_string)

theorem own : ownKnob Try.prog.godebug = none := by kernel_rfl
theorem laidOut : laidOutB Try.prog = true := by kernel_rfl

set_option maxRecDepth 100000 in
set_option maxHeartbeats 8000000 in
theorem walk (w : World) (A : Option Addr) (n c : Nat) (xs : List Int) (h : Ints w .u8 A n c xs) (hwf : ∀ x ∈ xs, (Lit.int .u8 x).wf = true) (hc : c ≤ maxLen) :
    Calls Try.prog 7 #[.slice A n c] w fun e w' => e = .returned (.bool true) ∧ Below w.heap.size w w' := by
  have hn : n ≤ 9223372036854775807 := by have := h.le; unfold maxLen at hc; omega
  by_cases hl : n ≤ 1048576
  · have HD := Lib.hid (drawReadableOk_any A n c xs w h hl hwf hc)
    clear h hwf hc
    go_enter Try.func7, Try.ntmps7
    go_wp2_with (fail)
    refine HD.out.mono ?_
    rintro e w1 ⟨v, l, rfl, ho, hfw, hb⟩
    obtain ⟨A4, c4, rfl, hls⟩ := ho.strs
    have hl6 := hfw.1
    have hlz := Lib.hid (fun (x : ByteArray) (hx : x ∈ l) => show x.size ≤ 1048576 by have := hfw.2 x hx; omega)
    have hB := Lib.hid hb
    have hL := Lib.hid hls
    clear ho hfw hls hb HD
    have K1 := Lib.hid (implReadableOk_any A4 _ c4 l w1 hL.out (by omega) hlz.out)
    go_wp2_with (fail)
    refine K1.out.mono ?_
    rintro e w2 ⟨rfl, b⟩
    replace hB := Lib.hid (hB.out.trans (b.mono hB.out.size))
    replace hL := Lib.hid (hL.out.below b (Nat.le_refl _))
    clear b K1
    have K2 := Lib.hid (specReadableOk_any A4 _ c4 l w2 hL.out (by omega) hlz.out)
    go_wp2_with (fail)
    refine K2.out.mono ?_
    rintro e w3 ⟨rfl, b⟩
    replace hB := Lib.hid (hB.out.trans (b.mono hB.out.size))
    replace hL := Lib.hid (hL.out.below b (Nat.le_refl _))
    clear b K2
    have K3 := Lib.hid (implTwoWays_any A4 _ c4 l w3 hL.out (by omega) hlz.out)
    have C4 := fun (W : World) (hs : Strs W A4 l.length c4 l) => implCodeOk_any A4 _ c4 l W hs (by omega) hlz.out
    have r1 := round_len l
    have r2 := round_size l
    have C5 := fun (W : World) (hs : Strs W A4 l.length c4 l) => implRoundOf_any A4 _ c4 l W hs (by omega) hlz.out
    have C6 := fun (A : Option Addr) (c : Nat) (W : World) (hs : Strs W A (roundOf l).length c (roundOf l)) => implReadableOk_any A _ c (roundOf l) W hs (by omega) (fun x hx => by obtain ⟨y, hy, e⟩ := r2 x hx; have := hlz.out y hy; omega)
    have t1 := fun (h : twoB l = true) => two_read h
    have t2 := fun (h : codeOk l = false) => readOk_code h
    have t3 := fun (h : codeOk l = true) => round_read h
    clear r1 r2
    generalize readOk (roundOf l) = rr at *
    generalize roundOf l = ws at *
    generalize codeOk l = co at *
    generalize readOk l = ok at *
    generalize twoB l = tb at *
    generalize twoX l = tx at *
    have hne : (ok != ok) = false := by simp
    replace C4 := Lib.hid C4
    replace C5 := Lib.hid C5
    replace C6 := Lib.hid C6
    replace t1 := Lib.hid t1
    replace t2 := Lib.hid t2
    replace t3 := Lib.hid t3
    go_wp2_with (fail)
    refine K3.out.mono ?_
    rintro e w4 ⟨rfl, b⟩
    replace hB := Lib.hid (hB.out.trans (b.mono hB.out.size))
    replace hL := Lib.hid (hL.out.below b (Nat.le_refl _))
    clear b K3
    have K4 := Lib.hid (C4.out w4 hL.out)
    cases co
    · obtain rfl := t2.out rfl
      go_wp2_with (fail)
      refine K4.out.mono ?_
      rintro e w5 ⟨rfl, b⟩
      replace hB := Lib.hid (hB.out.trans (b.mono hB.out.size))
      replace hL := Lib.hid (hL.out.below b (Nat.le_refl _))
      clear b K4
      clear hL
      have K7 := implReadableOk_any _ 3 3 [cA, cAB, cBB] _ (strs_new w5 [cA, cAB, cBB] #[.string cA, .string cAB, .string cBB] rfl) (by omega) (by decide)
      rw [read_abb] at K7
      replace K7 := Lib.hid K7
      replace hB := Lib.hid (hB.out.alloc hB.out.size (.cells #[.string cA, .string cAB, .string cBB] 9))
      go_wp2_with (fail)
      refine K7.out.mono ?_
      rintro e wx ⟨rfl, b⟩
      replace hB := Lib.hid (hB.out.trans (b.mono hB.out.size))
      clear b K7
      have K8 := implReadableOk_any _ 3 3 [cA, cB, cAB] _ (strs_new wx [cA, cB, cAB] #[.string cA, .string cB, .string cAB] rfl) (by omega) (by decide)
      rw [read_bab] at K8
      replace K8 := Lib.hid K8
      replace hB := Lib.hid (hB.out.alloc hB.out.size (.cells #[.string cA, .string cB, .string cAB] 9))
      go_wp2_with (fail)
      refine K8.out.mono ?_
      rintro e wy ⟨rfl, b⟩
      replace hB := Lib.hid (hB.out.trans (b.mono hB.out.size))
      clear b K8
      go_wp2
      go_ret
      exact ⟨rfl, hB.out⟩
    · obtain rfl := t3.out rfl
      cases rr
      · go_wp2_with (fail)
        refine K4.out.mono ?_
        rintro e w5 ⟨rfl, b⟩
        replace hB := Lib.hid (hB.out.trans (b.mono hB.out.size))
        replace hL := Lib.hid (hL.out.below b (Nat.le_refl _))
        clear b K4
        have K5 := Lib.hid (C5.out w5 hL.out)
        go_wp2_with (fail)
        refine K5.out.mono ?_
        rintro e w6 ⟨v5, rfl, o5, b⟩
        replace hB := Lib.hid (hB.out.trans (b.mono hB.out.size))
        replace hL := Lib.hid (hL.out.below b (Nat.le_refl _))
        clear b K5
        obtain ⟨A5, c5, rfl, s5⟩ := o5.strs
        have K6 := Lib.hid (C6.out A5 c5 w6 s5)
        clear o5 s5
        go_wp2_with (fail)
        refine K6.out.mono ?_
        rintro e w7 ⟨rfl, b⟩
        replace hB := Lib.hid (hB.out.trans (b.mono hB.out.size))
        replace hL := Lib.hid (hL.out.below b (Nat.le_refl _))
        clear b K6
        clear hL
        have K7 := implReadableOk_any _ 3 3 [cA, cAB, cBB] _ (strs_new w7 [cA, cAB, cBB] #[.string cA, .string cAB, .string cBB] rfl) (by omega) (by decide)
        rw [read_abb] at K7
        replace K7 := Lib.hid K7
        replace hB := Lib.hid (hB.out.alloc hB.out.size (.cells #[.string cA, .string cAB, .string cBB] 9))
        go_wp2_with (fail)
        refine K7.out.mono ?_
        rintro e wx ⟨rfl, b⟩
        replace hB := Lib.hid (hB.out.trans (b.mono hB.out.size))
        clear b K7
        have K8 := implReadableOk_any _ 3 3 [cA, cB, cAB] _ (strs_new wx [cA, cB, cAB] #[.string cA, .string cB, .string cAB] rfl) (by omega) (by decide)
        rw [read_bab] at K8
        replace K8 := Lib.hid K8
        replace hB := Lib.hid (hB.out.alloc hB.out.size (.cells #[.string cA, .string cB, .string cAB] 9))
        go_wp2_with (fail)
        refine K8.out.mono ?_
        rintro e wy ⟨rfl, b⟩
        replace hB := Lib.hid (hB.out.trans (b.mono hB.out.size))
        clear b K8
        go_wp2
        go_ret
        exact ⟨rfl, hB.out⟩
      · obtain rfl : tb = false := by
          cases tb
          · rfl
          · exact absurd (t1.out rfl) (by simp)
        go_wp2_with (fail)
        refine K4.out.mono ?_
        rintro e w5 ⟨rfl, b⟩
        replace hB := Lib.hid (hB.out.trans (b.mono hB.out.size))
        replace hL := Lib.hid (hL.out.below b (Nat.le_refl _))
        clear b K4
        have K5 := Lib.hid (C5.out w5 hL.out)
        go_wp2_with (fail)
        refine K5.out.mono ?_
        rintro e w6 ⟨v5, rfl, o5, b⟩
        replace hB := Lib.hid (hB.out.trans (b.mono hB.out.size))
        replace hL := Lib.hid (hL.out.below b (Nat.le_refl _))
        clear b K5
        obtain ⟨A5, c5, rfl, s5⟩ := o5.strs
        have K6 := Lib.hid (C6.out A5 c5 w6 s5)
        clear o5 s5
        go_wp2_with (fail)
        refine K6.out.mono ?_
        rintro e w7 ⟨rfl, b⟩
        replace hB := Lib.hid (hB.out.trans (b.mono hB.out.size))
        replace hL := Lib.hid (hL.out.below b (Nat.le_refl _))
        clear b K6
        clear hL
        have K7 := implReadableOk_any _ 3 3 [cA, cAB, cBB] _ (strs_new w7 [cA, cAB, cBB] #[.string cA, .string cAB, .string cBB] rfl) (by omega) (by decide)
        rw [read_abb] at K7
        replace K7 := Lib.hid K7
        replace hB := Lib.hid (hB.out.alloc hB.out.size (.cells #[.string cA, .string cAB, .string cBB] 9))
        go_wp2_with (fail)
        refine K7.out.mono ?_
        rintro e wx ⟨rfl, b⟩
        replace hB := Lib.hid (hB.out.trans (b.mono hB.out.size))
        clear b K7
        have K8 := implReadableOk_any _ 3 3 [cA, cB, cAB] _ (strs_new wx [cA, cB, cAB] #[.string cA, .string cB, .string cAB] rfl) (by omega) (by decide)
        rw [read_bab] at K8
        replace K8 := Lib.hid K8
        replace hB := Lib.hid (hB.out.alloc hB.out.size (.cells #[.string cA, .string cB, .string cAB] 9))
        go_wp2_with (fail)
        refine K8.out.mono ?_
        rintro e wy ⟨rfl, b⟩
        replace hB := Lib.hid (hB.out.trans (b.mono hB.out.size))
        clear b K8
        go_wp2
        go_ret
        exact ⟨rfl, hB.out⟩
  · have t1 : (1048576 : Int) < (n : Int) := by omega
    go_enter Try.func7, Try.ntmps7
    go_wp2
    go_ret
    exact ⟨rfl, Below.refl _ _⟩

set_option maxRecDepth 100000 in
theorem lifted (os : Os) (started : os.Started) (H : Type) (enc : TypeId × Value → H) :
    ReturnsInHanded {} Try.checked os 7 .any (Rows.fnReadableOkSpec.pre6 enc Try.prog Try.f7 Rows.fnReadableOkRow.domain false) (Rows.fnReadableOkSpec.post enc Try.prog Try.f7 false true false false) := by
  refine returnsInHanded_of_change (C := Try.checked) own started (by kernel_rfl) Try.func7
    (ChangeSpec.witness6 (enc := enc) (C := Try.checked) false ⟨#[], #[.slice none 0 0], []⟩ 8 (by kernel_rfl) (by kernel_rfl) (by kernel_rfl) (by kernel_rfl)) ?_
  intro W base args ds gs before hval0 hW hcnd _
  have hval : ∀ (j : Nat) t v, Try.f7.params[j]? = some t → args[j]? = some v → Value.okWide Try.prog W .any base t v := hval0
  have hW' := hW
  obtain ⟨p, q, hA0, hV, rfl, hfz, hnd⟩ := hW
  have hA : DataW.TrodAll enc Try.prog W 0 (fun _ => true) true Try.f7.params.toList args.toList ds p := hA0
  rw [Try.params7] at hA hval
  obtain ⟨v0, vs0, d0, ds0, p0, q0, hargs, rfl, rfl, h0, r0⟩ := trodAll_cons hA
  obtain ⟨rfl, rfl, rfl⟩ := trodAll_nil r0
  obtain rfl : args = #[v0] := by cases args; simp_all
  obtain ⟨rfl, rfl⟩ := trodVars_none hV
  obtain ⟨a0, len0, cap0, rfl⟩ := okWide_slice Try.underlying22 (hval 0 22 v0 rfl rfl)
  have k0 := h0
  have lt0 : ∀ x ∈ p0, x.block < W.heap.size := by obtain ⟨m, hm⟩ := k0; exact DataW.trod_lt m _ _ _ hm
  obtain ⟨z0, s0, w0, m0⟩ : ∃ zs, Ints W .u8 a0 len0 cap0 zs ∧ (∀ n ∈ zs, (Lit.int .u8 n).wf = true) ∧ cap0 ≤ maxLen := by
    obtain ⟨fuel, hf⟩ := h0
    rcases open_ints Try.underlying22 Try.underlying5 (by kernel_rfl) hf with ⟨hcs, _⟩ | ⟨x, l, c, zs, hcs, _, hl, hm, hz, _, hcell, hwz⟩
    · simp [Value.cells] at hcs
      obtain ⟨rfl, rfl, rfl⟩ := hcs
      exact ⟨[], Ints.none_, by simp, Nat.zero_le _⟩
    · simp [Value.cells] at hcs
      obtain ⟨rfl, rfl, rfl⟩ := hcs
      exact ⟨_, Ints.of_row hl (by simpa using hz) hcell, fun n hn => hwz n (List.mem_of_mem_take hn), hm⟩
  clear hA0 hval0
  refine (walk W a0 len0 cap0 z0 s0 w0 m0).mono fun e W' ⟨he, bel⟩ => ?_
  subst he
  exact ⟨_, rfl, _, _, _, [], _, [], hW', trodAll_mk1 (shut_bool Try.underlying4 _), (trodAll_cons_mk (Below.trod laidOut (by kernel_rfl) (of_decide_eq_true (by kernel_rfl)) k0 bel lt0) trodAll_mk0), rfl, bel.frame _, fun h => by cases h⟩

theorem over : Rows.fnReadableOkRow.holds Try.pinned (OpenSpec.ofChange Rows.fnReadableOkSpec) :=
  OpenClaim.holds_of_wide 7 Try.f7 rfl rfl rfl rfl rfl rfl rfl ⟨rfl, rfl, rfl, rfl, rfl⟩ rfl rfl rfl rfl rfl (by kernel_rfl) Try.func7 (by kernel_rfl)
    (of_decide_eq_true (by kernel_rfl)) (by unfold Func.isWrapper; first | (rw [if_pos (by decide +kernel)]; kernel_rfl) | (rw [if_neg (by decide +kernel)]; exact ⟨rfl, rfl⟩))
    (fun os started H enc _ => lifted os started H enc)
theorem proved : Rows.FnReadableOkSaid := over
end Go.Proofs.Ytbghgpgpljdjkaa.fnReadableOk
