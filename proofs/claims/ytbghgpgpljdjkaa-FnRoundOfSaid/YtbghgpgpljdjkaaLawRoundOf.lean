/-
  FnRoundOf holds for every input: the drawn code is answered by RoundOf as by its model; turned round again it is the code. No condition.
-/
import Derived.Test.YtbghgpgpljdjkaaRows
import Derived.Test.YtbghgpgpljdjkaaGA
import Derived.Test.YtbghgpgpljdjkaaW3
import Derived.Test.YtbghgpgpljdjkaaQ8
import Derived.Test.YtbghgpgpljdjkaaZ10
import Derived.Test.YtbghgpgpljdjkaaGN
import Derived.Test.YtbghgpgpljdjkaaMathJ
namespace Go.Proofs.Ytbghgpgpljdjkaa.fnRoundOf
open Go.ChangeShapes Go.WideShapes Go.ChangeAt Go.RowKit
open Go.ChangeMaps (open_string shut_string)

theorem own : ownKnob Try.prog.godebug = none := by kernel_rfl
theorem laidOut : laidOutB Try.prog = true := by kernel_rfl

set_option maxRecDepth 100000 in
set_option maxHeartbeats 8000000 in
theorem walk (w : World) (A : Option Addr) (n c : Nat) (xs : List Int) (h : Ints w .u8 A n c xs) (hwf : ∀ x ∈ xs, (Lit.int .u8 x).wf = true) (hc : c ≤ maxLen) :
    Calls Try.prog 15 #[.slice A n c] w fun e w' => e = .returned (.bool true) ∧ Below w.heap.size w w' := by
  have hn : n ≤ 9223372036854775807 := by have := h.le; unfold maxLen at hc; omega
  by_cases hl : n ≤ 1048576
  · have HD := Lib.hid (drawRoundOf_any A n c xs w h hl hwf hc)
    clear h hwf hc
    go_enter Try.func15, Try.ntmps15
    go_wp2_with (fail)
    refine HD.out.mono ?_
    rintro e w1 ⟨v, l, rfl, ho, hfw, hb⟩
    obtain ⟨A4, c4, rfl, hls⟩ := ho.strs
    have hl6 := hfw.1
    have hlz := Lib.hid (fun (x : ByteArray) (hx : x ∈ l) => show x.size ≤ 1048576 by have := hfw.2 x hx; omega)
    have hB := Lib.hid hb
    have hL := Lib.hid hls
    clear ho hfw hls hb HD
    have K1 := Lib.hid (implRoundOf_any A4 _ c4 l w1 hL.out (by omega) hlz.out)
    go_wp2_with (fail)
    refine K1.out.mono ?_
    rintro e w2 ⟨v2, rfl, o2, b⟩
    replace hB := Lib.hid (hB.out.trans (b.mono hB.out.size))
    replace hL := Lib.hid (hL.out.below b (Nat.le_refl _))
    clear b K1
    obtain ⟨A5, c5, rfl, s5⟩ := o2.strs
    have hR := Lib.hid s5
    clear o2 s5
    have K2 := Lib.hid (specRoundOf_any A4 _ c4 l w2 hL.out (by omega) hlz.out)
    go_wp2_with (fail)
    refine K2.out.mono ?_
    rintro e w3 ⟨v3, rfl, o3, b⟩
    replace hB := Lib.hid (hB.out.trans (b.mono hB.out.size))
    replace hL := Lib.hid (hL.out.below b (Nat.le_refl _))
    replace hR := Lib.hid (hR.out.below b (Nat.le_refl _))
    clear b K2
    obtain ⟨A6, c6, rfl, s6⟩ := o3.strs
    have C4 := fun (W : World) (hs : Strs W A4 l.length c4 l) => implCodeOk_any A4 _ c4 l W hs (by omega) hlz.out
    have r1 := round_len l
    have r2 := round_size l
    have C5 := fun (W : World) (hs : Strs W A5 (roundOf l).length c5 (roundOf l)) => implCodeOk_any A5 _ c5 (roundOf l) W hs (by omega) (fun x hx => by obtain ⟨y, hy, e⟩ := r2 x hx; have := hlz.out y hy; omega)
    have C6 := fun (W : World) (hs : Strs W A5 (roundOf l).length c5 (roundOf l)) => implRoundOf_any A5 _ c5 (roundOf l) W hs (by omega) (fun x hx => by obtain ⟨y, hy, e⟩ := r2 x hx; have := hlz.out y hy; omega)
    have t1 := fun (h : codeOk l = false) => round_none h
    have t2 := fun (h : codeOk l = true) => round_some h
    have KX := sameTexts_any A5 A6 _ c5 _ c6 (roundOf l) (roundOf l) w3 hR.out s6 (by omega) (by omega)
    rw [decide_eq_true rfl] at KX
    replace KX := Lib.hid KX
    clear r2 s6 o3
    generalize codeOk (roundOf l) = cr at *
    generalize roundOf (roundOf l) = wr2 at *
    generalize roundOf l = ws at *
    generalize codeOk l = co at *
    replace C4 := Lib.hid C4
    replace C5 := Lib.hid C5
    replace C6 := Lib.hid C6
    replace t1 := Lib.hid t1
    replace t2 := Lib.hid t2
    go_wp2_with (fail)
    refine KX.out.mono ?_
    rintro e _ ⟨rfl, m, rfl⟩
    have b := below_drewN (Below.refl w3.heap.size w3) m
    replace hB := Lib.hid (hB.out.trans (b.mono hB.out.size))
    replace hL := Lib.hid (hL.out.below b (Nat.le_refl _))
    replace hR := Lib.hid (hR.out.below b (Nat.le_refl _))
    generalize w3.drewN m = w4 at *
    clear b KX
    cases co
    · obtain rfl := t1.out rfl
      have K4 := Lib.hid (C4.out w4 hL.out)
      have hl0 : (([] : List ByteArray).length : Int) = 0 := rfl
      go_wp2_with (fail)
      refine K4.out.mono ?_
      rintro e w5 ⟨rfl, b⟩
      replace hB := Lib.hid (hB.out.trans (b.mono hB.out.size))
      clear b K4
      go_wp2_with (fail)
      refine (alive_any _).mono ?_
      rintro e w9 ⟨rfl, b⟩
      replace hB := Lib.hid (hB.out.trans (b.mono hB.out.size))
      clear b
      go_wp2
      go_ret
      exact ⟨rfl, hB.out⟩
    · obtain ⟨rfl, rfl, hp⟩ := t2.out rfl
      have hl0 : ((ws.length : Int) == 0) = false := by rw [beq_eq_false_iff_ne]; omega
      have K5 := Lib.hid (C5.out w4 hR.out)
      go_wp2_with (fail)
      refine K5.out.mono ?_
      rintro e w5 ⟨rfl, b⟩
      replace hB := Lib.hid (hB.out.trans (b.mono hB.out.size))
      replace hL := Lib.hid (hL.out.below b (Nat.le_refl _))
      replace hR := Lib.hid (hR.out.below b (Nat.le_refl _))
      clear b K5
      have K6 := Lib.hid (C6.out w5 hR.out)
      go_wp2_with (fail)
      refine K6.out.mono ?_
      rintro e w6 ⟨v6, rfl, o6, b⟩
      replace hB := Lib.hid (hB.out.trans (b.mono hB.out.size))
      replace hL := Lib.hid (hL.out.below b (Nat.le_refl _))
      replace hR := Lib.hid (hR.out.below b (Nat.le_refl _))
      clear b K6
      obtain ⟨A7, c7, rfl, s7⟩ := o6.strs
      have KY := sameTexts_any A7 A4 _ c7 _ c4 _ _ w6 s7 hL.out (by omega) (by omega)
      rw [decide_eq_true rfl] at KY
      replace KY := Lib.hid KY
      clear o6 s7
      go_wp2_with (fail)
      refine KY.out.mono ?_
      rintro e _ ⟨rfl, m, rfl⟩
      have b := below_drewN (Below.refl w6.heap.size w6) m
      replace hB := Lib.hid (hB.out.trans (b.mono hB.out.size))
      replace hL := Lib.hid (hL.out.below b (Nat.le_refl _))
      replace hR := Lib.hid (hR.out.below b (Nat.le_refl _))
      generalize w6.drewN m = w7 at *
      clear b KY
      go_wp2
      go_ret
      exact ⟨rfl, hB.out⟩
  · have t1 : (1048576 : Int) < (n : Int) := by omega
    go_enter Try.func15, Try.ntmps15
    go_wp2
    go_ret
    exact ⟨rfl, Below.refl _ _⟩

set_option maxRecDepth 100000 in
theorem lifted (os : Os) (started : os.Started) (H : Type) (enc : TypeId × Value → H) :
    ReturnsInHanded {} Try.checked os 15 .any (Rows.fnRoundOfSpec.pre6 enc Try.prog Try.f15 Rows.fnRoundOfRow.domain false) (Rows.fnRoundOfSpec.post enc Try.prog Try.f15 false true false false) := by
  refine returnsInHanded_of_change (C := Try.checked) own started (by kernel_rfl) Try.func15
    (ChangeSpec.witness6 (enc := enc) (C := Try.checked) false ⟨#[], #[.slice none 0 0], []⟩ 8 (by kernel_rfl) (by kernel_rfl) (by kernel_rfl) (by kernel_rfl)) ?_
  intro W base args ds gs before hval0 hW hcnd _
  have hval : ∀ (j : Nat) t v, Try.f15.params[j]? = some t → args[j]? = some v → Value.okWide Try.prog W .any base t v := hval0
  have hW' := hW
  obtain ⟨p, q, hA0, hV, rfl, hfz, hnd⟩ := hW
  have hA : DataW.TrodAll enc Try.prog W 0 (fun _ => true) true Try.f15.params.toList args.toList ds p := hA0
  rw [Try.params15] at hA hval
  obtain ⟨v0, vs0, d0, ds0, p0, q0, hargs, rfl, rfl, h0, r0⟩ := trodAll_cons hA
  obtain ⟨rfl, rfl, rfl⟩ := trodAll_nil r0
  obtain rfl : args = #[v0] := by cases args; simp_all
  obtain ⟨rfl, rfl⟩ := trodVars_none hV
  obtain ⟨a0, len0, cap0, rfl⟩ := okWide_slice Try.underlying22 (hval 0 22 v0 rfl rfl)
  have k0 := h0
  have lt0 : ∀ x ∈ p0, x.block < W.heap.size := by obtain ⟨m, hm⟩ := k0; exact DataW.trod_lt m _ _ _ hm
  obtain ⟨z0, s0, w0, m0⟩ : ∃ zs, Ints W .u8 a0 len0 cap0 zs ∧ (∀ n ∈ zs, (Lit.int .u8 n).wf = true) ∧ cap0 ≤ maxLen := by
    obtain ⟨fuel, hf⟩ := h0
    rcases open_ints Try.underlying22 Try.underlying5 (by kernel_rfl) hf with ⟨hcs, _⟩ | ⟨x, l, c, zs, hcs, _, hl, hm, hz, _, hcell, hwz⟩
    · simp [Value.cells] at hcs
      obtain ⟨rfl, rfl, rfl⟩ := hcs
      exact ⟨[], Ints.none_, by simp, Nat.zero_le _⟩
    · simp [Value.cells] at hcs
      obtain ⟨rfl, rfl, rfl⟩ := hcs
      exact ⟨_, Ints.of_row hl (by simpa using hz) hcell, fun n hn => hwz n (List.mem_of_mem_take hn), hm⟩
  clear hA0 hval0
  refine (walk W a0 len0 cap0 z0 s0 w0 m0).mono fun e W' ⟨he, bel⟩ => ?_
  subst he
  exact ⟨_, rfl, _, _, _, [], _, [], hW', trodAll_mk1 (shut_bool Try.underlying4 _), (trodAll_cons_mk (Below.trod laidOut (by kernel_rfl) (of_decide_eq_true (by kernel_rfl)) k0 bel lt0) trodAll_mk0), rfl, bel.frame _, fun h => by cases h⟩

theorem over : Rows.fnRoundOfRow.holds Try.pinned (OpenSpec.ofChange Rows.fnRoundOfSpec) :=
  OpenClaim.holds_of_wide 15 Try.f15 rfl rfl rfl rfl rfl rfl rfl ⟨rfl, rfl, rfl, rfl, rfl⟩ rfl rfl rfl rfl rfl (by kernel_rfl) Try.func15 (by kernel_rfl)
    (of_decide_eq_true (by kernel_rfl)) (by unfold Func.isWrapper; first | (rw [if_pos (by decide +kernel)]; kernel_rfl) | (rw [if_neg (by decide +kernel)]; exact ⟨rfl, rfl⟩))
    (fun os started H enc _ => lifted os started H enc)
theorem proved : Rows.FnRoundOfSaid := over
end Go.Proofs.Ytbghgpgpljdjkaa.fnRoundOf
