/-
  FnTwoWays holds for every input: the drawn code is answered by TwoWays as by its model; the text is made in two ways, and without its first letter or its last one it is not. No condition.
-/
import Derived.Test.YtbghgpgpljdjkaaRows
import Derived.Test.YtbghgpgpljdjkaaGA
import Derived.Test.YtbghgpgpljdjkaaW3
import Derived.Test.YtbghgpgpljdjkaaQ7
import Derived.Test.YtbghgpgpljdjkaaZ3
import Derived.Test.YtbghgpgpljdjkaaZ4
import Derived.Test.YtbghgpgpljdjkaaZ9
import Derived.Test.YtbghgpgpljdjkaaMathJ
namespace Go.Proofs.Ytbghgpgpljdjkaa.fnTwoWays
open Go.ChangeShapes Go.WideShapes Go.ChangeAt Go.RowKit
open Go.ChangeMaps (open_string shut_string)

theorem own : ownKnob Try.prog.godebug = none := by kernel_rfl
theorem laidOut : laidOutB Try.prog = true := by kernel_rfl

set_option maxRecDepth 100000 in
set_option maxHeartbeats 8000000 in
theorem walk (w : World) (A : Option Addr) (n c : Nat) (xs : List Int) (h : Ints w .u8 A n c xs) (hwf : ∀ x ∈ xs, (Lit.int .u8 x).wf = true) (hc : c ≤ maxLen) :
    Calls Try.prog 13 #[.slice A n c] w fun e w' => e = .returned (.bool true) ∧ Below w.heap.size w w' := by
  have hn : n ≤ 9223372036854775807 := by have := h.le; unfold maxLen at hc; omega
  by_cases hl : n ≤ 1048576
  · have HD := Lib.hid (drawTwoWays_any A n c xs w h hl hwf hc)
    clear h hwf hc
    go_enter Try.func13, Try.ntmps13
    go_wp2_with (fail)
    refine HD.out.mono ?_
    rintro e w1 ⟨v, l, rfl, ho, hfw, hb⟩
    obtain ⟨A4, c4, rfl, hls⟩ := ho.strs
    have hl6 := hfw.1
    have hlz := Lib.hid (fun (x : ByteArray) (hx : x ∈ l) => show x.size ≤ 1048576 by have := hfw.2 x hx; omega)
    have hB := Lib.hid hb
    have hL := Lib.hid hls
    clear ho hfw hls hb HD
    have K1 := Lib.hid (implTwoWays_any A4 _ c4 l w1 hL.out (by omega) hlz.out)
    go_wp2_with (fail)
    refine K1.out.mono ?_
    rintro e w2 ⟨rfl, b⟩
    replace hB := Lib.hid (hB.out.trans (b.mono hB.out.size))
    replace hL := Lib.hid (hL.out.below b (Nat.le_refl _))
    clear b K1
    have K2 := Lib.hid (specTwoWays_any A4 _ c4 l w2 hL.out (by omega) hlz.out)
    go_wp2_with (fail)
    refine K2.out.mono ?_
    rintro e w3 ⟨rfl, b⟩
    replace hB := Lib.hid (hB.out.trans (b.mono hB.out.size))
    replace hL := Lib.hid (hL.out.below b (Nat.le_refl _))
    clear b K2
    have CW := fun (W : World) (s : ByteArray) (hs : Strs W A4 l.length c4 l) (hz : s.size ≤ 1048576) => implWaysOf_any A4 _ c4 l s W hs (by omega) hlz.out hz
    have CR := fun (W : World) (hs : Strs W A4 l.length c4 l) => implReadableOk_any A4 _ c4 l W hs (by omega) hlz.out
    have t1 := fun (h : twoB l = false) => two_none' h
    have t2 := fun (h : twoB l = true) => two_text h
    generalize twoB l = tb at *
    generalize twoX l = tx at *
    have hne : (tb != tb) = false := by simp
    have hne2 : (tx.toList != tx.toList) = false := by simp
    replace CW := Lib.hid CW
    replace CR := Lib.hid CR
    replace t1 := Lib.hid t1
    replace t2 := Lib.hid t2
    cases tb
    · obtain rfl := t1.out rfl
      have hq : (ByteArray.toList ⟨#[]⟩ == ByteArray.toList ⟨#[]⟩) = true := by simp
      clear hL
      go_wp2_with (fail)
      refine (alive_any _).mono ?_
      rintro e w9 ⟨rfl, b⟩
      replace hB := Lib.hid (hB.out.trans (b.mono hB.out.size))
      clear b
      go_wp2
      go_ret
      exact ⟨rfl, hB.out⟩
    · obtain ⟨y1, y2, y3, y4, y5⟩ := t2.out rfl
      have y6 := y5 (tx.extract 1 tx.size) (by rw [ByteArray.size_extract]; omega)
      have y7 := y5 (tx.extract 0 (tx.size - 1)) (by rw [ByteArray.size_extract]; omega)
      have z1 : (1 : Int) ≤ (tx.size : Int) := by omega
      have z2 : IntKind.i64.wrap ((tx.size : Int) - 1) = ((tx.size - 1 : Nat) : Int) := by
        rw [show ((tx.size - 1 : Nat) : Int) = (tx.size : Int) - 1 by omega]
        exact IntWalk.i64_in _ (by omega)
      have z3 : (0 : Int) ≤ ((tx.size - 1 : Nat) : Int) := by omega
      have z4 : ((tx.size - 1 : Nat) : Int) ≤ (tx.size : Int) := by omega
      have z5 : (tx.extract 1 tx.size).size ≤ 1048576 := by rw [ByteArray.size_extract]; omega
      have z6 : (tx.extract 0 (tx.size - 1)).size ≤ 1048576 := by rw [ByteArray.size_extract]; omega
      have K3 := CW.out w3 tx hL.out (by omega)
      have C5 := fun W hs => CW.out W (tx.extract 1 tx.size) hs z5
      have C6 := fun W hs => CW.out W (tx.extract 0 (tx.size - 1)) hs z6
      generalize waysV l tx = v0 at *
      generalize waysV l (tx.extract 1 tx.size) = v1 at *
      generalize waysV l (tx.extract 0 (tx.size - 1)) = v2 at *
      replace K3 := Lib.hid K3
      replace C5 := Lib.hid C5
      replace C6 := Lib.hid C6
      clear y5 z5 z6
      go_wp2_with (fail)
      refine K3.out.mono ?_
      rintro e w4 ⟨rfl, b⟩
      replace hB := Lib.hid (hB.out.trans (b.mono hB.out.size))
      replace hL := Lib.hid (hL.out.below b (Nat.le_refl _))
      clear b K3
      have K4 := CR.out w4 hL.out
      rw [y4] at K4
      replace K4 := Lib.hid K4
      clear y4
      go_wp2_with (fail)
      refine K4.out.mono ?_
      rintro e w5 ⟨rfl, b⟩
      replace hB := Lib.hid (hB.out.trans (b.mono hB.out.size))
      replace hL := Lib.hid (hL.out.below b (Nat.le_refl _))
      clear b K4
      have K5 := Lib.hid (C5.out w5 hL.out)
      go_wp2_with (fail)
      refine K5.out.mono ?_
      rintro e w6 ⟨rfl, b⟩
      replace hB := Lib.hid (hB.out.trans (b.mono hB.out.size))
      replace hL := Lib.hid (hL.out.below b (Nat.le_refl _))
      clear b K5
      have K6 := Lib.hid (C6.out w6 hL.out)
      go_wp2_with (fail)
      refine K6.out.mono ?_
      rintro e w7 ⟨rfl, b⟩
      replace hB := Lib.hid (hB.out.trans (b.mono hB.out.size))
      replace hL := Lib.hid (hL.out.below b (Nat.le_refl _))
      clear b K6
      go_wp2
      go_ret
      exact ⟨rfl, hB.out⟩
  · have t1 : (1048576 : Int) < (n : Int) := by omega
    go_enter Try.func13, Try.ntmps13
    go_wp2
    go_ret
    exact ⟨rfl, Below.refl _ _⟩

set_option maxRecDepth 100000 in
theorem lifted (os : Os) (started : os.Started) (H : Type) (enc : TypeId × Value → H) :
    ReturnsInHanded {} Try.checked os 13 .any (Rows.fnTwoWaysSpec.pre6 enc Try.prog Try.f13 Rows.fnTwoWaysRow.domain false) (Rows.fnTwoWaysSpec.post enc Try.prog Try.f13 false true false false) := by
  refine returnsInHanded_of_change (C := Try.checked) own started (by kernel_rfl) Try.func13
    (ChangeSpec.witness6 (enc := enc) (C := Try.checked) false ⟨#[], #[.slice none 0 0], []⟩ 8 (by kernel_rfl) (by kernel_rfl) (by kernel_rfl) (by kernel_rfl)) ?_
  intro W base args ds gs before hval0 hW hcnd _
  have hval : ∀ (j : Nat) t v, Try.f13.params[j]? = some t → args[j]? = some v → Value.okWide Try.prog W .any base t v := hval0
  have hW' := hW
  obtain ⟨p, q, hA0, hV, rfl, hfz, hnd⟩ := hW
  have hA : DataW.TrodAll enc Try.prog W 0 (fun _ => true) true Try.f13.params.toList args.toList ds p := hA0
  rw [Try.params13] at hA hval
  obtain ⟨v0, vs0, d0, ds0, p0, q0, hargs, rfl, rfl, h0, r0⟩ := trodAll_cons hA
  obtain ⟨rfl, rfl, rfl⟩ := trodAll_nil r0
  obtain rfl : args = #[v0] := by cases args; simp_all
  obtain ⟨rfl, rfl⟩ := trodVars_none hV
  obtain ⟨a0, len0, cap0, rfl⟩ := okWide_slice Try.underlying22 (hval 0 22 v0 rfl rfl)
  have k0 := h0
  have lt0 : ∀ x ∈ p0, x.block < W.heap.size := by obtain ⟨m, hm⟩ := k0; exact DataW.trod_lt m _ _ _ hm
  obtain ⟨z0, s0, w0, m0⟩ : ∃ zs, Ints W .u8 a0 len0 cap0 zs ∧ (∀ n ∈ zs, (Lit.int .u8 n).wf = true) ∧ cap0 ≤ maxLen := by
    obtain ⟨fuel, hf⟩ := h0
    rcases open_ints Try.underlying22 Try.underlying5 (by kernel_rfl) hf with ⟨hcs, _⟩ | ⟨x, l, c, zs, hcs, _, hl, hm, hz, _, hcell, hwz⟩
    · simp [Value.cells] at hcs
      obtain ⟨rfl, rfl, rfl⟩ := hcs
      exact ⟨[], Ints.none_, by simp, Nat.zero_le _⟩
    · simp [Value.cells] at hcs
      obtain ⟨rfl, rfl, rfl⟩ := hcs
      exact ⟨_, Ints.of_row hl (by simpa using hz) hcell, fun n hn => hwz n (List.mem_of_mem_take hn), hm⟩
  clear hA0 hval0
  refine (walk W a0 len0 cap0 z0 s0 w0 m0).mono fun e W' ⟨he, bel⟩ => ?_
  subst he
  exact ⟨_, rfl, _, _, _, [], _, [], hW', trodAll_mk1 (shut_bool Try.underlying4 _), (trodAll_cons_mk (Below.trod laidOut (by kernel_rfl) (of_decide_eq_true (by kernel_rfl)) k0 bel lt0) trodAll_mk0), rfl, bel.frame _, fun h => by cases h⟩

theorem over : Rows.fnTwoWaysRow.holds Try.pinned (OpenSpec.ofChange Rows.fnTwoWaysSpec) :=
  OpenClaim.holds_of_wide 13 Try.f13 rfl rfl rfl rfl rfl rfl rfl ⟨rfl, rfl, rfl, rfl, rfl⟩ rfl rfl rfl rfl rfl (by kernel_rfl) Try.func13 (by kernel_rfl)
    (of_decide_eq_true (by kernel_rfl)) (by unfold Func.isWrapper; first | (rw [if_pos (by decide +kernel)]; kernel_rfl) | (rw [if_neg (by decide +kernel)]; exact ⟨rfl, rfl⟩))
    (fun os started H enc _ => lifted os started H enc)
theorem proved : Rows.FnTwoWaysSaid := over
end Go.Proofs.Ytbghgpgpljdjkaa.fnTwoWays
