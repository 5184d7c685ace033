/-
  FnReadShorter holds for every input: the drawn tongue, words, word and bound are answered by ReadShorter as by its model; the shorter name of the number is the words. No condition.
-/
import Derived.Test.YtpbinajjlambfaaRows
import Derived.Test.YtpbinajjlambfaaDrawAR
import Derived.Test.YtpbinajjlambfaaA4
import Derived.Test.YtpbinajjlambfaaB4
import Derived.Test.YtpbinajjlambfaaGN
namespace Go.Proofs.Ytpbinajjlambfaa.fnReadShorter
open Go.ChangeShapes Go.WideShapes Go.ChangeAt Go.RowKit
open Go.ChangeMaps (open_string shut_string)

theorem own : ownKnob Try.prog.godebug = none := by kernel_rfl
theorem laidOut : laidOutB Try.prog = true := by kernel_rfl

set_option maxRecDepth 100000 in
set_option maxHeartbeats 8000000 in
theorem walk (w : World) (A : Option Addr) (n c : Nat) (xs : List Int) (h : Ints w .u8 A n c xs) (hwf : ∀ x ∈ xs, (Lit.int .u8 x).wf = true) (hc : c ≤ maxLen) :
    Calls Try.prog 5 #[.slice A n c] w fun e w' => e = .returned (.bool true) ∧ Below w.heap.size w w' := by
  have hn : n ≤ 9223372036854775807 := by have := h.le; unfold maxLen at hc; omega
  by_cases hl : n ≤ 1048576
  · have HD := Lib.hid (drawReadShorter_any A n c xs w h hl hwf hc)
    clear h hwf hc
    go_enter Try.func5, Try.ntmps5
    go_wp2_with (fail)
    refine HD.out.mono ?_
    rintro e w1 ⟨v, t, u, l, x, bd, rfl, ho, hou, hsm, hsw, hx16, hbd, hb⟩
    obtain ⟨A1, c1, A2, c2, A3, c3, rfl⟩ := ho.shape
    obtain ⟨A4, c4, rfl, hls⟩ := hou.strs
    have hf := Lib.hid (hsm.fine (by omega))
    have hxl : x.size ≤ maxLen := by unfold maxLen; omega
    have hba := (Below.refl w1.heap.size w1).alloc (Nat.le_refl _) (.cells #[.slice A1 t.us.length c1, .slice A2 t.bs.length c2, .slice A3 t.ns.length c3] 26)
    have S := Lib.hid (⟨hb.trans (hba.mono hb.size), Blk.new w1 26 #[.slice A1 t.us.length c1, .slice A2 t.bs.length c2, .slice A3 t.ns.length c3], ho.tng.below hba (Nat.le_refl _)⟩ : LSt w w1.heap.size #[.slice A1 t.us.length c1, .slice A2 t.bs.length c2, .slice A3 t.ns.length c3] t (w1.alloc (.cells #[.slice A1 t.us.length c1, .slice A2 t.bs.length c2, .slice A3 t.ns.length c3] 26)))
    have hL := Lib.hid (hls.below hba (Nat.le_refl _))
    have hl44 := hsw.1
    have hlz := Lib.hid (fun (y : ByteArray) (hy : y ∈ l) => show y.size ≤ 1048576 by have := hsw.2 y hy; omega)
    have hlz' := Lib.hid (fun (y : ByteArray) (hy : y ∈ l) => show y.size ≤ maxLen by have := hsw.2 y hy; unfold maxLen; omega)
    replace hxl := Lib.hid hxl
    clear ho hou hls hsm hsw hb hba HD
    go_upto_region 4 with (fail)
    generalize w1.alloc (.cells #[.slice A1 t.us.length c1, .slice A2 t.bs.length c2, .slice A3 t.ns.length c3] 26) = W at *
    obtain ⟨z0, z1, z2, -, -, -⟩ := blk3 S.out.hz
    have K1 := Lib.hid (implReadShorter_any _ t A4 _ c4 l x bd W S.out.ht hf.out hL.out (by omega) hlz.out hxl.out)
    go_wp2_with (fail)
    refine K1.out.mono ?_
    rintro e w2 ⟨rfl, b2⟩
    replace S := Lib.hid (S.out.step b2)
    replace hL := Lib.hid (hL.out.below b2 (Nat.le_refl _))
    have K2 := Lib.hid (specReadShorter_any _ t A4 _ c4 l x bd w2 S.out.ht hf.out hL.out (by omega) hlz'.out hxl.out (by omega))
    clear b2 z0 z1 z2 K1
    obtain ⟨z0, z1, z2, -, -, -⟩ := blk3 S.out.hz
    go_wp2_with (fail)
    refine K2.out.mono ?_
    rintro e w3 ⟨rfl, b3⟩
    replace S := Lib.hid (S.out.step b3)
    replace hL := Lib.hid (hL.out.below b3 (Nat.le_refl _))
    clear b3 z0 z1 z2 K2
    obtain ⟨z0, z1, z2, -, -, -⟩ := blk3 S.out.hz
    have hyes := fun h => readS_yes (t := t) (l := l) (x := x) (b := bd) h
    have hno := fun h => readS_no (t := t) (l := l) (x := x) (b := bd) h
    have hrb := readSV_bd (t := t) (x := x) (b := bd) l
    generalize readSV t l x bd = rv at *
    generalize readSB t l x bd = rb at *
    replace hyes := Lib.hid hyes
    replace hno := Lib.hid hno
    cases rb
    · have hv := hno.out rfl
      subst hv
      go_wp2_with (fail)
      refine (alive_any w3).mono ?_
      rintro e w9 ⟨rfl, b9⟩
      have hB9 := Lib.hid (S.out.low.trans (b9.mono S.out.low.size))
      clear b9
      go_wp2
      go_ret
      exact ⟨rfl, hB9.out⟩
    · obtain ⟨-, y1, y2, -, -⟩ := hyes.out rfl
      have KT := implShorterName_any _ t rv x bd w3 S.out.ht hf.out (by omega) hxl.out
      rw [y1, y2] at KT
      replace KT := Lib.hid KT
      replace y1 := Lib.hid y1
      replace y2 := Lib.hid y2
      have hvv : (rv != rv) = false := by simp
      go_wp2_with (fail)
      refine KT.out.mono ?_
      rintro e w4 ⟨v4, rfl, o4, b4⟩
      obtain ⟨A5, c5, rfl, s5⟩ := o4.strs
      have hL4 := hL.out.below b4 (Nat.le_refl _)
      have hB4 := Lib.hid (S.out.low.trans (b4.mono S.out.low.size))
      have KX := sameTexts_any A5 A4 _ c5 _ c4 l l w4 s5 hL4 (by omega) (by omega)
      rw [decide_eq_true rfl] at KX
      replace KX := Lib.hid KX
      clear o4 s5 hL4 b4 z0 z1 z2
      go_wp2_with (fail)
      refine KX.out.mono ?_
      rintro e w5 ⟨rfl, m5, rfl⟩
      go_wp2
      go_ret
      exact ⟨rfl, below_drewN hB4.out m5⟩
  · have t1 : (1048576 : Int) < (n : Int) := by omega
    go_enter Try.func5, Try.ntmps5
    go_wp2
    go_ret
    exact ⟨rfl, Below.refl _ _⟩

set_option maxRecDepth 100000 in
theorem lifted (os : Os) (started : os.Started) (H : Type) (enc : TypeId × Value → H) :
    ReturnsInHanded {} Try.checked os 5 .any (Rows.fnReadShorterSpec.pre6 enc Try.prog Try.f5 Rows.fnReadShorterRow.domain false) (Rows.fnReadShorterSpec.post enc Try.prog Try.f5 false true false false) := by
  refine returnsInHanded_of_change (C := Try.checked) own started (by kernel_rfl) Try.func5
    (ChangeSpec.witness6 (enc := enc) (C := Try.checked) false ⟨#[], #[.slice none 0 0], []⟩ 8 (by kernel_rfl) (by kernel_rfl) (by kernel_rfl) (by kernel_rfl)) ?_
  intro W base args ds gs before hval0 hW hcnd _
  have hval : ∀ (j : Nat) t v, Try.f5.params[j]? = some t → args[j]? = some v → Value.okWide Try.prog W .any base t v := hval0
  have hW' := hW
  obtain ⟨p, q, hA0, hV, rfl, hfz, hnd⟩ := hW
  have hA : DataW.TrodAll enc Try.prog W 0 (fun _ => true) true Try.f5.params.toList args.toList ds p := hA0
  rw [Try.params5] at hA hval
  obtain ⟨v0, vs0, d0, ds0, p0, q0, hargs, rfl, rfl, h0, r0⟩ := trodAll_cons hA
  obtain ⟨rfl, rfl, rfl⟩ := trodAll_nil r0
  obtain rfl : args = #[v0] := by cases args; simp_all
  obtain ⟨rfl, rfl⟩ := trodVars_none hV
  obtain ⟨a0, len0, cap0, rfl⟩ := okWide_slice Try.underlying22 (hval 0 22 v0 rfl rfl)
  have k0 := h0
  have lt0 : ∀ x ∈ p0, x.block < W.heap.size := by obtain ⟨m, hm⟩ := k0; exact DataW.trod_lt m _ _ _ hm
  obtain ⟨z0, s0, w0, m0⟩ : ∃ zs, Ints W .u8 a0 len0 cap0 zs ∧ (∀ n ∈ zs, (Lit.int .u8 n).wf = true) ∧ cap0 ≤ maxLen := by
    obtain ⟨fuel, hf⟩ := h0
    rcases open_ints Try.underlying22 Try.underlying5 (by kernel_rfl) hf with ⟨hcs, _⟩ | ⟨x, l, c, zs, hcs, _, hl, hm, hz, _, hcell, hwz⟩
    · simp [Value.cells] at hcs
      obtain ⟨rfl, rfl, rfl⟩ := hcs
      exact ⟨[], Ints.none_, by simp, Nat.zero_le _⟩
    · simp [Value.cells] at hcs
      obtain ⟨rfl, rfl, rfl⟩ := hcs
      exact ⟨_, Ints.of_row hl (by simpa using hz) hcell, fun n hn => hwz n (List.mem_of_mem_take hn), hm⟩
  clear hA0 hval0
  refine (walk W a0 len0 cap0 z0 s0 w0 m0).mono fun e W' ⟨he, bel⟩ => ?_
  subst he
  exact ⟨_, rfl, _, _, _, [], _, [], hW', trodAll_mk1 (shut_bool Try.underlying4 _), (trodAll_cons_mk (Below.trod laidOut (by kernel_rfl) (of_decide_eq_true (by kernel_rfl)) k0 bel lt0) trodAll_mk0), rfl, bel.frame _, fun h => by cases h⟩

theorem over : Rows.fnReadShorterRow.holds Try.pinned (OpenSpec.ofChange Rows.fnReadShorterSpec) :=
  OpenClaim.holds_of_wide 5 Try.f5 rfl rfl rfl rfl rfl rfl rfl ⟨rfl, rfl, rfl, rfl, rfl⟩ rfl rfl rfl rfl rfl (by kernel_rfl) Try.func5 (by kernel_rfl)
    (of_decide_eq_true (by kernel_rfl)) (by unfold Func.isWrapper; first | (rw [if_pos (by decide +kernel)]; kernel_rfl) | (rw [if_neg (by decide +kernel)]; exact ⟨rfl, rfl⟩))
    (fun os started H enc _ => lifted os started H enc)
theorem proved : Rows.FnReadShorterSaid := over
end Go.Proofs.Ytpbinajjlambfaa.fnReadShorter
