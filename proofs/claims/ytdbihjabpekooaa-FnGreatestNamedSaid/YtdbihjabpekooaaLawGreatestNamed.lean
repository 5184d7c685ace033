/-
  FnGreatestNamed holds for every input: the drawn tongue is answered by GreatestNamed as by its model; the number and 1 have names, and one number more has none. No condition.
-/
import Derived.Test.YtdbihjabpekooaaRows
import Derived.Test.YtdbihjabpekooaaDrawGr
import Derived.Test.YtdbihjabpekooaaImpl3
import Derived.Test.YtdbihjabpekooaaMathG
namespace Go.Proofs.Ytdbihjabpekooaa.fnGreatestNamed
open Go.ChangeShapes Go.WideShapes Go.ChangeAt Go.RowKit
open Go.ChangeMaps (open_string shut_string)

theorem own : ownKnob Try.prog.godebug = none := by kernel_rfl
theorem laidOut : laidOutB Try.prog = true := by kernel_rfl

set_option maxRecDepth 100000 in
set_option maxHeartbeats 4000000 in
theorem walk (w : World) (A : Option Addr) (n c : Nat) (xs : List Int) (h : Ints w .u8 A n c xs) (hwf : ∀ x ∈ xs, (Lit.int .u8 x).wf = true) (hc : c ≤ maxLen) :
    Calls Try.prog 4 #[.slice A n c] w fun e w' => e = .returned (.bool true) ∧ Below w.heap.size w w' := by
  have hn : n ≤ 9223372036854775807 := by have := h.le; unfold maxLen at hc; omega
  by_cases hl : n ≤ 1048576
  · have HD := Lib.hid (drawGreatest_any A n c xs w h hl hwf hc)
    clear h hwf hc
    go_enter Try.func4, Try.ntmps4
    go_wp2_with (fail)
    refine HD.out.mono ?_
    rintro e w1 ⟨v, t, rfl, ho, hsm, hb⟩
    obtain ⟨A1, c1, A2, c2, A3, c3, rfl⟩ := ho.shape
    have hf := hsm.fine (by omega)
    have hB := hb.alloc hb.size (.cells #[.slice A1 t.us.length c1, .slice A2 t.bs.length c2, .slice A3 t.ns.length c3] 26)
    have hZ := Blk.new w1 26 #[.slice A1 t.us.length c1, .slice A2 t.bs.length c2, .slice A3 t.ns.length c3]
    have hT := ho.tng.below ((Below.refl _ _).alloc (Nat.le_refl _) (.cells #[.slice A1 t.us.length c1, .slice A2 t.bs.length c2, .slice A3 t.ns.length c3] 26)) (Nat.le_refl _)
    replace hB := Lib.hid hB
    replace hZ := Lib.hid hZ
    replace hT := Lib.hid hT
    replace hf := Lib.hid hf
    clear ho hsm hb HD
    go_upto_region 4 with (fail)
    generalize w1.alloc (.cells #[.slice A1 t.us.length c1, .slice A2 t.bs.length c2, .slice A3 t.ns.length c3] 26) = W at *
    obtain ⟨z0, z1, z2, -, -, -⟩ := blk3 hZ.out
    have K1 := Lib.hid (implGreatest_any _ t W hT.out hf.out)
    go_wp2_with (fail)
    refine K1.out.mono ?_
    rintro e w2 ⟨rfl, b2⟩
    replace hB := Lib.hid (hB.out.trans (b2.mono hB.out.size))
    replace hZ := Lib.hid (hZ.out.below b2 hZ.out.lt)
    replace hT := Lib.hid (hT.out.below b2 (Nat.le_refl _))
    have K2 := Lib.hid (specGreatest_any _ t w2 hT.out hf.out)
    clear b2 z0 z1 z2 K1
    obtain ⟨z0, z1, z2, -, -, -⟩ := blk3 hZ.out
    go_wp2_with (fail)
    refine K2.out.mono ?_
    rintro e w3 ⟨rfl, b3⟩
    replace hB := Lib.hid (hB.out.trans (b3.mono hB.out.size))
    replace hZ := Lib.hid (hZ.out.below b3 hZ.out.lt)
    replace hT := Lib.hid (hT.out.below b3 (Nat.le_refl _))
    clear b3 z0 z1 z2 K2
    obtain ⟨z0, z1, z2, -, -, -⟩ := blk3 hZ.out
    have hgb := greatest_bd t
    have hne : (greatest t != greatest t) = false := by simp
    cases hok : t.ok
    · have hg := greatest_no hok
      rw [hg] at hne ⊢
      have KT := implTongueOk_any _ t w3 hT.out hf.out
      rw [hok] at KT
      replace KT := Lib.hid KT
      replace hg := Lib.hid hg
      replace hok := Lib.hid hok
      clear hgb
      go_wp2_with (fail)
      refine KT.out.mono ?_
      rintro e w5 ⟨rfl, b5⟩
      have hB5 := Lib.hid (hB.out.trans (b5.mono hB.out.size))
      clear b5 z0 z1 z2
      go_wp2_with (fail)
      refine (alive_any w5).mono ?_
      rintro e w9 ⟨rfl, b9⟩
      have hB9 := Lib.hid (hB5.out.trans (b9.mono hB5.out.size))
      clear b9
      go_wp2
      go_ret
      exact ⟨rfl, hB9.out⟩
    · obtain ⟨g1, g2, g3, g4⟩ := greatest_named hok
      have K4 := implNameOf_any _ t (greatest t) w3 hT.out hf.out (by omega)
      rw [g2] at K4
      have KN := fun W' (h : Below w3.heap.size w3 W') => implNameOf_any _ t (greatest t + 1) W' (hT.out.below h (Nat.le_refl _)) hf.out (by omega)
      rw [g3] at KN
      have KM := fun W' (h : Below w3.heap.size w3 W') => implNameOf_any _ t 1 W' (hT.out.below h (Nat.le_refl _)) hf.out (by omega)
      rw [g4] at KM
      have hZc := Lib.hid (fun W' (h : Below w3.heap.size w3 W') => blk3 (hZ.out.below h hZ.out.lt))
      replace K4 := Lib.hid K4
      replace KN := Lib.hid KN
      replace KM := Lib.hid KM
      replace hok := Lib.hid hok
      clear g2 g3 g4
      generalize greatest t = gr at *
      obtain ⟨gb1, gb2⟩ := hgb
      go_wp2_with (fail)
      refine K4.out.mono ?_
      rintro e w4 ⟨v4, rfl, o4, b4⟩
      obtain ⟨B4, e4, rfl, -⟩ := o4.strs
      clear z0 z1 z2 K4 o4
      obtain ⟨z0, z1, z2, -, -, -⟩ := hZc.out _ b4
      have K5 := Lib.hid (KN.out _ b4)
      replace b4 := Lib.hid b4
      go_wp2_with (fail)
      refine K5.out.mono ?_
      rintro e w5 ⟨v5, rfl, o5, b5⟩
      obtain ⟨B5, e5, rfl, -⟩ := o5.strs
      replace b5 := b4.out.trans (b5.mono b4.out.size)
      clear z0 z1 z2 K5 o5 b4
      obtain ⟨z0, z1, z2, -, -, -⟩ := hZc.out _ b5
      have K6 := Lib.hid (KM.out _ b5)
      replace b5 := Lib.hid b5
      go_wp2_with (fail)
      refine K6.out.mono ?_
      rintro e w6 ⟨v6, rfl, o6, b6⟩
      obtain ⟨B6, e6, rfl, -⟩ := o6.strs
      replace b6 := b5.out.trans (b6.mono b5.out.size)
      have hB6 := Lib.hid (hB.out.trans (b6.mono hB.out.size))
      clear z0 z1 z2 K6 o6 b5 b6
      go_wp2
      go_ret
      exact ⟨rfl, hB6.out⟩
  · have hl' : 1048576 < n := by omega
    go_enter Try.func4, Try.ntmps4
    go_wp2
    go_ret
    exact ⟨rfl, Below.refl _ _⟩

set_option maxRecDepth 100000 in
theorem lifted (os : Os) (started : os.Started) (H : Type) (enc : TypeId × Value → H) :
    ReturnsInHanded {} Try.checked os 4 .any (Rows.fnGreatestNamedSpec.pre6 enc Try.prog Try.f4 Rows.fnGreatestNamedRow.domain false) (Rows.fnGreatestNamedSpec.post enc Try.prog Try.f4 false true false false) := by
  refine returnsInHanded_of_change (C := Try.checked) own started (by kernel_rfl) Try.func4
    (ChangeSpec.witness6 (enc := enc) (C := Try.checked) false ⟨#[], #[.slice none 0 0], []⟩ 8 (by kernel_rfl) (by kernel_rfl) (by kernel_rfl) (by kernel_rfl)) ?_
  intro W base args ds gs before hval0 hW hcnd _
  have hval : ∀ (j : Nat) t v, Try.f4.params[j]? = some t → args[j]? = some v → Value.okWide Try.prog W .any base t v := hval0
  have hW' := hW
  obtain ⟨p, q, hA0, hV, rfl, hfz, hnd⟩ := hW
  have hA : DataW.TrodAll enc Try.prog W 0 (fun _ => true) true Try.f4.params.toList args.toList ds p := hA0
  rw [Try.params4] at hA hval
  obtain ⟨v0, vs0, d0, ds0, p0, q0, hargs, rfl, rfl, h0, r0⟩ := trodAll_cons hA
  obtain ⟨rfl, rfl, rfl⟩ := trodAll_nil r0
  obtain rfl : args = #[v0] := by cases args; simp_all
  obtain ⟨rfl, rfl⟩ := trodVars_none hV
  obtain ⟨a0, len0, cap0, rfl⟩ := okWide_slice Try.underlying22 (hval 0 22 v0 rfl rfl)
  have k0 := h0
  have lt0 : ∀ x ∈ p0, x.block < W.heap.size := by obtain ⟨m, hm⟩ := k0; exact DataW.trod_lt m _ _ _ hm
  obtain ⟨z0, s0, w0, m0⟩ : ∃ zs, Ints W .u8 a0 len0 cap0 zs ∧ (∀ n ∈ zs, (Lit.int .u8 n).wf = true) ∧ cap0 ≤ maxLen := by
    obtain ⟨fuel, hf⟩ := h0
    rcases open_ints Try.underlying22 Try.underlying5 (by kernel_rfl) hf with ⟨hcs, _⟩ | ⟨x, l, c, zs, hcs, _, hl, hm, hz, _, hcell, hwz⟩
    · simp [Value.cells] at hcs
      obtain ⟨rfl, rfl, rfl⟩ := hcs
      exact ⟨[], Ints.none_, by simp, Nat.zero_le _⟩
    · simp [Value.cells] at hcs
      obtain ⟨rfl, rfl, rfl⟩ := hcs
      exact ⟨_, Ints.of_row hl (by simpa using hz) hcell, fun n hn => hwz n (List.mem_of_mem_take hn), hm⟩
  clear hA0 hval0
  refine (walk W a0 len0 cap0 z0 s0 w0 m0).mono fun e W' ⟨he, bel⟩ => ?_
  subst he
  exact ⟨_, rfl, _, _, _, [], _, [], hW', trodAll_mk1 (shut_bool Try.underlying4 _), (trodAll_cons_mk (Below.trod laidOut (by kernel_rfl) (of_decide_eq_true (by kernel_rfl)) k0 bel lt0) trodAll_mk0), rfl, bel.frame _, fun h => by cases h⟩

theorem over : Rows.fnGreatestNamedRow.holds Try.pinned (OpenSpec.ofChange Rows.fnGreatestNamedSpec) :=
  OpenClaim.holds_of_wide 4 Try.f4 rfl rfl rfl rfl rfl rfl rfl ⟨rfl, rfl, rfl, rfl, rfl⟩ rfl rfl rfl rfl rfl (by kernel_rfl) Try.func4 (by kernel_rfl)
    (of_decide_eq_true (by kernel_rfl)) (by unfold Func.isWrapper; first | (rw [if_pos (by decide +kernel)]; kernel_rfl) | (rw [if_neg (by decide +kernel)]; exact ⟨rfl, rfl⟩))
    (fun os started H enc _ => lifted os started H enc)
theorem proved : Rows.FnGreatestNamedSaid := over
end Go.Proofs.Ytdbihjabpekooaa.fnGreatestNamed
