/-
  FnStepsToRing holds for every input: the drawn tongue and number are answered by StepsToRing as by its model; it is 0 exactly for numbers of a ring, and else for the letters of the number one less. No condition.
-/
import Derived.Test.YtfnpkmlgklameaaRows
import Derived.Test.YtfnpkmlgklameaaDrawL
import Derived.Test.YtfnpkmlgklameaaL4
import Derived.Test.YtfnpkmlgklameaaM6
import Derived.Test.YtfnpkmlgklameaaM1
import Derived.Test.YtfnpkmlgklameaaHas
import Derived.Lib.QuietBelow
namespace Go.Proofs.Ytfnpkmlgklameaa.fnStepsToRing
open Go.ChangeShapes Go.WideShapes Go.ChangeAt Go.RowKit Go.Sort
open Go.ChangeMaps (open_string shut_string)

theorem own : ownKnob Try.prog.godebug = none := by kernel_rfl
theorem laidOut : laidOutB Try.prog = true := by kernel_rfl

set_option maxRecDepth 100000 in
set_option maxHeartbeats 8000000 in
theorem walk (w : World) (A : Option Addr) (n c : Nat) (xs : List Int) (h : Ints w .u8 A n c xs) (hwf : ∀ x ∈ xs, (Lit.int .u8 x).wf = true) (hc : c ≤ maxLen) :
    Calls Try.prog 9 #[.slice A n c] w fun e w' => e = .returned (.bool true) ∧ Below w.heap.size w w' := by
  have hn : n ≤ 9223372036854775807 := by have := h.le; unfold maxLen at hc; omega
  by_cases hl : n ≤ 1048576
  · have HD := Lib.hid (drawStepsToRing_any A n c xs w h hl hwf hc)
    clear h hwf hc
    go_enter Try.func9, Try.ntmps9
    go_wp2_with (fail)
    refine HD.out.mono ?_
    rintro e w1 ⟨v, t, a, rfl, ho, hsm, ha, hb⟩
    obtain ⟨ha1, ha2⟩ := ha
    obtain ⟨A1, c1, A2, c2, A3, c3, rfl⟩ := ho.shape
    have hf := Lib.hid (hsm.fine (by omega))
    have hba := (Below.refl w1.heap.size w1).alloc (Nat.le_refl _) (.cells #[.slice A1 t.us.length c1, .slice A2 t.bs.length c2, .slice A3 t.ns.length c3] 26)
    have S := Lib.hid (⟨hb.trans (hba.mono hb.size), Blk.new w1 26 #[.slice A1 t.us.length c1, .slice A2 t.bs.length c2, .slice A3 t.ns.length c3], ho.tng.below hba (Nat.le_refl _)⟩ : LSt w w1.heap.size #[.slice A1 t.us.length c1, .slice A2 t.bs.length c2, .slice A3 t.ns.length c3] t (w1.alloc (.cells #[.slice A1 t.us.length c1, .slice A2 t.bs.length c2, .slice A3 t.ns.length c3] 26)))
    clear ho hsm hb hba HD
    go_upto_region 4 with (fail)
    generalize w1.alloc (.cells #[.slice A1 t.us.length c1, .slice A2 t.bs.length c2, .slice A3 t.ns.length c3] 26) = W at *
    generalize w1.heap.size = z at *
    obtain ⟨z0, z1, z2, -, -, -⟩ := blk3 S.out.hz
    have K1 := Lib.hid (implStepsToRing_any _ t a W S.out.ht hf.out (by omega))
    go_wp2_with (fail)
    refine K1.out.mono ?_
    rintro e w2 ⟨rfl, b2⟩
    replace S := Lib.hid (S.out.step b2)
    have K2 := Lib.hid (specStepsToRing_any _ t a w2 S.out.ht hf.out (by omega))
    clear b2 z0 z1 z2 K1
    obtain ⟨z0, z1, z2, -, -, -⟩ := blk3 S.out.hz
    go_wp2_with (fail)
    refine K2.out.mono ?_
    rintro e w3 ⟨rfl, b3⟩
    replace S := Lib.hid (S.out.step b3)
    clear b3 z0 z1 z2 K2
    obtain ⟨z0, z1, z2, -, -, -⟩ := blk3 S.out.hz
    cases hok : okF (lettersOf t) a
    · have hs := (ring_no hok).2
      rw [hs]
      replace hs := Lib.hid hs
      replace hok := Lib.hid hok
      go_wp2_with (fail)
      refine (alive_any w3).mono ?_
      rintro e w9 ⟨rfl, b9⟩
      have hB9 := Lib.hid (S.out.low.trans (b9.mono S.out.low.size))
      clear b9
      go_wp2
      go_ret
      exact ⟨rfl, hB9.out⟩
    · have KR := implRingFrom_any _ t a w3 S.out.ht hf.out (by omega)
      have hz := steps_zero (letters_bd t) hok
      have hnx := fun h => steps_next (letters_bd t) hok h
      have hrl := ringF_le (n := a) (letters_bd t)
      have hlb := letters_bd t a
      have hst := (ring_is (lettersOf t) (letters_bd t) a).1.steps hok
      have hsl := (ring_is (lettersOf t) (letters_bd t) a).2
      rw [hok] at KR
      have KL := fun W' (hT : Tng W' (.agg #[.slice A1 t.us.length c1, .slice A2 t.bs.length c2, .slice A3 t.ns.length c3]) t) => implLettersOf_any _ t a W' hT hf.out (by omega)
      have KS : ∀ W' (hT : Tng W' (.agg #[.slice A1 t.us.length c1, .slice A2 t.bs.length c2, .slice A3 t.ns.length c3]) t), Calls Try.prog 34 #[.agg #[.slice A1 t.us.length c1, .slice A2 t.bs.length c2, .slice A3 t.ns.length c3], .int .i64 (lettersOf t a)] W' fun e w' => e = .returned (.tuple #[.int .i64 (stepsF (lettersOf t) (lettersOf t a)), .bool (okF (lettersOf t) (lettersOf t a))]) ∧ Below W'.heap.size W' w' := fun W' hT => implStepsToRing_any _ t (lettersOf t a) W' hT hf.out (by omega)
      generalize ringF (lettersOf t) a = rs at *
      generalize hk : stepsF (lettersOf t) a = k at *
      generalize hL : rs.length = L at *
      have hk0 : 0 ≤ k ∧ k ≤ 323 := by omega
      obtain ⟨hk1, hk2⟩ := hk0
      have hkk : (k != k) = false := by simp
      replace hL := Lib.hid hL
      replace KR := Lib.hid KR
      replace KL := Lib.hid KL
      replace hz := Lib.hid hz
      replace hnx := Lib.hid hnx
      replace hok := Lib.hid hok
      replace hst := Lib.hid hst
      replace hk := Lib.hid hk
      replace KS := Lib.hid KS
      replace hlb := Lib.hid hlb
      go_wp2_with (fail)
      refine KR.out.mono ?_
      rintro e w4 ⟨v4, rfl, o4, b4⟩
      obtain ⟨A9, c9, rfl, i9⟩ := o4.ints
      rw [hL.out] at i9 ⊢
      replace S := Lib.hid (S.out.step b4)
      replace i9 := Lib.hid i9
      clear b4 o4 z0 z1 z2 KR
      obtain ⟨z0, z1, z2, -, -, -⟩ := blk3 S.out.hz
      by_cases h0 : k = 0
      · have KH := hasInt_any A9 L c9 rs a w4 i9.out (by omega)
        rw [decide_eq_true (hz.out.2 h0)] at KH
        have hB := Lib.hid S.out.low
        have hkb : (k == 0) = true := by rw [beq_iff_eq]; exact h0
        replace KH := Lib.hid KH
        replace h0 := Lib.hid h0
        clear S z0 z1 z2
        go_wp2_with (fail)
        refine KH.out.mono ?_
        rintro e _ ⟨rfl, rfl⟩
        go_wp2
        go_ret
        exact ⟨rfl, hB.out⟩
      · have hkb : (k == 0) = false := by rw [beq_eq_false_iff_ne]; exact h0
        obtain ⟨hok2, hst2⟩ := hnx.out h0
        have hTg : ∀ d os, Tng (grow (redrawn w4 d) os) (.agg #[.slice A1 t.us.length c1, .slice A2 t.bs.length c2, .slice A3 t.ns.length c3]) t := fun d os => S.out.ht.below (below_regrown w4 d os) (Nat.le_refl _)
        have KLq := fun d os => KL.out (grow (redrawn w4 d) os) (hTg d os)
        have KSq := fun d os => KS.out (grow (redrawn w4 d) os) (hTg d os)
        rw [hok2, hst2] at KSq
        have hno : ¬ a ∈ rs := fun hm => h0 (hz.out.1 hm)
        generalize lettersOf t a = y at *
        have y0 := fun d os => cell_regrown z0 d os
        have y1 := fun d os => cell_regrown z1 d os
        have y2 := fun d os => cell_regrown z2 d os
        have e1 : IntKind.i64.wrap (k - 1) = k - 1 := IntWalk.i64_in _ (by omega)
        have hke : (k - 1 == k - 1) = true := by simp
        replace KLq := Lib.hid KLq
        replace KSq := Lib.hid KSq
        replace hno := Lib.hid hno
        replace h0 := Lib.hid h0
        clear hok2 hst2 hTg
        go_upto_region 13 with (fail)
        refine wp_region_quiet_below (by kernel_rfl) (by kernel_rfl) ?_
        repeat (go_big_quiet_step (first | (go_at_call 14; exact Calls.regrown_of (KLq.out _ _)) | (go_at_call 34; exact Calls.regrown_of (KSq.out _ _))))
        refine wpQuiet_nil ?_
        intro _ hw'
        obtain ⟨pq, hw''⟩ := hw'
        have bq := below_regrown w4 pq.d pq.os
        have HBq := Lib.hid (S.out.low.trans (bq.mono S.out.low.size))
        have iq := i9.out.below bq (Nat.le_refl _)
        subst hw''
        clear y0 y1 y2 z0 z1 z2 bq S
        generalize grow (redrawn w4 pq.d) pq.os = W5 at *
        have KH := hasInt_any A9 L c9 rs a W5 iq (by omega)
        rw [decide_eq_false hno.out] at KH
        replace KH := Lib.hid KH
        clear iq
        go_wp2_with (fail)
        refine KH.out.mono ?_
        rintro e _ ⟨rfl, rfl⟩
        go_wp2
        go_ret
        exact ⟨rfl, HBq.out⟩
  · have hl' : 1048576 < n := by omega
    go_enter Try.func9, Try.ntmps9
    go_wp2
    go_ret
    exact ⟨rfl, Below.refl _ _⟩

set_option maxRecDepth 100000 in
theorem lifted (os : Os) (started : os.Started) (H : Type) (enc : TypeId × Value → H) :
    ReturnsInHanded {} Try.checked os 9 .any (Rows.fnStepsToRingSpec.pre6 enc Try.prog Try.f9 Rows.fnStepsToRingRow.domain false) (Rows.fnStepsToRingSpec.post enc Try.prog Try.f9 false true false false) := by
  refine returnsInHanded_of_change (C := Try.checked) own started (by kernel_rfl) Try.func9
    (ChangeSpec.witness6 (enc := enc) (C := Try.checked) false ⟨#[], #[.slice none 0 0], []⟩ 8 (by kernel_rfl) (by kernel_rfl) (by kernel_rfl) (by kernel_rfl)) ?_
  intro W base args ds gs before hval0 hW hcnd _
  have hval : ∀ (j : Nat) t v, Try.f9.params[j]? = some t → args[j]? = some v → Value.okWide Try.prog W .any base t v := hval0
  have hW' := hW
  obtain ⟨p, q, hA0, hV, rfl, hfz, hnd⟩ := hW
  have hA : DataW.TrodAll enc Try.prog W 0 (fun _ => true) true Try.f9.params.toList args.toList ds p := hA0
  rw [Try.params9] at hA hval
  obtain ⟨v0, vs0, d0, ds0, p0, q0, hargs, rfl, rfl, h0, r0⟩ := trodAll_cons hA
  obtain ⟨rfl, rfl, rfl⟩ := trodAll_nil r0
  obtain rfl : args = #[v0] := by cases args; simp_all
  obtain ⟨rfl, rfl⟩ := trodVars_none hV
  obtain ⟨a0, len0, cap0, rfl⟩ := okWide_slice Try.underlying22 (hval 0 22 v0 rfl rfl)
  have k0 := h0
  have lt0 : ∀ x ∈ p0, x.block < W.heap.size := by obtain ⟨m, hm⟩ := k0; exact DataW.trod_lt m _ _ _ hm
  obtain ⟨z0, s0, w0, m0⟩ : ∃ zs, Ints W .u8 a0 len0 cap0 zs ∧ (∀ n ∈ zs, (Lit.int .u8 n).wf = true) ∧ cap0 ≤ maxLen := by
    obtain ⟨fuel, hf⟩ := h0
    rcases open_ints Try.underlying22 Try.underlying5 (by kernel_rfl) hf with ⟨hcs, _⟩ | ⟨x, l, c, zs, hcs, _, hl, hm, hz, _, hcell, hwz⟩
    · simp [Value.cells] at hcs
      obtain ⟨rfl, rfl, rfl⟩ := hcs
      exact ⟨[], Ints.none_, by simp, Nat.zero_le _⟩
    · simp [Value.cells] at hcs
      obtain ⟨rfl, rfl, rfl⟩ := hcs
      exact ⟨_, Ints.of_row hl (by simpa using hz) hcell, fun n hn => hwz n (List.mem_of_mem_take hn), hm⟩
  clear hA0 hval0
  refine (walk W a0 len0 cap0 z0 s0 w0 m0).mono fun e W' ⟨he, bel⟩ => ?_
  subst he
  exact ⟨_, rfl, _, _, _, [], _, [], hW', trodAll_mk1 (shut_bool Try.underlying4 _), (trodAll_cons_mk (Below.trod laidOut (by kernel_rfl) (of_decide_eq_true (by kernel_rfl)) k0 bel lt0) trodAll_mk0), rfl, bel.frame _, fun h => by cases h⟩

theorem over : Rows.fnStepsToRingRow.holds Try.pinned (OpenSpec.ofChange Rows.fnStepsToRingSpec) :=
  OpenClaim.holds_of_wide 9 Try.f9 rfl rfl rfl rfl rfl rfl rfl ⟨rfl, rfl, rfl, rfl, rfl⟩ rfl rfl rfl rfl rfl (by kernel_rfl) Try.func9 (by kernel_rfl)
    (of_decide_eq_true (by kernel_rfl)) (by unfold Func.isWrapper; first | (rw [if_pos (by decide +kernel)]; kernel_rfl) | (rw [if_neg (by decide +kernel)]; exact ⟨rfl, rfl⟩))
    (fun os started H enc _ => lifted os started H enc)
theorem proved : Rows.FnStepsToRingSaid := over
end Go.Proofs.Ytfnpkmlgklameaa.fnStepsToRing
