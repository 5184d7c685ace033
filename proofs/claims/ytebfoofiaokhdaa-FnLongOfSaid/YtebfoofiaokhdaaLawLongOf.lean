/-
  FnLongOf holds for every input: the drawn tongue and number are answered by LongOf as by its model; it is the number of words, and of the second base and 1 it is 2. No condition.
-/
import Derived.Test.YtebfoofiaokhdaaRows
import Derived.Test.YtebfoofiaokhdaaGD
import Derived.Test.YtebfoofiaokhdaaP3e
import Derived.Test.YtebfoofiaokhdaaGN
import Derived.Lib.QuietBelow
namespace Go.Proofs.Ytebfoofiaokhdaa.fnLongOf
open Go.ChangeShapes Go.WideShapes Go.ChangeAt Go.RowKit Go.Sort
open Go.ChangeMaps (open_string shut_string)

theorem own : ownKnob Try.prog.godebug = none := by kernel_rfl
theorem laidOut : laidOutB Try.prog = true := by kernel_rfl

set_option maxRecDepth 100000 in
set_option maxHeartbeats 8000000 in
theorem walk (w : World) (A : Option Addr) (n c : Nat) (xs : List Int) (h : Ints w .u8 A n c xs) (hwf : ∀ x ∈ xs, (Lit.int .u8 x).wf = true) (hc : c ≤ maxLen) :
    Calls Try.prog 11 #[.slice A n c] w fun e w' => e = .returned (.bool true) ∧ Below w.heap.size w w' := by
  have hn : n ≤ 9223372036854775807 := by have := h.le; unfold maxLen at hc; omega
  by_cases hl : n ≤ 1048576
  · have HD := Lib.hid (drawLongOf_any A n c xs w h hl hwf hc)
    clear h hwf hc
    go_enter Try.func11, Try.ntmps11
    go_wp2_with (fail)
    refine HD.out.mono ?_
    rintro e w1 ⟨v, t, a, rfl, ho, hsm, ha, hb⟩
    obtain ⟨A1, c1, A2, c2, A3, c3, rfl⟩ := ho.shape
    have hf := hsm.fine (by omega)
    have hB := hb.alloc hb.size (.cells #[.slice A1 t.us.length c1, .slice A2 t.bs.length c2, .slice A3 t.ns.length c3] 26)
    have hZ := Blk.new w1 26 #[.slice A1 t.us.length c1, .slice A2 t.bs.length c2, .slice A3 t.ns.length c3]
    have hT := ho.tng.below ((Below.refl _ _).alloc (Nat.le_refl _) (.cells #[.slice A1 t.us.length c1, .slice A2 t.bs.length c2, .slice A3 t.ns.length c3] 26)) (Nat.le_refl _)
    have hfb := hf.bs
    replace hB := Lib.hid hB
    replace hZ := Lib.hid hZ
    replace hT := Lib.hid hT
    replace hf := Lib.hid hf
    clear ho hsm hb HD
    go_upto_region 4 with (fail)
    generalize w1.alloc (.cells #[.slice A1 t.us.length c1, .slice A2 t.bs.length c2, .slice A3 t.ns.length c3] 26) = W at *
    obtain ⟨z0, z1, z2, -, -, -⟩ := blk3 hZ.out
    have K1 := Lib.hid (implLongOf_any _ t a W hT.out hf.out (by omega))
    go_wp2_with (fail)
    refine K1.out.mono ?_
    rintro e w2 ⟨rfl, b2⟩
    replace hB := Lib.hid (hB.out.trans (b2.mono hB.out.size))
    replace hZ := Lib.hid (hZ.out.below b2 hZ.out.lt)
    replace hT := Lib.hid (hT.out.below b2 (Nat.le_refl _))
    have K2 := Lib.hid (specLongOf_any _ t a w2 hT.out hf.out (by omega))
    clear b2 z0 z1 z2 K1
    obtain ⟨z0, z1, z2, -, -, -⟩ := blk3 hZ.out
    go_wp2_with (fail)
    refine K2.out.mono ?_
    rintro e w3 ⟨rfl, b3⟩
    replace hB := Lib.hid (hB.out.trans (b3.mono hB.out.size))
    replace hZ := Lib.hid (hZ.out.below b3 hZ.out.lt)
    replace hT := Lib.hid (hT.out.below b3 (Nat.le_refl _))
    clear b3 z0 z1 z2 K2
    obtain ⟨z0, z1, z2, -, -, -⟩ := blk3 hZ.out
    have hne : (longOf t a != longOf t a) = false := by simp
    cases hnb : namedB t a
    · have hg := longOf_no hnb
      rw [hg] at hne ⊢
      replace hg := Lib.hid hg
      replace hnb := Lib.hid hnb
      go_wp2_with (fail)
      refine (alive_any w3).mono ?_
      rintro e w9 ⟨rfl, b9⟩
      have hB9 := Lib.hid (hB.out.trans (b9.mono hB.out.size))
      clear b9
      go_wp2
      go_ret
      exact ⟨rfl, hB9.out⟩
    · have hg := longOf_yes hnb
      have hok := (named_ok hnb).1
      have hln := nameOf_len t a
      have K4 := implNameOf_any _ t a w3 hT.out hf.out (by omega)
      rw [hnb] at K4
      rw [hg] at hne ⊢
      have hs := ok_shape hok
      have hbl := bases_len hs.bs
      have hul := hs.us
      have htw := hs.two
      have hlt2 := long_two hok
      generalize nameOf t a = ws at *
      generalize hwl : ws.length = L at *
      replace hwl := Lib.hid hwl
      have hL0 : ¬ (L : Int) < 0 := by omega
      have hLL : ((L : Int) == (L : Int)) = true := by simp
      replace K4 := Lib.hid K4
      replace hg := Lib.hid hg
      replace hnb := Lib.hid hnb
      replace htw := Lib.hid htw
      replace hlt2 := Lib.hid hlt2
      replace hok := Lib.hid hok
      clear hs
      go_wp2_with (fail)
      refine K4.out.mono ?_
      rintro e w4 ⟨v4, rfl, o4, b4⟩
      obtain ⟨B4, e4, rfl, -⟩ := o4.strs
      rw [hwl.out]
      replace hB := Lib.hid (hB.out.trans (b4.mono hB.out.size))
      replace hZ := Lib.hid (hZ.out.below b4 hZ.out.lt)
      replace hT := Lib.hid (hT.out.below b4 (Nat.le_refl _))
      clear b4 z0 z1 z2 K4 o4
      obtain ⟨z0, z1, z2, -, -, -⟩ := blk3 hZ.out
      have hTg : ∀ d os, Tng (grow (redrawn w4 d) os) (.agg #[.slice A1 t.us.length c1, .slice A2 t.bs.length c2, .slice A3 t.ns.length c3]) t := fun d os => hT.out.below (below_regrown w4 d os) (Nat.le_refl _)
      replace hTg := Lib.hid hTg
      have y0 := fun d os => cell_regrown z0 d os
      have y1 := fun d os => cell_regrown z1 d os
      have y2 := fun d os => cell_regrown z2 d os
      go_upto_region 10 with (fail)
      by_cases h2 : t.bs.length < 2
      · have hd : decide ((t.bs.length : Int) < 2) = true := decide_eq_true (by omega)
        refine wp_region_quiet_below (by kernel_rfl) (by kernel_rfl) ?_
        repeat (go_big_quiet_step (fail))
        refine wpQuiet_nil ?_
        intro _ hw'
        obtain ⟨pq, hw''⟩ := hw'
        have HBq := hB.out.trans ((below_regrown w4 pq.d pq.os).mono hB.out.size)
        subst hw''
        replace HBq := Lib.hid HBq
        clear y0 y1 y2 z0 z1 z2
        go_wp2
        go_ret
        exact ⟨rfl, HBq.out⟩
      · have h2' : 2 ≤ t.bs.length := by omega
        have hd : decide ((t.bs.length : Int) < 2) = false := decide_eq_false (by omega)
        have hp := htw.out h2'
        have hlt := hlt2.out h2'
        obtain ⟨_, _, _, _, _, _, ev, -, I2, -⟩ := hT.out.ex
        cases ev
        obtain ⟨b, o, rfl, -, hc⟩ := I2.at_ (by omega)
        have k1 := hc 1 (by omega)
        have hc2 : 3 ≤ t.bs.length → w4.cell? ⟨b, o + 2, none⟩ = some (.int .i64 (t.bs.getD 2 0)) := fun h => hc 2 (by omega)
        have hl1 : 1 < t.bs.length := by omega
        generalize t.bs.getD 1 0 = p at *
        have p1 : 2 ≤ p ∧ p ≤ 21 := by omega
        obtain ⟨p2, p3⟩ := p1
        have hpd : decide (p < 2) = false := decide_eq_false (by omega)
        have KL := fun d os => implLongOf_any _ t (p + 1) (grow (redrawn w4 d) os) (hTg.out d os) hf.out (by omega)
        generalize longOf t (p + 1) = Lv at *
        have u1 := fun d os => cell_regrown k1 d os
        have hw1 : IntKind.i64.wrap (p + 1) = p + 1 := IntWalk.i64_in _ (by omega)
        replace KL := Lib.hid KL
        replace hp := Lib.hid hp
        replace hc2 := Lib.hid hc2
        clear hc I2 k1
        by_cases hv : Lv = 2
        · subst hv
          clear hlt
          refine wp_region_quiet_below (by kernel_rfl) (by kernel_rfl) ?_
          repeat (go_big_quiet_step (first | (go_at_call 20; exact Calls.regrown_of (KL.out _ _))))
          refine wpQuiet_nil ?_
          intro _ hw'
          obtain ⟨pq, hw''⟩ := hw'
          have HBq := hB.out.trans ((below_regrown w4 pq.d pq.os).mono hB.out.size)
          subst hw''
          replace HBq := Lib.hid HBq
          clear y0 y1 y2 z0 z1 z2 u1
          go_wp2
          go_ret
          exact ⟨rfl, HBq.out⟩
        · obtain ⟨h3, hq⟩ : 3 ≤ t.bs.length ∧ t.bs.getD 2 0 = p + 1 := by
            rcases hlt with h | h
            · exact h
            · exact absurd h hv
          have k2 := hc2.out h3
          rw [hq] at k2
          have u2 := fun d os => cell_regrown k2 d os
          have hvb : (Lv == 2) = false := by rw [beq_eq_false_iff_ne]; exact hv
          have hd3 : decide (2 < (t.bs.length : Int)) = true := decide_eq_true (by omega)
          have hl2 : 2 < t.bs.length := by omega
          have hqe : ((p + 1) == (p + 1)) = true := by simp
          replace hq := Lib.hid hq
          replace hv := Lib.hid hv
          clear hlt k2
          refine wp_region_quiet_below (by kernel_rfl) (by kernel_rfl) ?_
          repeat (go_big_quiet_step (first | (go_at_call 20; exact Calls.regrown_of (KL.out _ _))))
          refine wpQuiet_nil ?_
          intro _ hw'
          obtain ⟨pq, hw''⟩ := hw'
          have HBq := hB.out.trans ((below_regrown w4 pq.d pq.os).mono hB.out.size)
          subst hw''
          replace HBq := Lib.hid HBq
          clear y0 y1 y2 z0 z1 z2 u1 u2
          go_wp2
          go_ret
          exact ⟨rfl, HBq.out⟩
  · have hl' : 1048576 < n := by omega
    go_enter Try.func11, Try.ntmps11
    go_wp2
    go_ret
    exact ⟨rfl, Below.refl _ _⟩

set_option maxRecDepth 100000 in
theorem lifted (os : Os) (started : os.Started) (H : Type) (enc : TypeId × Value → H) :
    ReturnsInHanded {} Try.checked os 11 .any (Rows.fnLongOfSpec.pre6 enc Try.prog Try.f11 Rows.fnLongOfRow.domain false) (Rows.fnLongOfSpec.post enc Try.prog Try.f11 false true false false) := by
  refine returnsInHanded_of_change (C := Try.checked) own started (by kernel_rfl) Try.func11
    (ChangeSpec.witness6 (enc := enc) (C := Try.checked) false ⟨#[], #[.slice none 0 0], []⟩ 8 (by kernel_rfl) (by kernel_rfl) (by kernel_rfl) (by kernel_rfl)) ?_
  intro W base args ds gs before hval0 hW hcnd _
  have hval : ∀ (j : Nat) t v, Try.f11.params[j]? = some t → args[j]? = some v → Value.okWide Try.prog W .any base t v := hval0
  have hW' := hW
  obtain ⟨p, q, hA0, hV, rfl, hfz, hnd⟩ := hW
  have hA : DataW.TrodAll enc Try.prog W 0 (fun _ => true) true Try.f11.params.toList args.toList ds p := hA0
  rw [Try.params11] at hA hval
  obtain ⟨v0, vs0, d0, ds0, p0, q0, hargs, rfl, rfl, h0, r0⟩ := trodAll_cons hA
  obtain ⟨rfl, rfl, rfl⟩ := trodAll_nil r0
  obtain rfl : args = #[v0] := by cases args; simp_all
  obtain ⟨rfl, rfl⟩ := trodVars_none hV
  obtain ⟨a0, len0, cap0, rfl⟩ := okWide_slice Try.underlying22 (hval 0 22 v0 rfl rfl)
  have k0 := h0
  have lt0 : ∀ x ∈ p0, x.block < W.heap.size := by obtain ⟨m, hm⟩ := k0; exact DataW.trod_lt m _ _ _ hm
  obtain ⟨z0, s0, w0, m0⟩ : ∃ zs, Ints W .u8 a0 len0 cap0 zs ∧ (∀ n ∈ zs, (Lit.int .u8 n).wf = true) ∧ cap0 ≤ maxLen := by
    obtain ⟨fuel, hf⟩ := h0
    rcases open_ints Try.underlying22 Try.underlying5 (by kernel_rfl) hf with ⟨hcs, _⟩ | ⟨x, l, c, zs, hcs, _, hl, hm, hz, _, hcell, hwz⟩
    · simp [Value.cells] at hcs
      obtain ⟨rfl, rfl, rfl⟩ := hcs
      exact ⟨[], Ints.none_, by simp, Nat.zero_le _⟩
    · simp [Value.cells] at hcs
      obtain ⟨rfl, rfl, rfl⟩ := hcs
      exact ⟨_, Ints.of_row hl (by simpa using hz) hcell, fun n hn => hwz n (List.mem_of_mem_take hn), hm⟩
  clear hA0 hval0
  refine (walk W a0 len0 cap0 z0 s0 w0 m0).mono fun e W' ⟨he, bel⟩ => ?_
  subst he
  exact ⟨_, rfl, _, _, _, [], _, [], hW', trodAll_mk1 (shut_bool Try.underlying4 _), (trodAll_cons_mk (Below.trod laidOut (by kernel_rfl) (of_decide_eq_true (by kernel_rfl)) k0 bel lt0) trodAll_mk0), rfl, bel.frame _, fun h => by cases h⟩

theorem over : Rows.fnLongOfRow.holds Try.pinned (OpenSpec.ofChange Rows.fnLongOfSpec) :=
  OpenClaim.holds_of_wide 11 Try.f11 rfl rfl rfl rfl rfl rfl rfl ⟨rfl, rfl, rfl, rfl, rfl⟩ rfl rfl rfl rfl rfl (by kernel_rfl) Try.func11 (by kernel_rfl)
    (of_decide_eq_true (by kernel_rfl)) (by unfold Func.isWrapper; first | (rw [if_pos (by decide +kernel)]; kernel_rfl) | (rw [if_neg (by decide +kernel)]; exact ⟨rfl, rfl⟩))
    (fun os started H enc _ => lifted os started H enc)
theorem proved : Rows.FnLongOfSaid := over
end Go.Proofs.Ytebfoofiaokhdaa.fnLongOf
