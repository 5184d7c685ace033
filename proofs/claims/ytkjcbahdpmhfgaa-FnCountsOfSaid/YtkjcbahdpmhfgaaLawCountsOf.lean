/-
  FnCountsOf holds for every input: each number has its counts, they are such as may be, and those of one number more are greater. No condition.
-/
import Derived.Test.YtkjcbahdpmhfgaaRows
import Derived.Test.YtkjcbahdpmhfgaaDrawF
import Derived.Test.YtkjcbahdpmhfgaaMathB
import Derived.Test.YtkjcbahdpmhfgaaMarks
import Derived.Test.YtkjcbahdpmhfgaaC1e
import Derived.Lib.QuietBelow
import Derived.BigQuiet
namespace Go.Proofs.Ytkjcbahdpmhfgaa.fnCountsOf
open Go.ChangeShapes Go.WideShapes Go.ChangeAt Go.RowKit Go.Sort
open Go.ChangeMaps (open_string shut_string)

theorem own : ownKnob Try.prog.godebug = none := by kernel_rfl
theorem laidOut : laidOutB Try.prog = true := by kernel_rfl

set_option maxRecDepth 100000 in
set_option maxHeartbeats 20000000 in
theorem walk (w : World) (A : Option Addr) (n c : Nat) (xs : List Int) (h : Ints w .u8 A n c xs) (hwf : ∀ x ∈ xs, (Lit.int .u8 x).wf = true) (hc : c ≤ maxLen) :
    Calls Try.prog 4 #[.slice A n c] w fun e w' => e = .returned (.bool true) ∧ Below w.heap.size w w' := by
  have hn : n ≤ 9223372036854775807 := by have := h.le; unfold maxLen at hc; omega
  by_cases hl : n ≤ 1048576
  · have HD := Lib.hid (drawCountsOf_any A n c xs w h hl hwf hc)
    clear h hwf hc
    go_enter Try.func4, Try.ntmps4
    go_wp2_with (fail)
    refine HD.out.mono ?_
    rintro e w1 ⟨A1, n1, c1, bs, z, rfl, i1, f1, hn1, hz, hb⟩
    have hlb := i1.len
    replace hlb := Lib.hid hlb
    have hL := countsOf_len bs z
    have hL' := countsOf_len bs (z + 1)
    have hlb2 := hlb.out
    go_wp2_with (fail)
    refine (implCountsOf_any _ _ _ bs z _ i1 (by omega) f1 hz).mono ?_
    rintro e w2 ⟨v2, rfl, r2, b2⟩
    obtain ⟨A2, c2, rfl, i2⟩ := ints_of_own r2
    replace i1 := i1.below b2 (Nat.le_refl _)
    replace hb := hb.trans (b2.mono hb.size)
    clear r2 b2
    go_wp2_with (fail)
    refine (specCountsOf_any _ _ _ bs z _ i1 (by omega) f1 hz).mono ?_
    rintro e w3 ⟨v3, rfl, r3, b3⟩
    obtain ⟨A3, c3, rfl, i3⟩ := ints_of_own r3
    replace i1 := i1.below b3 (Nat.le_refl _)
    replace i2 := i2.below b3 (Nat.le_refl _)
    replace hb := hb.trans (b3.mono hb.size)
    clear r3 b3
    go_wp2_with (fail)
    refine (sameInts_any _ _ _ _ _ _ (countsOf bs z) (countsOf bs z) _ i2 i3 (by omega) (by omega)).mono ?_
    rintro e _ ⟨rfl, m3, rfl⟩
    rw [decide_eq_true rfl]
    replace i1 := i1.drewN m3
    replace i2 := i2.drewN m3
    replace hb := below_drewN hb m3
    generalize w3.drewN m3 = w4 at *
    clear i3
    cases hok : countsOk bs z
    · have hno := countsOf_no hok
      rw [hno] at i2 ⊢
      simp only [List.length_nil] at i2 ⊢
      replace hok := Lib.hid hok
      clear hL hno
      go_wp2_with (fail)
      refine (alive_any _).mono ?_
      rintro e w5 ⟨rfl, hb5⟩
      go_wp2
      go_ret
      exact ⟨rfl, hb.trans (hb5.mono hb.size)⟩
    · obtain ⟨hbo, hzr⟩ := (countsOk_iff bs z).1 hok
      have hbl := bases_len hbo
      have hso := sumOk_countsOf hok
      have hsv := sumVal_countsOf hok
      have hgr := greedy_countsOf hok
      have hf2 := (countsOf_fits bs z).fits
      have hlen := countsOf_length hok
      have hat := fun k hk => countsOf_getD hok (k := k) hk
      rw [hlb2] at hlen hbl
      rw [hlen] at i2 ⊢
      have hlc := i2.len
      replace hlen := Lib.hid hlen
      generalize countsOf bs z = cs at *
      replace hso := Lib.hid hso
      replace hsv := Lib.hid hsv
      replace hgr := Lib.hid hgr
      replace hok := Lib.hid hok
      replace hbo := Lib.hid hbo
      replace hat := Lib.hid hat
      replace hlc := Lib.hid hlc
      clear hL hlb2
      have hn10 : ((n1 : Int) == 0) = false := by rw [beq_eq_false_iff_ne]; omega
      go_wp2_with (fail)
      refine (implSumOf_any _ _ _ _ _ _ bs cs _ i1 i2 (by omega) (by omega) f1 hf2).mono ?_
      rintro e _ ⟨rfl, rfl⟩
      rw [hso.out, hsv.out]
      go_wp2_with (fail)
      refine (implCountsOf_any _ _ _ bs (z + 1) _ i1 (by omega) f1 (by omega)).mono ?_
      rintro e w5 ⟨v5, rfl, r5, b5⟩
      obtain ⟨A5, c5, rfl, i5⟩ := ints_of_own r5
      replace i1 := i1.below b5 (Nat.le_refl _)
      replace i2 := i2.below b5 (Nat.le_refl _)
      replace hb := hb.trans (b5.mono hb.size)
      clear r5 b5
      obtain ⟨b2, o2, rfl, hb2, hc2⟩ := i2.at_ (by omega)
      by_cases hmx : z = 999999
      · have hno : countsOf bs (z + 1) = [] := countsOf_no (by
          cases h : countsOk bs (z + 1)
          · rfl
          · have := ((countsOk_iff _ _).1 h).2; omega)
        rw [hno] at i5 ⊢
        simp only [List.length_nil] at i5 ⊢
        have hzb : (z == 999999) = true := by simp [hmx]
        have e0 : ((0 : Int) == (n1 : Int)) = false := by rw [beq_eq_false_iff_ne]; omega
        have e1 : ((0 : Int) != (n1 : Int)) = true := by rw [bne_iff_ne]; omega
        replace hmx := Lib.hid hmx
        clear hno hL' i5 hc2
        by_cases h1 : n1 = 1
        · subst h1
          go_wp2
          refine wp_loop_rounds 1 ?_
          rw [rounds_succ]
          go_wp2
          go_quiet (fail)
          go_wp2
          have HGr : ∀ d os, Calls Try.prog 22 #[.slice A1 1 c1, .slice (some ⟨b2, o2, none⟩) 1 c2] (grow (redrawn (w5.drewN nq) d) os) fun e w' => e = .returned (.bool true) ∧ Below (grow (redrawn (w5.drewN nq) d) os).heap.size (grow (redrawn (w5.drewN nq) d) os) w' := fun d os =>
            (implGreedyOk_any _ _ _ _ _ _ bs cs _ ((i1.drewN _).below (below_regrown (w5.drewN nq) d os) (Nat.le_refl _)) ((i2.drewN _).below (below_regrown (w5.drewN nq) d os) (Nat.le_refl _)) (by omega) (by omega) f1 hf2).mono (fun e w' ⟨he, m, hw⟩ => ⟨by rw [he, hgr.out], by rw [hw]; exact below_drewN (Below.refl _ _) m⟩)
          replace HGr := Lib.hid HGr
          clear i1 i2
          refine wp_region_quiet_below (by kernel_rfl) (by kernel_rfl) ?_
          repeat (go_big_quiet_step (first | (go_at_call 22; exact Calls.regrown_of (HGr.out _ _)) | (go_at_call 16; exact Calls.regrown_of (alive_any _))))
          refine wpQuiet_nil ?_
          intro _ hw'
          obtain ⟨pq, hw''⟩ := hw'
          have HBq := (below_drewN hb _).trans ((below_regrown (w5.drewN nq) pq.d pq.os).mono hb.size)
          subst hw''
          replace HBq := Lib.hid HBq
          go_wp2
          go_ret
          exact ⟨rfl, HBq.out⟩
        · have hk0 : decide ((0 : Int) < (n1 : Int) - 1) = true := decide_eq_true (by omega)
          have hk1 : (1 : Int) < n1 := by omega
          go_wp2
          refine wp_loop_rounds 1 ?_
          rw [rounds_succ]
          go_wp2
          go_quiet (fail)
          go_wp2
          have HGr : ∀ d os, Calls Try.prog 22 #[.slice A1 n1 c1, .slice (some ⟨b2, o2, none⟩) n1 c2] (grow (redrawn (w5.drewN nq) d) os) fun e w' => e = .returned (.bool true) ∧ Below (grow (redrawn (w5.drewN nq) d) os).heap.size (grow (redrawn (w5.drewN nq) d) os) w' := fun d os =>
            (implGreedyOk_any _ _ _ _ _ _ bs cs _ ((i1.drewN _).below (below_regrown (w5.drewN nq) d os) (Nat.le_refl _)) ((i2.drewN _).below (below_regrown (w5.drewN nq) d os) (Nat.le_refl _)) (by omega) (by omega) f1 hf2).mono (fun e w' ⟨he, m, hw⟩ => ⟨by rw [he, hgr.out], by rw [hw]; exact below_drewN (Below.refl _ _) m⟩)
          replace HGr := Lib.hid HGr
          clear i1 i2
          refine wp_region_quiet_below (by kernel_rfl) (by kernel_rfl) ?_
          repeat (go_big_quiet_step (first | (go_at_call 22; exact Calls.regrown_of (HGr.out _ _)) | (go_at_call 16; exact Calls.regrown_of (alive_any _))))
          refine wpQuiet_nil ?_
          intro _ hw'
          obtain ⟨pq, hw''⟩ := hw'
          have HBq := (below_drewN hb _).trans ((below_regrown (w5.drewN nq) pq.d pq.os).mono hb.size)
          subst hw''
          replace HBq := Lib.hid HBq
          go_wp2
          go_ret
          exact ⟨rfl, HBq.out⟩
      · have hok' : countsOk bs (z + 1) = true := (countsOk_iff _ _).2 ⟨hbo.out, by omega⟩
        have hlen' := countsOf_length hok'
        have hat' := fun k hk => countsOf_getD hok' (k := k) hk
        have hlb3 := hlb.out
        rw [hlb3] at hlen'
        rw [hlen'] at i5 ⊢
        have hnx := fun k hk => cnt_next (b := bs) (n := z) hbo.out (k := k) hk
        have hns : ∀ k, k < n1 → (countsOf bs (z + 1)).getD k 0 = cntN bs (z + 1) k := fun k hk => hat' k (by omega)
        have hcs : ∀ k, k < n1 → cs.getD k 0 = cntN bs z k := fun k hk => hat.out k (by omega)
        rw [hlb3] at hnx
        generalize countsOf bs (z + 1) = ns at *
        replace hlen' := Lib.hid hlen'
        replace hnx := Lib.hid hnx
        replace hns := Lib.hid hns
        replace hcs := Lib.hid hcs
        clear hat' hL' hlb3
        obtain ⟨b5, o5, rfl, hb5, hc5⟩ := i5.at_ (by omega)
        have hne : ((n1 : Int) == (n1 : Int)) = true := by simp
        go_wp2
        go_loopw [9] (fun i wr => ∃ r m : Nat, r < n1 ∧ i = .int .i64 r ∧ (∀ j, r < j → j < n1 → cntN bs (z + 1) j = cntN bs z j) ∧ wr = w5.drewN m) (fun i _ => (intOf i).toNat)
        case atStart => exact ⟨n1 - 1, 0, by omega, by simp; omega, fun j h1 h2 => by omega, rfl⟩
        case round =>
          obtain ⟨r, m, hr, rfl, hjs, rfl⟩ := hrel
          have x2 := hc2 r hr
          have x5 := hc5 r hr
          rw [hcs.out r hr] at x2
          rw [hns.out r hr] at x5
          have HN := hnx.out r hr hjs
          by_cases hgo : 0 < r ∧ cntN bs (z + 1) r = cntN bs z r
          · have hj2 : ∀ j, r - 1 < j → j < n1 → cntN bs (z + 1) j = cntN bs z j := fun j h1 h2 => by
              by_cases e : j = r
              · rw [e]; exact hgo.2
              · exact hjs j (by omega) h2
            replace hj2 := Lib.hid hj2
            obtain ⟨hr0, he⟩ := hgo
            have heb : (cntN bs (z + 1) r == cntN bs z r) = true := by simp [he]
            have hr0b : decide (0 < r) = true := decide_eq_true hr0
            generalize cntN bs (z + 1) r = p1 at *
            generalize cntN bs z r = p2 at *
            replace he := Lib.hid he
            clear hjs HN hc2 hc5
            go_wp2
            go_quiet (fail)
            go_wp2
            go_roundw
            case rel => exact ⟨r - 1, m + nq, by omega, by simp; omega, hj2.out, by first | rfl | exact World.drewN_drewN _ _ _⟩
            case measure => simp [intOf]; omega
          · have hlt3 : cntN bs z r < cntN bs (z + 1) r := HN (by
              by_cases e : r = 0
              · exact .inl e
              · exact .inr fun e2 => hgo ⟨by omega, e2⟩)
            have hltb : decide (cntN bs z r < cntN bs (z + 1) r) = true := decide_eq_true hlt3
            have hzb : (z == 999999) = false := by simp [hmx]
            have e1 : ((n1 : Int) != (n1 : Int)) = false := by simp
            by_cases hr0 : r = 0
            · subst hr0
              simp only [Nat.add_zero] at x2 x5
              generalize cntN bs (z + 1) 0 = p1 at *
              generalize cntN bs z 0 = p2 at *
              clear hjs HN hc2 hc5 hgo
              go_wp2
              go_quiet (fail)
              go_wp2
              have x2' := fun d os => cell_regrown (w := w5.drewN (m + nq)) x2 d os
              have x5' := fun d os => cell_regrown (w := w5.drewN (m + nq)) x5 d os
              have HGr : ∀ d os, Calls Try.prog 22 #[.slice A1 n1 c1, .slice (some ⟨b2, o2, none⟩) n1 c2] (grow (redrawn ((w5.drewN m).drewN nq) d) os) fun e w' => e = .returned (.bool true) ∧ Below (grow (redrawn ((w5.drewN m).drewN nq) d) os).heap.size (grow (redrawn ((w5.drewN m).drewN nq) d) os) w' := fun d os =>
                (implGreedyOk_any _ _ _ _ _ _ bs cs _ (((i1.drewN m).drewN nq).below (below_regrown ((w5.drewN m).drewN nq) d os) (Nat.le_refl _)) (((i2.drewN m).drewN nq).below (below_regrown ((w5.drewN m).drewN nq) d os) (Nat.le_refl _)) (by omega) (by omega) f1 hf2).mono (fun e w' ⟨he, m, hw⟩ => ⟨by rw [he, hgr.out], by rw [hw]; exact below_drewN (Below.refl _ _) m⟩)
              replace HGr := Lib.hid HGr
              clear i1 i2
              refine wp_region_quiet_below (by kernel_rfl) (by kernel_rfl) ?_
              repeat (go_big_quiet_step (first | (go_at_call 22; exact Calls.regrown_of (HGr.out _ _)) | (go_at_call 16; exact Calls.regrown_of (alive_any _))))
              refine wpQuiet_nil ?_
              intro _ hw'
              obtain ⟨pq, hw''⟩ := hw'
              have HBq := (below_drewN (below_drewN hb m) nq).trans ((below_regrown ((w5.drewN m).drewN nq) pq.d pq.os).mono hb.size)
              subst hw''
              replace HBq := Lib.hid HBq
              go_wp2
              go_ret
              exact ⟨rfl, HBq.out⟩
            · have heb : (cntN bs (z + 1) r == cntN bs z r) = false := by rw [beq_eq_false_iff_ne]; exact fun e2 => hgo ⟨by omega, e2⟩
              have hr0b : decide (0 < r) = true := decide_eq_true (by omega)
              have hr0c : 0 < r := by omega
              generalize cntN bs (z + 1) r = p1 at *
              generalize cntN bs z r = p2 at *
              clear hjs HN hc2 hc5 hgo
              go_wp2
              go_quiet (fail)
              go_wp2
              have x2' := fun d os => cell_regrown (w := w5.drewN (m + nq)) x2 d os
              have x5' := fun d os => cell_regrown (w := w5.drewN (m + nq)) x5 d os
              have HGr : ∀ d os, Calls Try.prog 22 #[.slice A1 n1 c1, .slice (some ⟨b2, o2, none⟩) n1 c2] (grow (redrawn ((w5.drewN m).drewN nq) d) os) fun e w' => e = .returned (.bool true) ∧ Below (grow (redrawn ((w5.drewN m).drewN nq) d) os).heap.size (grow (redrawn ((w5.drewN m).drewN nq) d) os) w' := fun d os =>
                (implGreedyOk_any _ _ _ _ _ _ bs cs _ (((i1.drewN m).drewN nq).below (below_regrown ((w5.drewN m).drewN nq) d os) (Nat.le_refl _)) (((i2.drewN m).drewN nq).below (below_regrown ((w5.drewN m).drewN nq) d os) (Nat.le_refl _)) (by omega) (by omega) f1 hf2).mono (fun e w' ⟨he, m, hw⟩ => ⟨by rw [he, hgr.out], by rw [hw]; exact below_drewN (Below.refl _ _) m⟩)
              replace HGr := Lib.hid HGr
              clear i1 i2
              refine wp_region_quiet_below (by kernel_rfl) (by kernel_rfl) ?_
              repeat (go_big_quiet_step (first | (go_at_call 22; exact Calls.regrown_of (HGr.out _ _)) | (go_at_call 16; exact Calls.regrown_of (alive_any _))))
              refine wpQuiet_nil ?_
              intro _ hw'
              obtain ⟨pq, hw''⟩ := hw'
              have HBq := (below_drewN (below_drewN hb m) nq).trans ((below_regrown ((w5.drewN m).drewN nq) pq.d pq.os).mono hb.size)
              subst hw''
              replace HBq := Lib.hid HBq
              go_wp2
              go_ret
              exact ⟨rfl, HBq.out⟩
  · have hl' : 1048576 < n := by omega
    go_enter Try.func4, Try.ntmps4
    go_wp2
    go_ret
    exact ⟨rfl, Below.refl _ _⟩

set_option maxRecDepth 100000 in
theorem lifted (os : Os) (started : os.Started) (H : Type) (enc : TypeId × Value → H) :
    ReturnsInHanded {} Try.checked os 4 .any (Rows.fnCountsOfSpec.pre6 enc Try.prog Try.f4 Rows.fnCountsOfRow.domain false) (Rows.fnCountsOfSpec.post enc Try.prog Try.f4 false true false false) := by
  refine returnsInHanded_of_change (C := Try.checked) own started (by kernel_rfl) Try.func4
    (ChangeSpec.witness6 (enc := enc) (C := Try.checked) false ⟨#[], #[.slice none 0 0], []⟩ 8 (by kernel_rfl) (by kernel_rfl) (by kernel_rfl) (by kernel_rfl)) ?_
  intro W base args ds gs before hval0 hW hcnd _
  have hval : ∀ (j : Nat) t v, Try.f4.params[j]? = some t → args[j]? = some v → Value.okWide Try.prog W .any base t v := hval0
  have hW' := hW
  obtain ⟨p, q, hA0, hV, rfl, hfz, hnd⟩ := hW
  have hA : DataW.TrodAll enc Try.prog W 0 (fun _ => true) true Try.f4.params.toList args.toList ds p := hA0
  rw [Try.params4] at hA hval
  obtain ⟨v0, vs0, d0, ds0, p0, q0, hargs, rfl, rfl, h0, r0⟩ := trodAll_cons hA
  obtain ⟨rfl, rfl, rfl⟩ := trodAll_nil r0
  obtain rfl : args = #[v0] := by cases args; simp_all
  obtain ⟨rfl, rfl⟩ := trodVars_none hV
  obtain ⟨a0, len0, cap0, rfl⟩ := okWide_slice Try.underlying22 (hval 0 22 v0 rfl rfl)
  have k0 := h0
  have lt0 : ∀ x ∈ p0, x.block < W.heap.size := by obtain ⟨m, hm⟩ := k0; exact DataW.trod_lt m _ _ _ hm
  obtain ⟨z0, s0, w0, m0⟩ : ∃ zs, Ints W .u8 a0 len0 cap0 zs ∧ (∀ n ∈ zs, (Lit.int .u8 n).wf = true) ∧ cap0 ≤ maxLen := by
    obtain ⟨fuel, hf⟩ := h0
    rcases open_ints Try.underlying22 Try.underlying5 (by kernel_rfl) hf with ⟨hcs, _⟩ | ⟨x, l, c, zs, hcs, _, hl, hm, hz, _, hcell, hwz⟩
    · simp [Value.cells] at hcs
      obtain ⟨rfl, rfl, rfl⟩ := hcs
      exact ⟨[], Ints.none_, by simp, Nat.zero_le _⟩
    · simp [Value.cells] at hcs
      obtain ⟨rfl, rfl, rfl⟩ := hcs
      exact ⟨_, Ints.of_row hl (by simpa using hz) hcell, fun n hn => hwz n (List.mem_of_mem_take hn), hm⟩
  clear hA0 hval0
  refine (walk W a0 len0 cap0 z0 s0 w0 m0).mono fun e W' ⟨he, bel⟩ => ?_
  subst he
  exact ⟨_, rfl, _, _, _, [], _, [], hW', trodAll_mk1 (shut_bool Try.underlying4 _), (trodAll_cons_mk (Below.trod laidOut (by kernel_rfl) (of_decide_eq_true (by kernel_rfl)) k0 bel lt0) trodAll_mk0), rfl, bel.frame _, fun h => by cases h⟩

theorem over : Rows.fnCountsOfRow.holds Try.pinned (OpenSpec.ofChange Rows.fnCountsOfSpec) :=
  OpenClaim.holds_of_wide 4 Try.f4 rfl rfl rfl rfl rfl rfl rfl ⟨rfl, rfl, rfl, rfl, rfl⟩ rfl rfl rfl rfl rfl (by kernel_rfl) Try.func4 (by kernel_rfl)
    (of_decide_eq_true (by kernel_rfl)) (by unfold Func.isWrapper; first | (rw [if_pos (by decide +kernel)]; kernel_rfl) | (rw [if_neg (by decide +kernel)]; exact ⟨rfl, rfl⟩))
    (fun os started H enc _ => lifted os started H enc)
theorem proved : Rows.FnCountsOfSaid := over
end Go.Proofs.Ytkjcbahdpmhfgaa.fnCountsOf
