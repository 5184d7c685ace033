/-
  FnSpokenOf holds for every input: the drawn tongue and text are answered by SpokenOf as by its model; there is one text for each run, and each begins with the text of how often. No condition.
-/
import Derived.Lib.QuietBelow
import Derived.Test.YtfcjhelhhefkkaaRows
import Derived.Test.YtfcjhelhhefkkaaGA
import Derived.Test.YtfcjhelhhefkkaaDrawPS
import Derived.Test.YtfcjhelhhefkkaaT8
import Derived.Test.YtfcjhelhhefkkaaS7
import Derived.Test.YtfcjhelhhefkkaaGN
namespace Go.Proofs.Ytfcjhelhhefkkaa.fnSpokenOf
open Go.ChangeShapes Go.WideShapes Go.ChangeAt Go.RowKit Go.Sort
open Go.ChangeMaps (open_string shut_string)

theorem own : ownKnob Try.prog.godebug = none := by kernel_rfl
theorem laidOut : laidOutB Try.prog = true := by kernel_rfl

set_option maxRecDepth 100000 in
set_option maxHeartbeats 8000000 in
theorem walk (w : World) (A : Option Addr) (n c : Nat) (xs : List Int) (h : Ints w .u8 A n c xs) (hwf : ∀ x ∈ xs, (Lit.int .u8 x).wf = true) (hc : c ≤ maxLen) :
    Calls Try.prog 9 #[.slice A n c] w fun e w' => e = .returned (.bool true) ∧ Below w.heap.size w w' := by
  have hn : n ≤ 9223372036854775807 := by have := h.le; unfold maxLen at hc; omega
  by_cases hl : n ≤ 1048576
  · have HD := Lib.hid (drawSpokenOf_any A n c xs w h hl hwf hc)
    clear h hwf hc
    go_enter Try.func9, Try.ntmps9
    go_wp2_with (fail)
    refine HD.out.mono ?_
    rintro e w1 ⟨v, t, s, rfl, ho, hsm, hs, hb⟩
    have hB := Lib.hid hb
    clear hb HD
    obtain ⟨A1, c1, A2, c2, A3, c3, rfl⟩ := ho.shape
    have hf := hsm.fine (by omega)
    replace hB := Lib.hid (hB.out.alloc hB.out.size (.cells #[.slice A1 t.us.length c1, .slice A2 t.bs.length c2, .slice A3 t.ns.length c3] 43))
    have hZ := Blk.new w1 43 #[.slice A1 t.us.length c1, .slice A2 t.bs.length c2, .slice A3 t.ns.length c3]
    have hT := ho.tng.below ((Below.refl _ _).alloc (Nat.le_refl _) (.cells #[.slice A1 t.us.length c1, .slice A2 t.bs.length c2, .slice A3 t.ns.length c3] 43)) (Nat.le_refl _)
    replace hZ := Lib.hid hZ
    replace hT := Lib.hid hT
    replace hf := Lib.hid hf
    clear ho hsm
    go_upto_region 4 with (fail)
    generalize w1.alloc (.cells #[.slice A1 t.us.length c1, .slice A2 t.bs.length c2, .slice A3 t.ns.length c3] 43) = W at *
    have hZg := Lib.hid (fun V (b : Below W.heap.size W V) => blk3 (hZ.out.below b hZ.out.lt))
    have hTg := Lib.hid (fun V (b : Below W.heap.size W V) => hT.out.below b (Nat.le_refl _))
    obtain ⟨z0, z1, z2, -, -, -⟩ := hZg.out W (Below.refl _ _)
    have K1 := Lib.hid (implSpokenOf_any _ t s W hT.out hf.out (by omega))
    have hl60 := spokenL_len t (tl s)
    have hrow0 : Hid (spokenL t (tl s) ≠ [] → spokenL t (tl s) = (runsL (tl s)).map (spk t)) := fun h => by
      unfold spokenL spokenR at h ⊢
      split
      · rfl
      · rename_i hh
        rw [if_neg hh] at h
        exact absurd rfl h
    have KS := Lib.hid (fun V (b : Below W.heap.size W V) => specSpokenOf_any _ t s V (hTg.out V b) hf.out (by omega))
    have KR := Lib.hid (fun V => specRunsOf_any s V (by omega))
    have hq60 := runsL_len' (tl s)
    have hq9 := Lib.hid (fun x (h : x ∈ runsL (tl s)) => runsL_small h)
    generalize spokenL t (tl s) = ws at *
    generalize runsL (tl s) = q at *
    have cs := run_cells
    go_wp2_with (fail)
    refine K1.out.mono ?_
    rintro e w2 ⟨v5, rfl, o5, b2⟩
    obtain ⟨A5, c5, rfl, s5⟩ := o5.strs
    have hW2 := Lib.hid b2
    replace s5 := Lib.hid s5
    clear o5 b2 K1 z0 z1 z2
    obtain ⟨z0, z1, z2, -, -, -⟩ := hZg.out w2 hW2.out
    go_wp2_with (fail)
    refine (KS.out w2 hW2.out).mono ?_
    rintro e w3 ⟨v6, rfl, o6, b3⟩
    obtain ⟨A6, c6, rfl, s6⟩ := o6.strs
    have KE := sameTexts_any A5 A6 _ c5 _ c6 _ _ w3 (s5.out.below b3 (Nat.le_refl _)) s6 (by omega) (by omega)
    rw [decide_eq_true rfl] at KE
    replace KE := Lib.hid KE
    have hW3 := Lib.hid (hW2.out.trans (b3.mono hW2.out.size))
    replace s5 := Lib.hid (s5.out.below b3 (Nat.le_refl _))
    clear o6 b3 s6 z0 z1 z2 KS hW2
    go_wp2_with (fail)
    refine KE.out.mono ?_
    rintro e _ ⟨rfl, m, rfl⟩
    have hW4 := Lib.hid (below_drewN hW3.out m)
    replace s5 := Lib.hid (s5.out.drewN m)
    generalize w3.drewN m = w4 at *
    clear KE hW3
    replace hB := Lib.hid (hB.out.trans (hW4.out.mono hB.out.size))
    by_cases hws : ws = []
    · have hl0 : ((ws.length : Int) == 0) = true := by rw [hws]; rfl
      replace hws := Lib.hid hws
      go_wp2_with (fail)
      refine (alive_any _).mono ?_
      rintro e w9 ⟨rfl, b⟩
      replace hB := Lib.hid (hB.out.trans (b.mono hB.out.size))
      clear b
      go_wp2
      go_ret
      exact ⟨rfl, hB.out⟩
    · have hlp : 0 < ws.length := List.length_pos_iff.2 hws
      have hl0 : ((ws.length : Int) == 0) = false := by rw [beq_eq_false_iff_ne]; omega
      have hmap := hrow0.out hws
      have hwl : ws.length = q.length := by rw [hmap, List.length_map]
      replace hws := Lib.hid hws
      replace hmap := Lib.hid hmap
      go_wp2_with (fail)
      refine (KR.out w4).mono ?_
      rintro e w5 ⟨v7, rfl, o7, b5⟩
      obtain ⟨A7, c7, rfl, r7⟩ := o7.runs
      replace hB := Lib.hid (hB.out.trans (b5.mono hB.out.size))
      have hW5 := Lib.hid (hW4.out.trans (b5.mono hW4.out.size))
      replace s5 := Lib.hid (s5.out.below b5 (Nat.le_refl _))
      replace r7 := Lib.hid r7
      clear o7 b5 KR hW4
      rw [hwl] at s5
      (try rw [hwl])
      replace hwl := Lib.hid hwl
      have hlq : ((q.length : Int) == (q.length : Int)) = true := by simp
      go_wp2
      go_loopw [7] (fun s7 wr => ∃ k : Nat, k ≤ q.length ∧ s7 = .int .i64 k ∧ Below w5.heap.size w5 wr) (fun s7 _ => q.length - (intOf s7).toNat)
      case atStart => exact ⟨0, Nat.zero_le _, rfl, Below.refl _ _⟩
      case round =>
        obtain ⟨k, hk, rfl, hb⟩ := hrel
        by_cases hlt : k < q.length
        · have hx : q[k]? = some q[k] := List.getElem?_eq_getElem hlt
          have hx9 := hq9.out _ (List.getElem_mem hlt)
          have hwk : ws.getD k ByteArray.empty = spk t q[k] := by
            rw [hmap.out, List.getD_eq_getElem?_getD, List.getElem?_map, hx]; rfl
          generalize q[k] = x at *
          obtain ⟨T, ch⟩ := x
          simp only at hx9
          have hWr := Lib.hid (hW5.out.trans (hb.mono hW5.out.size))
          obtain ⟨x0, x1, x2, -, -, -⟩ := hZg.out wr hWr.out
          obtain ⟨b, o, rfl, hbl, hc⟩ := (r7.out.below hb (Nat.le_refl _)).at_ (by omega)
          obtain ⟨f1, f2⟩ := hc k _ hx
          obtain ⟨bb, oo, rfl, hbb, hcc⟩ := (s5.out.below hb (Nat.le_refl _)).at_ (by omega)
          have g1 := hcc k hlt
          rw [hwk] at g1
          simp only at f1
          have hsp : spk t (T, ch) = textOf t (T : Int) ++ ⟨#[32]⟩ ++ textOf t ((ch.toNat : Int) - 48) := rfl
          have KT1 := Lib.hid (fun d os => implTextOf_any _ t (T : Int) (grow (redrawn wr d) os) (hTg.out _ (hWr.out.trans ((below_regrown wr d os).mono hWr.out.size))) hf.out (by omega))
          have hext : (spk t (T, ch)).extract 0 (textOf t (T : Int)).size = textOf t (T : Int) := by
            refine tl_inj ?_
            rw [tl_ext, hsp, tl_app, tl_app, List.drop_zero, Nat.sub_zero, ← tl_len, List.append_assoc, List.take_left]
          have hsz : (textOf t (T : Int)).size < (spk t (T, ch)).size := by rw [hsp, ByteArray.size_append, ByteArray.size_append]; show _ < _ + 1 + _; omega
          replace hsp := Lib.hid hsp
          generalize spk t (T, ch) = sp at *
          generalize textOf t (T : Int) = tx at *
          have heq : ((sp.extract 0 tx.size).toList == tx.toList) = true := by rw [hext, str_eq]; exact decide_eq_true rfl
          have hlt1 : ¬ (sp.size : Int) ≤ (tx.size : Int) := by omega
          have hle1 : (tx.size : Int) ≤ (sp.size : Int) := by omega
          replace hext := Lib.hid hext
          replace hwk := Lib.hid hwk
          replace hb := Lib.hid hb
          have y0 := fun d os => cell_regrown x0 d os
          have y1 := fun d os => cell_regrown x1 d os
          have y2 := fun d os => cell_regrown x2 d os
          have y3 := fun d os => cell_regrown f1 d os
          clear hc hcc hx x0 x1 x2 f1 f2
          go_wp2
          refine wp_region_quiet_below (by kernel_rfl) (by kernel_rfl) ?_
          repeat (go_big_quiet_step (first | (go_at_call 41; exact Calls.regrown_of (KT1.out _ _))))
          refine wpQuiet_nil ?_
          intro _ hw'
          obtain ⟨pq, hw''⟩ := hw'
          have bq := below_regrown wr pq.d pq.os
          rw [← hw''] at bq
          clear hw'' y0 y1 y2 y3 KT1
          rename_i wq
          have g2 := (bq.cell (p := ⟨bb, oo + k, none⟩) hbb).trans g1
          have hb2 := Lib.hid (hb.out.trans (bq.mono hb.out.size))
          clear g1 bq hb
          go_wp2
          go_roundw
          case rel => exact ⟨k + 1, by omega, by go_num, hb2.out⟩
          case measure => simp [intOf]; omega
        · obtain rfl : k = q.length := by omega
          replace hB := Lib.hid (hB.out.trans (hb.mono hB.out.size))
          clear hb
          go_wp2_with (fail)
          refine (alive_any _).mono ?_
          rintro e w9 ⟨rfl, b⟩
          replace hB := Lib.hid (hB.out.trans (b.mono hB.out.size))
          clear b
          go_wp2
          go_ret
          exact ⟨rfl, hB.out⟩
  · have t1 : (1048576 : Int) < (n : Int) := by omega
    go_enter Try.func9, Try.ntmps9
    go_wp2
    go_ret
    exact ⟨rfl, Below.refl _ _⟩

set_option maxRecDepth 100000 in
theorem lifted (os : Os) (started : os.Started) (H : Type) (enc : TypeId × Value → H) :
    ReturnsInHanded {} Try.checked os 9 .any (Rows.fnSpokenOfSpec.pre6 enc Try.prog Try.f9 Rows.fnSpokenOfRow.domain false) (Rows.fnSpokenOfSpec.post enc Try.prog Try.f9 false true false false) := by
  refine returnsInHanded_of_change (C := Try.checked) own started (by kernel_rfl) Try.func9
    (ChangeSpec.witness6 (enc := enc) (C := Try.checked) false ⟨#[], #[.slice none 0 0], []⟩ 8 (by kernel_rfl) (by kernel_rfl) (by kernel_rfl) (by kernel_rfl)) ?_
  intro W base args ds gs before hval0 hW hcnd _
  have hval : ∀ (j : Nat) t v, Try.f9.params[j]? = some t → args[j]? = some v → Value.okWide Try.prog W .any base t v := hval0
  have hW' := hW
  obtain ⟨p, q, hA0, hV, rfl, hfz, hnd⟩ := hW
  have hA : DataW.TrodAll enc Try.prog W 0 (fun _ => true) true Try.f9.params.toList args.toList ds p := hA0
  rw [Try.params9] at hA hval
  obtain ⟨v0, vs0, d0, ds0, p0, q0, hargs, rfl, rfl, h0, r0⟩ := trodAll_cons hA
  obtain ⟨rfl, rfl, rfl⟩ := trodAll_nil r0
  obtain rfl : args = #[v0] := by cases args; simp_all
  obtain ⟨rfl, rfl⟩ := trodVars_none hV
  obtain ⟨a0, len0, cap0, rfl⟩ := okWide_slice Try.underlying22 (hval 0 22 v0 rfl rfl)
  have k0 := h0
  have lt0 : ∀ x ∈ p0, x.block < W.heap.size := by obtain ⟨m, hm⟩ := k0; exact DataW.trod_lt m _ _ _ hm
  obtain ⟨z0, s0, w0, m0⟩ : ∃ zs, Ints W .u8 a0 len0 cap0 zs ∧ (∀ n ∈ zs, (Lit.int .u8 n).wf = true) ∧ cap0 ≤ maxLen := by
    obtain ⟨fuel, hf⟩ := h0
    rcases open_ints Try.underlying22 Try.underlying5 (by kernel_rfl) hf with ⟨hcs, _⟩ | ⟨x, l, c, zs, hcs, _, hl, hm, hz, _, hcell, hwz⟩
    · simp [Value.cells] at hcs
      obtain ⟨rfl, rfl, rfl⟩ := hcs
      exact ⟨[], Ints.none_, by simp, Nat.zero_le _⟩
    · simp [Value.cells] at hcs
      obtain ⟨rfl, rfl, rfl⟩ := hcs
      exact ⟨_, Ints.of_row hl (by simpa using hz) hcell, fun n hn => hwz n (List.mem_of_mem_take hn), hm⟩
  clear hA0 hval0
  refine (walk W a0 len0 cap0 z0 s0 w0 m0).mono fun e W' ⟨he, bel⟩ => ?_
  subst he
  exact ⟨_, rfl, _, _, _, [], _, [], hW', trodAll_mk1 (shut_bool Try.underlying4 _), (trodAll_cons_mk (Below.trod laidOut (by kernel_rfl) (of_decide_eq_true (by kernel_rfl)) k0 bel lt0) trodAll_mk0), rfl, bel.frame _, fun h => by cases h⟩

theorem over : Rows.fnSpokenOfRow.holds Try.pinned (OpenSpec.ofChange Rows.fnSpokenOfSpec) :=
  OpenClaim.holds_of_wide 9 Try.f9 rfl rfl rfl rfl rfl rfl rfl ⟨rfl, rfl, rfl, rfl, rfl⟩ rfl rfl rfl rfl rfl (by kernel_rfl) Try.func9 (by kernel_rfl)
    (of_decide_eq_true (by kernel_rfl)) (by unfold Func.isWrapper; first | (rw [if_pos (by decide +kernel)]; kernel_rfl) | (rw [if_neg (by decide +kernel)]; exact ⟨rfl, rfl⟩))
    (fun os started H enc _ => lifted os started H enc)
theorem proved : Rows.FnSpokenOfSaid := over
end Go.Proofs.Ytfcjhelhhefkkaa.fnSpokenOf
