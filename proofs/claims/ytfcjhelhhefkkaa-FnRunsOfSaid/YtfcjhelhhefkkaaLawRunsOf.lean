/-
  FnRunsOf holds for every input: the drawn text is answered by RunsOf as by its model; all digits of all runs, one behind the other, are the row, and no two runs beside each other are of the same digit. No condition.
-/
import Derived.Test.YtfcjhelhhefkkaaRows
import Derived.Test.YtfcjhelhhefkkaaGA
import Derived.Test.YtfcjhelhhefkkaaDrawPB
import Derived.Test.YtfcjhelhhefkkaaT3
import Derived.Test.YtfcjhelhhefkkaaRunS
import Derived.Test.YtfcjhelhhefkkaaS7
import Derived.Test.YtfcjhelhhefkkaaS8
import Derived.Test.YtfcjhelhhefkkaaMathPL
namespace Go.Proofs.Ytfcjhelhhefkkaa.fnRunsOf
open Go.ChangeShapes Go.WideShapes Go.ChangeAt Go.RowKit
open Go.ChangeMaps (open_string shut_string)

theorem own : ownKnob Try.prog.godebug = none := by kernel_rfl
theorem laidOut : laidOutB Try.prog = true := by kernel_rfl

set_option maxRecDepth 100000 in
set_option maxHeartbeats 8000000 in
theorem walk (w : World) (A : Option Addr) (n c : Nat) (xs : List Int) (h : Ints w .u8 A n c xs) (hwf : ∀ x ∈ xs, (Lit.int .u8 x).wf = true) (hc : c ≤ maxLen) :
    Calls Try.prog 4 #[.slice A n c] w fun e w' => e = .returned (.bool true) ∧ Below w.heap.size w w' := by
  have hn : n ≤ 9223372036854775807 := by have := h.le; unfold maxLen at hc; omega
  by_cases hl : n ≤ 1048576
  · have HD := Lib.hid (drawRunsOf_any A n c xs w h hl hwf hc)
    clear h hwf hc
    go_enter Try.func4, Try.ntmps4
    go_wp2_with (fail)
    refine HD.out.mono ?_
    rintro e w1 ⟨s, rfl, hs, hb⟩
    have hB := Lib.hid hb
    clear hb HD
    have K1 := implRunsOf_any s w1 (by omega)
    have K2 := Lib.hid (fun W => specRunsOf_any s W (by omega))
    have K3 := Lib.hid (fun W => implRowOk_any s W (by omega))
    have hes := str_none s
    have hq0 := runsL_len' (tl s)
    have cs := run_cells
    obtain ⟨q, hq⟩ : ∃ q, q = runsL (tl s) := ⟨_, rfl⟩
    rw [← hq] at K1 K2 hq0
    replace hq := Lib.hid hq
    go_wp2_with (fail)
    refine K1.mono ?_
    rintro e w2 ⟨v2, rfl, o2, b⟩
    obtain ⟨A2, c2, rfl, r2⟩ := o2.runs
    replace hB := Lib.hid (hB.out.trans (b.mono hB.out.size))
    replace r2 := Lib.hid r2
    clear b o2 K1
    go_wp2_with (fail)
    refine (K2.out w2).mono ?_
    rintro e w3 ⟨v3, rfl, o3, b⟩
    obtain ⟨A3, c3, rfl, r3⟩ := o3.runs
    replace hB := Lib.hid (hB.out.trans (b.mono hB.out.size))
    replace r2 := Lib.hid (r2.out.below b (Nat.le_refl _))
    have KE := Lib.hid (sameRuns_same A2 A3 q.length c2 c3 q w3 r2.out r3 (by omega))
    clear b o3 K2 r3
    go_wp2_with (fail)
    refine KE.out.mono ?_
    rintro e _ ⟨rfl, m, rfl⟩
    replace hB := Lib.hid (below_drewN hB.out m)
    replace r2 := Lib.hid (r2.out.drewN m)
    generalize w3.drewN m = w4 at *
    clear KE
    by_cases hq1 : q = []
    · have hl0 : ((q.length : Int) == 0) = true := by rw [hq1]; rfl
      by_cases h0 : s = ⟨#[]⟩
      · rw [decide_eq_true h0] at hes
        replace h0 := Lib.hid h0
        replace hq1 := Lib.hid hq1
        go_wp2_with (fail)
        refine (alive_any _).mono ?_
        rintro e w9 ⟨rfl, b⟩
        replace hB := Lib.hid (hB.out.trans (b.mono hB.out.size))
        clear b
        go_wp2
        go_ret
        exact ⟨rfl, hB.out⟩
      · rw [decide_eq_false h0] at hes
        have hrow : rowL (tl s) = false := by
          cases e : rowL (tl s)
          · rfl
          · have hq' := hq.out
            rw [hq1, runsL_yes e] at hq'
            exact absurd hq'.symm (runs_ne (fun e' => h0 (tl_inj e')))
        simp only [hrow] at K3
        replace hrow := Lib.hid hrow
        replace h0 := Lib.hid h0
        replace hq1 := Lib.hid hq1
        go_wp2_with (fail)
        refine (K3.out w4).mono ?_
        rintro e w5 ⟨rfl, b⟩
        replace hB := Lib.hid (hB.out.trans (b.mono hB.out.size))
        clear b
        go_wp2_with (fail)
        refine (alive_any _).mono ?_
        rintro e w9 ⟨rfl, b⟩
        replace hB := Lib.hid (hB.out.trans (b.mono hB.out.size))
        clear b
        go_wp2
        go_ret
        exact ⟨rfl, hB.out⟩
    · replace hq := hq.out
      have hrow : rowL (tl s) = true := by
        cases e : rowL (tl s)
        · rw [runsL_no e] at hq; exact absurd hq hq1
        · rfl
      have hlp : 0 < q.length := List.length_pos_iff.2 hq1
      have hl0 : ((q.length : Int) == 0) = false := by rw [beq_eq_false_iff_ne]; omega
      rw [runsL_yes hrow] at hq
      have hfl : flat q = tl s := by rw [hq, flat_runs]
      have hwf : Wf q := by rw [hq]; exact runs_wf _
      have hsne : tl s ≠ [] := fun e => hq1 (by rw [hq, e]; rfl)
      have hok : Hid (∀ (k : Nat) (x : RunB), q[k]? = some x → (1 ≤ x.1 ∧ x.1 ≤ 9) ∧ (49 ≤ x.2.toNat ∧ x.2.toNat ≤ 57)) := fun k x hx => by
        have hm := List.mem_of_getElem? hx
        have h1 := wf_mem hwf x hm
        have h2 := (okRun_iff x).1 ((rowL_iff.1 hrow).2 x (by rw [← hq]; exact hm))
        exact ⟨⟨h1, h2.2.2⟩, h2.1, h2.2.1⟩
      have hat := Lib.hid (fun k x y => wf_at hwf (k := k) (x := x) (y := y))
      have hs4 : w4.heap.size < w4.heap.size + 1 := by omega
      have hO0 : OwnB (w4.alloc (.cells #[] 5)) w4.heap.size (.slice (some ⟨w4.heap.size, 0, none⟩) 0 0) [] := owns_empty (Blk.new _ _ _) (Nat.le_refl _)
      have hN0 := (Below.refl w4.heap.size w4).alloc (Nat.le_refl _) (.cells #[] 5)
      obtain ⟨i0, hi, hz0, hz1, hz2⟩ := info_parts byte_info
      have hflL : Hid (∀ k, (flat (q.take k)).length ≤ 60) := fun k => by
        have h1 : flat q = flat (q.take k) ++ flat (q.drop k) := by rw [← flat_app, List.take_append_drop]
        have h2 := congrArg List.length h1
        rw [List.length_append, hfl] at h2
        have := row_len hrow
        omega
      have hend : flat (q.take q.length) = tl s := by rw [List.take_length]; exact hfl
      have heq : ((strOf (tl s)).toList == s.toList) = true := by rw [strOf_of, str_eq]; exact decide_eq_true rfl
      replace hend := Lib.hid hend
      replace hfl := Lib.hid hfl
      replace hwf := Lib.hid hwf
      replace hq1 := Lib.hid hq1
      replace hq := Lib.hid hq
      replace hrow := Lib.hid hrow
      replace hO0 := Lib.hid hO0
      replace hN0 := Lib.hid hN0
      replace hsne := Lib.hid hsne
      go_wp2
      go_loopw [5, 6] (fun s5 s6 wr => ∃ k : Nat, k ≤ q.length ∧ s6 = .int .i64 k ∧ OwnB wr w4.heap.size s5 (flat (q.take k)) ∧ Below w4.heap.size w4 wr) (fun _ s6 _ => q.length - (intOf s6).toNat)
      case atStart => exact ⟨0, Nat.zero_le _, rfl, hO0.out, hN0.out⟩
      case round =>
        obtain ⟨k, hk, rfl, ho, hb⟩ := hrel
        replace ho := Lib.hid ho
        replace hb := Lib.hid hb
        by_cases hlt : k < q.length
        · have hx : q[k]? = some q[k] := List.getElem?_eq_getElem hlt
          obtain ⟨⟨hx1, hx9⟩, hx48, hx57⟩ := hok.out k _ hx
          have hstep : flat (q.take (k + 1)) = flat (q.take k) ++ List.replicate q[k].1 q[k].2 := by
            rw [List.take_add_one, hx, flat_app]
            simp [flat]
          obtain ⟨A5, c5, rfl⟩ := OwnB.slice ho.out
          have hro := r2.out.below hb.out (Nat.le_refl _)
          obtain ⟨b, o, rfl, hbl, hc⟩ := hro.at_ (by omega)
          obtain ⟨g1, g2⟩ := hc k _ hx
          have hl6 := hflL.out k
          have hadj := Lib.hid (fun (j : Nat) (hj : k = j + 1) => hat.out j (q[j]'(by omega)) q[k] (List.getElem?_eq_getElem (by omega)) (by rw [← hj]; exact hx))
          have hcm := Lib.hid (fun (j : Nat) (hj : j < q.length) => hc j q[j] (List.getElem?_eq_getElem hj))
          generalize q[k] = x at *
          obtain ⟨T, ch⟩ := x
          simp only at hx1 hx9 hx48 hx57 hstep g1 g2 hadj
          have hT1 : ¬ (T : Int) < 1 := by omega
          have hT9 : ¬ (9 : Int) < (T : Int) := by omega
          have hT1d : decide ((T : Int) < 1) = false := decide_eq_false hT1
          have hT9d : decide ((9 : Int) < (T : Int)) = false := decide_eq_false hT9
          generalize flat (q.take k) = fl at *
          have hr0 : fl ++ List.replicate 0 ch = fl := by simp
          replace hstep := Lib.hid hstep
          have hxq := Lib.hid hx
          clear hc hx
          replace hr0 := Lib.hid hr0
          clear hro
          rcases k with _ | j
          · simp only [Nat.zero_mul, Nat.add_zero] at g1 g2
            go_wp2
            go_big_quiet (fail)
            have ho2 : Hid (OwnB (wr.drewN nq) w4.heap.size (.slice A5 fl.length c5) fl) := ho.out
            have hb2 := Lib.hid (below_drewN hb.out nq)
            have hr2 := Lib.hid (r2.out.below hb2.out (Nat.le_refl _))
            generalize wr.drewN nq = wq at *
            clear g1 g2 ho hb
            go_wp2
            go_loopw [5, 7] (fun s5 s7 wr => ∃ i : Nat, i ≤ T ∧ s7 = .int .i64 i ∧ OwnB wr w4.heap.size s5 (fl ++ List.replicate i ch) ∧ Below w4.heap.size w4 wr) (fun _ s7 _ => T - (intOf s7).toNat)
            case atStart => exact ⟨0, Nat.zero_le _, rfl, by rw [hr0.out]; exact ho2.out, hb2.out⟩
            case round =>
              obtain ⟨i, hi9, rfl, ho3, hb3⟩ := hrel
              obtain ⟨b', o', e', hbl', hc'⟩ := (r2.out.below hb3 (Nat.le_refl _)).at_ (by omega)
              cases e'
              obtain ⟨f1, f2⟩ := hc' _ _ hxq.out
              have hi60 : (fl ++ List.replicate i ch).length ≤ 200 := by rw [List.length_append, List.length_replicate]; omega
              simp only [Nat.zero_mul, Nat.add_zero] at f1 f2
              clear hc'
              by_cases hit : i < T
              · have hsn : fl ++ List.replicate (i + 1) ch = (fl ++ List.replicate i ch) ++ [ch] := by rw [List.replicate_succ', List.append_assoc]
                replace hsn := Lib.hid hsn
                generalize fl ++ List.replicate i ch = fi at *
                obtain ⟨A6, c6, rfl⟩ := OwnB.slice ho3
                have w1' : (48 : Int) + ((ch.toNat : Int) - 48) = (ch.toNat : Int) := by omega
                have w2' : IntKind.i64.wrap (ch.toNat : Int) = (ch.toNat : Int) := IntWalk.i64_in _ (by omega)
                have w3' : IntKind.u8.wrap (ch.toNat : Int) = (ch.toNat : Int) := IntWalk.u8_in _ (by omega)
                have m1 := Lib.hid (show fi.length + 1 ≤ maxLen by unfold maxLen; omega)
                have m2 := Lib.hid (show (fi.length + 1) * 1 ≤ 140737488355328 by omega)
                replace ho3 := Lib.hid ho3
                replace hb3 := Lib.hid hb3
                go_wp2_with (at_builtin; refine wpList_app _ rfl (.tmp 81) (.tmp 89) _ rfl w4.heap.size 5 i0 _ 1 Try.underlying22 hi hz0 hz1 hz2 rfl (.slice A6 fi.length c6) _ _ rfl (World.ownsRow.alloc ho3.out _) (some ⟨wr.heap.size, 0, none⟩) 1 1 [.int .u8 (ch.toNat : Int)] rfl (Src.one (Blk.new _ _ _) rfl) m1.out m2.out (by have := hb3.out.size; simp; omega) ?_; intro v6 w6 ho6 hg6 _)
                have hB6 := Lib.hid (below_own (hb3.out.alloc hb3.out.size _) (World.ownsRow.alloc ho3.out _) hg6 (by have := hb3.out.size; simp; omega) (Nat.le_refl _))
                have ho7 := Lib.hid (OwnB.snoc ho6)
                clear ho6 hg6
                go_wp2
                go_roundw
                case rel => exact ⟨i + 1, by omega, by go_num, by rw [hsn.out]; exact ho7.out, hB6.out⟩
                case measure => simp [intOf]; omega
              · obtain rfl : i = T := by omega
                replace ho3 := Lib.hid ho3
                replace hb3 := Lib.hid hb3
                go_wp2
                go_roundw
                case rel => exact ⟨1, by omega, by go_num, by rw [hstep.out]; exact ho3.out, hb3.out⟩
                case measure => simp [intOf]; omega
          · have hj := hadj.out j rfl
            obtain ⟨g3, g4⟩ := hcm.out j (by omega)
            generalize q[j]'(by omega) = y at *
            have hne : (((ch.toNat : Int) - 48) == ((y.2.toNat : Int) - 48)) = false := by
              rw [beq_eq_false_iff_ne]; intro e; exact hj (UInt8.toNat_inj.1 (by omega))
            have hk2 : (((j + 1 : Nat) : Int) - 1) = (j : Int) := by omega
            have hk3 : (j : Int) < (q.length : Int) := by omega
            have hk4 : ((j : Int) + 1).toNat = j + 1 := by omega
            have hk5 : (j : Int) + 1 < (q.length : Int) := by omega
            have hk6 : (0 : Int) ≤ (j : Int) + 1 := by omega
            go_wp2
            go_big_quiet (fail)
            have ho2 : Hid (OwnB (wr.drewN nq) w4.heap.size (.slice A5 fl.length c5) fl) := ho.out
            have hb2 := Lib.hid (below_drewN hb.out nq)
            have hr2 := Lib.hid (r2.out.below hb2.out (Nat.le_refl _))
            generalize wr.drewN nq = wq at *
            clear g1 g2 ho hb
            go_wp2
            go_loopw [5, 7] (fun s5 s7 wr => ∃ i : Nat, i ≤ T ∧ s7 = .int .i64 i ∧ OwnB wr w4.heap.size s5 (fl ++ List.replicate i ch) ∧ Below w4.heap.size w4 wr) (fun _ s7 _ => T - (intOf s7).toNat)
            case atStart => exact ⟨0, Nat.zero_le _, rfl, by rw [hr0.out]; exact ho2.out, hb2.out⟩
            case round =>
              obtain ⟨i, hi9, rfl, ho3, hb3⟩ := hrel
              obtain ⟨b', o', e', hbl', hc'⟩ := (r2.out.below hb3 (Nat.le_refl _)).at_ (by omega)
              cases e'
              obtain ⟨f1, f2⟩ := hc' _ _ hxq.out
              have hi60 : (fl ++ List.replicate i ch).length ≤ 200 := by rw [List.length_append, List.length_replicate]; omega
              simp only at f1 f2
              clear hc'
              by_cases hit : i < T
              · have hsn : fl ++ List.replicate (i + 1) ch = (fl ++ List.replicate i ch) ++ [ch] := by rw [List.replicate_succ', List.append_assoc]
                replace hsn := Lib.hid hsn
                generalize fl ++ List.replicate i ch = fi at *
                obtain ⟨A6, c6, rfl⟩ := OwnB.slice ho3
                have w1' : (48 : Int) + ((ch.toNat : Int) - 48) = (ch.toNat : Int) := by omega
                have w2' : IntKind.i64.wrap (ch.toNat : Int) = (ch.toNat : Int) := IntWalk.i64_in _ (by omega)
                have w3' : IntKind.u8.wrap (ch.toNat : Int) = (ch.toNat : Int) := IntWalk.u8_in _ (by omega)
                have m1 := Lib.hid (show fi.length + 1 ≤ maxLen by unfold maxLen; omega)
                have m2 := Lib.hid (show (fi.length + 1) * 1 ≤ 140737488355328 by omega)
                replace ho3 := Lib.hid ho3
                replace hb3 := Lib.hid hb3
                go_wp2_with (at_builtin; refine wpList_app _ rfl (.tmp 81) (.tmp 89) _ rfl w4.heap.size 5 i0 _ 1 Try.underlying22 hi hz0 hz1 hz2 rfl (.slice A6 fi.length c6) _ _ rfl (World.ownsRow.alloc ho3.out _) (some ⟨wr.heap.size, 0, none⟩) 1 1 [.int .u8 (ch.toNat : Int)] rfl (Src.one (Blk.new _ _ _) rfl) m1.out m2.out (by have := hb3.out.size; simp; omega) ?_; intro v6 w6 ho6 hg6 _)
                have hB6 := Lib.hid (below_own (hb3.out.alloc hb3.out.size _) (World.ownsRow.alloc ho3.out _) hg6 (by have := hb3.out.size; simp; omega) (Nat.le_refl _))
                have ho7 := Lib.hid (OwnB.snoc ho6)
                clear ho6 hg6
                go_wp2
                go_roundw
                case rel => exact ⟨i + 1, by omega, by go_num, by rw [hsn.out]; exact ho7.out, hB6.out⟩
                case measure => simp [intOf]; omega
              · obtain rfl : i = T := by omega
                replace ho3 := Lib.hid ho3
                replace hb3 := Lib.hid hb3
                go_wp2
                go_roundw
                case rel => exact ⟨j + 1 + 1, by omega, by go_num, by rw [hstep.out]; exact ho3.out, hb3.out⟩
                case measure => simp [intOf]; omega
        · obtain rfl : k = q.length := by omega
          rw [hend.out] at ho
          obtain ⟨g, c5, e5, hcv⟩ := OwnB.text ho.out hsne.out
          subst e5
          replace ho := Lib.hid ho
          generalize (tl s).length = L at *
          generalize strOf (tl s) = ts at *
          go_wp2
          go_ret
          exact ⟨rfl, hB.out.trans (hb.out.mono hB.out.size)⟩
  · have t1 : (1048576 : Int) < (n : Int) := by omega
    go_enter Try.func4, Try.ntmps4
    go_wp2
    go_ret
    exact ⟨rfl, Below.refl _ _⟩

set_option maxRecDepth 100000 in
theorem lifted (os : Os) (started : os.Started) (H : Type) (enc : TypeId × Value → H) :
    ReturnsInHanded {} Try.checked os 4 .any (Rows.fnRunsOfSpec.pre6 enc Try.prog Try.f4 Rows.fnRunsOfRow.domain false) (Rows.fnRunsOfSpec.post enc Try.prog Try.f4 false true false false) := by
  refine returnsInHanded_of_change (C := Try.checked) own started (by kernel_rfl) Try.func4
    (ChangeSpec.witness6 (enc := enc) (C := Try.checked) false ⟨#[], #[.slice none 0 0], []⟩ 8 (by kernel_rfl) (by kernel_rfl) (by kernel_rfl) (by kernel_rfl)) ?_
  intro W base args ds gs before hval0 hW hcnd _
  have hval : ∀ (j : Nat) t v, Try.f4.params[j]? = some t → args[j]? = some v → Value.okWide Try.prog W .any base t v := hval0
  have hW' := hW
  obtain ⟨p, q, hA0, hV, rfl, hfz, hnd⟩ := hW
  have hA : DataW.TrodAll enc Try.prog W 0 (fun _ => true) true Try.f4.params.toList args.toList ds p := hA0
  rw [Try.params4] at hA hval
  obtain ⟨v0, vs0, d0, ds0, p0, q0, hargs, rfl, rfl, h0, r0⟩ := trodAll_cons hA
  obtain ⟨rfl, rfl, rfl⟩ := trodAll_nil r0
  obtain rfl : args = #[v0] := by cases args; simp_all
  obtain ⟨rfl, rfl⟩ := trodVars_none hV
  obtain ⟨a0, len0, cap0, rfl⟩ := okWide_slice Try.underlying22 (hval 0 22 v0 rfl rfl)
  have k0 := h0
  have lt0 : ∀ x ∈ p0, x.block < W.heap.size := by obtain ⟨m, hm⟩ := k0; exact DataW.trod_lt m _ _ _ hm
  obtain ⟨z0, s0, w0, m0⟩ : ∃ zs, Ints W .u8 a0 len0 cap0 zs ∧ (∀ n ∈ zs, (Lit.int .u8 n).wf = true) ∧ cap0 ≤ maxLen := by
    obtain ⟨fuel, hf⟩ := h0
    rcases open_ints Try.underlying22 Try.underlying5 (by kernel_rfl) hf with ⟨hcs, _⟩ | ⟨x, l, c, zs, hcs, _, hl, hm, hz, _, hcell, hwz⟩
    · simp [Value.cells] at hcs
      obtain ⟨rfl, rfl, rfl⟩ := hcs
      exact ⟨[], Ints.none_, by simp, Nat.zero_le _⟩
    · simp [Value.cells] at hcs
      obtain ⟨rfl, rfl, rfl⟩ := hcs
      exact ⟨_, Ints.of_row hl (by simpa using hz) hcell, fun n hn => hwz n (List.mem_of_mem_take hn), hm⟩
  clear hA0 hval0
  refine (walk W a0 len0 cap0 z0 s0 w0 m0).mono fun e W' ⟨he, bel⟩ => ?_
  subst he
  exact ⟨_, rfl, _, _, _, [], _, [], hW', trodAll_mk1 (shut_bool Try.underlying4 _), (trodAll_cons_mk (Below.trod laidOut (by kernel_rfl) (of_decide_eq_true (by kernel_rfl)) k0 bel lt0) trodAll_mk0), rfl, bel.frame _, fun h => by cases h⟩

theorem over : Rows.fnRunsOfRow.holds Try.pinned (OpenSpec.ofChange Rows.fnRunsOfSpec) :=
  OpenClaim.holds_of_wide 4 Try.f4 rfl rfl rfl rfl rfl rfl rfl ⟨rfl, rfl, rfl, rfl, rfl⟩ rfl rfl rfl rfl rfl (by kernel_rfl) Try.func4 (by kernel_rfl)
    (of_decide_eq_true (by kernel_rfl)) (by unfold Func.isWrapper; first | (rw [if_pos (by decide +kernel)]; kernel_rfl) | (rw [if_neg (by decide +kernel)]; exact ⟨rfl, rfl⟩))
    (fun os started H enc _ => lifted os started H enc)
theorem proved : Rows.FnRunsOfSaid := over
end Go.Proofs.Ytfcjhelhhefkkaa.fnRunsOf
