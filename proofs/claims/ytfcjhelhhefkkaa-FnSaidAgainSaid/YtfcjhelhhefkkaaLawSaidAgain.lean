/-
  FnSaidAgain holds for every input: the drawn text and number are answered by SaidAgain as by its model; once more is what is said of it, for rows of the digits 1 to 3, none more than three times at once, it is such a row, and from the first time on no digit is more than three times at once. No condition.
-/
import Derived.Test.YtfcjhelhhefkkaaRows
import Derived.Test.YtfcjhelhhefkkaaGA
import Derived.Test.YtfcjhelhhefkkaaDrawPB
import Derived.Test.YtfcjhelhhefkkaaT6
import Derived.Test.YtfcjhelhhefkkaaS7
import Derived.Test.YtfcjhelhhefkkaaMathPL
namespace Go.Proofs.Ytfcjhelhhefkkaa.fnSaidAgain
open Go.ChangeShapes Go.WideShapes Go.ChangeAt Go.RowKit
open Go.ChangeMaps (open_string shut_string)

theorem own : ownKnob Try.prog.godebug = none := by kernel_rfl
theorem laidOut : laidOutB Try.prog = true := by kernel_rfl

set_option maxRecDepth 100000 in
set_option maxHeartbeats 8000000 in
theorem walk (w : World) (A : Option Addr) (n c : Nat) (xs : List Int) (h : Ints w .u8 A n c xs) (hwf : ∀ x ∈ xs, (Lit.int .u8 x).wf = true) (hc : c ≤ maxLen) :
    Calls Try.prog 7 #[.slice A n c] w fun e w' => e = .returned (.bool true) ∧ Below w.heap.size w w' := by
  have hn : n ≤ 9223372036854775807 := by have := h.le; unfold maxLen at hc; omega
  by_cases hl : n ≤ 1048576
  · have HD := Lib.hid (drawSaidAgain_any A n c xs w h hl hwf hc)
    clear h hwf hc
    go_enter Try.func7, Try.ntmps7
    go_wp2_with (fail)
    refine HD.out.mono ?_
    rintro e w1 ⟨s, k, rfl, hs, hk, hb⟩
    have hB := Lib.hid hb
    clear hb HD
    have K1 := implSaidAgain_any s k w1 (by omega)
    have K2 := Lib.hid (fun W => specSaidAgain_any s k W (by omega))
    cases hag : againL (tl s) k with
    | none =>
      simp only [hag, optV_none] at K1 K2
      have hne : ((⟨#[]⟩ : ByteArray).toList == (⟨#[]⟩ : ByteArray).toList) = true := by rw [str_eq]; exact decide_eq_true rfl
      have hem : (⟨#[]⟩ : ByteArray).toList.isEmpty = true := by rw [str_none]; exact decide_eq_true rfl
      replace hag := Lib.hid hag
      generalize (⟨#[]⟩ : ByteArray) = xs at *
      go_wp2_with (fail)
      refine K1.mono ?_
      rintro e w2 ⟨rfl, b⟩
      replace hB := Lib.hid (hB.out.trans (b.mono hB.out.size))
      clear b
      go_wp2_with (fail)
      refine (K2.out w2).mono ?_
      rintro e w3 ⟨rfl, b⟩
      replace hB := Lib.hid (hB.out.trans (b.mono hB.out.size))
      clear b
      go_wp2_with (fail)
      refine (alive_any _).mono ?_
      rintro e w9 ⟨rfl, b⟩
      replace hB := Lib.hid (hB.out.trans (b.mono hB.out.size))
      clear b
      go_wp2
      go_ret
      exact ⟨rfl, hB.out⟩
    | some x =>
      simp only [hag, optV_some] at K1 K2
      have hx60 := again_len hag
      have hrow := (again_some hag).1
      have hk0 := (again_some hag).2.1
      have hxrow := again_row hag
      have K3 := Lib.hid (fun W => implSaidAgain_any s (k + 1) W (by omega))
      have K4 := Lib.hid (fun W => implSaidOf_any (strOf x) W (by rw [strOf_size]; omega))
      have K5 := Lib.hid (fun W => specRunsOf_any s W (by omega))
      have K6 := Lib.hid (fun W => specRunsOf_any (strOf x) W (by rw [strOf_size]; omega))
      rw [strOf_tl] at K4 K6
      rw [runsL_yes hrow] at K5
      rw [runsL_yes hxrow] at K6
      have hmo : ∀ m, againL (tl s) (k + 1) = some m → saidL x = some m := fun m hm => again_more hag hm
      have hsmall : Hid (∀ r ∈ runs x, smallTo (runs (tl s)) (runs (tl s)).length = true → r.1 ≤ 3 ∧ r.2.toNat ≤ 51) := fun r hr hs => again_small hag (small_all hs) r hr
      have hthree : Hid (∀ r ∈ runs x, 1 ≤ k → r.1 ≤ 3) := fun r hr h1 => again_three hag h1 r hr
      have hk1 : IntKind.i64.wrap (k + 1) = k + 1 := IntWalk.i64_in _ (by omega)
      have hql : (runs (tl s)).length ≤ 60 := Nat.le_trans (runs_len _) (row_len hrow)
      have hq2l : (runs x).length ≤ 60 := Nat.le_trans (runs_len _) (row_len hxrow)
      replace hag := Lib.hid hag
      replace hrow := Lib.hid hrow
      replace hxrow := Lib.hid hxrow
      generalize runs (tl s) = q at *
      generalize runs x = q2 at *
      obtain ⟨xs, hxs⟩ : ∃ xs, xs = strOf x := ⟨_, rfl⟩
      rw [← hxs] at K1 K2 K4 K6
      have hne : (xs.toList == xs.toList) = true := by rw [str_eq]; exact decide_eq_true rfl
      replace hxs := Lib.hid hxs
      have cs := run_cells
      obtain ⟨can, told, ms, ns, K3, K4, hct⟩ : ∃ (can told : Bool) (ms ns : ByteArray), Hid (∀ W, Calls Try.prog 32 #[.string s, .int .i64 (k + 1)] W fun e w' => e = .returned (.tuple #[.string ms, .bool can]) ∧ Below W.heap.size W w') ∧
          Hid (∀ W, Calls Try.prog 26 #[.string xs] W fun e w' => e = .returned (.tuple #[.string ns, .bool told]) ∧ Below W.heap.size W w') ∧ (can = true → told = true ∧ (ms.toList == ns.toList) = true) := by
        cases hm : againL (tl s) (k + 1) with
        | none => exact ⟨false, _, _, _, by simpa only [hm, optV_eq, Option.isSome_none] using K3, by simpa only [optV_eq] using K4, fun h => by cases h⟩
        | some m =>
          refine ⟨true, true, strOf m, strOf m, by simpa only [hm, optV_some] using K3, by simpa only [hmo m hm, optV_some] using K4, fun _ => ⟨rfl, by rw [str_eq]; exact decide_eq_true rfl⟩⟩
      replace hct := Lib.hid hct
      clear hmo
      go_wp2_with (fail)
      refine K1.mono ?_
      rintro e w2 ⟨rfl, b⟩
      replace hB := Lib.hid (hB.out.trans (b.mono hB.out.size))
      clear b
      go_wp2_with (fail)
      refine (K2.out w2).mono ?_
      rintro e w3 ⟨rfl, b⟩
      replace hB := Lib.hid (hB.out.trans (b.mono hB.out.size))
      clear b
      go_wp2_with (fail)
      refine (K3.out w3).mono ?_
      rintro e w4 ⟨rfl, b⟩
      replace hB := Lib.hid (hB.out.trans (b.mono hB.out.size))
      clear b
      go_wp2_with (fail)
      refine (K4.out w4).mono ?_
      rintro e w5 ⟨rfl, b⟩
      replace hB := Lib.hid (hB.out.trans (b.mono hB.out.size))
      clear b
      go_wp2_with (fail)
      refine (K5.out w5).mono ?_
      rintro e w6 ⟨vq, rfl, oq, b⟩
      obtain ⟨Aq, cq, rfl, hq⟩ := oq.runs
      replace hB := Lib.hid (hB.out.trans (b.mono hB.out.size))
      replace hq := Lib.hid hq
      clear b oq K5 K3 K4
      go_wp2
      go_loop [13, 15] (fun s13 s15 => ∃ j : Nat, j ≤ q.length ∧ s13 = .bool (smallTo q j) ∧ s15 = .int .i64 j) (fun _ s15 => q.length - (intOf s15).toNat)
      case atStart => exact ⟨0, Nat.zero_le _, rfl, rfl⟩
      case round =>
        obtain ⟨j, hj, rfl, rfl⟩ := hrel
        by_cases hlt : j < q.length
        · have hx : q[j]? = some q[j] := List.getElem?_eq_getElem hlt
          have HG := smallTo_go hx
          generalize q[j] = r at *
          obtain ⟨T, ch⟩ := r
          obtain ⟨b, o, rfl, hbl, hc⟩ := hq.out.at_ (by omega)
          obtain ⟨r1, r2⟩ := hc j _ hx
          simp only at r1 r2 HG
          clear hc hx
          cases hsj : smallTo q j
          · rw [hsj] at HG
            replace HG := Lib.hid HG
            go_wp2
            go_round
            case rel => exact ⟨j + 1, by omega, by rw [HG.out]; rfl, by go_num⟩
            case measure => simp [intOf]; omega
          · rw [hsj] at HG
            by_cases h3 : T ≤ 3
            · have h3' : (T : Int) ≤ 3 := by omega
              by_cases h4 : ch.toNat ≤ 51
              · have h4' : (ch.toNat : Int) - 48 ≤ 3 := by omega
                rw [decide_eq_true h3, decide_eq_true h4] at HG
                replace HG := Lib.hid HG
                go_wp2
                go_round
                case rel => exact ⟨j + 1, by omega, by rw [HG.out]; rfl, by go_num⟩
                case measure => simp [intOf]; omega
              · have h4' : ¬ (ch.toNat : Int) - 48 ≤ 3 := by omega
                have h4d : decide ((ch.toNat : Int) - 48 ≤ 3) = false := decide_eq_false h4'
                rw [decide_eq_true h3, decide_eq_false h4] at HG
                replace HG := Lib.hid HG
                go_wp2
                go_round
                case rel => exact ⟨j + 1, by omega, by rw [HG.out]; rfl, by go_num⟩
                case measure => simp [intOf]; omega
            · have h3' : ¬ (T : Int) ≤ 3 := by omega
              have h3d : decide ((T : Int) ≤ 3) = false := decide_eq_false h3'
              rw [decide_eq_false h3] at HG
              replace HG := Lib.hid HG
              go_wp2
              go_round
              case rel => exact ⟨j + 1, by omega, by rw [HG.out]; rfl, by go_num⟩
              case measure => simp [intOf]; omega
        · obtain rfl : j = q.length := by omega
          generalize smallTo q q.length = sm at *
          go_wp2_with (fail)
          refine (K6.out w6).mono ?_
          rintro e w7 ⟨vq2, rfl, oq2, b⟩
          obtain ⟨Aq2, cq2, rfl, hq2⟩ := oq2.runs
          replace hB := Lib.hid (hB.out.trans (b.mono hB.out.size))
          replace hq2 := Lib.hid hq2
          clear b oq2 K6 hq
          go_wp2
          go_loop [17] (fun s17 => ∃ j : Nat, j ≤ q2.length ∧ s17 = .int .i64 j) (fun s17 => q2.length - (intOf s17).toNat)
          case atStart => exact ⟨0, Nat.zero_le _, rfl⟩
          case round =>
            obtain ⟨j, hj, rfl⟩ := hrel
            by_cases hlt2 : j < q2.length
            · have hx : q2[j]? = some q2[j] := List.getElem?_eq_getElem hlt2
              have hS1 := Lib.hid (hsmall.out _ (List.getElem_mem hlt2))
              have hT1 := Lib.hid (hthree.out _ (List.getElem_mem hlt2))
              generalize q2[j] = r at *
              obtain ⟨T2, ch⟩ := r
              obtain ⟨b, o, rfl, hbl, hc⟩ := hq2.out.at_ (by omega)
              obtain ⟨r1, r2⟩ := hc j _ hx
              simp only at r1 r2 hS1 hT1
              clear hc hx
              cases sm
              · by_cases h1 : 1 ≤ k
                · have h3 := hT1.out h1
                  have h3' : ¬ (3 : Int) < (T2 : Int) := by omega
                  go_wp2
                  go_round
                  case rel => exact ⟨j + 1, by omega, by go_num⟩
                  case measure => simp [intOf]; omega
                · go_wp2
                  go_round
                  case rel => exact ⟨j + 1, by omega, by go_num⟩
                  case measure => simp [intOf]; omega
              · obtain ⟨h3, h4⟩ := hS1.out rfl
                have h3' : ¬ (3 : Int) < (T2 : Int) := by omega
                have h4' : ¬ (3 : Int) < (ch.toNat : Int) - 48 := by omega
                by_cases h1 : 1 ≤ k
                · go_wp2
                  go_round
                  case rel => exact ⟨j + 1, by omega, by go_num⟩
                  case measure => simp [intOf]; omega
                · go_wp2
                  go_round
                  case rel => exact ⟨j + 1, by omega, by go_num⟩
                  case measure => simp [intOf]; omega
            · obtain rfl : j = q2.length := by omega
              cases can
              · skip
                go_wp2_with (fail)
                refine (alive_any _).mono ?_
                rintro e w9 ⟨rfl, b⟩
                replace hB := Lib.hid (hB.out.trans (b.mono hB.out.size))
                clear b
                go_wp2
                go_ret
                exact ⟨rfl, hB.out⟩
              · obtain ⟨rfl, hmn⟩ := hct.out rfl
                go_wp2_with (fail)
                refine (alive_any _).mono ?_
                rintro e w9 ⟨rfl, b⟩
                replace hB := Lib.hid (hB.out.trans (b.mono hB.out.size))
                clear b
                go_wp2
                go_ret
                exact ⟨rfl, hB.out⟩
  · have t1 : (1048576 : Int) < (n : Int) := by omega
    go_enter Try.func7, Try.ntmps7
    go_wp2
    go_ret
    exact ⟨rfl, Below.refl _ _⟩

set_option maxRecDepth 100000 in
theorem lifted (os : Os) (started : os.Started) (H : Type) (enc : TypeId × Value → H) :
    ReturnsInHanded {} Try.checked os 7 .any (Rows.fnSaidAgainSpec.pre6 enc Try.prog Try.f7 Rows.fnSaidAgainRow.domain false) (Rows.fnSaidAgainSpec.post enc Try.prog Try.f7 false true false false) := by
  refine returnsInHanded_of_change (C := Try.checked) own started (by kernel_rfl) Try.func7
    (ChangeSpec.witness6 (enc := enc) (C := Try.checked) false ⟨#[], #[.slice none 0 0], []⟩ 8 (by kernel_rfl) (by kernel_rfl) (by kernel_rfl) (by kernel_rfl)) ?_
  intro W base args ds gs before hval0 hW hcnd _
  have hval : ∀ (j : Nat) t v, Try.f7.params[j]? = some t → args[j]? = some v → Value.okWide Try.prog W .any base t v := hval0
  have hW' := hW
  obtain ⟨p, q, hA0, hV, rfl, hfz, hnd⟩ := hW
  have hA : DataW.TrodAll enc Try.prog W 0 (fun _ => true) true Try.f7.params.toList args.toList ds p := hA0
  rw [Try.params7] at hA hval
  obtain ⟨v0, vs0, d0, ds0, p0, q0, hargs, rfl, rfl, h0, r0⟩ := trodAll_cons hA
  obtain ⟨rfl, rfl, rfl⟩ := trodAll_nil r0
  obtain rfl : args = #[v0] := by cases args; simp_all
  obtain ⟨rfl, rfl⟩ := trodVars_none hV
  obtain ⟨a0, len0, cap0, rfl⟩ := okWide_slice Try.underlying22 (hval 0 22 v0 rfl rfl)
  have k0 := h0
  have lt0 : ∀ x ∈ p0, x.block < W.heap.size := by obtain ⟨m, hm⟩ := k0; exact DataW.trod_lt m _ _ _ hm
  obtain ⟨z0, s0, w0, m0⟩ : ∃ zs, Ints W .u8 a0 len0 cap0 zs ∧ (∀ n ∈ zs, (Lit.int .u8 n).wf = true) ∧ cap0 ≤ maxLen := by
    obtain ⟨fuel, hf⟩ := h0
    rcases open_ints Try.underlying22 Try.underlying5 (by kernel_rfl) hf with ⟨hcs, _⟩ | ⟨x, l, c, zs, hcs, _, hl, hm, hz, _, hcell, hwz⟩
    · simp [Value.cells] at hcs
      obtain ⟨rfl, rfl, rfl⟩ := hcs
      exact ⟨[], Ints.none_, by simp, Nat.zero_le _⟩
    · simp [Value.cells] at hcs
      obtain ⟨rfl, rfl, rfl⟩ := hcs
      exact ⟨_, Ints.of_row hl (by simpa using hz) hcell, fun n hn => hwz n (List.mem_of_mem_take hn), hm⟩
  clear hA0 hval0
  refine (walk W a0 len0 cap0 z0 s0 w0 m0).mono fun e W' ⟨he, bel⟩ => ?_
  subst he
  exact ⟨_, rfl, _, _, _, [], _, [], hW', trodAll_mk1 (shut_bool Try.underlying4 _), (trodAll_cons_mk (Below.trod laidOut (by kernel_rfl) (of_decide_eq_true (by kernel_rfl)) k0 bel lt0) trodAll_mk0), rfl, bel.frame _, fun h => by cases h⟩

theorem over : Rows.fnSaidAgainRow.holds Try.pinned (OpenSpec.ofChange Rows.fnSaidAgainSpec) :=
  OpenClaim.holds_of_wide 7 Try.f7 rfl rfl rfl rfl rfl rfl rfl ⟨rfl, rfl, rfl, rfl, rfl⟩ rfl rfl rfl rfl rfl (by kernel_rfl) Try.func7 (by kernel_rfl)
    (of_decide_eq_true (by kernel_rfl)) (by unfold Func.isWrapper; first | (rw [if_pos (by decide +kernel)]; kernel_rfl) | (rw [if_neg (by decide +kernel)]; exact ⟨rfl, rfl⟩))
    (fun os started H enc _ => lifted os started H enc)
theorem proved : Rows.FnSaidAgainSaid := over
end Go.Proofs.Ytfcjhelhhefkkaa.fnSaidAgain
