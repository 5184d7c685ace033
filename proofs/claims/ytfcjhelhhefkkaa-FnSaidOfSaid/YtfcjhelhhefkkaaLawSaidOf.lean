/-
  FnSaidOf holds for every input: the drawn text is answered by SaidOf as by its model; what is said has two digits for each run, put back it is the row, and it is the row itself only for the empty row and 22. No condition.
-/
import Derived.Test.YtfcjhelhhefkkaaRows
import Derived.Test.YtfcjhelhhefkkaaGA
import Derived.Test.YtfcjhelhhefkkaaDrawPB
import Derived.Test.YtfcjhelhhefkkaaT3
import Derived.Test.YtfcjhelhhefkkaaT5
import Derived.Test.YtfcjhelhhefkkaaS4
import Derived.Test.YtfcjhelhhefkkaaS7
import Derived.Test.YtfcjhelhhefkkaaMathPL
namespace Go.Proofs.Ytfcjhelhhefkkaa.fnSaidOf
open Go.ChangeShapes Go.WideShapes Go.ChangeAt Go.RowKit
open Go.ChangeMaps (open_string shut_string)

theorem own : ownKnob Try.prog.godebug = none := by kernel_rfl
theorem laidOut : laidOutB Try.prog = true := by kernel_rfl

set_option maxRecDepth 100000 in
set_option maxHeartbeats 8000000 in
theorem walk (w : World) (A : Option Addr) (n c : Nat) (xs : List Int) (h : Ints w .u8 A n c xs) (hwf : ∀ x ∈ xs, (Lit.int .u8 x).wf = true) (hc : c ≤ maxLen) :
    Calls Try.prog 5 #[.slice A n c] w fun e w' => e = .returned (.bool true) ∧ Below w.heap.size w w' := by
  have hn : n ≤ 9223372036854775807 := by have := h.le; unfold maxLen at hc; omega
  by_cases hl : n ≤ 1048576
  · have HD := Lib.hid (drawSaidOf_any A n c xs w h hl hwf hc)
    clear h hwf hc
    go_enter Try.func5, Try.ntmps5
    go_wp2_with (fail)
    refine HD.out.mono ?_
    rintro e w1 ⟨s, rfl, hs, hb⟩
    have hB := Lib.hid hb
    clear hb HD
    have K1 := implSaidOf_any s w1 (by omega)
    have K2 := Lib.hid (fun W => specSaidOf_any s W (by omega))
    have K4 := Lib.hid (fun W => implRunsOf_any s W (by omega))
    cases hsd : saidL (tl s) with
    | none =>
      simp only [hsd, optV_none] at K1 K2
      have hne : ((⟨#[]⟩ : ByteArray).toList == (⟨#[]⟩ : ByteArray).toList) = true := by rw [str_eq]; exact decide_eq_true rfl
      have hem : (⟨#[]⟩ : ByteArray).toList.isEmpty = true := by rw [str_none]; exact decide_eq_true rfl
      replace hsd := Lib.hid hsd
      generalize (⟨#[]⟩ : ByteArray) = xs at *
      go_wp2_with (fail)
      refine K1.mono ?_
      rintro e w2 ⟨rfl, b⟩
      replace hB := Lib.hid (hB.out.trans (b.mono hB.out.size))
      clear b
      go_wp2_with (fail)
      refine (K2.out w2).mono ?_
      rintro e w3 ⟨rfl, b⟩
      replace hB := Lib.hid (hB.out.trans (b.mono hB.out.size))
      clear b
      go_wp2_with (fail)
      refine (alive_any _).mono ?_
      rintro e w9 ⟨rfl, b⟩
      replace hB := Lib.hid (hB.out.trans (b.mono hB.out.size))
      clear b
      go_wp2
      go_ret
      exact ⟨rfl, hB.out⟩
    | some x =>
      have hrow := (saidL_some.1 hsd).1
      have hx60 := saidL_len hsd
      have hback := said_back hsd
      have hfix := said_fixed hsd
      have htwo := said_two hsd
      have K3 := Lib.hid (fun W => implUnsaidOf_any (strOf x) W (by rw [strOf_size]; omega))
      simp only [strOf_tl, hback, optV_some, strOf_of] at K3
      simp only [hsd, optV_some] at K1 K2
      rw [runsL_yes hrow] at K4
      have hl60 := runs_len (tl s)
      have hr60 := row_len hrow
      have hsz : ((strOf x).size : Int) = 2 * ((runs (tl s)).length : Int) := by rw [strOf_size, htwo]; omega
      have hwz : IntKind.i64.wrap (2 * ((runs (tl s)).length : Int)) = 2 * ((runs (tl s)).length : Int) := IntWalk.i64_in _ (by omega)
      have hf2 : ((strOf x).toList == s.toList) = (s.toList.isEmpty || (s.toList == (⟨#[50, 50]⟩ : ByteArray).toList)) := by
        rw [str_eq, str_eq, str_none]
        by_cases h0 : s = ⟨#[]⟩
        · rw [decide_eq_true h0, Bool.true_or]
          refine decide_eq_true (tl_inj ?_)
          rw [strOf_tl]; exact hfix.2 (.inl (by rw [h0]))
        · by_cases h2 : s = ⟨#[50, 50]⟩
          · rw [decide_eq_true h2, Bool.or_true]
            refine decide_eq_true (tl_inj ?_)
            rw [strOf_tl]; exact hfix.2 (.inr (by rw [h2]))
          · rw [decide_eq_false h0, decide_eq_false h2]
            refine decide_eq_false fun e => ?_
            have e' : x = tl s := by rw [← e, strOf_tl]
            rcases hfix.1 e' with e2 | e2
            · exact h0 (tl_inj e2)
            · exact h2 (tl_inj e2)
      replace hfix := Lib.hid hfix
      replace hback := Lib.hid hback
      replace htwo := Lib.hid htwo
      replace hrow := Lib.hid hrow
      replace hsd := Lib.hid hsd
      generalize runs (tl s) = q at *
      generalize strOf x = xs at *
      have hne : (xs.toList == xs.toList) = true := by rw [str_eq]; exact decide_eq_true rfl
      have hns : (s.toList == s.toList) = true := by rw [str_eq]; exact decide_eq_true rfl
      have hbb : ((s.toList.isEmpty || (s.toList == (⟨#[50, 50]⟩ : ByteArray).toList)) == (s.toList.isEmpty || (s.toList == (⟨#[50, 50]⟩ : ByteArray).toList))) = true := by simp
      go_wp2_with (fail)
      refine K1.mono ?_
      rintro e w2 ⟨rfl, b⟩
      replace hB := Lib.hid (hB.out.trans (b.mono hB.out.size))
      clear b
      go_wp2_with (fail)
      refine (K2.out w2).mono ?_
      rintro e w3 ⟨rfl, b⟩
      replace hB := Lib.hid (hB.out.trans (b.mono hB.out.size))
      clear b
      go_wp2_with (fail)
      refine (K3.out w3).mono ?_
      rintro e w4 ⟨rfl, b⟩
      replace hB := Lib.hid (hB.out.trans (b.mono hB.out.size))
      clear b
      go_wp2_with (fail)
      refine (K4.out w4).mono ?_
      rintro e w5 ⟨vq, rfl, oq, b⟩
      obtain ⟨Aq, cq, rfl, -⟩ := oq.runs
      replace hB := Lib.hid (hB.out.trans (b.mono hB.out.size))
      clear b oq
      go_wp2_with (first | (go_at_call 20; refine (alive_any _).mono ?_; rintro e w9 ⟨rfl, b⟩; replace hB := Lib.hid (hB.out.trans (b.mono hB.out.size)); clear b))
      all_goals
        go_ret
        exact ⟨rfl, hB.out⟩
  · have t1 : (1048576 : Int) < (n : Int) := by omega
    go_enter Try.func5, Try.ntmps5
    go_wp2
    go_ret
    exact ⟨rfl, Below.refl _ _⟩

set_option maxRecDepth 100000 in
theorem lifted (os : Os) (started : os.Started) (H : Type) (enc : TypeId × Value → H) :
    ReturnsInHanded {} Try.checked os 5 .any (Rows.fnSaidOfSpec.pre6 enc Try.prog Try.f5 Rows.fnSaidOfRow.domain false) (Rows.fnSaidOfSpec.post enc Try.prog Try.f5 false true false false) := by
  refine returnsInHanded_of_change (C := Try.checked) own started (by kernel_rfl) Try.func5
    (ChangeSpec.witness6 (enc := enc) (C := Try.checked) false ⟨#[], #[.slice none 0 0], []⟩ 8 (by kernel_rfl) (by kernel_rfl) (by kernel_rfl) (by kernel_rfl)) ?_
  intro W base args ds gs before hval0 hW hcnd _
  have hval : ∀ (j : Nat) t v, Try.f5.params[j]? = some t → args[j]? = some v → Value.okWide Try.prog W .any base t v := hval0
  have hW' := hW
  obtain ⟨p, q, hA0, hV, rfl, hfz, hnd⟩ := hW
  have hA : DataW.TrodAll enc Try.prog W 0 (fun _ => true) true Try.f5.params.toList args.toList ds p := hA0
  rw [Try.params5] at hA hval
  obtain ⟨v0, vs0, d0, ds0, p0, q0, hargs, rfl, rfl, h0, r0⟩ := trodAll_cons hA
  obtain ⟨rfl, rfl, rfl⟩ := trodAll_nil r0
  obtain rfl : args = #[v0] := by cases args; simp_all
  obtain ⟨rfl, rfl⟩ := trodVars_none hV
  obtain ⟨a0, len0, cap0, rfl⟩ := okWide_slice Try.underlying22 (hval 0 22 v0 rfl rfl)
  have k0 := h0
  have lt0 : ∀ x ∈ p0, x.block < W.heap.size := by obtain ⟨m, hm⟩ := k0; exact DataW.trod_lt m _ _ _ hm
  obtain ⟨z0, s0, w0, m0⟩ : ∃ zs, Ints W .u8 a0 len0 cap0 zs ∧ (∀ n ∈ zs, (Lit.int .u8 n).wf = true) ∧ cap0 ≤ maxLen := by
    obtain ⟨fuel, hf⟩ := h0
    rcases open_ints Try.underlying22 Try.underlying5 (by kernel_rfl) hf with ⟨hcs, _⟩ | ⟨x, l, c, zs, hcs, _, hl, hm, hz, _, hcell, hwz⟩
    · simp [Value.cells] at hcs
      obtain ⟨rfl, rfl, rfl⟩ := hcs
      exact ⟨[], Ints.none_, by simp, Nat.zero_le _⟩
    · simp [Value.cells] at hcs
      obtain ⟨rfl, rfl, rfl⟩ := hcs
      exact ⟨_, Ints.of_row hl (by simpa using hz) hcell, fun n hn => hwz n (List.mem_of_mem_take hn), hm⟩
  clear hA0 hval0
  refine (walk W a0 len0 cap0 z0 s0 w0 m0).mono fun e W' ⟨he, bel⟩ => ?_
  subst he
  exact ⟨_, rfl, _, _, _, [], _, [], hW', trodAll_mk1 (shut_bool Try.underlying4 _), (trodAll_cons_mk (Below.trod laidOut (by kernel_rfl) (of_decide_eq_true (by kernel_rfl)) k0 bel lt0) trodAll_mk0), rfl, bel.frame _, fun h => by cases h⟩

theorem over : Rows.fnSaidOfRow.holds Try.pinned (OpenSpec.ofChange Rows.fnSaidOfSpec) :=
  OpenClaim.holds_of_wide 5 Try.f5 rfl rfl rfl rfl rfl rfl rfl ⟨rfl, rfl, rfl, rfl, rfl⟩ rfl rfl rfl rfl rfl (by kernel_rfl) Try.func5 (by kernel_rfl)
    (of_decide_eq_true (by kernel_rfl)) (by unfold Func.isWrapper; first | (rw [if_pos (by decide +kernel)]; kernel_rfl) | (rw [if_neg (by decide +kernel)]; exact ⟨rfl, rfl⟩))
    (fun os started H enc _ => lifted os started H enc)
theorem proved : Rows.FnSaidOfSaid := over
end Go.Proofs.Ytfcjhelhhefkkaa.fnSaidOf
