/-
  FnExactRunsOf holds for every text: RunsOf answers as its model and returns memory of its own. No condition.
-/
import Derived.Test.YtfcjhelhhefkkaaRows
import Derived.Test.YtfcjhelhhefkkaaRunM
import Derived.Test.YtfcjhelhhefkkaaT3
namespace Go.Proofs.Ytfcjhelhhefkkaa.fnExactRunsOf
open Go.ChangeShapes Go.WideShapes Go.ChangeAt Go.RowKit
open Go.ChangeMaps (open_string shut_string)

theorem own : ownKnob Try.prog.godebug = none := by kernel_rfl
theorem laidOut : laidOutB Try.prog = true := by kernel_rfl

set_option maxRecDepth 100000 in
set_option maxHeartbeats 4000000 in
theorem walk (w : World) (s : ByteArray) (hs : s.size ≤ maxLen) :
    Calls Try.prog 11 #[.string s] w fun e w' => e = .returned (.bool true) ∧ Below w.heap.size w w' := by
  unfold maxLen at hs
  by_cases hl : s.size ≤ 1048576
  · have K1 := specRunsOf_any s w (by omega)
    have K2 := Lib.hid (fun W => implRunsOf_any s W (by omega))
    have hq : (runsL (tl s)).length ≤ 60 := by
      cases e : rowL (tl s)
      · rw [runsL_no e]; simp
      · rw [runsL_yes e]; have := runs_len (tl s); have := row_len e; omega
    generalize runsL (tl s) = q at *
    go_enter Try.func11, Try.ntmps11
    go_wp2_with (fail)
    refine K1.mono ?_
    rintro e w1 ⟨v1, rfl, o1, b1⟩
    obtain ⟨A1, c1, rfl, r1⟩ := o1.runs
    have hs1 := b1.size
    replace r1 := Lib.hid r1
    replace b1 := Lib.hid b1
    clear o1 K1
    go_wp2_with (fail)
    refine (K2.out w1).mono ?_
    rintro e w2 ⟨v2, rfl, o2, b2⟩
    obtain ⟨A2, c2, rfl, r2⟩ := o2.runs
    have hs2 := b2.size
    have hc2 := r2.le
    have KE := Lib.hid (eqRunS_same A2 A1 q.length c2 c1 q w2 r2 (r1.out.below b2 (Nat.le_refl _)) (by omega))
    replace o2 := Lib.hid o2
    replace b2 := Lib.hid b2
    clear r2
    go_wp2_with (fail)
    refine KE.out.mono ?_
    rintro e w3 ⟨rfl, b3⟩
    have hs3 := b3.size
    have o3 := o2.out.below b3 (Nat.le_refl _)
    have KM := Lib.hid (markRunS_any w1.heap.size _ q.length _ 1 w3 o3 (by omega) (by omega))
    have b13 := Lib.hid (b2.out.trans (b3.mono (by omega)))
    have h3lt := Lib.hid (fun k e => (World.ownsRow.lt o3 k e).1)
    clear KE b3 o2 o3
    go_wp2_with (fail)
    refine KM.out.mono ?_
    rintro e w4 ⟨rfl, o4, g4⟩
    have b14 := Lib.hid (b13.out.grown g4 (by omega) (fun k e => h3lt.out k e))
    have m4 := marks_own o4
    have hs4 := g4.size
    have KH := Lib.hid (heldRunS_any A2 q.length c2 1 w4 m4 (by omega) hc2 (by omega))
    have hw : IntKind.i64.wrap (1 + 2 * (q.length : Int)) = 1 + 2 * (q.length : Int) := IntWalk.i64_in _ (by omega)
    have hne : ((1 + 2 * (q.length : Int)) != (1 + 2 * (q.length : Int))) = false := by simp
    have hpos : ¬ (1 + 2 * (q.length : Int)) < 0 := by omega
    replace m4 := Lib.hid m4
    clear KM o4 g4 b13
    go_wp2_with (fail)
    refine KH.out.mono ?_
    rintro e _ ⟨rfl, rfl⟩
    go_wp2_with (fail)
    refine (K2.out w4).mono ?_
    rintro e w5 ⟨v5, rfl, o5, b5⟩
    obtain ⟨A5, c5, rfl, r5⟩ := o5.runs
    have hs5 := b5.size
    have b15 := Lib.hid (b14.out.trans (b5.mono (by omega)))
    have KE2 := Lib.hid (eqRunS_same A5 A1 q.length c5 c1 q w5 r5 (r1.out.below b15.out (Nat.le_refl _)) (by omega))
    have m5 := Lib.hid (m4.out.below b5)
    clear o5 b5 r5 KH
    go_wp2_with (fail)
    refine KE2.out.mono ?_
    rintro e w6 ⟨rfl, b6⟩
    have m6 := m5.out.below b6
    have b16 := Lib.hid (b15.out.trans (b6.mono (by omega)))
    have KH2 := Lib.hid (heldRunS_any A2 q.length c2 1 w6 m6 (by omega) hc2 (by omega))
    clear b6 m6 KE2
    go_wp2_with (fail)
    refine KH2.out.mono ?_
    rintro e _ ⟨rfl, rfl⟩
    go_wp2
    go_ret
    exact ⟨rfl, b1.out.trans (b16.out.mono hs1)⟩
  · have hl' : 1048576 < s.size := by omega
    go_enter Try.func11, Try.ntmps11
    go_wp2
    go_ret
    exact ⟨rfl, Below.refl _ _⟩

set_option maxRecDepth 100000 in
theorem lifted (os : Os) (started : os.Started) (H : Type) (enc : TypeId × Value → H) :
    ReturnsInHanded {} Try.checked os 11 .any (Rows.fnExactRunsOfSpec.pre6 enc Try.prog Try.f11 Rows.fnExactRunsOfRow.domain false) (Rows.fnExactRunsOfSpec.post enc Try.prog Try.f11 false true false false) := by
  refine returnsInHanded_of_change (C := Try.checked) own started (by kernel_rfl) Try.func11
    (ChangeSpec.witness6 (enc := enc) (C := Try.checked) false ⟨#[], #[.string ByteArray.empty], []⟩ 8 (by kernel_rfl) (by kernel_rfl) (by kernel_rfl) (by kernel_rfl)) ?_
  intro W base args ds gs before hval0 hW hcnd _
  have hval : ∀ (j : Nat) t v, Try.f11.params[j]? = some t → args[j]? = some v → Value.okWide Try.prog W .any base t v := hval0
  have hW' := hW
  obtain ⟨p, q, hA0, hV, rfl, hfz, hnd⟩ := hW
  have hA : DataW.TrodAll enc Try.prog W 0 (fun _ => true) true Try.f11.params.toList args.toList ds p := hA0
  rw [Try.params11] at hA hval
  obtain ⟨v0, vs0, d0, ds0, p0, q0, hargs, rfl, rfl, h0, r0⟩ := trodAll_cons hA
  obtain ⟨rfl, rfl, rfl⟩ := trodAll_nil r0
  obtain rfl : args = #[v0] := by cases args; simp_all
  obtain ⟨rfl, rfl⟩ := trodVars_none hV
  obtain ⟨a0, rfl, rfl, rfl, w0⟩ := open_string Try.underlying9 (hval 0 9 v0 rfl rfl) h0
  clear hA0 hval0
  refine (walk W a0 w0).mono fun e W' ⟨he, bel⟩ => ?_
  subst he
  exact ⟨_, rfl, _, _, _, [], _, [], hW', trodAll_mk1 (shut_bool Try.underlying4 _), (trodAll_cons_mk (shut_string Try.underlying9 w0) trodAll_mk0), rfl, bel.frame _, fun h => by cases h⟩

theorem over : Rows.fnExactRunsOfRow.holds Try.pinned (OpenSpec.ofChange Rows.fnExactRunsOfSpec) :=
  OpenClaim.holds_of_wide 11 Try.f11 rfl rfl rfl rfl rfl rfl rfl ⟨rfl, rfl, rfl, rfl, rfl⟩ rfl rfl rfl rfl rfl (by kernel_rfl) Try.func11 (by kernel_rfl)
    (of_decide_eq_true (by kernel_rfl)) (by unfold Func.isWrapper; first | (rw [if_pos (by decide +kernel)]; kernel_rfl) | (rw [if_neg (by decide +kernel)]; exact ⟨rfl, rfl⟩))
    (fun os started H enc _ => lifted os started H enc)
theorem proved : Rows.FnExactRunsOfSaid := over
end Go.Proofs.Ytfcjhelhhefkkaa.fnExactRunsOf
