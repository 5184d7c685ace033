/-
  FnExactTwoWays holds for every list of texts: TwoWays answers as its model and leaves its argument unmodified. No condition.
-/
import Derived.Test.YtbghgpgpljdjkaaRows
import Derived.Test.YtbghgpgpljdjkaaGT
import Derived.Test.YtbghgpgpljdjkaaGN
import Derived.Test.YtbghgpgpljdjkaaQ7
import Derived.Test.YtbghgpgpljdjkaaZ9
namespace Go.Proofs.Ytbghgpgpljdjkaa.fnExactTwoWays
open Go.ChangeShapes Go.WideShapes Go.ChangeAt Go.RowKit
open Go.ChangeMaps (open_string shut_string)

theorem own : ownKnob Try.prog.godebug = none := by kernel_rfl
theorem laidOut : laidOutB Try.prog = true := by kernel_rfl

set_option maxRecDepth 100000 in
set_option maxHeartbeats 2000000 in
theorem walk (w : World) (Al : Option Addr) (cl : Nat) (l : List ByteArray) (hl : Strs w Al l.length cl l) (hcl : cl ≤ maxLen) (hlz : ∀ x ∈ l, x.size ≤ maxLen) :
    Calls Try.prog 14 #[.slice Al l.length cl] w fun e w' => e = .returned (.bool true) ∧ Below w.heap.size w w' := by
  have HL := Lib.hid (fun W (hb : Below w.heap.size w W) => hl.below hb (Nat.le_refl _))
  have hZ := Lib.hid (szStringS_any Al l.length cl l 1048576 w hl hcl hlz (by omega) (by omega))
  clear hl hcl hlz
  go_enter Try.func14, Try.ntmps14
  go_wp2_with (fail)
  refine hZ.out.mono ?_
  rintro e _ ⟨r, rfl, hr, rfl⟩
  clear hZ
  rcases hr with rfl | ⟨q0, q1, q2, q3⟩
  · go_wp2
    go_ret
    exact ⟨rfl, Below.refl _ _⟩
  · have hq2 : ¬ r < 0 := by omega
    have hll : l.length ≤ 1048576 := by omega
    have hlz : ∀ x ∈ l, x.size ≤ 1048576 := fun x hx => by have := q3 x hx; omega
    replace hlz := Lib.hid hlz
    have hC2 := Lib.hid (toStringS_any Al l.length cl l w (HL.out w (Below.refl _ _)) hll)
    clear q3
    go_wp2_with (fail)
    refine hC2.out.mono ?_
    rintro e w2 ⟨rfl, p2, b2⟩
    have s2 : Strs w2 (some ⟨w.heap.size, 0, none⟩) l.length l.length l := by
      obtain ⟨_, _, e, s⟩ := strs_of_own p2
      cases e
      exact s
    have hS := specTwoWays_any _ l.length l.length l w2 s2 (by omega) hlz.out
    replace b2 := Lib.hid b2
    replace hS := Lib.hid hS
    clear p2 s2 hC2
    go_wp2_with (fail)
    refine hS.out.mono ?_
    rintro e w3 ⟨rfl, b3⟩
    have hB3 := b2.out.trans (b3.mono b2.out.size)
    have hC4 := Lib.hid (toStringS_any Al l.length cl l w3 (HL.out w3 hB3) hll)
    replace hB3 := Lib.hid hB3
    clear b3 b2 hS
    go_wp2_with (fail)
    refine hC4.out.mono ?_
    rintro e w4 ⟨rfl, p4, b4⟩
    have s4 : Strs w4 (some ⟨w3.heap.size, 0, none⟩) l.length l.length l := by
      obtain ⟨_, _, e, s⟩ := strs_of_own p4
      cases e
      exact s
    have hI := implTwoWays_any _ l.length l.length l w4 s4 (by omega) hlz.out
    generalize twoX l = ox at *
    generalize twoB l = ob at *
    have hne : (ob != ob) = false := by simp
    have hne2 : (ox.toList != ox.toList) = false := by simp
    have hB4 := Lib.hid (hB3.out.trans (b4.mono hB3.out.size))
    replace hI := Lib.hid hI
    replace s4 := Lib.hid s4
    clear p4 b4 hC4 hB3
    go_wp2_with (fail)
    refine hI.out.mono ?_
    rintro e w5 ⟨rfl, b5⟩
    have s5 := Lib.hid (s4.out.below b5 (Nat.le_refl _))
    have hB5 := hB4.out.trans (b5.mono hB4.out.size)
    have hC6 := Lib.hid (toStringS_any Al l.length cl l w5 (HL.out w5 hB5) hll)
    replace hB5 := Lib.hid hB5
    clear b5 hI s4 hB4
    go_wp2_with (fail)
    refine hC6.out.mono ?_
    rintro e w6 ⟨rfl, p6, b6⟩
    obtain ⟨_, _, e6, s6⟩ := strs_of_own p6
    cases e6
    have hE := eqStringS_any _ _ l.length l.length l.length l.length l l w6 (s5.out.below b6 (Nat.le_refl _)) s6 (by omega) (by omega)
    rw [decide_eq_true rfl] at hE
    have hB6 := Lib.hid (hB5.out.trans (b6.mono hB5.out.size))
    replace hE := Lib.hid hE
    clear p6 b6 s6 s5 hC6 hB5
    go_wp2_with (fail)
    refine hE.out.mono ?_
    rintro e _ ⟨rfl, m, rfl⟩
    go_wp2
    go_ret
    exact ⟨rfl, below_drewN hB6.out m⟩

set_option maxRecDepth 100000 in
theorem lifted (os : Os) (started : os.Started) (H : Type) (enc : TypeId × Value → H) :
    ReturnsInHanded {} Try.checked os 14 .any (Rows.fnExactTwoWaysSpec.pre6 enc Try.prog Try.f14 Rows.fnExactTwoWaysRow.domain false) (Rows.fnExactTwoWaysSpec.post enc Try.prog Try.f14 false true false false) := by
  refine returnsInHanded_of_change (C := Try.checked) own started (by kernel_rfl) Try.func14
    (ChangeSpec.witness6 (enc := enc) (C := Try.checked) false ⟨#[], #[.slice none 0 0], []⟩ 8 (by kernel_rfl) (by kernel_rfl) (by kernel_rfl) (by kernel_rfl)) ?_
  intro W base args ds gs before hval0 hW hcnd _
  have hval : ∀ (j : Nat) t v, Try.f14.params[j]? = some t → args[j]? = some v → Value.okWide Try.prog W .any base t v := hval0
  have hW' := hW
  obtain ⟨p, q, hA0, hV, rfl, hfz, hnd⟩ := hW
  have hA : DataW.TrodAll enc Try.prog W 0 (fun _ => true) true Try.f14.params.toList args.toList ds p := hA0
  rw [Try.params14] at hA hval
  obtain ⟨v0, vs0, d0, ds0, p0, q0, hargs, rfl, rfl, h0, r0⟩ := trodAll_cons hA
  obtain ⟨rfl, rfl, rfl⟩ := trodAll_nil r0
  obtain rfl : args = #[v0] := by cases args; simp_all
  obtain ⟨rfl, rfl⟩ := trodVars_none hV
  have k0 := h0
  have lt0 : ∀ x ∈ p0, x.block < W.heap.size := by obtain ⟨m, hm⟩ := k0; exact DataW.trod_lt m _ _ _ hm
  obtain ⟨b0, n0, e0, rfl⟩ := okWide_slice Try.underlying23 (hval 0 23 v0 rfl rfl)
  obtain ⟨f0, hf0⟩ := h0
  obtain ⟨a0, c0, z0, ee0, s0, m0, w0⟩ := in_strs (v := .slice b0 n0 e0) hf0
  cases ee0
  clear hA0 hval0
  refine (walk W _ _ z0 s0 m0 w0).mono fun e W' ⟨he, bel⟩ => ?_
  subst he
  exact ⟨_, rfl, _, _, _, [], _, [], hW', trodAll_mk1 (shut_bool Try.underlying4 _), (trodAll_cons_mk (Below.trod laidOut (by kernel_rfl) (of_decide_eq_true (by kernel_rfl)) k0 bel lt0) trodAll_mk0), rfl, bel.frame _, fun h => by cases h⟩

theorem over : Rows.fnExactTwoWaysRow.holds Try.pinned (OpenSpec.ofChange Rows.fnExactTwoWaysSpec) :=
  OpenClaim.holds_of_wide 14 Try.f14 rfl rfl rfl rfl rfl rfl rfl ⟨rfl, rfl, rfl, rfl, rfl⟩ rfl rfl rfl rfl rfl (by kernel_rfl) Try.func14 (by kernel_rfl)
    (of_decide_eq_true (by kernel_rfl)) (by unfold Func.isWrapper; first | (rw [if_pos (by decide +kernel)]; kernel_rfl) | (rw [if_neg (by decide +kernel)]; exact ⟨rfl, rfl⟩))
    (fun os started H enc _ => lifted os started H enc)
theorem proved : Rows.FnExactTwoWaysSaid := over
end Go.Proofs.Ytbghgpgpljdjkaa.fnExactTwoWays
