/-
  FnExactJournalText holds for all deeds: JournalText answers as its model, and leaves the deeds as they were. No condition but that the library's variables read as the program lays them.
-/
import Derived.Test.YtfmdbmhakkajfaaDoorCards
import Derived.Test.YtfmdbmhakkajfaaDoorTie
import Derived.Lay
import Derived.LaidMore
import Derived.SevenTiedAt
import Derived.Stop.Joined
import Derived.Test.YtfmdbmhakkajfaaDoorOpenI
import Derived.Test.YtfmdbmhakkajfaaDoorDHq
import Derived.Test.YtfmdbmhakkajfaaDoorLaidV
import Derived.Test.YtfmdbmhakkajfaaDoorWa
namespace Go.Proofs.YtfmdbmhakkajfaaDoor.fnExactJournalText
open Go.ChangeShapes Go.WideShapes Go.ChangeAt Go.RowKit
open Go.ChangeMaps (open_string shut_string)

theorem own : ownKnob Tryd.prog.godebug = none := by kernel_rfl
theorem laidOut : laidOutB Tryd.prog = true := by kernel_rfl
theorem libs {W : World} (h : laidMet Tryd.prog Rows.fnExactJournalTextRow.laid W) : LibT W := libT_of h.tail.tail

set_option maxRecDepth 100000 in
set_option maxHeartbeats 4000000 in
theorem walk (w : World) (hT : LibT w) (va : Value) (q : List Dd) (ha : DdsIn w va q) :
    Calls Tryd.prog 8 #[va] w fun e w' => e = .returned (.bool true) ∧ Below w.heap.size w w' := by
  obtain ⟨A, c, rfl, hd, hc⟩ := ha.ex
  have hlc := hd.le
  have hd0 := Lib.hid hd
  clear ha hd
  generalize hn : q.length = n at *
  replace hn := Lib.hid hn
  go_enter Tryd.func8, Tryd.ntmps8
  go_wp2_with (fail)
  refine (szDeedS_any A n c 1048576 w (by omega) (by omega)).mono ?_
  rintro e _ ⟨⟨r, rfl, hr⟩, rfl⟩
  by_cases hneg : r < 0
  · have hdd : decide (r < 0) = true := decide_eq_true hneg
    clear hd0
    go_wp2
    go_ret
    exact ⟨rfl, Below.refl _ _⟩
  · have hdd : decide (r < 0) = false := decide_eq_false hneg
    have hn1 : n ≤ 1048576 := by omega
    clear hr
    go_wp2_with (fail)
    refine (toDeedS_any A n c q w hd0.out hn1).mono ?_
    rintro e w1 ⟨g1, rfl, ho1, b1⟩
    have hB := Lib.hid b1
    replace hd0 := Lib.hid (hd0.out.below b1 (Nat.le_refl _))
    obtain ⟨A1, c1, e1, hd1⟩ := ho1.deeds
    rw [hn.out] at e1 hd1
    cases e1
    clear ho1 b1
    go_wp2_with (fail)
    refine (specJournalText_any _ n n q w1 hd1 (by omega)).mono ?_
    rintro e w2 ⟨rfl, b2⟩
    replace hB := Lib.hid (hB.out.trans (b2.mono hB.out.size))
    replace hd0 := Lib.hid (hd0.out.below b2 (Nat.le_refl _))
    clear b2 hd1
    go_wp2_with (fail)
    refine (toDeedS_any A n c q w2 hd0.out hn1).mono ?_
    rintro e w3 ⟨g3, rfl, ho3, b3⟩
    replace hB := Lib.hid (hB.out.trans (b3.mono hB.out.size))
    replace hd0 := Lib.hid (hd0.out.below b3 (Nat.le_refl _))
    obtain ⟨A3, c3, e3, hd3⟩ := ho3.deeds
    rw [hn.out] at e3 hd3
    cases e3
    replace hd3 := Lib.hid hd3
    clear ho3 b3
    go_wp2_with (fail)
    refine (implJournalText_any _ n n q w3 hd3.out (by omega) (hT.below hB.out (Nat.le_refl _))).mono ?_
    rintro e w4 ⟨rfl, b4⟩
    replace hB := Lib.hid (hB.out.trans (b4.mono hB.out.size))
    replace hd0 := Lib.hid (hd0.out.below b4 (Nat.le_refl _))
    replace hd3 := Lib.hid (hd3.out.below b4 (Nat.le_refl _))
    clear b4
    have hq : ((jT q).toList == (jT q).toList) = true := by simp
    generalize jT q = s at *
    go_wp2_with (fail)
    refine (toDeedS_any A n c q w4 hd0.out hn1).mono ?_
    rintro e w5 ⟨g5, rfl, ho5, b5⟩
    replace hB := Lib.hid (hB.out.trans (b5.mono hB.out.size))
    replace hd3 := Lib.hid (hd3.out.below b5 (Nat.le_refl _))
    obtain ⟨A5, c5, e5, hd5⟩ := ho5.deeds
    rw [hn.out] at e5 hd5
    cases e5
    replace hd5 := Lib.hid hd5
    clear ho5 b5 hd0
    go_wp2_with (fail)
    refine (eqDeedS_same _ _ n n n q w5 hd3.out hd5.out hn1).mono ?_
    rintro e w6 ⟨rfl, b6⟩
    replace hB := Lib.hid (hB.out.trans (b6.mono hB.out.size))
    clear b6 hd3 hd5
    go_wp2
    go_ret
    exact ⟨rfl, hB.out⟩

set_option maxRecDepth 100000 in
theorem lifted (os : Os) (started : os.Started) (H : Type) (enc : TypeId × Value → H) :
    ReturnsInHanded {} Tryd.checked os 8 .any (fun w args => (Rows.fnExactJournalTextSpec.pre enc Tryd.prog Tryd.f8 Rows.fnExactJournalTextRow.domain false w args ∧ laidMetH Tryd.prog Rows.fnExactJournalTextRow.laid w) ∧ sizedMet enc Tryd.prog Tryd.f8 (OpenSpec.ofChange Rows.fnExactJournalTextSpec) false w args)
      (Rows.fnExactJournalTextSpec.post enc Tryd.prog Tryd.f8 false true false false) := by
  refine returnsInHanded_of_change_and (C := Tryd.checked) (X := fun w _ => laidMetH Tryd.prog Rows.fnExactJournalTextRow.laid w) (fun _ _ _ hh h => h.of_heap hh) own started (by kernel_rfl) Tryd.func8
    (ChangeSpec.witness_shaped (enc := enc) (C := Tryd.checked) (os := os) (X := fun w _ => laidMetH Tryd.prog Rows.fnExactJournalTextRow.laid w) false (World.laidAll Tryd.prog os Rows.fnExactJournalTextRow.laid) #[.slice none 0 0] 8 (World.laidAll_os _ _ _)
      (World.shaped_of_ZipB (by kernel_rfl) (by kernel_rfl)) (by kernel_rfl) (by kernel_rfl) (by kernel_rfl)
      (by rw [MakeChecks.laidMetH_plain _ _ _ (by kernel_rfl)]; exact laidMet_laidAll _ (by kernel_rfl) (by kernel_rfl))) ?_
  intro W base args ds gs before hval0 hW _ _ _ _
  have hL : laidMet Tryd.prog Rows.fnExactJournalTextRow.laid W := by
    have hx : laidMetH Tryd.prog Rows.fnExactJournalTextRow.laid W := by assumption
    rwa [MakeChecks.laidMetH_plain _ _ _ (by kernel_rfl)] at hx
  have hlib := libs hL
  have hval : ∀ (j : Nat) t v, Tryd.f8.params[j]? = some t → args[j]? = some v → Value.okWide Tryd.prog W .any base t v := hval0
  have hW' := hW
  obtain ⟨p, q, hA0, hV, rfl, hfz, hnd⟩ := hW
  have hA : DataW.TrodAll enc Tryd.prog W 0 (fun _ => true) true Tryd.f8.params.toList args.toList ds p := hA0
  rw [Tryd.params8] at hA hval
  obtain ⟨v0, vs0, d0, ds0, p0, q0, hargs, rfl, rfl, h0, r0⟩ := trodAll_cons hA
  obtain ⟨rfl, rfl, rfl⟩ := trodAll_nil r0
  obtain rfl : args = #[v0] := by cases args; simp_all
  obtain ⟨rfl, rfl⟩ := trodVars_none hV
  have k0 := h0
  have lt0 : ∀ x ∈ p0, x.block < W.heap.size := by obtain ⟨m, hm⟩ := k0; exact DataW.trod_lt m _ _ _ hm
  obtain ⟨t0, n0⟩ := open_deeds (hval 0 43 v0 rfl rfl) h0
  clear hA0 hval0
  refine (walk W hlib v0 t0 n0).mono fun e W' ⟨he, bel⟩ => ?_
  subst he
  exact ⟨_, rfl, _, _, _, [], _, [], hW', trodAll_mk1 (shut_bool Tryd.underlying4 _), (trodAll_cons_mk (Below.trod laidOut (by kernel_rfl) (of_decide_eq_true (by kernel_rfl)) k0 bel lt0) trodAll_mk0), rfl, bel.frame _, fun h => by cases h⟩

theorem over : Rows.fnExactJournalTextRow.holds Tryd.pinned (OpenSpec.ofChange Rows.fnExactJournalTextSpec) :=
  OpenClaim.holds_of_wide 8 Tryd.f8 rfl rfl rfl rfl rfl rfl rfl ⟨rfl, rfl, rfl, rfl, rfl⟩ rfl rfl rfl rfl rfl (by kernel_rfl) Tryd.func8 (by kernel_rfl)
    (of_decide_eq_true (by kernel_rfl)) (by unfold Func.isWrapper; first | (rw [if_pos (by decide +kernel)]; kernel_rfl) | (rw [if_neg (by decide +kernel)]; exact ⟨rfl, rfl⟩))
    (fun os started H enc _ => lifted os started H enc)
theorem proved : Rows.FnExactJournalTextCardSaid :=
  Claim7.holds_tied_plain_at .later [] [.data, .data, .data] true (true, "ee1a2cc3469d77f0e4d2fcaf729fe5dc837151b7291c2355d52507daa323b9f8") true over (fun _ h => by cases h) (by kernel_rfl) (fun _ h => by cases h) fnExactJournalText_row_tie rfl ⟨rfl, rfl⟩ (by kernel_rfl) rfl
    (fun f fn hf hfn => by
      obtain rfl : f = 8 := Option.some.inj ((show Tryd.prog.funcNamed "loop.example/numberwords/laws.FnExactJournalText" = some 8 by kernel_rfl).symm.trans hf) |>.symm
      obtain rfl : fn = Tryd.f8 := (Option.some.inj (Tryd.func8.symm.trans hfn)).symm
      exact ⟨by kernel_rfl, fun j t ht => by
        rw [Tryd.params8] at ht
        have hm : t ∈ [43] := by simpa using Array.mem_of_getElem? ht
        have hall : ([43].all fun u => !Tryd.prog.wantsStandIn u) = true := by kernel_rfl
        exact (show Tryd.prog.wantsStandIn t = false by simpa using List.all_eq_true.1 hall t hm)⟩)
    (by kernel_rfl)
end Go.Proofs.YtfmdbmhakkajfaaDoor.fnExactJournalText
