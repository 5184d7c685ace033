/-
  FnExactReadJournal holds for every text: ReadJournal answers as its model, twice, and what it gave is the caller's own. No condition but that the library's variables read as the program lays them.
-/
import Derived.Test.YtfmdbmhakkajfaaDoorCards
import Derived.Test.YtfmdbmhakkajfaaDoorTie
import Derived.Lay
import Derived.LaidMore
import Derived.SevenTiedAt
import Derived.Stop.Joined
import Derived.Test.YtfmdbmhakkajfaaDoorDHq
import Derived.Test.YtfmdbmhakkajfaaDoorLaidV
import Derived.Test.YtfmdbmhakkajfaaDoorWi
namespace Go.Proofs.YtfmdbmhakkajfaaDoor.fnExactReadJournal
open Go.ChangeShapes Go.WideShapes Go.ChangeAt Go.RowKit
open Go.ChangeMaps (open_string shut_string)

theorem own : ownKnob Tryd.prog.godebug = none := by kernel_rfl
theorem laidOut : laidOutB Tryd.prog = true := by kernel_rfl
theorem libs {W : World} (h : laidMet Tryd.prog Rows.fnExactReadJournalRow.laid W) : LibV W := ⟨libT_of h.tail.tail, libE_of h.tail.tail.tail⟩

set_option maxRecDepth 100000 in
set_option maxHeartbeats 8000000 in
theorem walk (w : World) (hL : LibV w) (s : ByteArray) (_hs : s.size ≤ maxLen) :
    Calls Tryd.prog 9 #[.string s] w fun e w' => e = .returned (.bool true) ∧ Below w.heap.size w w' := by
  by_cases hl : s.size ≤ 1048576
  · have hl1 : ¬ (1048576 < (s.size : Int)) := by omega
    have hl2 : decide (1048576 < (s.size : Int)) = false := decide_eq_false hl1
    have hLn : (rj (tl s)).1.length ≤ 1048576 := by have := (rj_text _ (tl s) (Nat.le_refl _)).2.2.2; rw [tl_len] at this; omega
    have KS := Lib.hid (specReadJournal_any s w (by omega))
    have KI := Lib.hid (fun W hT hE => implReadJournal_any s W (by omega) hT hE)
    unfold RetJ at KS KI
    generalize (rj (tl s)).2 = N at *
    generalize (rj (tl s)).1 = L at *
    generalize hn : L.length = n at *
    replace hn := Lib.hid hn
    have hne : ((N : Int) != (N : Int)) = false := by simp
    have hne2 : ((1 + 2 * (n : Int)) != (1 + 2 * (n : Int))) = false := by simp
    have hneg : decide (1 + 2 * (n : Int) < 0) = false := decide_eq_false (by omega)
    have hneg' : ¬ 1 + 2 * (n : Int) < 0 := by omega
    go_enter Tryd.func9, Tryd.ntmps9
    go_wp2_with (go_at_call 27; refine KS.out.mono ?_; rintro e w1 ⟨v0, rfl, o0, b1⟩; refine Hid.out ?_)
    obtain ⟨A0, c0, e0, -⟩ := o0.deeds
    rw [hn.out] at e0
    subst e0
    have hB := Lib.hid b1
    have hs01 := b1.size
    replace o0 := Lib.hid o0
    have KI1 := Lib.hid (KI.out w1 (hL.t.below b1 (Nat.le_refl _)) (hL.e.below b1 (Nat.le_refl _)))
    clear b1 KS
    refine Lib.hid ?_
    go_wp2_with (go_at_call 20; refine KI1.out.mono ?_; rintro e w2 ⟨v1, rfl, o1, b2⟩; refine Hid.out ?_)
    obtain ⟨A1, c1, e1, d1⟩ := o1.deeds
    rw [hn.out] at e1 d1
    subst e1
    replace hB := Lib.hid (hB.out.trans (b2.mono hB.out.size))
    have hap : ∀ k, (Value.slice A1 n c1).ownBlock = some k → (Value.slice A0 n c0).ownBlock ≠ some k := fun k e e' => by
      have h1 := (World.ownsRow.lt o1 k e).1
      have h2 := (World.ownsRow.lt o0.out k e').2
      omega
    have hs1 := b2.size
    replace o0 := Lib.hid (o0.out.below b2 (Nat.le_refl _))
    replace o1 := Lib.hid o1
    replace hap := Lib.hid hap
    clear b2 KI1
    obtain ⟨A0', c0', e0, d0⟩ := o0.out.deeds
    rw [hn.out] at e0 d0
    cases e0
    refine Lib.hid ?_
    go_wp2_with (go_at_call 26; refine (eqDeedS_same A1 A0 n c1 c0 L w2 d1 d0 hLn).mono ?_; rintro e w3 ⟨rfl, b3⟩; refine Hid.out ?_)
    replace hB := Lib.hid (hB.out.trans (b3.mono hB.out.size))
    replace o0 := Lib.hid (o0.out.below b3 (Nat.le_refl _))
    have hs3 := b3.size
    have o1' := o1.out.below b3 (Nat.le_refl _)
    unfold OwnDds at o1'
    rw [hn.out] at o1'
    clear b3 d0 d1 o1
    have KM := Lib.hid (markDeedS_any _ _ n _ 1 w3 o1' hLn (by omega))
    replace o1' := Lib.hid o1'
    refine Lib.hid ?_
    go_wp2_with (go_at_call 28; refine KM.out.mono ?_; rintro e w4 ⟨rfl, m4, g4⟩; refine Hid.out ?_)
    replace hB := Lib.hid (belowD_own hB.out o1'.out g4 hB.out.size hs01)
    have o04 : OwnDds w4 w.heap.size (.slice A0 n c0) L := ownN_off o0.out g4 (fun k hk e => hap.out k e hk)
    have hs4 := g4.size
    have hw4 : w1.heap.size ≤ w4.heap.size := by omega
    have M4 := Lib.hid (marksD_own m4)
    have hle1 : n ≤ c1 := by
      rcases o1'.out.2 with ⟨e, h0⟩ | ⟨g, cap, cur, e, _, _, hh, _⟩
      · cases e; omega
      · cases e; exact hh
    replace o04 := Lib.hid o04
    clear m4 g4 o0 o1' KM
    refine Lib.hid ?_
    go_wp2_with (go_at_call 29; refine (heldDeedS_any A1 n c1 1 w4 M4.out hLn hle1 (by omega)).mono ?_; rintro e _ ⟨rfl, rfl⟩; refine Hid.out ?_)
    have KI2 := Lib.hid (KI.out w4 (hL.t.below hB.out (Nat.le_refl _)) (hL.e.below hB.out (Nat.le_refl _)))
    clear KI
    refine Lib.hid ?_
    go_wp2_with (go_at_call 20; refine KI2.out.mono ?_; rintro e w5 ⟨v5, rfl, o5, b5⟩; refine Hid.out ?_)
    obtain ⟨A5, c5, e5, d5⟩ := o5.deeds
    rw [hn.out] at e5 d5
    subst e5
    replace hB := Lib.hid (hB.out.trans (b5.mono hB.out.size))
    have o05 := o04.out.below b5 (Nat.le_refl _)
    have M5 := Lib.hid (M4.out.below b5)
    obtain ⟨A0', c0', e0, d0⟩ := o05.deeds
    rw [hn.out] at e0 d0
    cases e0
    clear KI2 b5 o5 o04 M4
    refine Lib.hid ?_
    go_wp2_with (go_at_call 26; refine (eqDeedS_same A5 A0 n c5 c0 L w5 d5 d0 hLn).mono ?_; rintro e w6 ⟨rfl, b6⟩; refine Hid.out ?_)
    replace hB := Lib.hid (hB.out.trans (b6.mono hB.out.size))
    have M6 := Lib.hid (M5.out.below b6)
    clear M5 b6 d5 d0 o05
    refine Lib.hid ?_
    go_wp2_with (go_at_call 29; refine (heldDeedS_any A1 n c1 1 w6 M6.out hLn hle1 (by omega)).mono ?_; rintro e _ ⟨rfl, rfl⟩)
    go_ret
    exact ⟨rfl, hB.out⟩
  · have hl1 : 1048576 < (s.size : Int) := by omega
    have hl2 : decide (1048576 < (s.size : Int)) = true := decide_eq_true hl1
    go_enter Tryd.func9, Tryd.ntmps9
    go_wp2
    go_ret
    exact ⟨rfl, Below.refl _ _⟩

set_option maxRecDepth 100000 in
theorem lifted (os : Os) (started : os.Started) (H : Type) (enc : TypeId × Value → H) :
    ReturnsInHanded {} Tryd.checked os 9 .any (fun w args => (Rows.fnExactReadJournalSpec.pre enc Tryd.prog Tryd.f9 Rows.fnExactReadJournalRow.domain false w args ∧ laidMetH Tryd.prog Rows.fnExactReadJournalRow.laid w) ∧ sizedMet enc Tryd.prog Tryd.f9 (OpenSpec.ofChange Rows.fnExactReadJournalSpec) false w args)
      (Rows.fnExactReadJournalSpec.post enc Tryd.prog Tryd.f9 false true false false) := by
  refine returnsInHanded_of_change_and (C := Tryd.checked) (X := fun w _ => laidMetH Tryd.prog Rows.fnExactReadJournalRow.laid w) (fun _ _ _ hh h => h.of_heap hh) own started (by kernel_rfl) Tryd.func9
    (ChangeSpec.witness_shaped (enc := enc) (C := Tryd.checked) (os := os) (X := fun w _ => laidMetH Tryd.prog Rows.fnExactReadJournalRow.laid w) false (World.laidAll Tryd.prog os Rows.fnExactReadJournalRow.laid) #[.string ByteArray.empty] 8 (World.laidAll_os _ _ _)
      (World.shaped_of_ZipB (by kernel_rfl) (by kernel_rfl)) (by kernel_rfl) (by kernel_rfl) (by kernel_rfl)
      (by rw [MakeChecks.laidMetH_plain _ _ _ (by kernel_rfl)]; exact laidMet_laidAll _ (by kernel_rfl) (by kernel_rfl))) ?_
  intro W base args ds gs before hval0 hW _ _ _ _
  have hL : laidMet Tryd.prog Rows.fnExactReadJournalRow.laid W := by
    have hx : laidMetH Tryd.prog Rows.fnExactReadJournalRow.laid W := by assumption
    rwa [MakeChecks.laidMetH_plain _ _ _ (by kernel_rfl)] at hx
  have hlib := libs hL
  have hval : ∀ (j : Nat) t v, Tryd.f9.params[j]? = some t → args[j]? = some v → Value.okWide Tryd.prog W .any base t v := hval0
  have hW' := hW
  obtain ⟨p, q, hA0, hV, rfl, hfz, hnd⟩ := hW
  have hA : DataW.TrodAll enc Tryd.prog W 0 (fun _ => true) true Tryd.f9.params.toList args.toList ds p := hA0
  rw [Tryd.params9] at hA hval
  obtain ⟨v0, vs0, d0, ds0, p0, q0, hargs, rfl, rfl, h0, r0⟩ := trodAll_cons hA
  obtain ⟨rfl, rfl, rfl⟩ := trodAll_nil r0
  obtain rfl : args = #[v0] := by cases args; simp_all
  obtain ⟨rfl, rfl⟩ := trodVars_none hV
  obtain ⟨a0, rfl, rfl, rfl, w0⟩ := open_string Tryd.underlying9 (hval 0 9 v0 rfl rfl) h0
  clear hA0 hval0
  refine (walk W hlib a0 w0).mono fun e W' ⟨he, bel⟩ => ?_
  subst he
  exact ⟨_, rfl, _, _, _, [], _, [], hW', trodAll_mk1 (shut_bool Tryd.underlying4 _), (trodAll_cons_mk (shut_string Tryd.underlying9 w0) trodAll_mk0), rfl, bel.frame _, fun h => by cases h⟩

theorem over : Rows.fnExactReadJournalRow.holds Tryd.pinned (OpenSpec.ofChange Rows.fnExactReadJournalSpec) :=
  OpenClaim.holds_of_wide 9 Tryd.f9 rfl rfl rfl rfl rfl rfl rfl ⟨rfl, rfl, rfl, rfl, rfl⟩ rfl rfl rfl rfl rfl (by kernel_rfl) Tryd.func9 (by kernel_rfl)
    (of_decide_eq_true (by kernel_rfl)) (by unfold Func.isWrapper; first | (rw [if_pos (by decide +kernel)]; kernel_rfl) | (rw [if_neg (by decide +kernel)]; exact ⟨rfl, rfl⟩))
    (fun os started H enc _ => lifted os started H enc)
theorem proved : Rows.FnExactReadJournalCardSaid :=
  Claim7.holds_tied_plain_at .later [] [.data, .data, .data, .sentinel, .sentinel] true (true, "ee1a2cc3469d77f0e4d2fcaf729fe5dc837151b7291c2355d52507daa323b9f8") true over (fun _ h => by cases h) (by kernel_rfl) (fun _ h => by cases h) fnExactReadJournal_row_tie rfl ⟨rfl, rfl⟩ (by kernel_rfl) rfl
    (fun f fn hf hfn => by
      obtain rfl : f = 9 := Option.some.inj ((show Tryd.prog.funcNamed "loop.example/numberwords/laws.FnExactReadJournal" = some 9 by kernel_rfl).symm.trans hf) |>.symm
      obtain rfl : fn = Tryd.f9 := (Option.some.inj (Tryd.func9.symm.trans hfn)).symm
      exact ⟨by kernel_rfl, fun j t ht => by
        rw [Tryd.params9] at ht
        have hm : t ∈ [9] := by simpa using Array.mem_of_getElem? ht
        have hall : ([9].all fun u => !Tryd.prog.wantsStandIn u) = true := by kernel_rfl
        exact (show Tryd.prog.wantsStandIn t = false by simpa using List.all_eq_true.1 hall t hm)⟩)
    (by kernel_rfl)
end Go.Proofs.YtfmdbmhakkajfaaDoor.fnExactReadJournal
