/-
  FnJournalText holds for every input: the text of the drawn deeds is the model's, and is read as these deeds. No condition but that the library's variables read as the program lays them.
-/
import Derived.Test.YtfmdbmhakkajfaaDoorCards
import Derived.Test.YtfmdbmhakkajfaaDoorTie
import Derived.Lay
import Derived.LaidMore
import Derived.SevenTiedAt
import Derived.Stop.Joined
import Derived.Test.YtfmdbmhakkajfaaDoorLaidV
import Derived.Test.YtfmdbmhakkajfaaDoorWi
import Derived.Test.YtfmdbmhakkajfaaDoorSdd
import Derived.Test.YtfmdbmhakkajfaaDoorDrawJt
namespace Go.Proofs.YtfmdbmhakkajfaaDoor.fnJournalText
open Go.ChangeShapes Go.WideShapes Go.ChangeAt Go.RowKit
open Go.ChangeMaps (open_string shut_string)

theorem own : ownKnob Tryd.prog.godebug = none := by kernel_rfl
theorem laidOut : laidOutB Tryd.prog = true := by kernel_rfl
theorem libs {W : World} (h : laidMet Tryd.prog Rows.fnJournalTextRow.laid W) : LibV W := ⟨libT_of h.tail.tail, libE_of h.tail.tail.tail⟩

set_option maxRecDepth 100000 in
set_option maxHeartbeats 4000000 in
theorem walk (w : World) (hL : LibV w) (A : Option Addr) (n c : Nat) (xs : List Int) (h : Ints w .u8 A n c xs) (hwf : ∀ x ∈ xs, (Lit.int .u8 x).wf = true) (hc : c ≤ maxLen) :
    Calls Tryd.prog 5 #[.slice A n c] w fun e w' => e = .returned (.bool true) ∧ Below w.heap.size w w' := by
  have hn : n ≤ 9223372036854775807 := by have := h.le; unfold maxLen at hc; omega
  by_cases hl : n ≤ 1048576
  · have HD := Lib.hid (drawJournalText_any A n c xs w h hl hwf hc)
    have t1 : ¬ (1048576 : Int) < (n : Int) := by omega
    clear h hwf hc
    go_enter Tryd.func5, Tryd.ntmps5
    go_wp2_with (fail)
    refine HD.out.mono ?_
    rintro e w1 ⟨A1, c1, q, rfl, d1, hq6, b1⟩
    have hB := Lib.hid b1
    generalize hm : q.length = m at *
    replace hm := Lib.hid hm
    clear b1 HD
    go_wp2_with (fail)
    refine (implJournalText_any A1 m c1 q w1 d1 (by omega) (hL.t.below hB.out (Nat.le_refl _))).mono ?_
    rintro e w2 ⟨rfl, b2⟩
    replace hB := Lib.hid (hB.out.trans (b2.mono hB.out.size))
    replace d1 := Lib.hid (d1.below b2 (Nat.le_refl _))
    clear b2
    go_wp2_with (fail)
    refine (specJournalText_any A1 m c1 q w2 d1.out (by omega)).mono ?_
    rintro e w3 ⟨rfl, b3⟩
    replace hB := Lib.hid (hB.out.trans (b3.mono hB.out.size))
    replace d1 := Lib.hid (d1.out.below b3 (Nat.le_refl _))
    clear b3
    have hz := jT_size q
    have hrj := Lib.hid (fun (e : jT q ≠ ⟨#[]⟩) => rj_written (L := q) (fun e2 => e (by unfold jT; rw [e2])))
    have htl : tl (jT q) = jL q := rfl
    have hjs : (jL q).length = (jT q).size := by rw [← htl, tl_len]
    rw [← htl] at hrj hjs
    clear htl
    generalize jT q = s at *
    have hq : (s.toList == s.toList) = true := by simp
    by_cases he : s = ⟨#[]⟩
    · have hse : s.toList.isEmpty = true := by rw [emp_iff]; exact decide_eq_true he
      replace he := Lib.hid he
      go_wp2_with (fail)
      refine (alive_any w3).mono ?_
      rintro e w4 ⟨rfl, b4⟩
      replace hB := Lib.hid (hB.out.trans (b4.mono hB.out.size))
      clear b4
      go_wp2
      go_ret
      exact ⟨rfl, hB.out⟩
    · have hse : s.toList.isEmpty = false := by rw [emp_iff]; exact decide_eq_false he
      have hrj2 := hrj.out he
      have KR := implReadJournal_any s w3 (by rw [hm.out] at hz; omega) (hL.t.below hB.out (Nat.le_refl _)) (hL.e.below hB.out (Nat.le_refl _))
      unfold RetJ at KR
      rw [hrj2] at KR
      rw [hjs] at KR
      dsimp only at KR
      replace KR := Lib.hid KR
      replace he := Lib.hid he
      clear hrj hrj2 hjs
      have heq : ((s.size : Int) == (s.size : Int)) = true := by simp
      go_wp2_with (go_at_call 20; refine KR.out.mono ?_; rintro e w4 ⟨v4, rfl, o4, b4⟩; refine Hid.out ?_)
      obtain ⟨A4, c4, e4, d4⟩ := o4.deeds
      rw [hm.out] at e4 d4
      subst e4
      replace hB := Lib.hid (hB.out.trans (b4.mono hB.out.size))
      replace d1 := Lib.hid (d1.out.below b4 (Nat.le_refl _))
      clear o4 b4 KR
      refine Lib.hid ?_
      go_wp2_with (go_at_call 21; refine (sameDeeds_same A4 A1 m c4 c1 q w4 d4 d1.out (by omega)).mono ?_; rintro e _ ⟨rfl, k, rfl⟩)
      go_ret
      exact ⟨rfl, below_drewJ hB.out k⟩
  · have t1 : (1048576 : Int) < (n : Int) := by omega
    go_enter Tryd.func5, Tryd.ntmps5
    go_wp2
    go_ret
    exact ⟨rfl, Below.refl _ _⟩

set_option maxRecDepth 100000 in
theorem lifted (os : Os) (started : os.Started) (H : Type) (enc : TypeId × Value → H) :
    ReturnsInHanded {} Tryd.checked os 5 .any (fun w args => (Rows.fnJournalTextSpec.pre enc Tryd.prog Tryd.f5 Rows.fnJournalTextRow.domain false w args ∧ laidMetH Tryd.prog Rows.fnJournalTextRow.laid w) ∧ sizedMet enc Tryd.prog Tryd.f5 (OpenSpec.ofChange Rows.fnJournalTextSpec) false w args)
      (Rows.fnJournalTextSpec.post enc Tryd.prog Tryd.f5 false true false false) := by
  refine returnsInHanded_of_change_and (C := Tryd.checked) (X := fun w _ => laidMetH Tryd.prog Rows.fnJournalTextRow.laid w) (fun _ _ _ hh h => h.of_heap hh) own started (by kernel_rfl) Tryd.func5
    (ChangeSpec.witness_shaped (enc := enc) (C := Tryd.checked) (os := os) (X := fun w _ => laidMetH Tryd.prog Rows.fnJournalTextRow.laid w) false (World.laidAll Tryd.prog os Rows.fnJournalTextRow.laid) #[.slice none 0 0] 8 (World.laidAll_os _ _ _)
      (World.shaped_of_ZipB (by kernel_rfl) (by kernel_rfl)) (by kernel_rfl) (by kernel_rfl) (by kernel_rfl)
      (by rw [MakeChecks.laidMetH_plain _ _ _ (by kernel_rfl)]; exact laidMet_laidAll _ (by kernel_rfl) (by kernel_rfl))) ?_
  intro W base args ds gs before hval0 hW _ _ _ _
  have hL : laidMet Tryd.prog Rows.fnJournalTextRow.laid W := by
    have hx : laidMetH Tryd.prog Rows.fnJournalTextRow.laid W := by assumption
    rwa [MakeChecks.laidMetH_plain _ _ _ (by kernel_rfl)] at hx
  have hlib := libs hL
  have hval : ∀ (j : Nat) t v, Tryd.f5.params[j]? = some t → args[j]? = some v → Value.okWide Tryd.prog W .any base t v := hval0
  have hW' := hW
  obtain ⟨p, q, hA0, hV, rfl, hfz, hnd⟩ := hW
  have hA : DataW.TrodAll enc Tryd.prog W 0 (fun _ => true) true Tryd.f5.params.toList args.toList ds p := hA0
  rw [Tryd.params5] at hA hval
  obtain ⟨v0, vs0, d0, ds0, p0, q0, hargs, rfl, rfl, h0, r0⟩ := trodAll_cons hA
  obtain ⟨rfl, rfl, rfl⟩ := trodAll_nil r0
  obtain rfl : args = #[v0] := by cases args; simp_all
  obtain ⟨rfl, rfl⟩ := trodVars_none hV
  obtain ⟨a0, len0, cap0, rfl⟩ := okWide_slice Tryd.underlying22 (hval 0 22 v0 rfl rfl)
  have k0 := h0
  have lt0 : ∀ x ∈ p0, x.block < W.heap.size := by obtain ⟨m, hm⟩ := k0; exact DataW.trod_lt m _ _ _ hm
  obtain ⟨z0, s0, w0, m0⟩ : ∃ zs, Ints W .u8 a0 len0 cap0 zs ∧ (∀ n ∈ zs, (Lit.int .u8 n).wf = true) ∧ cap0 ≤ maxLen := by
    obtain ⟨fuel, hf⟩ := h0
    rcases open_ints Tryd.underlying22 Tryd.underlying5 (by kernel_rfl) hf with ⟨hcs, _⟩ | ⟨x, l, c, zs, hcs, _, hl, hm, hz, _, hcell, hwz⟩
    · simp [Value.cells] at hcs
      obtain ⟨rfl, rfl, rfl⟩ := hcs
      exact ⟨[], Ints.none_, by simp, Nat.zero_le _⟩
    · simp [Value.cells] at hcs
      obtain ⟨rfl, rfl, rfl⟩ := hcs
      exact ⟨_, Ints.of_row hl (by simpa using hz) hcell, fun n hn => hwz n (List.mem_of_mem_take hn), hm⟩
  clear hA0 hval0
  refine (walk W hlib a0 len0 cap0 z0 s0 w0 m0).mono fun e W' ⟨he, bel⟩ => ?_
  subst he
  exact ⟨_, rfl, _, _, _, [], _, [], hW', trodAll_mk1 (shut_bool Tryd.underlying4 _), (trodAll_cons_mk (Below.trod laidOut (by kernel_rfl) (of_decide_eq_true (by kernel_rfl)) k0 bel lt0) trodAll_mk0), rfl, bel.frame _, fun h => by cases h⟩

theorem over : Rows.fnJournalTextRow.holds Tryd.pinned (OpenSpec.ofChange Rows.fnJournalTextSpec) :=
  OpenClaim.holds_of_wide 5 Tryd.f5 rfl rfl rfl rfl rfl rfl rfl ⟨rfl, rfl, rfl, rfl, rfl⟩ rfl rfl rfl rfl rfl (by kernel_rfl) Tryd.func5 (by kernel_rfl)
    (of_decide_eq_true (by kernel_rfl)) (by unfold Func.isWrapper; first | (rw [if_pos (by decide +kernel)]; kernel_rfl) | (rw [if_neg (by decide +kernel)]; exact ⟨rfl, rfl⟩))
    (fun os started H enc _ => lifted os started H enc)
theorem proved : Rows.FnJournalTextCardSaid :=
  Claim7.holds_tied_plain_at .later [] [.data, .data, .data, .sentinel, .sentinel] true (true, "ee1a2cc3469d77f0e4d2fcaf729fe5dc837151b7291c2355d52507daa323b9f8") true over (fun _ h => by cases h) (by kernel_rfl) (fun _ h => by cases h) fnJournalText_row_tie rfl ⟨rfl, rfl⟩ (by kernel_rfl) rfl
    (fun f fn hf hfn => by
      obtain rfl : f = 5 := Option.some.inj ((show Tryd.prog.funcNamed "loop.example/numberwords/laws.FnJournalText" = some 5 by kernel_rfl).symm.trans hf) |>.symm
      obtain rfl : fn = Tryd.f5 := (Option.some.inj (Tryd.func5.symm.trans hfn)).symm
      exact ⟨by kernel_rfl, fun j t ht => by
        rw [Tryd.params5] at ht
        have hm : t ∈ [22] := by simpa using Array.mem_of_getElem? ht
        have hall : ([22].all fun u => !Tryd.prog.wantsStandIn u) = true := by kernel_rfl
        exact (show Tryd.prog.wantsStandIn t = false by simpa using List.all_eq_true.1 hall t hm)⟩)
    (by kernel_rfl)
end Go.Proofs.YtfmdbmhakkajfaaDoor.fnJournalText
