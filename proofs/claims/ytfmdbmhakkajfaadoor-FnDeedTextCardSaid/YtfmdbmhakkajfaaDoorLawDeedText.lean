/-
  FnDeedText holds for every input: the text of the drawn deed is the model's, and is read as the deed. No condition but that the library's variables read as the program lays them.
-/
import Derived.Test.YtfmdbmhakkajfaaDoorCards
import Derived.Test.YtfmdbmhakkajfaaDoorTie
import Derived.Lay
import Derived.LaidMore
import Derived.SevenTiedAt
import Derived.Stop.Joined
import Derived.Test.YtfmdbmhakkajfaaDoorLaidV
import Derived.Test.YtfmdbmhakkajfaaDoorVf
import Derived.Test.YtfmdbmhakkajfaaDoorDrawRd
namespace Go.Proofs.YtfmdbmhakkajfaaDoor.fnDeedText
open Go.ChangeShapes Go.WideShapes Go.ChangeAt Go.RowKit
open Go.ChangeMaps (open_string shut_string)

theorem own : ownKnob Tryd.prog.godebug = none := by kernel_rfl
theorem laidOut : laidOutB Tryd.prog = true := by kernel_rfl
theorem libs {W : World} (h : laidMet Tryd.prog Rows.fnDeedTextRow.laid W) : LibV W := ⟨libT_of h.tail.tail, libE_of h.tail.tail.tail⟩

set_option maxRecDepth 100000 in
set_option maxHeartbeats 4000000 in
theorem walk (w : World) (hL : LibV w) (A : Option Addr) (n c : Nat) (xs : List Int) (h : Ints w .u8 A n c xs) (hwf : ∀ x ∈ xs, (Lit.int .u8 x).wf = true) (hc : c ≤ maxLen) :
    Calls Tryd.prog 3 #[.slice A n c] w fun e w' => e = .returned (.bool true) ∧ Below w.heap.size w w' := by
  have hn : n ≤ 9223372036854775807 := by have := h.le; unfold maxLen at hc; omega
  by_cases hl : n ≤ 1048576
  · have HD := Lib.hid (drawDeedText_any A n c xs w h hl hwf hc)
    clear h hwf hc
    go_enter Tryd.func3, Tryd.ntmps3
    go_wp2_with (fail)
    refine HD.out.mono ?_
    rintro e w1 ⟨a, rfl, -, hb⟩
    have hba := (Below.refl w1.heap.size w1).alloc (Nat.le_refl _) (.cells #[.int .i64 a.kind, .int .i64 a.n] 24)
    have kA := Lib.hid (Blk.new w1 24 #[.int .i64 a.kind, .int .i64 a.n])
    have HB := Lib.hid (hb.trans (hba.mono hb.size))
    clear hb hba HD
    go_upto_region 4 with (fail)
    generalize w1.alloc (.cells #[.int .i64 a.kind, .int .i64 a.n] 24) = W at *
    generalize w1.heap.size = q at *
    have x0 : W.cell? ⟨q, 0, none⟩ = some (.int .i64 a.kind) := kA.out.cell 0
    have x1 : W.cell? ⟨q, 1, none⟩ = some (.int .i64 a.n) := kA.out.cell 1
    go_wp2_with (fail)
    refine (implDeedText_any a W (hL.t.below HB.out (Nat.le_refl _))).mono ?_
    rintro e W2 ⟨rfl, b2⟩
    replace HB := Lib.hid (HB.out.trans (b2.mono HB.out.size))
    replace kA := Lib.hid (kA.out.below b2 kA.out.lt)
    clear b2 x0 x1
    have x0 : W2.cell? ⟨q, 0, none⟩ = some (.int .i64 a.kind) := kA.out.cell 0
    have x1 : W2.cell? ⟨q, 1, none⟩ = some (.int .i64 a.n) := kA.out.cell 1
    go_wp2_with (fail)
    refine (specDeedText_any a W2).mono ?_
    rintro e W3 ⟨rfl, b3⟩
    replace HB := Lib.hid (HB.out.trans (b3.mono HB.out.size))
    replace kA := Lib.hid (kA.out.below b3 kA.out.lt)
    clear b3 x0 x1
    have hds := deed_size a
    have hrd := Lib.hid (fun h => rd_deed (a := a) (l := tl (deedT a)) rfl h)
    generalize deedT a = s at *
    have hq : (s.toList == s.toList) = true := by simp
    by_cases he : s = ⟨#[]⟩
    · have hse : s.toList.isEmpty = true := by rw [emp_iff]; exact decide_eq_true he
      replace he := Lib.hid he
      go_wp2_with (fail)
      refine (alive_any W3).mono ?_
      rintro e w4 ⟨rfl, b4⟩
      replace HB := Lib.hid (HB.out.trans (b4.mono HB.out.size))
      clear b4
      go_wp2
      go_ret
      exact ⟨rfl, HB.out⟩
    · have hse : s.toList.isEmpty = false := by rw [emp_iff]; exact decide_eq_false he
      obtain ⟨hb1, hv1⟩ := hrd.out (fun e => he (tl_inj e))
      have KR := implReadDeed_any s W3 (by omega) (hL.t.below HB.out (Nat.le_refl _)) (hL.e.below HB.out (Nat.le_refl _))
      unfold RetRd at KR
      rw [hb1, hv1] at KR
      replace KR := Lib.hid KR
      replace he := Lib.hid he
      replace hb1 := Lib.hid hb1
      replace hv1 := Lib.hid hv1
      go_wp2_with (go_at_call 14; refine KR.out.mono ?_; rintro e w4 ⟨rfl, b4⟩; refine Hid.out ?_)
      have hA4 := (Below.refl w4.heap.size w4).alloc (Nat.le_refl _) (.cells #[.int .i64 a.kind, .int .i64 a.n] 24)
      have b4' := b4.trans (hA4.mono b4.size)
      replace HB := Lib.hid (HB.out.trans (b4'.mono HB.out.size))
      replace kA := Lib.hid (kA.out.below b4' kA.out.lt)
      have kY := Lib.hid (Blk.new w4 24 #[.int .i64 a.kind, .int .i64 a.n])
      clear hA4 b4 b4'
      refine Lib.hid ?_
      go_upto_region 10 with (fail)
      generalize w4.alloc (.cells #[.int .i64 a.kind, .int .i64 a.n] 24) = W5 at *
      generalize w4.heap.size = q2 at *
      have x0 : W5.cell? ⟨q, 0, none⟩ = some (.int .i64 a.kind) := kA.out.cell 0
      have x1 : W5.cell? ⟨q, 1, none⟩ = some (.int .i64 a.n) := kA.out.cell 1
      have y0 : W5.cell? ⟨q2, 0, none⟩ = some (.int .i64 a.kind) := kY.out.cell 0
      have y1 : W5.cell? ⟨q2, 1, none⟩ = some (.int .i64 a.n) := kY.out.cell 1
      have e1 : (a.kind == a.kind) = true := by simp
      have e2 : (a.n == a.n) = true := by simp
      go_wp2
      go_ret
      exact ⟨rfl, HB.out⟩
  · have t1 : (1048576 : Int) < (n : Int) := by omega
    go_enter Tryd.func3, Tryd.ntmps3
    go_wp2
    go_ret
    exact ⟨rfl, Below.refl _ _⟩

set_option maxRecDepth 100000 in
theorem lifted (os : Os) (started : os.Started) (H : Type) (enc : TypeId × Value → H) :
    ReturnsInHanded {} Tryd.checked os 3 .any (fun w args => (Rows.fnDeedTextSpec.pre enc Tryd.prog Tryd.f3 Rows.fnDeedTextRow.domain false w args ∧ laidMetH Tryd.prog Rows.fnDeedTextRow.laid w) ∧ sizedMet enc Tryd.prog Tryd.f3 (OpenSpec.ofChange Rows.fnDeedTextSpec) false w args)
      (Rows.fnDeedTextSpec.post enc Tryd.prog Tryd.f3 false true false false) := by
  refine returnsInHanded_of_change_and (C := Tryd.checked) (X := fun w _ => laidMetH Tryd.prog Rows.fnDeedTextRow.laid w) (fun _ _ _ hh h => h.of_heap hh) own started (by kernel_rfl) Tryd.func3
    (ChangeSpec.witness_shaped (enc := enc) (C := Tryd.checked) (os := os) (X := fun w _ => laidMetH Tryd.prog Rows.fnDeedTextRow.laid w) false (World.laidAll Tryd.prog os Rows.fnDeedTextRow.laid) #[.slice none 0 0] 8 (World.laidAll_os _ _ _)
      (World.shaped_of_ZipB (by kernel_rfl) (by kernel_rfl)) (by kernel_rfl) (by kernel_rfl) (by kernel_rfl)
      (by rw [MakeChecks.laidMetH_plain _ _ _ (by kernel_rfl)]; exact laidMet_laidAll _ (by kernel_rfl) (by kernel_rfl))) ?_
  intro W base args ds gs before hval0 hW _ _ _ _
  have hL : laidMet Tryd.prog Rows.fnDeedTextRow.laid W := by
    have hx : laidMetH Tryd.prog Rows.fnDeedTextRow.laid W := by assumption
    rwa [MakeChecks.laidMetH_plain _ _ _ (by kernel_rfl)] at hx
  have hlib := libs hL
  have hval : ∀ (j : Nat) t v, Tryd.f3.params[j]? = some t → args[j]? = some v → Value.okWide Tryd.prog W .any base t v := hval0
  have hW' := hW
  obtain ⟨p, q, hA0, hV, rfl, hfz, hnd⟩ := hW
  have hA : DataW.TrodAll enc Tryd.prog W 0 (fun _ => true) true Tryd.f3.params.toList args.toList ds p := hA0
  rw [Tryd.params3] at hA hval
  obtain ⟨v0, vs0, d0, ds0, p0, q0, hargs, rfl, rfl, h0, r0⟩ := trodAll_cons hA
  obtain ⟨rfl, rfl, rfl⟩ := trodAll_nil r0
  obtain rfl : args = #[v0] := by cases args; simp_all
  obtain ⟨rfl, rfl⟩ := trodVars_none hV
  obtain ⟨a0, len0, cap0, rfl⟩ := okWide_slice Tryd.underlying22 (hval 0 22 v0 rfl rfl)
  have k0 := h0
  have lt0 : ∀ x ∈ p0, x.block < W.heap.size := by obtain ⟨m, hm⟩ := k0; exact DataW.trod_lt m _ _ _ hm
  obtain ⟨z0, s0, w0, m0⟩ : ∃ zs, Ints W .u8 a0 len0 cap0 zs ∧ (∀ n ∈ zs, (Lit.int .u8 n).wf = true) ∧ cap0 ≤ maxLen := by
    obtain ⟨fuel, hf⟩ := h0
    rcases open_ints Tryd.underlying22 Tryd.underlying5 (by kernel_rfl) hf with ⟨hcs, _⟩ | ⟨x, l, c, zs, hcs, _, hl, hm, hz, _, hcell, hwz⟩
    · simp [Value.cells] at hcs
      obtain ⟨rfl, rfl, rfl⟩ := hcs
      exact ⟨[], Ints.none_, by simp, Nat.zero_le _⟩
    · simp [Value.cells] at hcs
      obtain ⟨rfl, rfl, rfl⟩ := hcs
      exact ⟨_, Ints.of_row hl (by simpa using hz) hcell, fun n hn => hwz n (List.mem_of_mem_take hn), hm⟩
  clear hA0 hval0
  refine (walk W hlib a0 len0 cap0 z0 s0 w0 m0).mono fun e W' ⟨he, bel⟩ => ?_
  subst he
  exact ⟨_, rfl, _, _, _, [], _, [], hW', trodAll_mk1 (shut_bool Tryd.underlying4 _), (trodAll_cons_mk (Below.trod laidOut (by kernel_rfl) (of_decide_eq_true (by kernel_rfl)) k0 bel lt0) trodAll_mk0), rfl, bel.frame _, fun h => by cases h⟩

theorem over : Rows.fnDeedTextRow.holds Tryd.pinned (OpenSpec.ofChange Rows.fnDeedTextSpec) :=
  OpenClaim.holds_of_wide 3 Tryd.f3 rfl rfl rfl rfl rfl rfl rfl ⟨rfl, rfl, rfl, rfl, rfl⟩ rfl rfl rfl rfl rfl (by kernel_rfl) Tryd.func3 (by kernel_rfl)
    (of_decide_eq_true (by kernel_rfl)) (by unfold Func.isWrapper; first | (rw [if_pos (by decide +kernel)]; kernel_rfl) | (rw [if_neg (by decide +kernel)]; exact ⟨rfl, rfl⟩))
    (fun os started H enc _ => lifted os started H enc)
theorem proved : Rows.FnDeedTextCardSaid :=
  Claim7.holds_tied_plain_at .later [] [.data, .data, .data, .sentinel, .sentinel] true (true, "ee1a2cc3469d77f0e4d2fcaf729fe5dc837151b7291c2355d52507daa323b9f8") true over (fun _ h => by cases h) (by kernel_rfl) (fun _ h => by cases h) fnDeedText_row_tie rfl ⟨rfl, rfl⟩ (by kernel_rfl) rfl
    (fun f fn hf hfn => by
      obtain rfl : f = 3 := Option.some.inj ((show Tryd.prog.funcNamed "loop.example/numberwords/laws.FnDeedText" = some 3 by kernel_rfl).symm.trans hf) |>.symm
      obtain rfl : fn = Tryd.f3 := (Option.some.inj (Tryd.func3.symm.trans hfn)).symm
      exact ⟨by kernel_rfl, fun j t ht => by
        rw [Tryd.params3] at ht
        have hm : t ∈ [22] := by simpa using Array.mem_of_getElem? ht
        have hall : ([22].all fun u => !Tryd.prog.wantsStandIn u) = true := by kernel_rfl
        exact (show Tryd.prog.wantsStandIn t = false by simpa using List.all_eq_true.1 hall t hm)⟩)
    (by kernel_rfl)
end Go.Proofs.YtfmdbmhakkajfaaDoor.fnDeedText
