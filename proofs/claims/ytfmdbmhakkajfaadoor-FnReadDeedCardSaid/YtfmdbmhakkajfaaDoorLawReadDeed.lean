/-
  FnReadDeed holds for every input: the drawn text is read as the model reads it, its deed's text is the text, and with a space behind it it is refused. No condition but that the library's variables read as the program lays them.
-/
import Derived.Test.YtfmdbmhakkajfaaDoorCards
import Derived.Test.YtfmdbmhakkajfaaDoorTie
import Derived.Lay
import Derived.LaidMore
import Derived.SevenTiedAt
import Derived.Stop.Joined
import Derived.Test.YtfmdbmhakkajfaaDoorLaidV
import Derived.Test.YtfmdbmhakkajfaaDoorVf
import Derived.Test.YtfmdbmhakkajfaaDoorDrawRd
namespace Go.Proofs.YtfmdbmhakkajfaaDoor.fnReadDeed
open Go.ChangeShapes Go.WideShapes Go.ChangeAt Go.RowKit
open Go.ChangeMaps (open_string shut_string)

theorem own : ownKnob Tryd.prog.godebug = none := by kernel_rfl
theorem laidOut : laidOutB Tryd.prog = true := by kernel_rfl
theorem libs {W : World} (h : laidMet Tryd.prog Rows.fnReadDeedRow.laid W) : LibV W := ⟨libT_of h.tail.tail, libE_of h.tail.tail.tail⟩

set_option maxRecDepth 100000 in
set_option maxHeartbeats 4000000 in
theorem walk (w : World) (hL : LibV w) (A : Option Addr) (n c : Nat) (xs : List Int) (h : Ints w .u8 A n c xs) (hwf : ∀ x ∈ xs, (Lit.int .u8 x).wf = true) (hc : c ≤ maxLen) :
    Calls Tryd.prog 4 #[.slice A n c] w fun e w' => e = .returned (.bool true) ∧ Below w.heap.size w w' := by
  have hn : n ≤ 9223372036854775807 := by have := h.le; unfold maxLen at hc; omega
  by_cases hl : n ≤ 1048576
  · have HD := Lib.hid (drawReadDeed_any A n c xs w h hl hwf hc)
    clear h hwf hc
    go_enter Tryd.func4, Tryd.ntmps4
    go_wp2_with (fail)
    refine HD.out.mono ?_
    rintro e w1 ⟨s, rfl, hs, hb⟩
    have HB := Lib.hid hb
    clear hb HD
    have KI := Lib.hid (fun W hT hE => implReadDeed_any s W (by omega) hT hE)
    have KM := Lib.hid (fun W => specReadDeed_any s W (by omega))
    have KI2 := Lib.hid (fun W hT hE => implReadDeed_any (s ++ ⟨#[32]⟩) W (by rw [ByteArray.size_append]; have : (⟨#[32]⟩ : ByteArray).size = 1 := rfl; omega) hT hE)
    have hsp : rdB (tl (s ++ ⟨#[32]⟩)) = false := by rw [tl_app]; exact rd_space (tl s)
    have hno := Lib.hid (rd_no (l := tl s))
    have htx := Lib.hid (rd_text (l := tl s))
    unfold RetRd at KI KM KI2
    have hnv := rd_no hsp
    rw [hsp, hnv] at KI2
    replace hsp := Lib.hid hsp
    replace hnv := Lib.hid hnv
    have hDT : ∀ a : Dd, deedL a = tl s → deedT a = s := fun a h => tl_inj h
    replace hDT := Lib.hid hDT
    generalize rdB (tl s) = rb at *
    generalize rdV (tl s) = a at *
    have hLV := Lib.hid (fun W (h : Below w.heap.size w W) => hL.below h (Nat.le_refl _))
    have KI1 := Lib.hid (KI.out w1 (hLV.out _ HB.out).t (hLV.out _ HB.out).e)
    go_wp2_with (go_at_call 14; refine KI1.out.mono ?_; rintro e w2 ⟨rfl, b2⟩; refine Hid.out ?_)
    have hA2 := (Below.refl w2.heap.size w2).alloc (Nat.le_refl _) (.cells #[.int .i64 a.kind, .int .i64 a.n] 24)
    have b2' := b2.trans (hA2.mono b2.size)
    replace HB := Lib.hid (HB.out.trans (b2'.mono HB.out.size))
    have kA := Lib.hid (Blk.new w2 24 #[.int .i64 a.kind, .int .i64 a.n])
    clear hA2 b2 b2' KI KI1
    refine Lib.hid ?_
    go_upto_region 5 with (fail)
    generalize w2.alloc (.cells #[.int .i64 a.kind, .int .i64 a.n] 24) = W2 at *
    generalize w2.heap.size = q1 at *
    go_wp2_with (go_at_call 16; refine (KM.out W2).mono ?_; rintro e w3 ⟨rfl, b3⟩; refine Hid.out ?_)
    have hA3 := (Below.refl w3.heap.size w3).alloc (Nat.le_refl _) (.cells #[.int .i64 a.kind, .int .i64 a.n] 24)
    have b3' := b3.trans (hA3.mono b3.size)
    replace HB := Lib.hid (HB.out.trans (b3'.mono HB.out.size))
    replace kA := Lib.hid (kA.out.below b3' kA.out.lt)
    have kY := Lib.hid (Blk.new w3 24 #[.int .i64 a.kind, .int .i64 a.n])
    clear hA3 b3 b3' KM
    refine Lib.hid ?_
    go_upto_region 6 with (fail)
    generalize w3.alloc (.cells #[.int .i64 a.kind, .int .i64 a.n] 24) = W3 at *
    generalize w3.heap.size = q2 at *
    have x0 : W3.cell? ⟨q1, 0, none⟩ = some (.int .i64 a.kind) := kA.out.cell 0
    have x1 : W3.cell? ⟨q1, 1, none⟩ = some (.int .i64 a.n) := kA.out.cell 1
    have y0 : W3.cell? ⟨q2, 0, none⟩ = some (.int .i64 a.kind) := kY.out.cell 0
    have y1 : W3.cell? ⟨q2, 1, none⟩ = some (.int .i64 a.n) := kY.out.cell 1
    have e1 : (a.kind == a.kind) = true := by simp
    have e2 : (a.n == a.n) = true := by simp
    have hne : (rb != rb) = false := by simp
    cases rb
    · have hv := hno.out rfl
      subst hv
      go_wp2_with (fail)
      refine (alive_any W3).mono ?_
      rintro e w4 ⟨rfl, b4⟩
      replace HB := Lib.hid (HB.out.trans (b4.mono HB.out.size))
      clear b4
      go_wp2
      go_ret
      exact ⟨rfl, HB.out⟩
    · obtain ⟨ht1, -⟩ := htx.out rfl
      have hda := hDT.out a ht1
      have hz : ¬ 9223372036854775807 < s.size + 1 := by omega
      have KI3 := Lib.hid (KI2.out W3 (hLV.out _ HB.out).t (hLV.out _ HB.out).e)
      replace ht1 := Lib.hid ht1
      replace hda := Lib.hid hda
      go_wp2_with (go_at_call 14; refine KI3.out.mono ?_; rintro e w4 ⟨rfl, b4⟩; refine Hid.out ?_)
      have hA4 := (Below.refl w4.heap.size w4).alloc (Nat.le_refl _) (.cells #[.int .i64 0, .int .i64 0] 24)
      have b4' := b4.trans (hA4.mono b4.size)
      replace HB := Lib.hid (HB.out.trans (b4'.mono HB.out.size))
      replace kA := Lib.hid (kA.out.below b4' kA.out.lt)
      clear hA4 b4 b4' KI2 KI3 x0 x1 y0 y1 kY
      refine Lib.hid ?_
      go_upto_region 11 with (fail)
      generalize w4.alloc (.cells #[.int .i64 0, .int .i64 0] 24) = W4 at *
      have x0 : W4.cell? ⟨q1, 0, none⟩ = some (.int .i64 a.kind) := kA.out.cell 0
      have x1 : W4.cell? ⟨q1, 1, none⟩ = some (.int .i64 a.n) := kA.out.cell 1
      have KD := implDeedText_any a W4 (hLV.out _ HB.out).t
      rw [hda.out] at KD
      replace KD := Lib.hid KD
      have hq : (s.toList == s.toList) = true := by simp
      go_wp2_with (fail)
      refine KD.out.mono ?_
      rintro e w5 ⟨rfl, b5⟩
      replace HB := Lib.hid (HB.out.trans (b5.mono HB.out.size))
      clear b5
      go_wp2
      go_ret
      exact ⟨rfl, HB.out⟩
  · have t1 : (1048576 : Int) < (n : Int) := by omega
    go_enter Tryd.func4, Tryd.ntmps4
    go_wp2
    go_ret
    exact ⟨rfl, Below.refl _ _⟩

set_option maxRecDepth 100000 in
theorem lifted (os : Os) (started : os.Started) (H : Type) (enc : TypeId × Value → H) :
    ReturnsInHanded {} Tryd.checked os 4 .any (fun w args => (Rows.fnReadDeedSpec.pre enc Tryd.prog Tryd.f4 Rows.fnReadDeedRow.domain false w args ∧ laidMetH Tryd.prog Rows.fnReadDeedRow.laid w) ∧ sizedMet enc Tryd.prog Tryd.f4 (OpenSpec.ofChange Rows.fnReadDeedSpec) false w args)
      (Rows.fnReadDeedSpec.post enc Tryd.prog Tryd.f4 false true false false) := by
  refine returnsInHanded_of_change_and (C := Tryd.checked) (X := fun w _ => laidMetH Tryd.prog Rows.fnReadDeedRow.laid w) (fun _ _ _ hh h => h.of_heap hh) own started (by kernel_rfl) Tryd.func4
    (ChangeSpec.witness_shaped (enc := enc) (C := Tryd.checked) (os := os) (X := fun w _ => laidMetH Tryd.prog Rows.fnReadDeedRow.laid w) false (World.laidAll Tryd.prog os Rows.fnReadDeedRow.laid) #[.slice none 0 0] 8 (World.laidAll_os _ _ _)
      (World.shaped_of_ZipB (by kernel_rfl) (by kernel_rfl)) (by kernel_rfl) (by kernel_rfl) (by kernel_rfl)
      (by rw [MakeChecks.laidMetH_plain _ _ _ (by kernel_rfl)]; exact laidMet_laidAll _ (by kernel_rfl) (by kernel_rfl))) ?_
  intro W base args ds gs before hval0 hW _ _ _ _
  have hL : laidMet Tryd.prog Rows.fnReadDeedRow.laid W := by
    have hx : laidMetH Tryd.prog Rows.fnReadDeedRow.laid W := by assumption
    rwa [MakeChecks.laidMetH_plain _ _ _ (by kernel_rfl)] at hx
  have hlib := libs hL
  have hval : ∀ (j : Nat) t v, Tryd.f4.params[j]? = some t → args[j]? = some v → Value.okWide Tryd.prog W .any base t v := hval0
  have hW' := hW
  obtain ⟨p, q, hA0, hV, rfl, hfz, hnd⟩ := hW
  have hA : DataW.TrodAll enc Tryd.prog W 0 (fun _ => true) true Tryd.f4.params.toList args.toList ds p := hA0
  rw [Tryd.params4] at hA hval
  obtain ⟨v0, vs0, d0, ds0, p0, q0, hargs, rfl, rfl, h0, r0⟩ := trodAll_cons hA
  obtain ⟨rfl, rfl, rfl⟩ := trodAll_nil r0
  obtain rfl : args = #[v0] := by cases args; simp_all
  obtain ⟨rfl, rfl⟩ := trodVars_none hV
  obtain ⟨a0, len0, cap0, rfl⟩ := okWide_slice Tryd.underlying22 (hval 0 22 v0 rfl rfl)
  have k0 := h0
  have lt0 : ∀ x ∈ p0, x.block < W.heap.size := by obtain ⟨m, hm⟩ := k0; exact DataW.trod_lt m _ _ _ hm
  obtain ⟨z0, s0, w0, m0⟩ : ∃ zs, Ints W .u8 a0 len0 cap0 zs ∧ (∀ n ∈ zs, (Lit.int .u8 n).wf = true) ∧ cap0 ≤ maxLen := by
    obtain ⟨fuel, hf⟩ := h0
    rcases open_ints Tryd.underlying22 Tryd.underlying5 (by kernel_rfl) hf with ⟨hcs, _⟩ | ⟨x, l, c, zs, hcs, _, hl, hm, hz, _, hcell, hwz⟩
    · simp [Value.cells] at hcs
      obtain ⟨rfl, rfl, rfl⟩ := hcs
      exact ⟨[], Ints.none_, by simp, Nat.zero_le _⟩
    · simp [Value.cells] at hcs
      obtain ⟨rfl, rfl, rfl⟩ := hcs
      exact ⟨_, Ints.of_row hl (by simpa using hz) hcell, fun n hn => hwz n (List.mem_of_mem_take hn), hm⟩
  clear hA0 hval0
  refine (walk W hlib a0 len0 cap0 z0 s0 w0 m0).mono fun e W' ⟨he, bel⟩ => ?_
  subst he
  exact ⟨_, rfl, _, _, _, [], _, [], hW', trodAll_mk1 (shut_bool Tryd.underlying4 _), (trodAll_cons_mk (Below.trod laidOut (by kernel_rfl) (of_decide_eq_true (by kernel_rfl)) k0 bel lt0) trodAll_mk0), rfl, bel.frame _, fun h => by cases h⟩

theorem over : Rows.fnReadDeedRow.holds Tryd.pinned (OpenSpec.ofChange Rows.fnReadDeedSpec) :=
  OpenClaim.holds_of_wide 4 Tryd.f4 rfl rfl rfl rfl rfl rfl rfl ⟨rfl, rfl, rfl, rfl, rfl⟩ rfl rfl rfl rfl rfl (by kernel_rfl) Tryd.func4 (by kernel_rfl)
    (of_decide_eq_true (by kernel_rfl)) (by unfold Func.isWrapper; first | (rw [if_pos (by decide +kernel)]; kernel_rfl) | (rw [if_neg (by decide +kernel)]; exact ⟨rfl, rfl⟩))
    (fun os started H enc _ => lifted os started H enc)
theorem proved : Rows.FnReadDeedCardSaid :=
  Claim7.holds_tied_plain_at .later [] [.data, .data, .data, .sentinel, .sentinel] true (true, "ee1a2cc3469d77f0e4d2fcaf729fe5dc837151b7291c2355d52507daa323b9f8") true over (fun _ h => by cases h) (by kernel_rfl) (fun _ h => by cases h) fnReadDeed_row_tie rfl ⟨rfl, rfl⟩ (by kernel_rfl) rfl
    (fun f fn hf hfn => by
      obtain rfl : f = 4 := Option.some.inj ((show Tryd.prog.funcNamed "loop.example/numberwords/laws.FnReadDeed" = some 4 by kernel_rfl).symm.trans hf) |>.symm
      obtain rfl : fn = Tryd.f4 := (Option.some.inj (Tryd.func4.symm.trans hfn)).symm
      exact ⟨by kernel_rfl, fun j t ht => by
        rw [Tryd.params4] at ht
        have hm : t ∈ [22] := by simpa using Array.mem_of_getElem? ht
        have hall : ([22].all fun u => !Tryd.prog.wantsStandIn u) = true := by kernel_rfl
        exact (show Tryd.prog.wantsStandIn t = false by simpa using List.all_eq_true.1 hall t hm)⟩)
    (by kernel_rfl)
end Go.Proofs.YtfmdbmhakkajfaaDoor.fnReadDeed
