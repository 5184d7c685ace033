/-
  FnExactReadDeed holds for every text: ReadDeed answers as its model. No condition but that the library's variables read as the program lays them.
-/
import Derived.Test.YtfmdbmhakkajfaaDoorCards
import Derived.Test.YtfmdbmhakkajfaaDoorTie
import Derived.Lay
import Derived.LaidMore
import Derived.SevenTiedAt
import Derived.Stop.Joined
import Derived.Test.YtfmdbmhakkajfaaDoorDHq
import Derived.Test.YtfmdbmhakkajfaaDoorLaidV
import Derived.Test.YtfmdbmhakkajfaaDoorVf
namespace Go.Proofs.YtfmdbmhakkajfaaDoor.fnExactReadDeed
open Go.ChangeShapes Go.WideShapes Go.ChangeAt Go.RowKit
open Go.ChangeMaps (open_string shut_string)

theorem own : ownKnob Tryd.prog.godebug = none := by kernel_rfl
theorem laidOut : laidOutB Tryd.prog = true := by kernel_rfl
theorem libs {W : World} (h : laidMet Tryd.prog Rows.fnExactReadDeedRow.laid W) : LibV W := ⟨libT_of h.tail.tail, libE_of h.tail.tail.tail⟩

set_option maxRecDepth 100000 in
set_option maxHeartbeats 2000000 in
theorem walk (w : World) (hL : LibV w) (s : ByteArray) (_hs : s.size ≤ maxLen) :
    Calls Tryd.prog 7 #[.string s] w fun e w' => e = .returned (.bool true) ∧ Below w.heap.size w w' := by
  by_cases hl : s.size ≤ 1048576
  · have hl1 : ¬ (1048576 < (s.size : Int)) := by omega
    have hl2 : decide (1048576 < (s.size : Int)) = false := decide_eq_false hl1
    go_enter Tryd.func7, Tryd.ntmps7
    go_wp2_with (fail)
    refine (specReadDeed_any s w (by omega)).mono ?_
    rintro e w1 ⟨rfl, b1⟩
    have hK := Lib.hid (fun W hT hE => implReadDeed_any s W (by omega) hT hE)
    unfold RetRd at hK
    generalize (rdV (tl s)).kind = xk at *
    generalize (rdV (tl s)).n = xn at *
    generalize rdB (tl s) = rb at *
    have hA1 := (Below.refl w1.heap.size w1).alloc (Nat.le_refl _) (.cells #[.int .i64 xk, .int .i64 xn] 24)
    have hB := Lib.hid (b1.trans (hA1.mono b1.size))
    have kX := Lib.hid (Blk.new w1 24 #[.int .i64 xk, .int .i64 xn])
    have hne : (rb != rb) = false := by simp
    clear hA1 b1
    go_upto_region 4 with (fail)
    generalize w1.alloc (.cells #[.int .i64 xk, .int .i64 xn] 24) = W1 at *
    generalize w1.heap.size = q1 at *
    go_wp2_with (go_at_call 14; refine (hK.out W1 (hL.t.below hB.out (Nat.le_refl _)) (hL.e.below hB.out (Nat.le_refl _))).mono ?_; rintro e w2 ⟨rfl, b2⟩; refine Hid.out ?_)
    have hA2 := (Below.refl w2.heap.size w2).alloc (Nat.le_refl _) (.cells #[.int .i64 xk, .int .i64 xn] 24)
    have b2' := b2.trans (hA2.mono b2.size)
    replace hB := Lib.hid (hB.out.trans (b2'.mono hB.out.size))
    replace kX := Lib.hid (kX.out.below b2' kX.out.lt)
    have kY := Lib.hid (Blk.new w2 24 #[.int .i64 xk, .int .i64 xn])
    clear hA2 b2 b2'
    refine Lib.hid ?_
    go_upto_region 5 with (fail)
    generalize w2.alloc (.cells #[.int .i64 xk, .int .i64 xn] 24) = W2 at *
    generalize w2.heap.size = q2 at *
    have x0 : W2.cell? ⟨q1, 0, none⟩ = some (.int .i64 xk) := kX.out.cell 0
    have x1 : W2.cell? ⟨q1, 1, none⟩ = some (.int .i64 xn) := kX.out.cell 1
    have y0 : W2.cell? ⟨q2, 0, none⟩ = some (.int .i64 xk) := kY.out.cell 0
    have y1 : W2.cell? ⟨q2, 1, none⟩ = some (.int .i64 xn) := kY.out.cell 1
    go_wp2_with (fail)
    refine (eqDeed_same xk xn W2).mono ?_
    rintro e w3 ⟨rfl, b3⟩
    replace hB := Lib.hid (hB.out.trans (b3.mono hB.out.size))
    clear b3 x0 x1 y0 y1
    go_wp2
    go_ret
    exact ⟨rfl, hB.out⟩
  · have hl1 : 1048576 < (s.size : Int) := by omega
    have hl2 : decide (1048576 < (s.size : Int)) = true := decide_eq_true hl1
    go_enter Tryd.func7, Tryd.ntmps7
    go_wp2
    go_ret
    exact ⟨rfl, Below.refl _ _⟩

set_option maxRecDepth 100000 in
theorem lifted (os : Os) (started : os.Started) (H : Type) (enc : TypeId × Value → H) :
    ReturnsInHanded {} Tryd.checked os 7 .any (fun w args => (Rows.fnExactReadDeedSpec.pre enc Tryd.prog Tryd.f7 Rows.fnExactReadDeedRow.domain false w args ∧ laidMetH Tryd.prog Rows.fnExactReadDeedRow.laid w) ∧ sizedMet enc Tryd.prog Tryd.f7 (OpenSpec.ofChange Rows.fnExactReadDeedSpec) false w args)
      (Rows.fnExactReadDeedSpec.post enc Tryd.prog Tryd.f7 false true false false) := by
  refine returnsInHanded_of_change_and (C := Tryd.checked) (X := fun w _ => laidMetH Tryd.prog Rows.fnExactReadDeedRow.laid w) (fun _ _ _ hh h => h.of_heap hh) own started (by kernel_rfl) Tryd.func7
    (ChangeSpec.witness_shaped (enc := enc) (C := Tryd.checked) (os := os) (X := fun w _ => laidMetH Tryd.prog Rows.fnExactReadDeedRow.laid w) false (World.laidAll Tryd.prog os Rows.fnExactReadDeedRow.laid) #[.string ByteArray.empty] 8 (World.laidAll_os _ _ _)
      (World.shaped_of_ZipB (by kernel_rfl) (by kernel_rfl)) (by kernel_rfl) (by kernel_rfl) (by kernel_rfl)
      (by rw [MakeChecks.laidMetH_plain _ _ _ (by kernel_rfl)]; exact laidMet_laidAll _ (by kernel_rfl) (by kernel_rfl))) ?_
  intro W base args ds gs before hval0 hW _ _ _ _
  have hL : laidMet Tryd.prog Rows.fnExactReadDeedRow.laid W := by
    have hx : laidMetH Tryd.prog Rows.fnExactReadDeedRow.laid W := by assumption
    rwa [MakeChecks.laidMetH_plain _ _ _ (by kernel_rfl)] at hx
  have hlib := libs hL
  have hval : ∀ (j : Nat) t v, Tryd.f7.params[j]? = some t → args[j]? = some v → Value.okWide Tryd.prog W .any base t v := hval0
  have hW' := hW
  obtain ⟨p, q, hA0, hV, rfl, hfz, hnd⟩ := hW
  have hA : DataW.TrodAll enc Tryd.prog W 0 (fun _ => true) true Tryd.f7.params.toList args.toList ds p := hA0
  rw [Tryd.params7] at hA hval
  obtain ⟨v0, vs0, d0, ds0, p0, q0, hargs, rfl, rfl, h0, r0⟩ := trodAll_cons hA
  obtain ⟨rfl, rfl, rfl⟩ := trodAll_nil r0
  obtain rfl : args = #[v0] := by cases args; simp_all
  obtain ⟨rfl, rfl⟩ := trodVars_none hV
  obtain ⟨a0, rfl, rfl, rfl, w0⟩ := open_string Tryd.underlying9 (hval 0 9 v0 rfl rfl) h0
  clear hA0 hval0
  refine (walk W hlib a0 w0).mono fun e W' ⟨he, bel⟩ => ?_
  subst he
  exact ⟨_, rfl, _, _, _, [], _, [], hW', trodAll_mk1 (shut_bool Tryd.underlying4 _), (trodAll_cons_mk (shut_string Tryd.underlying9 w0) trodAll_mk0), rfl, bel.frame _, fun h => by cases h⟩

theorem over : Rows.fnExactReadDeedRow.holds Tryd.pinned (OpenSpec.ofChange Rows.fnExactReadDeedSpec) :=
  OpenClaim.holds_of_wide 7 Tryd.f7 rfl rfl rfl rfl rfl rfl rfl ⟨rfl, rfl, rfl, rfl, rfl⟩ rfl rfl rfl rfl rfl (by kernel_rfl) Tryd.func7 (by kernel_rfl)
    (of_decide_eq_true (by kernel_rfl)) (by unfold Func.isWrapper; first | (rw [if_pos (by decide +kernel)]; kernel_rfl) | (rw [if_neg (by decide +kernel)]; exact ⟨rfl, rfl⟩))
    (fun os started H enc _ => lifted os started H enc)
theorem proved : Rows.FnExactReadDeedCardSaid :=
  Claim7.holds_tied_plain_at .later [] [.data, .data, .data, .sentinel, .sentinel] true (true, "ee1a2cc3469d77f0e4d2fcaf729fe5dc837151b7291c2355d52507daa323b9f8") true over (fun _ h => by cases h) (by kernel_rfl) (fun _ h => by cases h) fnExactReadDeed_row_tie rfl ⟨rfl, rfl⟩ (by kernel_rfl) rfl
    (fun f fn hf hfn => by
      obtain rfl : f = 7 := Option.some.inj ((show Tryd.prog.funcNamed "loop.example/numberwords/laws.FnExactReadDeed" = some 7 by kernel_rfl).symm.trans hf) |>.symm
      obtain rfl : fn = Tryd.f7 := (Option.some.inj (Tryd.func7.symm.trans hfn)).symm
      exact ⟨by kernel_rfl, fun j t ht => by
        rw [Tryd.params7] at ht
        have hm : t ∈ [9] := by simpa using Array.mem_of_getElem? ht
        have hall : ([9].all fun u => !Tryd.prog.wantsStandIn u) = true := by kernel_rfl
        exact (show Tryd.prog.wantsStandIn t = false by simpa using List.all_eq_true.1 hall t hm)⟩)
    (by kernel_rfl)
end Go.Proofs.YtfmdbmhakkajfaaDoor.fnExactReadDeed
