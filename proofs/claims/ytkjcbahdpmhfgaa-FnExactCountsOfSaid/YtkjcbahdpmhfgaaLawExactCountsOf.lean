/-
  FnExactCountsOf holds for every slice of integers and every integer: CountsOf answers as its model, leaves its argument unmodified, and returns memory of its own. No condition.
-/
import Derived.Test.YtkjcbahdpmhfgaaRows
import Derived.Test.YtkjcbahdpmhfgaaMarks
import Derived.Test.YtkjcbahdpmhfgaaC1e
namespace Go.Proofs.Ytkjcbahdpmhfgaa.fnExactCountsOf
open Go.ChangeShapes Go.WideShapes Go.ChangeAt Go.RowKit
open Go.ChangeMaps (open_string shut_string)

theorem own : ownKnob Try.prog.godebug = none := by kernel_rfl
theorem laidOut : laidOutB Try.prog = true := by kernel_rfl

set_option maxHeartbeats 1000000 in
theorem walk (w : World) (A : Option Addr) (n c : Nat) (xs : List Int) (h : Ints w .i64 A n c xs) (hwf : ∀ x ∈ xs, (Lit.int .i64 x).wf = true) (hc : c ≤ maxLen) (x : Int) (hx : (Lit.int .i64 x).wf = true) :
    Calls Try.prog 9 #[.slice A n c, .int .i64 x] w fun e w' => e = .returned (.bool true) ∧ Below w.heap.size w w' := by
  have hn : n ≤ 9223372036854775807 := by have := h.le; unfold maxLen at hc; omega
  have hx2 : -9223372036854775808 ≤ x ∧ x ≤ 9223372036854775807 := by simpa [Lit.wf, IntKind.min, IntKind.max, IntKind.signed, IntKind.bits] using hx
  by_cases hl : n ≤ 1048576
  · have hL : (countsOf xs x).length ≤ 1048576 := by have := countsOf_len xs x; have := h.len; omega
    have H := Lib.hid h
    have HF := Lib.hid (Fits.of_wf hwf)
    replace hx2 := Lib.hid hx2
    clear h hwf hc hx
    generalize hcl : countsOf xs x = cl at *
    replace hcl := Lib.hid hcl
    generalize hLL : cl.length = L at *
    replace hLL := Lib.hid hLL
    go_enter Try.func9, Try.ntmps9
    go_wp2_with (fail)
    refine (toIntS_any _ _ _ _ _ H.out hl).mono ?_
    rintro e w1 ⟨g1, rfl, o1, b1⟩
    go_wp2_with (fail)
    refine (specCountsOf_any _ _ _ xs x _ o1.ints hl HF.out hx2.out).mono ?_
    rintro e w2 ⟨v2, rfl, r2, b2⟩
    rw [hcl.out, hLL.out] at r2
    have B2 := b1.trans (b2.mono b1.size)
    obtain ⟨A2, c2, rfl, i2⟩ := ints_of_own r2
    go_wp2_with (fail)
    refine (toIntS_any _ _ _ _ _ (H.out.below B2 (Nat.le_refl _)) hl).mono ?_
    rintro e w3 ⟨g3, rfl, o3, b3⟩
    have B3 := B2.trans (b3.mono B2.size)
    have r3 := o3.row (k := .i64) hl
    go_wp2_with (fail)
    refine (implCountsOf_any _ _ _ xs x _ o3.ints hl HF.out hx2.out).mono ?_
    rintro e w4 ⟨v4, rfl, r4, b4⟩
    rw [hcl.out, hLL.out] at r4
    have B4 := B3.trans (b4.mono B3.size)
    have C4 := b3.trans (b4.mono b3.size)
    obtain ⟨A4, c4, rfl, i4⟩ := ints_of_own r4
    go_wp2_with (fail)
    refine (eqIntS_any _ _ _ _ _ _ cl cl _ i4 (i2.below C4 (Nat.le_refl _)) hL hL).mono ?_
    rintro e _ ⟨rfl, m4, rfl⟩
    rw [decide_eq_true rfl]
    go_wp2_with (fail)
    refine (toIntS_any _ _ _ _ _ ((H.out.below B4 (Nat.le_refl _)).drewN m4) hl).mono ?_
    rintro e w5 ⟨g5, rfl, o5, b5⟩
    replace b5 := below_of_drewN b5
    have B5 := B4.trans (b5.mono B4.size)
    have C5 := C4.trans (b5.mono C4.size)
    have r3' := row_below (row_below r3 b4 (Nat.le_refl _)) b5 (Nat.le_refl _)
    have r4' := row_below r4 b5 (Nat.le_refl _)
    go_wp2_with (fail)
    refine (eqIntS_any _ _ _ _ _ _ xs xs _ ((o3.ints.below b4 (Nat.le_refl _)).below b5 (Nat.le_refl _)) o5.ints hl hl).mono ?_
    rintro e _ ⟨rfl, m5, rfl⟩
    rw [decide_eq_true rfl]
    go_wp2_with (fail)
    have hg3 := (r3.lt g3 rfl).2
    have r5 : (w5.drewN m5).ownsRow w2.heap.size 3 1 (.slice (some ⟨g3, 0, none⟩) n n) n (xs.map (Value.int .i64)) := r3'
    refine (markIntS_any w2.heap.size _ n xs 1 _ r5 hl (by omega)).mono ?_
    rintro e w6 ⟨rfl, -, hg6, hs6⟩
    have B6 : Below w.heap.size w w6 := below_row (below_drewN B5 m5) r5 hg6 B5.size B2.size
    have C6 : Below w2.heap.size w2 w6 := below_row (below_drewN C5 m5) r5 hg6 C5.size (Nat.le_refl _)
    have r6 : w6.ownsRow w3.heap.size 3 1 (.slice A4 L c4) L (cl.map (Value.int .i64)) := by
      have r4d : (w5.drewN m5).ownsRow w3.heap.size 3 1 (.slice A4 L c4) L (cl.map (Value.int .i64)) := r4'
      refine r4d.kept hg6 (.inr fun e => ?_)
      have := (r4.lt g3 e).1
      omega
    obtain ⟨A6, c6, e6, i6⟩ := ints_of_own r6
    cases e6
    have i26 := i2.below C6 (Nat.le_refl _)
    have hw23 : w2.heap.size ≤ w3.heap.size := b3.size
    have hw3 : w.heap.size ≤ w3.heap.size := B3.size
    clear r3 r3' r4 r4' r5 i4 o1 o3 o5 b1 b2 b3 b4 b5 B2 B3 B4 B5 C4 C5 hg6 hs6 r2
    go_wp2_with (fail)
    refine (eqIntS_any _ _ _ _ _ _ cl cl _ i6 i26 hL hL).mono ?_
    rintro e _ ⟨rfl, m6, rfl⟩
    rw [decide_eq_true rfl]
    go_wp2_with (fail)
    have r6d : (w6.drewN m6).ownsRow w3.heap.size 3 1 (.slice A4 L c4) L (cl.map (Value.int .i64)) := r6
    refine (markIntS_any w3.heap.size _ L cl 1 _ r6d hL (by omega)).mono ?_
    rintro e w7 ⟨rfl, r7, hg7, hs7⟩
    have B7 : Below w.heap.size w w7 := below_row (below_drewN B6 m6) r6d hg7 B6.size hw3
    have C7 : Below w2.heap.size w2 w7 := below_row (below_drewN C6 m6) r6d hg7 C6.size hw23
    obtain ⟨A7, c7, e7, i7⟩ := ints_of_own r7
    cases e7
    clear hg7 hs7 r6d r6 i6 i26 B6 C6
    go_wp2_with (fail)
    refine (heldIntS_any _ _ _ 1 _ i7 hL (by omega)).mono ?_
    rintro e _ ⟨rfl, rfl⟩
    go_wp2_with (fail)
    refine (toIntS_any _ _ _ _ _ (H.out.below B7 (Nat.le_refl _)) hl).mono ?_
    rintro e w8 ⟨g8, rfl, o8, b8⟩
    have B8 := B7.trans (b8.mono B7.size)
    have C8 := C7.trans (b8.mono C7.size)
    go_wp2_with (fail)
    refine (implCountsOf_any _ _ _ xs x _ o8.ints hl HF.out hx2.out).mono ?_
    rintro e w9 ⟨v9, rfl, r9, b9⟩
    rw [hcl.out, hLL.out] at r9
    have B9 := B8.trans (b9.mono B8.size)
    have C9 := C8.trans (b9.mono C8.size)
    obtain ⟨A9, c9, rfl, i9⟩ := ints_of_own r9
    have i79 := (i7.below b8 (Nat.le_refl _)).below b9 (Nat.le_refl _)
    clear r7 i7 b8 b9 B7 B8 C7 C8 o8 r9
    go_wp2_with (fail)
    refine (eqIntS_any _ _ _ _ _ _ cl cl _ i9 (i2.below C9 (Nat.le_refl _)) hL hL).mono ?_
    rintro e _ ⟨rfl, m9, rfl⟩
    rw [decide_eq_true rfl]
    go_wp2_with (fail)
    refine (heldIntS_any _ _ _ 1 _ (i79.drewN m9) hL (by omega)).mono ?_
    rintro e _ ⟨rfl, rfl⟩
    go_wp2_with (fail)
    go_ret
    exact ⟨rfl, below_drewN B9 _⟩
  · have hl' : 1048576 < n := by omega
    go_enter Try.func9, Try.ntmps9
    go_wp2
    go_ret
    exact ⟨rfl, Below.refl _ _⟩

set_option maxRecDepth 100000 in
theorem lifted (os : Os) (started : os.Started) (H : Type) (enc : TypeId × Value → H) :
    ReturnsInHanded {} Try.checked os 9 .any (Rows.fnExactCountsOfSpec.pre6 enc Try.prog Try.f9 Rows.fnExactCountsOfRow.domain false) (Rows.fnExactCountsOfSpec.post enc Try.prog Try.f9 false true false false) := by
  refine returnsInHanded_of_change (C := Try.checked) own started (by kernel_rfl) Try.func9
    (ChangeSpec.witness6 (enc := enc) (C := Try.checked) false ⟨#[], #[.slice none 0 0, .int .i64 0], []⟩ 8 (by kernel_rfl) (by kernel_rfl) (by kernel_rfl) (by kernel_rfl)) ?_
  intro W base args ds gs before hval0 hW hcnd _
  have hval : ∀ (j : Nat) t v, Try.f9.params[j]? = some t → args[j]? = some v → Value.okWide Try.prog W .any base t v := hval0
  have hW' := hW
  obtain ⟨p, q, hA0, hV, rfl, hfz, hnd⟩ := hW
  have hA : DataW.TrodAll enc Try.prog W 0 (fun _ => true) true Try.f9.params.toList args.toList ds p := hA0
  rw [Try.params9] at hA hval
  obtain ⟨v0, vs0, d0, ds0, p0, q0, hargs, rfl, rfl, h0, r0⟩ := trodAll_cons hA
  obtain ⟨v1, vs1, d1, ds1, p1, q1, rfl, rfl, rfl, h1, r1⟩ := trodAll_cons r0
  obtain ⟨rfl, rfl, rfl⟩ := trodAll_nil r1
  obtain rfl : args = #[v0, v1] := by cases args; simp_all
  obtain ⟨rfl, rfl⟩ := trodVars_none hV
  obtain ⟨a0, len0, cap0, rfl⟩ := okWide_slice Try.underlying23 (hval 0 23 v0 rfl rfl)
  have k0 := h0
  have lt0 : ∀ x ∈ p0, x.block < W.heap.size := by obtain ⟨m, hm⟩ := k0; exact DataW.trod_lt m _ _ _ hm
  obtain ⟨z0, s0, w0, m0⟩ : ∃ zs, Ints W .i64 a0 len0 cap0 zs ∧ (∀ n ∈ zs, (Lit.int .i64 n).wf = true) ∧ cap0 ≤ maxLen := by
    obtain ⟨fuel, hf⟩ := h0
    rcases open_ints Try.underlying23 Try.underlying3 (by kernel_rfl) hf with ⟨hcs, _⟩ | ⟨x, l, c, zs, hcs, _, hl, hm, hz, _, hcell, hwz⟩
    · simp [Value.cells] at hcs
      obtain ⟨rfl, rfl, rfl⟩ := hcs
      exact ⟨[], Ints.none_, by simp, Nat.zero_le _⟩
    · simp [Value.cells] at hcs
      obtain ⟨rfl, rfl, rfl⟩ := hcs
      exact ⟨_, Ints.of_row hl (by simpa using hz) hcell, fun n hn => hwz n (List.mem_of_mem_take hn), hm⟩
  obtain ⟨a1, rfl, rfl, rfl, w1⟩ := open_int Try.underlying3 (hval 1 3 v1 rfl rfl) h1
  clear hA0 hval0
  refine (walk W a0 len0 cap0 z0 s0 w0 m0 a1 w1).mono fun e W' ⟨he, bel⟩ => ?_
  subst he
  exact ⟨_, rfl, _, _, _, [], _, [], hW', trodAll_mk1 (shut_bool Try.underlying4 _), (trodAll_cons_mk (Below.trod laidOut (by kernel_rfl) (of_decide_eq_true (by kernel_rfl)) k0 bel lt0) (trodAll_cons_mk (shut_int Try.underlying3 w1) trodAll_mk0)), rfl, bel.frame _, fun h => by cases h⟩

theorem over : Rows.fnExactCountsOfRow.holds Try.pinned (OpenSpec.ofChange Rows.fnExactCountsOfSpec) :=
  OpenClaim.holds_of_wide 9 Try.f9 rfl rfl rfl rfl rfl rfl rfl ⟨rfl, rfl, rfl, rfl, rfl⟩ rfl rfl rfl rfl rfl (by kernel_rfl) Try.func9 (by kernel_rfl)
    (of_decide_eq_true (by kernel_rfl)) (by unfold Func.isWrapper; first | (rw [if_pos (by decide +kernel)]; kernel_rfl) | (rw [if_neg (by decide +kernel)]; exact ⟨rfl, rfl⟩))
    (fun os started H enc _ => lifted os started H enc)
theorem proved : Rows.FnExactCountsOfSaid := over
end Go.Proofs.Ytkjcbahdpmhfgaa.fnExactCountsOf
