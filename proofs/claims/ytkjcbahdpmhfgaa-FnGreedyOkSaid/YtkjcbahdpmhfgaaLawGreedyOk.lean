/-
  FnGreedyOk holds for every input: counts that may be are those of their sum. No condition.
-/
import Derived.Test.YtkjcbahdpmhfgaaRows
import Derived.Test.YtkjcbahdpmhfgaaDrawF
import Derived.Test.YtkjcbahdpmhfgaaMarks
import Derived.Test.YtkjcbahdpmhfgaaC1e
namespace Go.Proofs.Ytkjcbahdpmhfgaa.fnGreedyOk
open Go.ChangeShapes Go.WideShapes Go.ChangeAt Go.RowKit
open Go.ChangeMaps (open_string shut_string)

theorem own : ownKnob Try.prog.godebug = none := by kernel_rfl
theorem laidOut : laidOutB Try.prog = true := by kernel_rfl

set_option maxHeartbeats 1000000 in
theorem walk (w : World) (A : Option Addr) (n c : Nat) (xs : List Int) (h : Ints w .u8 A n c xs) (hwf : ∀ x ∈ xs, (Lit.int .u8 x).wf = true) (hc : c ≤ maxLen) :
    Calls Try.prog 6 #[.slice A n c] w fun e w' => e = .returned (.bool true) ∧ Below w.heap.size w w' := by
  have hn : n ≤ 9223372036854775807 := by have := h.le; unfold maxLen at hc; omega
  by_cases hl : n ≤ 1048576
  · have HD := Lib.hid (drawGreedyOk_any A n c xs w h hl hwf hc)
    clear h hwf hc
    go_enter Try.func6, Try.ntmps6
    go_wp2_with (fail)
    refine HD.out.mono ?_
    rintro e w1 ⟨A1, n1, c1, bs, A2, n2, c2, ys, rfl, i1, f1, hn1, i2, f2, hn2, hb⟩
    have hlb := i1.len
    have hly := i2.len
    replace hlb := Lib.hid hlb
    replace hly := Lib.hid hly
    go_wp2_with (fail)
    refine (implGreedyOk_any _ _ _ _ _ _ bs ys _ i1 i2 (by omega) (by omega) f1 f2).mono ?_
    rintro e _ ⟨rfl, m1, rfl⟩
    replace i1 := i1.drewN m1
    replace i2 := i2.drewN m1
    replace hb := below_drewN hb m1
    generalize w1.drewN m1 = w2 at *
    go_wp2_with (fail)
    refine (specGreedyOk_any _ _ _ _ _ _ bs ys _ i1 i2 (by omega) (by omega) f1 f2).mono ?_
    rintro e _ ⟨rfl, m2, rfl⟩
    replace i1 := i1.drewN m2
    replace i2 := i2.drewN m2
    replace hb := below_drewN hb m2
    generalize w2.drewN m2 = w3 at *
    have hgi := greedy_iff (b := bs) (c := ys)
    have hgo := greedy_off (b := bs) (c := ys)
    have hsv := sumVal_yes (b := bs) (c := ys)
    have hsn := sumVal_off (b := bs) (c := ys)
    have hsr : sumOk bs ys = true → 0 ≤ sumTo bs ys bs.length ∧ sumTo bs ys bs.length ≤ 999999 := fun h => by
      obtain ⟨h1, h2, h3, h4⟩ := (sumOk_iff bs ys).1 h
      exact ⟨(sumTo_bd h1 (Nat.le_refl _) h3).1, h4⟩
    generalize hgg : greedy bs ys = gr at *
    replace hgg := Lib.hid hgg
    replace hgi := Lib.hid hgi
    replace hgo := Lib.hid hgo
    replace hsv := Lib.hid hsv
    replace hsn := Lib.hid hsn
    replace hsr := Lib.hid hsr
    go_wp2_with (fail)
    refine (implSumOf_any _ _ _ _ _ _ bs ys _ i1 i2 (by omega) (by omega) f1 f2).mono ?_
    rintro e _ ⟨rfl, rfl⟩
    cases hs : sumOk bs ys
    · have hgr := hgo.out hs
      subst hgr
      rw [hsn.out hs]
      replace hs := Lib.hid hs
      go_wp2_with (fail)
      refine (alive_any _).mono ?_
      rintro e w3 ⟨rfl, hb3⟩
      go_wp2
      go_ret
      exact ⟨rfl, hb.trans (hb3.mono hb.size)⟩
    · have hgr := hgi.out hs
      have hr := hsr.out hs
      rw [hsv.out hs]
      generalize sumTo bs ys bs.length = s at *
      subst hgr
      replace hs := Lib.hid hs
      go_wp2_with (fail)
      refine (implCountsOf_any _ _ _ bs s _ i1 (by omega) f1 (by omega)).mono ?_
      rintro e w3 ⟨v3, rfl, r3, b3⟩
      have hL := countsOf_len bs s
      have hlb2 := hlb.out
      obtain ⟨A3, c3, rfl, i3⟩ := ints_of_own r3
      have hb3 := hb.trans (b3.mono hb.size)
      go_wp2_with (fail)
      refine (sameInts_any _ _ _ _ _ _ (countsOf bs s) ys _ i3 (i2.below b3 (Nat.le_refl _)) (by omega) (by omega)).mono ?_
      rintro e _ ⟨rfl, m4, rfl⟩
      have hb4 := below_drewN hb3 m4
      clear r3 i3 i1 i2 b3 hb hb3
      generalize decide (countsOf bs s = ys) = t at *
      have ht : (t == t) = true := by simp
      go_wp2_with (fail)
      refine (alive_any _).mono ?_
      rintro e w5 ⟨rfl, hb5⟩
      go_wp2
      go_ret
      exact ⟨rfl, hb4.trans (hb5.mono hb4.size)⟩
  · have hl' : 1048576 < n := by omega
    go_enter Try.func6, Try.ntmps6
    go_wp2
    go_ret
    exact ⟨rfl, Below.refl _ _⟩

set_option maxRecDepth 100000 in
theorem lifted (os : Os) (started : os.Started) (H : Type) (enc : TypeId × Value → H) :
    ReturnsInHanded {} Try.checked os 6 .any (Rows.fnGreedyOkSpec.pre6 enc Try.prog Try.f6 Rows.fnGreedyOkRow.domain false) (Rows.fnGreedyOkSpec.post enc Try.prog Try.f6 false true false false) := by
  refine returnsInHanded_of_change (C := Try.checked) own started (by kernel_rfl) Try.func6
    (ChangeSpec.witness6 (enc := enc) (C := Try.checked) false ⟨#[], #[.slice none 0 0], []⟩ 8 (by kernel_rfl) (by kernel_rfl) (by kernel_rfl) (by kernel_rfl)) ?_
  intro W base args ds gs before hval0 hW hcnd _
  have hval : ∀ (j : Nat) t v, Try.f6.params[j]? = some t → args[j]? = some v → Value.okWide Try.prog W .any base t v := hval0
  have hW' := hW
  obtain ⟨p, q, hA0, hV, rfl, hfz, hnd⟩ := hW
  have hA : DataW.TrodAll enc Try.prog W 0 (fun _ => true) true Try.f6.params.toList args.toList ds p := hA0
  rw [Try.params6] at hA hval
  obtain ⟨v0, vs0, d0, ds0, p0, q0, hargs, rfl, rfl, h0, r0⟩ := trodAll_cons hA
  obtain ⟨rfl, rfl, rfl⟩ := trodAll_nil r0
  obtain rfl : args = #[v0] := by cases args; simp_all
  obtain ⟨rfl, rfl⟩ := trodVars_none hV
  obtain ⟨a0, len0, cap0, rfl⟩ := okWide_slice Try.underlying22 (hval 0 22 v0 rfl rfl)
  have k0 := h0
  have lt0 : ∀ x ∈ p0, x.block < W.heap.size := by obtain ⟨m, hm⟩ := k0; exact DataW.trod_lt m _ _ _ hm
  obtain ⟨z0, s0, w0, m0⟩ : ∃ zs, Ints W .u8 a0 len0 cap0 zs ∧ (∀ n ∈ zs, (Lit.int .u8 n).wf = true) ∧ cap0 ≤ maxLen := by
    obtain ⟨fuel, hf⟩ := h0
    rcases open_ints Try.underlying22 Try.underlying5 (by kernel_rfl) hf with ⟨hcs, _⟩ | ⟨x, l, c, zs, hcs, _, hl, hm, hz, _, hcell, hwz⟩
    · simp [Value.cells] at hcs
      obtain ⟨rfl, rfl, rfl⟩ := hcs
      exact ⟨[], Ints.none_, by simp, Nat.zero_le _⟩
    · simp [Value.cells] at hcs
      obtain ⟨rfl, rfl, rfl⟩ := hcs
      exact ⟨_, Ints.of_row hl (by simpa using hz) hcell, fun n hn => hwz n (List.mem_of_mem_take hn), hm⟩
  clear hA0 hval0
  refine (walk W a0 len0 cap0 z0 s0 w0 m0).mono fun e W' ⟨he, bel⟩ => ?_
  subst he
  exact ⟨_, rfl, _, _, _, [], _, [], hW', trodAll_mk1 (shut_bool Try.underlying4 _), (trodAll_cons_mk (Below.trod laidOut (by kernel_rfl) (of_decide_eq_true (by kernel_rfl)) k0 bel lt0) trodAll_mk0), rfl, bel.frame _, fun h => by cases h⟩

theorem over : Rows.fnGreedyOkRow.holds Try.pinned (OpenSpec.ofChange Rows.fnGreedyOkSpec) :=
  OpenClaim.holds_of_wide 6 Try.f6 rfl rfl rfl rfl rfl rfl rfl ⟨rfl, rfl, rfl, rfl, rfl⟩ rfl rfl rfl rfl rfl (by kernel_rfl) Try.func6 (by kernel_rfl)
    (of_decide_eq_true (by kernel_rfl)) (by unfold Func.isWrapper; first | (rw [if_pos (by decide +kernel)]; kernel_rfl) | (rw [if_neg (by decide +kernel)]; exact ⟨rfl, rfl⟩))
    (fun os started H enc _ => lifted os started H enc)
theorem proved : Rows.FnGreedyOkSaid := over
end Go.Proofs.Ytkjcbahdpmhfgaa.fnGreedyOk
