/-
  FnSumOf holds for every input: with one more of the first base a sum is one more; counts of 0 alone are 0. No condition.
-/
import Derived.Test.YtkjcbahdpmhfgaaRows
import Derived.Test.YtkjcbahdpmhfgaaDrawF
import Derived.Test.YtkjcbahdpmhfgaaMarks
import Derived.Test.YtkjcbahdpmhfgaaC1e
namespace Go.Proofs.Ytkjcbahdpmhfgaa.fnSumOf
open Go.ChangeShapes Go.WideShapes Go.ChangeAt Go.RowKit
open Go.ChangeMaps (open_string shut_string)

theorem own : ownKnob Try.prog.godebug = none := by kernel_rfl
theorem laidOut : laidOutB Try.prog = true := by kernel_rfl

set_option maxHeartbeats 1000000 in
theorem walk (w : World) (A : Option Addr) (n c : Nat) (xs : List Int) (h : Ints w .u8 A n c xs) (hwf : ∀ x ∈ xs, (Lit.int .u8 x).wf = true) (hc : c ≤ maxLen) :
    Calls Try.prog 5 #[.slice A n c] w fun e w' => e = .returned (.bool true) ∧ Below w.heap.size w w' := by
  have hn : n ≤ 9223372036854775807 := by have := h.le; unfold maxLen at hc; omega
  by_cases hl : n ≤ 1048576
  · have HD := Lib.hid (drawSumOf_any A n c xs w h hl hwf hc)
    clear h hwf hc
    go_enter Try.func5, Try.ntmps5
    go_wp2_with (fail)
    refine HD.out.mono ?_
    rintro e w1 ⟨A1, n1, c1, bs, A2, n2, c2, ys, rfl, i1, f1, hn1, i2, f2, hn2, hb⟩
    have hlb := i1.len
    have hly := i2.len
    replace hlb := Lib.hid hlb
    replace hly := Lib.hid hly
    go_wp2_with (fail)
    refine (implSumOf_any _ _ _ _ _ _ bs ys _ i1 i2 (by omega) (by omega) f1 f2).mono ?_
    rintro e _ ⟨rfl, rfl⟩
    go_wp2_with (fail)
    refine (specSumOf_any _ _ _ _ _ _ bs ys _ i1 i2 (by omega) (by omega) f1 f2).mono ?_
    rintro e _ ⟨rfl, m2, rfl⟩
    replace i1 := i1.drewN m2
    replace i2 := i2.drewN m2
    replace hb := below_drewN hb m2
    generalize w1.drewN m2 = w2 at *
    cases hs : sumOk bs ys
    · rw [sumVal_off hs]
      replace hs := Lib.hid hs
      go_wp2_with (fail)
      refine (alive_any _).mono ?_
      rintro e w3 ⟨rfl, hb3⟩
      go_wp2
      go_ret
      exact ⟨rfl, hb.trans (hb3.mono hb.size)⟩
    · obtain ⟨i0, hi0, hz0, hz1, hz2⟩ := info_parts int_info0
      have hsi := (sumOk_iff bs ys).1 hs
      have hbl := bases_len hsi.1
      have hyl : n2 = n1 := by have := hsi.2.1; have := hlb.out; have := hly.out; omega
      subst hyl
      have hn0 : 0 < n2 := by have := hlb.out; omega
      have hy0 := inAll_at hsi.2.2.1 (j := 0) (by omega)
      have hsv := sumTo_bd hsi.1 (Nat.le_refl _) hsi.2.2.1
      have hsv2 := hsi.2.2.2
      have hvv := sumVal_yes hs
      have hv : 0 ≤ sumVal bs ys ∧ sumVal bs ys ≤ 999999 := by omega
      have hmore := sum_more hs
      have hzo := sumOk_zeros hsi.1
      have hzv := sumVal_zeros hsi.1
      rw [hlb.out] at hzo hzv
      obtain ⟨b, o, rfl, hbw, hcy⟩ := i2.at_ hn0
      have hsz := hb.size
      have hown0 : (w2.alloc (.cells #[] 3)).ownsRow w2.heap.size 3 1 (.slice (some ⟨w2.heap.size, 0, none⟩) 0 0) 0 (([] : List Int).map (Value.int .i64)) := World.ownsRow_made w2 #[] 0 (Nat.le_refl _) (Nat.zero_le _) rfl
      have hnews : ∀ j u, (ys.map (Value.int .i64))[j]? = some u → (w2.alloc (.cells #[] 3)).cell? ((⟨b, o, none⟩ : Addr).add j) = some u := fun j u hu => by
        have hjn : j < ys.length := by
          rcases Nat.lt_or_ge j ys.length with h | h
          · exact h
          · rw [List.getElem?_eq_none (by simpa using h)] at hu; cases hu
        rw [add_plain', World.cell?_alloc_lt _ _ _ hbw, hcy j (by have := hly.out; omega)]
        simpa [List.getD_eq_getElem?_getD, hjn] using hu
      have hmk := fun W => run_make_rowN (P := Try.prog) 23 3 i0 _ Try.underlying23 hi0 hz0 .i64 .i64 n2 n2 (Nat.le_refl _) (by rw [hz2]; omega) (by omega) W
      rw [hz1] at hmk
      have hylen : (ys.map (Value.int .i64)).length = n2 * 1 := by have := hly.out; simp; omega
      have hfm : Fits (ys.set 0 (ys.getD 0 0 + 1)) := Fits.set f2 (by omega)
      generalize sumVal bs ys = sv at *
      generalize hy00 : ys.getD 0 0 = y0 at *
      replace hy00 := Lib.hid hy00
      replace hfm := Lib.hid hfm
      replace hs := Lib.hid hs
      replace hmore := Lib.hid hmore
      replace hown0 := Lib.hid hown0
      replace hnews := Lib.hid hnews
      replace hylen := Lib.hid hylen
      replace hzo := Lib.hid hzo
      replace hzv := Lib.hid hzv
      clear hsi hvv hsv hcy hbl
      go_wp2_with (at_builtin; refine wpList_append_own_at _ rfl (.tmp 49) (.tmp 50) _ rfl w2.heap.size 3 i0 _ 1 8 Try.underlying23 hi0 hz0 hz1 hz2 rfl (by decide) _ 0 (([] : List Int).map (Value.int .i64)) rfl hown0.out ⟨b, o, none⟩ n2 c2 (ys.map (Value.int .i64)) rfl hylen.out hnews.out (by simp [Value.oneCell']) (by unfold maxLen; omega) (by omega) (by simp) ?_; intro v9 w9 hown9 hgr9 _ _; rw [Nat.zero_add] at hown9; obtain ⟨g9, cap9, rfl, hg9a, hg9b⟩ := hown9.form hn0; have hc9 : w9.cell? ⟨g9, 0, none⟩ = some (.int .i64 y0) := (by rw [hown9.cellAt 0 (by omega), ← hy00.out]; have := hly.out; simp [List.getElem?_eq_getElem (show 0 < ys.length by omega)]); have hf9 := hown9.frozenAt 0; replace hown9 := Lib.hid hown9; replace hgr9 := Lib.hid hgr9)
      have hst := hown9.out.stored 0 (.int .i64 (y0 + 1))
      have hown10 : (w9.setCell ⟨g9, 0, none⟩ (.int .i64 (y0 + 1))).ownsRow w2.heap.size 3 1 (.slice (some ⟨g9, 0, none⟩) n2 cap9) n2 ((ys.set 0 (y0 + 1)).map (Value.int .i64)) := by rw [List.map_set]; exact hst.1
      have b9 : Below w2.heap.size w2 w9 := ((Below.refl _ _).alloc (Nat.le_refl _) (.cells #[] 3)).grown hgr9.out (by simp) (fun k e => by have := (hown0.out.lt k e).1; omega)
      have b10 : Below w2.heap.size w2 (w9.setCell ⟨g9, 0, none⟩ (.int .i64 (y0 + 1))) := b9.setCell (p := ⟨g9, 0, none⟩) hg9a _
      obtain ⟨A10, c10, e10, i10⟩ := ints_of_own hown10
      cases e10
      have i110 := i1.below b10 (Nat.le_refl _)
      have hb10 := hb.trans (b10.mono hb.size)
      clear hst hown10 b9 b10 hc9 hf9 hown0 hnews hylen hown9 hgr9 hg9a hg9b i1 i2 hb hbw
      generalize w9.setCell ⟨g9, 0, none⟩ (.int .i64 (y0 + 1)) = w10 at *
      have hlm : (ys.set 0 (y0 + 1)).length = n2 := i10.len
      replace hlm := Lib.hid hlm
      generalize ys.set 0 (y0 + 1) = zs at *
      refine (implSumOf_any _ _ _ _ _ _ bs zs _ i110 i10 (by omega) (by omega) f1 hfm.out).mono ?_
      rintro e _ ⟨rfl, rfl⟩
      have hsw : w.heap.size ≤ w10.heap.size := hb10.size
      have izero : Ints (w10.alloc (.cells (madeCells #[.int .i64 0] n2) 3)) .i64 (some ⟨w10.heap.size, 0, none⟩) n2 n2 (List.replicate n2 0) := by
        have := (OwnInts.of_cells (w := w10.alloc (.cells (madeCells #[.int .i64 0] n2) 3)) (B := 0) (k := .i64) (xs := List.replicate n2 0) (Blk.new w10 3 (madeCells #[.int .i64 0] n2)) (by simp [size_madeCells]) (fun j hj => by simp at hj; simp [madeCells, hj, List.getD_eq_getElem?_getD, Nat.mod_one]) (Nat.zero_le _)).ints
        simpa using this
      have i1z := i110.below ((Below.refl w10.heap.size w10).alloc (Nat.le_refl _) (.cells (madeCells #[.int .i64 0] n2) 3)) (Nat.le_refl _)
      have hbz := hb10.alloc hsw (.cells (madeCells #[.int .i64 0] n2) 3)
      clear i10 i110 hb10
      cases hmo : sumOk bs zs
      · replace hmo := Lib.hid hmo
        go_wp2_with (fail)
        refine (implSumOf_any _ _ _ _ _ _ bs (List.replicate n2 0) _ i1z izero (by omega) (by omega) f1 (Fits.of_small (by simp))).mono ?_
        rintro e _ ⟨rfl, rfl⟩
        rw [hzo.out, hzv.out]
        clear i1z izero
        go_wp2
        go_ret
        exact ⟨rfl, hbz⟩
      · rw [hmore.out hmo]
        replace hmo := Lib.hid hmo
        go_wp2_with (fail)
        refine (implSumOf_any _ _ _ _ _ _ bs (List.replicate n2 0) _ i1z izero (by omega) (by omega) f1 (Fits.of_small (by simp))).mono ?_
        rintro e _ ⟨rfl, rfl⟩
        rw [hzo.out, hzv.out]
        clear i1z izero
        go_wp2
        go_ret
        exact ⟨rfl, hbz⟩
  · have hl' : 1048576 < n := by omega
    go_enter Try.func5, Try.ntmps5
    go_wp2
    go_ret
    exact ⟨rfl, Below.refl _ _⟩

set_option maxRecDepth 100000 in
theorem lifted (os : Os) (started : os.Started) (H : Type) (enc : TypeId × Value → H) :
    ReturnsInHanded {} Try.checked os 5 .any (Rows.fnSumOfSpec.pre6 enc Try.prog Try.f5 Rows.fnSumOfRow.domain false) (Rows.fnSumOfSpec.post enc Try.prog Try.f5 false true false false) := by
  refine returnsInHanded_of_change (C := Try.checked) own started (by kernel_rfl) Try.func5
    (ChangeSpec.witness6 (enc := enc) (C := Try.checked) false ⟨#[], #[.slice none 0 0], []⟩ 8 (by kernel_rfl) (by kernel_rfl) (by kernel_rfl) (by kernel_rfl)) ?_
  intro W base args ds gs before hval0 hW hcnd _
  have hval : ∀ (j : Nat) t v, Try.f5.params[j]? = some t → args[j]? = some v → Value.okWide Try.prog W .any base t v := hval0
  have hW' := hW
  obtain ⟨p, q, hA0, hV, rfl, hfz, hnd⟩ := hW
  have hA : DataW.TrodAll enc Try.prog W 0 (fun _ => true) true Try.f5.params.toList args.toList ds p := hA0
  rw [Try.params5] at hA hval
  obtain ⟨v0, vs0, d0, ds0, p0, q0, hargs, rfl, rfl, h0, r0⟩ := trodAll_cons hA
  obtain ⟨rfl, rfl, rfl⟩ := trodAll_nil r0
  obtain rfl : args = #[v0] := by cases args; simp_all
  obtain ⟨rfl, rfl⟩ := trodVars_none hV
  obtain ⟨a0, len0, cap0, rfl⟩ := okWide_slice Try.underlying22 (hval 0 22 v0 rfl rfl)
  have k0 := h0
  have lt0 : ∀ x ∈ p0, x.block < W.heap.size := by obtain ⟨m, hm⟩ := k0; exact DataW.trod_lt m _ _ _ hm
  obtain ⟨z0, s0, w0, m0⟩ : ∃ zs, Ints W .u8 a0 len0 cap0 zs ∧ (∀ n ∈ zs, (Lit.int .u8 n).wf = true) ∧ cap0 ≤ maxLen := by
    obtain ⟨fuel, hf⟩ := h0
    rcases open_ints Try.underlying22 Try.underlying5 (by kernel_rfl) hf with ⟨hcs, _⟩ | ⟨x, l, c, zs, hcs, _, hl, hm, hz, _, hcell, hwz⟩
    · simp [Value.cells] at hcs
      obtain ⟨rfl, rfl, rfl⟩ := hcs
      exact ⟨[], Ints.none_, by simp, Nat.zero_le _⟩
    · simp [Value.cells] at hcs
      obtain ⟨rfl, rfl, rfl⟩ := hcs
      exact ⟨_, Ints.of_row hl (by simpa using hz) hcell, fun n hn => hwz n (List.mem_of_mem_take hn), hm⟩
  clear hA0 hval0
  refine (walk W a0 len0 cap0 z0 s0 w0 m0).mono fun e W' ⟨he, bel⟩ => ?_
  subst he
  exact ⟨_, rfl, _, _, _, [], _, [], hW', trodAll_mk1 (shut_bool Try.underlying4 _), (trodAll_cons_mk (Below.trod laidOut (by kernel_rfl) (of_decide_eq_true (by kernel_rfl)) k0 bel lt0) trodAll_mk0), rfl, bel.frame _, fun h => by cases h⟩

theorem over : Rows.fnSumOfRow.holds Try.pinned (OpenSpec.ofChange Rows.fnSumOfSpec) :=
  OpenClaim.holds_of_wide 5 Try.f5 rfl rfl rfl rfl rfl rfl rfl ⟨rfl, rfl, rfl, rfl, rfl⟩ rfl rfl rfl rfl rfl (by kernel_rfl) Try.func5 (by kernel_rfl)
    (of_decide_eq_true (by kernel_rfl)) (by unfold Func.isWrapper; first | (rw [if_pos (by decide +kernel)]; kernel_rfl) | (rw [if_neg (by decide +kernel)]; exact ⟨rfl, rfl⟩))
    (fun os started H enc _ => lifted os started H enc)
theorem proved : Rows.FnSumOfSaid := over
end Go.Proofs.Ytkjcbahdpmhfgaa.fnSumOf
