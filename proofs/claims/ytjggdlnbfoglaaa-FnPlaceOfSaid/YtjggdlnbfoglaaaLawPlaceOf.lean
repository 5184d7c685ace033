/-
  FnPlaceOf holds for every input: the drawn tongue and numbers are answered by PlaceOf as by its model; in order the number stands at its place, and as many numbers are before it. No condition.
-/
import Derived.Test.YtjggdlnbfoglaaaRows
import Derived.Test.YtjggdlnbfoglaaaDrawM
import Derived.Test.YtjggdlnbfoglaaaOL
import Derived.Test.YtjggdlnbfoglaaaO3
import Derived.Test.YtjggdlnbfoglaaaY5
import Derived.Test.YtjggdlnbfoglaaaY1
namespace Go.Proofs.Ytjggdlnbfoglaaa.fnPlaceOf
open Go.ChangeShapes Go.WideShapes Go.ChangeAt Go.RowKit Go.Sort
open Go.ChangeMaps (open_string shut_string)

theorem own : ownKnob Try.prog.godebug = none := by kernel_rfl
theorem laidOut : laidOutB Try.prog = true := by kernel_rfl

set_option maxRecDepth 100000 in
set_option maxHeartbeats 8000000 in
theorem walk (w : World) (A : Option Addr) (n c : Nat) (xs : List Int) (h : Ints w .u8 A n c xs) (hwf : ∀ x ∈ xs, (Lit.int .u8 x).wf = true) (hc : c ≤ maxLen) :
    Calls Try.prog 7 #[.slice A n c] w fun e w' => e = .returned (.bool true) ∧ Below w.heap.size w w' := by
  have hn : n ≤ 9223372036854775807 := by have := h.le; unfold maxLen at hc; omega
  by_cases hl : n ≤ 1048576
  · have HD := Lib.hid (drawPlaceOf_any A n c xs w h hl hwf hc)
    clear h hwf hc
    go_enter Try.func7, Try.ntmps7
    go_wp2_with (fail)
    refine HD.out.mono ?_
    rintro e w1 ⟨v, t, a, b, rfl, ho, hsm, ha, hb2, hb⟩
    obtain ⟨ha1, ha2⟩ := ha
    obtain ⟨hb1, hb2⟩ := hb2
    obtain ⟨A1, c1, A2, c2, A3, c3, rfl⟩ := ho.shape
    have hf := Lib.hid (hsm.fine (by omega))
    have hba := (Below.refl w1.heap.size w1).alloc (Nat.le_refl _) (.cells #[.slice A1 t.us.length c1, .slice A2 t.bs.length c2, .slice A3 t.ns.length c3] 26)
    have S := Lib.hid (⟨hb.trans (hba.mono hb.size), Blk.new w1 26 #[.slice A1 t.us.length c1, .slice A2 t.bs.length c2, .slice A3 t.ns.length c3], ho.tng.below hba (Nat.le_refl _)⟩ : LSt w w1.heap.size #[.slice A1 t.us.length c1, .slice A2 t.bs.length c2, .slice A3 t.ns.length c3] t (w1.alloc (.cells #[.slice A1 t.us.length c1, .slice A2 t.bs.length c2, .slice A3 t.ns.length c3] 26)))
    clear ho hsm hb hba HD
    go_upto_region 4 with (fail)
    generalize w1.alloc (.cells #[.slice A1 t.us.length c1, .slice A2 t.bs.length c2, .slice A3 t.ns.length c3] 26) = W at *
    generalize w1.heap.size = z at *
    obtain ⟨z0, z1, z2, -, -, -⟩ := blk3 S.out.hz
    have KB := Lib.hid (fun x y W' (hT : Tng W' (.agg #[.slice A1 t.us.length c1, .slice A2 t.bs.length c2, .slice A3 t.ns.length c3]) t) hx hy => implBeforeOk_any _ t x y W' hT hf.out hx hy)
    have K1 := Lib.hid (implPlaceOf_any _ t a b W S.out.ht hf.out (by omega) (by omega))
    have KX := Lib.hid (fun W' (hT : Tng W' (.agg #[.slice A1 t.us.length c1, .slice A2 t.bs.length c2, .slice A3 t.ns.length c3]) t) => specSortedOf_any _ t b W' hT hf.out (by omega))
    have hlaw := place_law t a b
    have hne : (placeF t a b != placeF t a b) = false := by simp
    go_wp2_with (fail)
    refine K1.out.mono ?_
    rintro e w2 ⟨rfl, b2⟩
    replace S := Lib.hid (S.out.step b2)
    have K2 := Lib.hid (specPlaceOf_any _ t a b w2 S.out.ht hf.out (by omega) (by omega))
    clear b2 z0 z1 z2 K1
    obtain ⟨z0, z1, z2, -, -, -⟩ := blk3 S.out.hz
    go_wp2_with (fail)
    refine K2.out.mono ?_
    rintro e w3 ⟨rfl, b2⟩
    replace S := Lib.hid (S.out.step b2)
    clear b2 z0 z1 z2 K2
    obtain ⟨z0, z1, z2, -, -, -⟩ := blk3 S.out.hz
    rcases hlaw with hr | ⟨M, K, rfl, hM1, hM2, hx, hK, hlen, hat, hcnt, hbf⟩
    · have hq1 : placeF t a b < 0 := by omega
      have hq2 : (placeF t a b == -1) = true := by rw [beq_iff_eq]; exact hr
      rw [hr] at hq1 hq2 hne ⊢
      replace hr := Lib.hid hr
      clear KB KX
      go_wp2_with (fail)
      refine (alive_any _).mono ?_
      rintro e w9 ⟨rfl, b9⟩
      have hB9 := Lib.hid (S.out.low.trans (b9.mono S.out.low.size))
      clear b9
      go_wp2
      go_ret
      exact ⟨rfl, hB9.out⟩
    · rw [hx] at hne ⊢
      have K3 := KX.out w3 S.out.ht
      generalize sortedF t (M : Int) = l at *
      replace K3 := Lib.hid K3
      replace hx := Lib.hid hx
      replace hlen := Lib.hid hlen
      replace hat := Lib.hid hat
      replace hcnt := Lib.hid hcnt
      replace hbf := Lib.hid hbf
      have hcl := Lib.hid (fun k => cntF_le (tx t) a k)
      have KY := Lib.hid (fun k h => cntF_yes (f := tx t) (n := a) (k := k) h)
      have KN := Lib.hid (fun k h => cntF_no (f := tx t) (n := a) (k := k) h)
      have hn1 : ¬ (K : Int) < 0 := by omega
      clear KX
      go_wp2_with (fail)
      refine K3.out.mono ?_
      rintro e w4 ⟨v4, rfl, o4, b4⟩
      obtain ⟨A5, c5, rfl, i5⟩ := o4.ints
      rw [hlen.out] at i5 ⊢
      replace S := Lib.hid (S.out.step b4)
      replace i5 := Lib.hid i5
      clear b4 o4 z0 z1 z2 K3
      obtain ⟨z0, z1, z2, -, -, -⟩ := blk3 S.out.hz
      go_wp2
      go_loopw [8, 9] (fun s8 s9 wr => ∃ k : Nat, k ≤ M ∧ s9 = .int .i64 ((k : Int) + 1) ∧ s8 = .int .i64 (cntF (tx t) a k) ∧ Below w4.heap.size w4 wr) (fun _ s9 _ => M + 1 - (intOf s9).toNat)
      case atStart => exact ⟨0, Nat.zero_le _, rfl, rfl, Below.refl _ _⟩
      case round =>
        obtain ⟨k, hk, rfl, rfl, hbr⟩ := hrel
        have Sr := Lib.hid (S.out.step hbr)
        have ir := Lib.hid (i5.out.below hbr (Nat.le_refl _))
        obtain ⟨y0, y1, y2, -, -, -⟩ := blk3 Sr.out.hz
        replace hbr := Lib.hid hbr
        by_cases hlt : k < M
        · have hlt' : (k : Int) + 1 ≤ (M : Int) := by omega
          have e1 : IntKind.i64.wrap ((k : Int) + 1 + 1) = (k : Int) + 1 + 1 := IntWalk.i64_in _ (by omega)
          have K5 := KB.out ((k : Int) + 1) a wr Sr.out.ht (by omega) (by omega)
          rw [hbf.out k hlt] at K5
          replace K5 := Lib.hid K5
          have hle := hcl.out k
          have hky := KY.out k
          have hkn := KN.out k
          by_cases hq : tx t ((k : Int) + 1) < tx t a
          · have hv := hky hq
            rw [decide_eq_true hq] at K5
            generalize cntF (tx t) a k = a1 at *
            have e2 : IntKind.i64.wrap ((a1 : Int) + 1) = (a1 : Int) + 1 := IntWalk.i64_in _ (by omega)
            replace hv := Lib.hid hv
            clear hky hkn hq
            go_wp2_with (fail)
            refine K5.out.mono ?_
            rintro e w5 ⟨rfl, b5⟩
            have hB5 := Lib.hid (hbr.out.trans (b5.mono hbr.out.size))
            clear b5 y0 y1 y2 K5
            go_wp2
            go_roundw
            case rel => exact ⟨k + 1, by omega, by go_num, by rw [hv.out]; rfl, hB5.out⟩
            case measure => simp [intOf]; omega
          · have hv := hkn hq
            rw [decide_eq_false hq] at K5
            generalize cntF (tx t) a k = a1 at *
            replace hv := Lib.hid hv
            clear hky hkn hq
            go_wp2_with (fail)
            refine K5.out.mono ?_
            rintro e w5 ⟨rfl, b5⟩
            have hB5 := Lib.hid (hbr.out.trans (b5.mono hbr.out.size))
            clear b5 y0 y1 y2 K5
            go_wp2
            go_roundw
            case rel => exact ⟨k + 1, by omega, by go_num, by rw [hv.out], hB5.out⟩
            case measure => simp [intOf]; omega
        · obtain rfl : k = M := by omega
          have hlt' : ¬ (k : Int) + 1 ≤ (k : Int) := by omega
          rw [hcnt.out]
          obtain ⟨bl, ol, rfl, -, hc⟩ := ir.out.at_ (by omega)
          have ck := hc K hK
          rw [hat.out] at ck
          have hK' : (K : Int) < (k : Int) := by omega
          have g1 : (a == a) = true := by rw [beq_iff_eq]
          have g2 : ((K : Int) == (K : Int)) = true := by rw [beq_iff_eq]
          have hBf := Lib.hid Sr.out.low
          clear hc
          go_wp2
          go_ret
          exact ⟨rfl, hBf.out⟩
  · have hl' : 1048576 < n := by omega
    go_enter Try.func7, Try.ntmps7
    go_wp2
    go_ret
    exact ⟨rfl, Below.refl _ _⟩

set_option maxRecDepth 100000 in
theorem lifted (os : Os) (started : os.Started) (H : Type) (enc : TypeId × Value → H) :
    ReturnsInHanded {} Try.checked os 7 .any (Rows.fnPlaceOfSpec.pre6 enc Try.prog Try.f7 Rows.fnPlaceOfRow.domain false) (Rows.fnPlaceOfSpec.post enc Try.prog Try.f7 false true false false) := by
  refine returnsInHanded_of_change (C := Try.checked) own started (by kernel_rfl) Try.func7
    (ChangeSpec.witness6 (enc := enc) (C := Try.checked) false ⟨#[], #[.slice none 0 0], []⟩ 8 (by kernel_rfl) (by kernel_rfl) (by kernel_rfl) (by kernel_rfl)) ?_
  intro W base args ds gs before hval0 hW hcnd _
  have hval : ∀ (j : Nat) t v, Try.f7.params[j]? = some t → args[j]? = some v → Value.okWide Try.prog W .any base t v := hval0
  have hW' := hW
  obtain ⟨p, q, hA0, hV, rfl, hfz, hnd⟩ := hW
  have hA : DataW.TrodAll enc Try.prog W 0 (fun _ => true) true Try.f7.params.toList args.toList ds p := hA0
  rw [Try.params7] at hA hval
  obtain ⟨v0, vs0, d0, ds0, p0, q0, hargs, rfl, rfl, h0, r0⟩ := trodAll_cons hA
  obtain ⟨rfl, rfl, rfl⟩ := trodAll_nil r0
  obtain rfl : args = #[v0] := by cases args; simp_all
  obtain ⟨rfl, rfl⟩ := trodVars_none hV
  obtain ⟨a0, len0, cap0, rfl⟩ := okWide_slice Try.underlying22 (hval 0 22 v0 rfl rfl)
  have k0 := h0
  have lt0 : ∀ x ∈ p0, x.block < W.heap.size := by obtain ⟨m, hm⟩ := k0; exact DataW.trod_lt m _ _ _ hm
  obtain ⟨z0, s0, w0, m0⟩ : ∃ zs, Ints W .u8 a0 len0 cap0 zs ∧ (∀ n ∈ zs, (Lit.int .u8 n).wf = true) ∧ cap0 ≤ maxLen := by
    obtain ⟨fuel, hf⟩ := h0
    rcases open_ints Try.underlying22 Try.underlying5 (by kernel_rfl) hf with ⟨hcs, _⟩ | ⟨x, l, c, zs, hcs, _, hl, hm, hz, _, hcell, hwz⟩
    · simp [Value.cells] at hcs
      obtain ⟨rfl, rfl, rfl⟩ := hcs
      exact ⟨[], Ints.none_, by simp, Nat.zero_le _⟩
    · simp [Value.cells] at hcs
      obtain ⟨rfl, rfl, rfl⟩ := hcs
      exact ⟨_, Ints.of_row hl (by simpa using hz) hcell, fun n hn => hwz n (List.mem_of_mem_take hn), hm⟩
  clear hA0 hval0
  refine (walk W a0 len0 cap0 z0 s0 w0 m0).mono fun e W' ⟨he, bel⟩ => ?_
  subst he
  exact ⟨_, rfl, _, _, _, [], _, [], hW', trodAll_mk1 (shut_bool Try.underlying4 _), (trodAll_cons_mk (Below.trod laidOut (by kernel_rfl) (of_decide_eq_true (by kernel_rfl)) k0 bel lt0) trodAll_mk0), rfl, bel.frame _, fun h => by cases h⟩

theorem over : Rows.fnPlaceOfRow.holds Try.pinned (OpenSpec.ofChange Rows.fnPlaceOfSpec) :=
  OpenClaim.holds_of_wide 7 Try.f7 rfl rfl rfl rfl rfl rfl rfl ⟨rfl, rfl, rfl, rfl, rfl⟩ rfl rfl rfl rfl rfl (by kernel_rfl) Try.func7 (by kernel_rfl)
    (of_decide_eq_true (by kernel_rfl)) (by unfold Func.isWrapper; first | (rw [if_pos (by decide +kernel)]; kernel_rfl) | (rw [if_neg (by decide +kernel)]; exact ⟨rfl, rfl⟩))
    (fun os started H enc _ => lifted os started H enc)
theorem proved : Rows.FnPlaceOfSaid := over
end Go.Proofs.Ytjggdlnbfoglaaa.fnPlaceOf
