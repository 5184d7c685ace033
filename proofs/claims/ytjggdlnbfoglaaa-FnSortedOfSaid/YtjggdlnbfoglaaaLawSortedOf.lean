/-
  FnSortedOf holds for every input: the drawn tongue and number are answered by SortedOf as by its model; each number of the answer is before the next one, and each number up to the drawn one is there once. No condition.
-/
import Derived.Test.YtjggdlnbfoglaaaRows
import Derived.Test.YtjggdlnbfoglaaaDrawM
import Derived.Test.YtjggdlnbfoglaaaOL
import Derived.Test.YtjggdlnbfoglaaaO2
import Derived.Test.YtjggdlnbfoglaaaY3
import Derived.Test.YtjggdlnbfoglaaaY1
import Derived.Test.YtjggdlnbfoglaaaHas
import Derived.Lib.QuietBelow
namespace Go.Proofs.Ytjggdlnbfoglaaa.fnSortedOf
open Go.ChangeShapes Go.WideShapes Go.ChangeAt Go.RowKit Go.Sort
open Go.ChangeMaps (open_string shut_string)

theorem own : ownKnob Try.prog.godebug = none := by kernel_rfl
theorem laidOut : laidOutB Try.prog = true := by kernel_rfl

set_option maxRecDepth 100000 in
set_option maxHeartbeats 8000000 in
theorem walk (w : World) (A : Option Addr) (n c : Nat) (xs : List Int) (h : Ints w .u8 A n c xs) (hwf : ∀ x ∈ xs, (Lit.int .u8 x).wf = true) (hc : c ≤ maxLen) :
    Calls Try.prog 4 #[.slice A n c] w fun e w' => e = .returned (.bool true) ∧ Below w.heap.size w w' := by
  have hn : n ≤ 9223372036854775807 := by have := h.le; unfold maxLen at hc; omega
  by_cases hl : n ≤ 1048576
  · have HD := Lib.hid (drawSortedOf_any A n c xs w h hl hwf hc)
    clear h hwf hc
    go_enter Try.func4, Try.ntmps4
    go_wp2_with (fail)
    refine HD.out.mono ?_
    rintro e w1 ⟨v, t, a, rfl, ho, hsm, ha, hb⟩
    obtain ⟨ha1, ha2⟩ := ha
    obtain ⟨A1, c1, A2, c2, A3, c3, rfl⟩ := ho.shape
    have hf := Lib.hid (hsm.fine (by omega))
    have hba := (Below.refl w1.heap.size w1).alloc (Nat.le_refl _) (.cells #[.slice A1 t.us.length c1, .slice A2 t.bs.length c2, .slice A3 t.ns.length c3] 26)
    have S := Lib.hid (⟨hb.trans (hba.mono hb.size), Blk.new w1 26 #[.slice A1 t.us.length c1, .slice A2 t.bs.length c2, .slice A3 t.ns.length c3], ho.tng.below hba (Nat.le_refl _)⟩ : LSt w w1.heap.size #[.slice A1 t.us.length c1, .slice A2 t.bs.length c2, .slice A3 t.ns.length c3] t (w1.alloc (.cells #[.slice A1 t.us.length c1, .slice A2 t.bs.length c2, .slice A3 t.ns.length c3] 26)))
    clear ho hsm hb hba HD
    go_upto_region 4 with (fail)
    generalize w1.alloc (.cells #[.slice A1 t.us.length c1, .slice A2 t.bs.length c2, .slice A3 t.ns.length c3] 26) = W at *
    generalize w1.heap.size = z at *
    obtain ⟨z0, z1, z2, -, -, -⟩ := blk3 S.out.hz
    have KB := Lib.hid (fun x y W' (hT : Tng W' (.agg #[.slice A1 t.us.length c1, .slice A2 t.bs.length c2, .slice A3 t.ns.length c3]) t) hx hy => implBeforeOk_any _ t x y W' hT hf.out hx hy)
    have K1 := Lib.hid (implSortedOf_any _ t a W S.out.ht hf.out (by omega))
    have KX := Lib.hid (fun W' (hT : Tng W' (.agg #[.slice A1 t.us.length c1, .slice A2 t.bs.length c2, .slice A3 t.ns.length c3]) t) => specSortedOf_any _ t a W' hT hf.out (by omega))
    have hlaw := sorted_law t a
    have hbd := sorted_bd t a
    have hll := sorted_len t a
    generalize sortedF t a = l at *
    generalize hL : l.length = L at *
    replace hL := Lib.hid hL
    replace hbd := Lib.hid hbd
    replace hlaw := Lib.hid hlaw
    go_wp2_with (fail)
    refine K1.out.mono ?_
    rintro e w2 ⟨v2, rfl, o2, b2⟩
    obtain ⟨A5, c5, rfl, i5⟩ := o2.ints
    rw [hL.out] at i5 ⊢
    replace S := Lib.hid (S.out.step b2)
    have K2 := Lib.hid (KX.out w2 S.out.ht)
    clear b2 o2 z0 z1 z2 K1 KX
    obtain ⟨z0, z1, z2, -, -, -⟩ := blk3 S.out.hz
    go_wp2_with (fail)
    refine K2.out.mono ?_
    rintro e w3 ⟨v3, rfl, o3, b3⟩
    obtain ⟨A6, c6, rfl, i6⟩ := o3.ints
    rw [hL.out] at i6 ⊢
    replace S := Lib.hid (S.out.step b3)
    have j5 := i5.below b3 (Nat.le_refl _)
    have KS := sameInts_any A5 A6 _ c5 _ c6 l l w3 j5 i6 (by omega) (by omega)
    rw [decide_eq_true rfl] at KS
    replace KS := Lib.hid KS
    replace j5 := Lib.hid j5
    clear b3 o3 i6 i5 z0 z1 z2 K2
    go_wp2_with (fail)
    refine KS.out.mono ?_
    rintro e _ ⟨rfl, m4, rfl⟩
    have hd := below_drewN (Below.refl w3.heap.size w3) m4
    replace S := Lib.hid (S.out.step hd)
    have i4 := Lib.hid (j5.out.below hd (Nat.le_refl _))
    clear KS j5 hd
    generalize w3.drewN m4 = W4 at *
    obtain ⟨z0, z1, z2, -, -, -⟩ := blk3 S.out.hz
    rcases hlaw.out with hr | ⟨M, rfl, hM1, hM2, hM, hnext, hin⟩
    · have hL0 : L = 0 := by rw [← hL.out, hr]; rfl
      subst hL0
      have g0 : (((0 : Nat) : Int) == 0) = true := by rw [beq_iff_eq]; rfl
      clear hr i4 KB hlaw
      go_wp2_with (fail)
      refine (alive_any _).mono ?_
      rintro e w9 ⟨rfl, b9⟩
      have hB9 := Lib.hid (S.out.low.trans (b9.mono S.out.low.size))
      clear b9
      go_wp2
      go_ret
      exact ⟨rfl, hB9.out⟩
    · have hLM : L = M := hM
      subst hLM
      have g0 : ((L : Int) == 0) = false := by rw [beq_eq_false_iff_ne]; omega
      replace hnext := Lib.hid hnext
      replace hin := Lib.hid hin
      replace hM := Lib.hid hM
      clear hlaw
      go_wp2
      go_loopw [6] (fun s6 wr => ∃ k : Nat, k + 1 ≤ L ∧ s6 = .int .i64 ((k : Int) + 1) ∧ Below W4.heap.size W4 wr) (fun s6 _ => L - (intOf s6).toNat)
      case atStart => exact ⟨0, hM1, rfl, Below.refl _ _⟩
      case round =>
        obtain ⟨k, hk, rfl, hbr⟩ := hrel
        have Sr := Lib.hid (S.out.step hbr)
        have ir := Lib.hid (i4.out.below hbr (Nat.le_refl _))
        by_cases hlt : k + 1 < L
        · obtain ⟨bl, ol, rfl, hbl, hc⟩ := ir.out.at_ (by omega)
          have ck := hc k (by omega)
          have cn := hc (k + 1) hlt
          have hbk := hbd.out k
          have hbn := hbd.out (k + 1)
          have hnx := hnext.out k hlt
          have KB1 := fun d os => KB.out (l.getD k 0) (l.getD (k + 1) 0) (grow (redrawn wr d) os) (Sr.out.ht.below (below_regrown wr d os) (Nat.le_refl _)) (by omega) (by omega)
          rw [hnx] at KB1
          generalize l.getD k 0 = x at *
          generalize l.getD (k + 1) 0 = y at *
          replace KB1 := Lib.hid KB1
          obtain ⟨z0, z1, z2, -, -, -⟩ := blk3 Sr.out.hz
          have y0' := fun d os => cell_regrown z0 d os
          have y1' := fun d os => cell_regrown z1 d os
          have y2' := fun d os => cell_regrown z2 d os
          have ck' := fun d os => cell_regrown ck d os
          have cn' := fun d os => cell_regrown cn d os
          have e1 : IntKind.i64.wrap ((k : Int) + 1 - 1) = (k : Int) := by rw [show (k : Int) + 1 - 1 = (k : Int) by omega]; exact IntWalk.i64_in _ (by omega)
          have e2 : IntKind.i64.wrap (k : Int) = (k : Int) := IntWalk.i64_in _ (by omega)
          have e3 : IntKind.i64.wrap ((k : Int) + 1 + 1) = (k : Int) + 1 + 1 := IntWalk.i64_in _ (by omega)
          have p1 : (k : Int) + 1 < (L : Int) := by omega
          have p2 : (k : Int) < (L : Int) := by omega
          have p3 : (0 : Int) ≤ (k : Int) + 1 := by omega
          have p4 : ((k : Int) + 1).toNat = k + 1 := by omega
          have p5 : k < L := by omega
          clear hc hnx hbk hbn
          replace hbr := Lib.hid hbr
          go_upto_region 12 with (fail)
          refine wp_region_quiet_below (by kernel_rfl) (by kernel_rfl) ?_
          repeat (go_big_quiet_step (first | (go_at_call 16; exact Calls.regrown_of (KB1.out _ _))))
          refine wpQuiet_nil ?_
          intro _ hw'
          obtain ⟨pq, hw''⟩ := hw'
          have bq := Lib.hid (below_regrown wr pq.d pq.os)
          subst hw''
          have hB5 := Lib.hid (hbr.out.trans (bq.out.mono hbr.out.size))
          clear y0' y1' y2' z0 z1 z2 ck' cn' ck cn KB1 bq e1 e2 p3 p4
          go_wp2
          go_roundw
          case rel => exact ⟨k + 1, by omega, by go_num, hB5.out⟩
          case measure => simp [intOf]; omega
        · obtain rfl : L = k + 1 := by omega
          have p1 : ¬ (k : Int) + 1 < ((k + 1 : Nat) : Int) := by omega
          have p2 : ¬ (k : Int) + 1 < (k : Int) + 1 := by omega
          have KH := fun j (hj : j < k + 1) => hasInt_any A5 (k + 1) c5 l ((j : Int) + 1) wr ir.out (by omega)
          have KH2 := Lib.hid (fun j (hj : j < k + 1) => by have := KH j hj; rw [decide_eq_true (hin.out j hj)] at this; exact this)
          have hBf := Lib.hid Sr.out.low
          clear KH hbr
          go_wp2
          go_loop [7] (fun s7 => ∃ j : Nat, j ≤ k + 1 ∧ s7 = .int .i64 ((j : Int) + 1)) (fun s7 => k + 2 - (intOf s7).toNat)
          case atStart => exact ⟨0, Nat.zero_le _, rfl⟩
          case round =>
            obtain ⟨j, hj, rfl⟩ := hrel
            by_cases hjl : j < k + 1
            · have KH3 := Lib.hid (KH2.out j hjl)
              have q1 : (j : Int) + 1 ≤ ((k + 1 : Nat) : Int) := by omega
              have q2 : (j : Int) + 1 ≤ (k : Int) + 1 := by omega
              have q3 : (j : Int) ≤ (k : Int) := by omega
              have e1 : IntKind.i64.wrap ((j : Int) + 1 + 1) = (j : Int) + 1 + 1 := IntWalk.i64_in _ (by omega)
              go_wp2_with (fail)
              refine KH3.out.mono ?_
              rintro e _ ⟨rfl, rfl⟩
              go_wp2
              go_round
              case rel => exact ⟨j + 1, by omega, by go_num⟩
              case measure => simp [intOf]; omega
            · obtain rfl : j = k + 1 := by omega
              have q1 : ¬ ((k + 1 : Nat) : Int) + 1 ≤ ((k + 1 : Nat) : Int) := by omega
              have q2 : ¬ (k : Int) + 1 + 1 ≤ (k : Int) + 1 := by omega
              have q3 : ¬ (k : Int) + 1 ≤ (k : Int) := by omega
              have g1 : (((k + 1 : Nat) : Int) == ((k + 1 : Nat) : Int)) = true := by rw [beq_iff_eq]
              have g2 : ((k : Int) + 1 == (k : Int) + 1) = true := by rw [beq_iff_eq]
              go_wp2
              go_ret
              exact ⟨rfl, hBf.out⟩
  · have hl' : 1048576 < n := by omega
    go_enter Try.func4, Try.ntmps4
    go_wp2
    go_ret
    exact ⟨rfl, Below.refl _ _⟩

set_option maxRecDepth 100000 in
theorem lifted (os : Os) (started : os.Started) (H : Type) (enc : TypeId × Value → H) :
    ReturnsInHanded {} Try.checked os 4 .any (Rows.fnSortedOfSpec.pre6 enc Try.prog Try.f4 Rows.fnSortedOfRow.domain false) (Rows.fnSortedOfSpec.post enc Try.prog Try.f4 false true false false) := by
  refine returnsInHanded_of_change (C := Try.checked) own started (by kernel_rfl) Try.func4
    (ChangeSpec.witness6 (enc := enc) (C := Try.checked) false ⟨#[], #[.slice none 0 0], []⟩ 8 (by kernel_rfl) (by kernel_rfl) (by kernel_rfl) (by kernel_rfl)) ?_
  intro W base args ds gs before hval0 hW hcnd _
  have hval : ∀ (j : Nat) t v, Try.f4.params[j]? = some t → args[j]? = some v → Value.okWide Try.prog W .any base t v := hval0
  have hW' := hW
  obtain ⟨p, q, hA0, hV, rfl, hfz, hnd⟩ := hW
  have hA : DataW.TrodAll enc Try.prog W 0 (fun _ => true) true Try.f4.params.toList args.toList ds p := hA0
  rw [Try.params4] at hA hval
  obtain ⟨v0, vs0, d0, ds0, p0, q0, hargs, rfl, rfl, h0, r0⟩ := trodAll_cons hA
  obtain ⟨rfl, rfl, rfl⟩ := trodAll_nil r0
  obtain rfl : args = #[v0] := by cases args; simp_all
  obtain ⟨rfl, rfl⟩ := trodVars_none hV
  obtain ⟨a0, len0, cap0, rfl⟩ := okWide_slice Try.underlying22 (hval 0 22 v0 rfl rfl)
  have k0 := h0
  have lt0 : ∀ x ∈ p0, x.block < W.heap.size := by obtain ⟨m, hm⟩ := k0; exact DataW.trod_lt m _ _ _ hm
  obtain ⟨z0, s0, w0, m0⟩ : ∃ zs, Ints W .u8 a0 len0 cap0 zs ∧ (∀ n ∈ zs, (Lit.int .u8 n).wf = true) ∧ cap0 ≤ maxLen := by
    obtain ⟨fuel, hf⟩ := h0
    rcases open_ints Try.underlying22 Try.underlying5 (by kernel_rfl) hf with ⟨hcs, _⟩ | ⟨x, l, c, zs, hcs, _, hl, hm, hz, _, hcell, hwz⟩
    · simp [Value.cells] at hcs
      obtain ⟨rfl, rfl, rfl⟩ := hcs
      exact ⟨[], Ints.none_, by simp, Nat.zero_le _⟩
    · simp [Value.cells] at hcs
      obtain ⟨rfl, rfl, rfl⟩ := hcs
      exact ⟨_, Ints.of_row hl (by simpa using hz) hcell, fun n hn => hwz n (List.mem_of_mem_take hn), hm⟩
  clear hA0 hval0
  refine (walk W a0 len0 cap0 z0 s0 w0 m0).mono fun e W' ⟨he, bel⟩ => ?_
  subst he
  exact ⟨_, rfl, _, _, _, [], _, [], hW', trodAll_mk1 (shut_bool Try.underlying4 _), (trodAll_cons_mk (Below.trod laidOut (by kernel_rfl) (of_decide_eq_true (by kernel_rfl)) k0 bel lt0) trodAll_mk0), rfl, bel.frame _, fun h => by cases h⟩

theorem over : Rows.fnSortedOfRow.holds Try.pinned (OpenSpec.ofChange Rows.fnSortedOfSpec) :=
  OpenClaim.holds_of_wide 4 Try.f4 rfl rfl rfl rfl rfl rfl rfl ⟨rfl, rfl, rfl, rfl, rfl⟩ rfl rfl rfl rfl rfl (by kernel_rfl) Try.func4 (by kernel_rfl)
    (of_decide_eq_true (by kernel_rfl)) (by unfold Func.isWrapper; first | (rw [if_pos (by decide +kernel)]; kernel_rfl) | (rw [if_neg (by decide +kernel)]; exact ⟨rfl, rfl⟩))
    (fun os started H enc _ => lifted os started H enc)
theorem proved : Rows.FnSortedOfSaid := over
end Go.Proofs.Ytjggdlnbfoglaaa.fnSortedOf
