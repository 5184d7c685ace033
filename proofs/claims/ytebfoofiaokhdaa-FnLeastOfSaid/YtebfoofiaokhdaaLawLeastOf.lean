/-
  FnLeastOf holds for every input: the drawn tongue and number of words are answered by LeastOf as by its model; the name of the answer has so many words, none of a lesser number up to 300 has, and the least number of one word more, if there is one, is greater. No condition.
-/
import Derived.Test.YtebfoofiaokhdaaRows
import Derived.Test.YtebfoofiaokhdaaDrawQ
import Derived.Test.YtebfoofiaokhdaaMathQ
import Derived.Lib.QuietBelow
import Derived.Test.YtebfoofiaokhdaaE1
import Derived.Test.YtebfoofiaokhdaaF3
namespace Go.Proofs.Ytebfoofiaokhdaa.fnLeastOf
open Go.ChangeShapes Go.WideShapes Go.ChangeAt Go.RowKit Go.Sort
open Go.ChangeMaps (open_string shut_string)

theorem own : ownKnob Try.prog.godebug = none := by kernel_rfl
theorem laidOut : laidOutB Try.prog = true := by kernel_rfl

set_option maxRecDepth 100000 in
set_option maxHeartbeats 8000000 in
theorem walk (w : World) (A : Option Addr) (n c : Nat) (xs : List Int) (h : Ints w .u8 A n c xs) (hwf : ∀ x ∈ xs, (Lit.int .u8 x).wf = true) (hc : c ≤ maxLen) :
    Calls Try.prog 3 #[.slice A n c] w fun e w' => e = .returned (.bool true) ∧ Below w.heap.size w w' := by
  have hn : n ≤ 9223372036854775807 := by have := h.le; unfold maxLen at hc; omega
  by_cases hl : n ≤ 1048576
  · have HD := Lib.hid (drawLeastOf_any A n c xs w h hl hwf hc)
    clear h hwf hc
    go_enter Try.func3, Try.ntmps3
    go_wp2_with (fail)
    refine HD.out.mono ?_
    rintro e w1 ⟨v, t, a, rfl, ho, hsm, ha, hb⟩
    obtain ⟨ha1, ha2⟩ := ha
    obtain ⟨A1, c1, A2, c2, A3, c3, rfl⟩ := ho.shape
    have hf := Lib.hid (hsm.fine (by omega))
    have hba := (Below.refl w1.heap.size w1).alloc (Nat.le_refl _) (.cells #[.slice A1 t.us.length c1, .slice A2 t.bs.length c2, .slice A3 t.ns.length c3] 26)
    have S := Lib.hid (⟨hb.trans (hba.mono hb.size), Blk.new w1 26 #[.slice A1 t.us.length c1, .slice A2 t.bs.length c2, .slice A3 t.ns.length c3], ho.tng.below hba (Nat.le_refl _)⟩ : LSt w w1.heap.size #[.slice A1 t.us.length c1, .slice A2 t.bs.length c2, .slice A3 t.ns.length c3] t (w1.alloc (.cells #[.slice A1 t.us.length c1, .slice A2 t.bs.length c2, .slice A3 t.ns.length c3] 26)))
    clear ho hsm hb hba HD
    go_upto_region 4 with (fail)
    generalize w1.alloc (.cells #[.slice A1 t.us.length c1, .slice A2 t.bs.length c2, .slice A3 t.ns.length c3] 26) = W at *
    generalize w1.heap.size = z at *
    obtain ⟨z0, z1, z2, -, -, -⟩ := blk3 S.out.hz
    have KL := Lib.hid (fun x W' (hT : Tng W' (.agg #[.slice A1 t.us.length c1, .slice A2 t.bs.length c2, .slice A3 t.ns.length c3]) t) hx => implLongOf_any _ t x W' hT hf.out hx)
    have K1 := Lib.hid (implLeastOf_any _ t a W S.out.ht hf.out (by omega))
    have KM := Lib.hid (fun W' (hT : Tng W' (.agg #[.slice A1 t.us.length c1, .slice A2 t.bs.length c2, .slice A3 t.ns.length c3]) t) => implLeastOf_any _ t (a + 1) W' hT hf.out (by omega))
    have hlaw := least_law t a
    have hbm := least_bd t (a + 1)
    have hne : (leastA t a != leastA t a) = false := by simp
    go_wp2_with (fail)
    refine K1.out.mono ?_
    rintro e w2 ⟨rfl, b2⟩
    replace S := Lib.hid (S.out.step b2)
    have K2 := Lib.hid (specLeastOf_any _ t a w2 S.out.ht hf.out (by omega))
    clear b2 z0 z1 z2 K1
    obtain ⟨z0, z1, z2, -, -, -⟩ := blk3 S.out.hz
    go_wp2_with (fail)
    refine K2.out.mono ?_
    rintro e w3 ⟨rfl, b2⟩
    replace S := Lib.hid (S.out.step b2)
    clear b2 z0 z1 z2 K2
    obtain ⟨z0, z1, z2, -, -, -⟩ := blk3 S.out.hz
    rcases hlaw with hr | ⟨M, hx, hM1, hM2, hat, hbf, hmore⟩
    · have hq1 : leastA t a < 1 := by omega
      have hq2 : (leastA t a == -1) = true := by rw [beq_iff_eq]; exact hr
      rw [hr] at hq1 hq2 hne ⊢
      replace hr := Lib.hid hr
      clear KL KM hbm
      go_wp2_with (fail)
      refine (alive_any _).mono ?_
      rintro e w9 ⟨rfl, b9⟩
      have hB9 := Lib.hid (S.out.low.trans (b9.mono S.out.low.size))
      clear b9
      go_wp2
      go_ret
      exact ⟨rfl, hB9.out⟩
    · rw [hx] at hne ⊢
      replace hx := Lib.hid hx
      have hn1 : ¬ (M : Int) < 1 := by omega
      replace hbf := Lib.hid hbf
      replace hmore := Lib.hid hmore
      generalize leastA t (a + 1) = y at *
      have ea : IntKind.i64.wrap (a + 1) = a + 1 := IntWalk.i64_in _ (by omega)
      go_wp2
      go_loopw [6] (fun s6 wr => ∃ k : Nat, k ≤ M ∧ s6 = .int .i64 ((k : Int) + 1) ∧ Below w3.heap.size w3 wr) (fun s6 _ => M + 1 - (intOf s6).toNat)
      case atStart => exact ⟨0, Nat.zero_le _, rfl, Below.refl _ _⟩
      case round =>
        obtain ⟨k, hk, rfl, hbr⟩ := hrel
        have Sr := Lib.hid (S.out.step hbr)
        obtain ⟨y0, y1, y2, -, -, -⟩ := blk3 Sr.out.hz
        replace hbr := Lib.hid hbr
        by_cases hlt : k + 1 < M
        · have hlt' : (k : Int) + 1 < (M : Int) := by omega
          by_cases h3 : k + 1 ≤ 300
          · have h3' : (k : Int) + 1 ≤ 300 := by omega
            have e1 : IntKind.i64.wrap ((k : Int) + 1 + 1) = (k : Int) + 1 + 1 := IntWalk.i64_in _ (by omega)
            have K5 := Lib.hid (KL.out ((k : Int) + 1) wr Sr.out.ht (by omega))
            have hb5 := hbf.out (k + 1) (by omega) hlt
            rw [show ((k + 1 : Nat) : Int) = (k : Int) + 1 by omega] at hb5
            generalize longOf t ((k : Int) + 1) = yy at *
            have g1 : (yy == a) = false := by rw [beq_eq_false_iff_ne]; exact hb5
            replace hb5 := Lib.hid hb5
            go_wp2_with (fail)
            refine K5.out.mono ?_
            rintro e w5 ⟨rfl, b5⟩
            have hB5 := Lib.hid (hbr.out.trans (b5.mono hbr.out.size))
            clear b5 y0 y1 y2 K5
            go_wp2
            go_roundw
            case rel => exact ⟨k + 1, by omega, by go_num, hB5.out⟩
            case measure => simp [intOf]; omega
          · have h3' : ¬ (k : Int) + 1 ≤ 300 := by omega
            have K6 := Lib.hid (KM.out wr Sr.out.ht)
            have K7' := Lib.hid (fun W' hT => KL.out (M : Int) W' hT (by omega))
            go_wp2_with (fail)
            refine K6.out.mono ?_
            rintro e w6 ⟨rfl, b2⟩
            replace Sr := Lib.hid (Sr.out.step b2)
            have K7 := Lib.hid (K7'.out w6 Sr.out.ht)
            clear b2 y0 y1 y2 K6
            obtain ⟨y0, y1, y2, -, -, -⟩ := blk3 Sr.out.hz
            rw [hat] at K7
            have g1 : (a == a) = true := by rw [beq_iff_eq]
            rcases hmore.out with hy | hy
            · have g2 : y < 0 := by omega
              replace hy := Lib.hid hy
              go_wp2_with (fail)
              refine K7.out.mono ?_
              rintro e w7 ⟨rfl, b7⟩
              have hBf := Lib.hid (Sr.out.low.trans (b7.mono Sr.out.low.size))
              clear b7 y0 y1 y2 K7
              go_wp2
              go_ret
              exact ⟨rfl, hBf.out⟩
            · have g2 : ¬ y < 0 := by omega
              have g3 : (M : Int) < y := hy
              replace hy := Lib.hid hy
              go_wp2_with (fail)
              refine K7.out.mono ?_
              rintro e w7 ⟨rfl, b7⟩
              have hBf := Lib.hid (Sr.out.low.trans (b7.mono Sr.out.low.size))
              clear b7 y0 y1 y2 K7
              go_wp2
              go_ret
              exact ⟨rfl, hBf.out⟩
        · have hlt' : ¬ (k : Int) + 1 < (M : Int) := by omega
          have K6 := Lib.hid (KM.out wr Sr.out.ht)
          have K7' := Lib.hid (fun W' hT => KL.out (M : Int) W' hT (by omega))
          go_wp2_with (fail)
          refine K6.out.mono ?_
          rintro e w6 ⟨rfl, b2⟩
          replace Sr := Lib.hid (Sr.out.step b2)
          have K7 := Lib.hid (K7'.out w6 Sr.out.ht)
          clear b2 y0 y1 y2 K6
          obtain ⟨y0, y1, y2, -, -, -⟩ := blk3 Sr.out.hz
          rw [hat] at K7
          have g1 : (a == a) = true := by rw [beq_iff_eq]
          rcases hmore.out with hy | hy
          · have g2 : y < 0 := by omega
            replace hy := Lib.hid hy
            go_wp2_with (fail)
            refine K7.out.mono ?_
            rintro e w7 ⟨rfl, b7⟩
            have hBf := Lib.hid (Sr.out.low.trans (b7.mono Sr.out.low.size))
            clear b7 y0 y1 y2 K7
            go_wp2
            go_ret
            exact ⟨rfl, hBf.out⟩
          · have g2 : ¬ y < 0 := by omega
            have g3 : (M : Int) < y := hy
            replace hy := Lib.hid hy
            go_wp2_with (fail)
            refine K7.out.mono ?_
            rintro e w7 ⟨rfl, b7⟩
            have hBf := Lib.hid (Sr.out.low.trans (b7.mono Sr.out.low.size))
            clear b7 y0 y1 y2 K7
            go_wp2
            go_ret
            exact ⟨rfl, hBf.out⟩
  · have hl' : 1048576 < n := by omega
    go_enter Try.func3, Try.ntmps3
    go_wp2
    go_ret
    exact ⟨rfl, Below.refl _ _⟩

set_option maxRecDepth 100000 in
theorem lifted (os : Os) (started : os.Started) (H : Type) (enc : TypeId × Value → H) :
    ReturnsInHanded {} Try.checked os 3 .any (Rows.fnLeastOfSpec.pre6 enc Try.prog Try.f3 Rows.fnLeastOfRow.domain false) (Rows.fnLeastOfSpec.post enc Try.prog Try.f3 false true false false) := by
  refine returnsInHanded_of_change (C := Try.checked) own started (by kernel_rfl) Try.func3
    (ChangeSpec.witness6 (enc := enc) (C := Try.checked) false ⟨#[], #[.slice none 0 0], []⟩ 8 (by kernel_rfl) (by kernel_rfl) (by kernel_rfl) (by kernel_rfl)) ?_
  intro W base args ds gs before hval0 hW hcnd _
  have hval : ∀ (j : Nat) t v, Try.f3.params[j]? = some t → args[j]? = some v → Value.okWide Try.prog W .any base t v := hval0
  have hW' := hW
  obtain ⟨p, q, hA0, hV, rfl, hfz, hnd⟩ := hW
  have hA : DataW.TrodAll enc Try.prog W 0 (fun _ => true) true Try.f3.params.toList args.toList ds p := hA0
  rw [Try.params3] at hA hval
  obtain ⟨v0, vs0, d0, ds0, p0, q0, hargs, rfl, rfl, h0, r0⟩ := trodAll_cons hA
  obtain ⟨rfl, rfl, rfl⟩ := trodAll_nil r0
  obtain rfl : args = #[v0] := by cases args; simp_all
  obtain ⟨rfl, rfl⟩ := trodVars_none hV
  obtain ⟨a0, len0, cap0, rfl⟩ := okWide_slice Try.underlying22 (hval 0 22 v0 rfl rfl)
  have k0 := h0
  have lt0 : ∀ x ∈ p0, x.block < W.heap.size := by obtain ⟨m, hm⟩ := k0; exact DataW.trod_lt m _ _ _ hm
  obtain ⟨z0, s0, w0, m0⟩ : ∃ zs, Ints W .u8 a0 len0 cap0 zs ∧ (∀ n ∈ zs, (Lit.int .u8 n).wf = true) ∧ cap0 ≤ maxLen := by
    obtain ⟨fuel, hf⟩ := h0
    rcases open_ints Try.underlying22 Try.underlying5 (by kernel_rfl) hf with ⟨hcs, _⟩ | ⟨x, l, c, zs, hcs, _, hl, hm, hz, _, hcell, hwz⟩
    · simp [Value.cells] at hcs
      obtain ⟨rfl, rfl, rfl⟩ := hcs
      exact ⟨[], Ints.none_, by simp, Nat.zero_le _⟩
    · simp [Value.cells] at hcs
      obtain ⟨rfl, rfl, rfl⟩ := hcs
      exact ⟨_, Ints.of_row hl (by simpa using hz) hcell, fun n hn => hwz n (List.mem_of_mem_take hn), hm⟩
  clear hA0 hval0
  refine (walk W a0 len0 cap0 z0 s0 w0 m0).mono fun e W' ⟨he, bel⟩ => ?_
  subst he
  exact ⟨_, rfl, _, _, _, [], _, [], hW', trodAll_mk1 (shut_bool Try.underlying4 _), (trodAll_cons_mk (Below.trod laidOut (by kernel_rfl) (of_decide_eq_true (by kernel_rfl)) k0 bel lt0) trodAll_mk0), rfl, bel.frame _, fun h => by cases h⟩

theorem over : Rows.fnLeastOfRow.holds Try.pinned (OpenSpec.ofChange Rows.fnLeastOfSpec) :=
  OpenClaim.holds_of_wide 3 Try.f3 rfl rfl rfl rfl rfl rfl rfl ⟨rfl, rfl, rfl, rfl, rfl⟩ rfl rfl rfl rfl rfl (by kernel_rfl) Try.func3 (by kernel_rfl)
    (of_decide_eq_true (by kernel_rfl)) (by unfold Func.isWrapper; first | (rw [if_pos (by decide +kernel)]; kernel_rfl) | (rw [if_neg (by decide +kernel)]; exact ⟨rfl, rfl⟩))
    (fun os started H enc _ => lifted os started H enc)
theorem proved : Rows.FnLeastOfSaid := over
end Go.Proofs.Ytebfoofiaokhdaa.fnLeastOf
