/-
  FnLastOf holds for every input: the drawn tongue and number are answered by LastOf as by its model; it is before no name of the numbers; with one number more it is the same, or that number, or none. No condition.
-/
import Derived.Test.YtjggdlnbfoglaaaRows
import Derived.Test.YtjggdlnbfoglaaaDrawM
import Derived.Test.YtjggdlnbfoglaaaOL
import Derived.Test.YtjggdlnbfoglaaaO3
import Derived.Test.YtjggdlnbfoglaaaY4
import Derived.Test.YtjggdlnbfoglaaaY1
namespace Go.Proofs.Ytjggdlnbfoglaaa.fnLastOf
open Go.ChangeShapes Go.WideShapes Go.ChangeAt Go.RowKit Go.Sort
open Go.ChangeMaps (open_string shut_string)

theorem own : ownKnob Try.prog.godebug = none := by kernel_rfl
theorem laidOut : laidOutB Try.prog = true := by kernel_rfl

set_option maxRecDepth 100000 in
set_option maxHeartbeats 8000000 in
theorem walk (w : World) (A : Option Addr) (n c : Nat) (xs : List Int) (h : Ints w .u8 A n c xs) (hwf : ∀ x ∈ xs, (Lit.int .u8 x).wf = true) (hc : c ≤ maxLen) :
    Calls Try.prog 6 #[.slice A n c] w fun e w' => e = .returned (.bool true) ∧ Below w.heap.size w w' := by
  have hn : n ≤ 9223372036854775807 := by have := h.le; unfold maxLen at hc; omega
  by_cases hl : n ≤ 1048576
  · have HD := Lib.hid (drawLastOf_any A n c xs w h hl hwf hc)
    clear h hwf hc
    go_enter Try.func6, Try.ntmps6
    go_wp2_with (fail)
    refine HD.out.mono ?_
    rintro e w1 ⟨v, t, a, rfl, ho, hsm, ha, hb⟩
    obtain ⟨ha1, ha2⟩ := ha
    obtain ⟨A1, c1, A2, c2, A3, c3, rfl⟩ := ho.shape
    have hf := Lib.hid (hsm.fine (by omega))
    have hba := (Below.refl w1.heap.size w1).alloc (Nat.le_refl _) (.cells #[.slice A1 t.us.length c1, .slice A2 t.bs.length c2, .slice A3 t.ns.length c3] 26)
    have S := Lib.hid (⟨hb.trans (hba.mono hb.size), Blk.new w1 26 #[.slice A1 t.us.length c1, .slice A2 t.bs.length c2, .slice A3 t.ns.length c3], ho.tng.below hba (Nat.le_refl _)⟩ : LSt w w1.heap.size #[.slice A1 t.us.length c1, .slice A2 t.bs.length c2, .slice A3 t.ns.length c3] t (w1.alloc (.cells #[.slice A1 t.us.length c1, .slice A2 t.bs.length c2, .slice A3 t.ns.length c3] 26)))
    clear ho hsm hb hba HD
    go_upto_region 4 with (fail)
    generalize w1.alloc (.cells #[.slice A1 t.us.length c1, .slice A2 t.bs.length c2, .slice A3 t.ns.length c3] 26) = W at *
    generalize w1.heap.size = z at *
    obtain ⟨z0, z1, z2, -, -, -⟩ := blk3 S.out.hz
    have KB := Lib.hid (fun x y W' (hT : Tng W' (.agg #[.slice A1 t.us.length c1, .slice A2 t.bs.length c2, .slice A3 t.ns.length c3]) t) hx hy => implBeforeOk_any _ t x y W' hT hf.out hx hy)
    have K1 := Lib.hid (implLastOf_any _ t a W S.out.ht hf.out (by omega))
    have KM := Lib.hid (fun W' (hT : Tng W' (.agg #[.slice A1 t.us.length c1, .slice A2 t.bs.length c2, .slice A3 t.ns.length c3]) t) => implLastOf_any _ t (a + 1) W' hT hf.out (by omega))
    have hlaw := last_law t a
    have hne : (lastF t a != lastF t a) = false := by simp
    go_wp2_with (fail)
    refine K1.out.mono ?_
    rintro e w2 ⟨rfl, b2⟩
    replace S := Lib.hid (S.out.step b2)
    have K2 := Lib.hid (specLastOf_any _ t a w2 S.out.ht hf.out (by omega))
    clear b2 z0 z1 z2 K1
    obtain ⟨z0, z1, z2, -, -, -⟩ := blk3 S.out.hz
    go_wp2_with (fail)
    refine K2.out.mono ?_
    rintro e w3 ⟨rfl, b2⟩
    replace S := Lib.hid (S.out.step b2)
    clear b2 z0 z1 z2 K2
    obtain ⟨z0, z1, z2, -, -, -⟩ := blk3 S.out.hz
    rcases hlaw with hr | ⟨M, x, rfl, hM1, hM2, hx, x1, x2, hbf, hmore⟩
    · have hq1 : lastF t a < 1 := by omega
      have hq2 : (lastF t a == -1) = true := by rw [beq_iff_eq]; exact hr
      rw [hr] at hq1 hq2 hne ⊢
      replace hr := Lib.hid hr
      clear KB KM
      go_wp2_with (fail)
      refine (alive_any _).mono ?_
      rintro e w9 ⟨rfl, b9⟩
      have hB9 := Lib.hid (S.out.low.trans (b9.mono S.out.low.size))
      clear b9
      go_wp2
      go_ret
      exact ⟨rfl, hB9.out⟩
    · rw [hx] at hne ⊢
      replace hx := Lib.hid hx
      have hbf2 := Lib.hid (fun (k : Nat) (hk : k < M) => hbf ((k : Int) + 1) (by omega) (by omega))
      have hn1 : ¬ x < 1 := by omega
      replace hbf := Lib.hid hbf
      replace hmore := Lib.hid hmore
      generalize lastF t ((M : Int) + 1) = y at *
      go_wp2
      go_loopw [6] (fun s6 wr => ∃ k : Nat, k ≤ M ∧ s6 = .int .i64 ((k : Int) + 1) ∧ Below w3.heap.size w3 wr) (fun s6 _ => M + 1 - (intOf s6).toNat)
      case atStart => exact ⟨0, Nat.zero_le _, rfl, Below.refl _ _⟩
      case round =>
        obtain ⟨k, hk, rfl, hbr⟩ := hrel
        have Sr := Lib.hid (S.out.step hbr)
        obtain ⟨y0, y1, y2, -, -, -⟩ := blk3 Sr.out.hz
        replace hbr := Lib.hid hbr
        by_cases hlt : k < M
        · have hlt' : (k : Int) + 1 ≤ (M : Int) := by omega
          have e1 : IntKind.i64.wrap ((k : Int) + 1 + 1) = (k : Int) + 1 + 1 := IntWalk.i64_in _ (by omega)
          have K5 := KB.out x ((k : Int) + 1) wr Sr.out.ht (by omega) (by omega)
          rw [hbf2.out k hlt] at K5
          replace K5 := Lib.hid K5
          go_wp2_with (fail)
          refine K5.out.mono ?_
          rintro e w5 ⟨rfl, b5⟩
          have hB5 := Lib.hid (hbr.out.trans (b5.mono hbr.out.size))
          clear b5 y0 y1 y2 K5
          go_wp2
          go_roundw
          case rel => exact ⟨k + 1, by omega, by go_num, hB5.out⟩
          case measure => simp [intOf]; omega
        · obtain rfl : k = M := by omega
          have hlt' : ¬ (k : Int) + 1 ≤ (k : Int) := by omega
          have e1 : IntKind.i64.wrap ((k : Int) + 1) = (k : Int) + 1 := IntWalk.i64_in _ (by omega)
          have K6 := Lib.hid (KM.out wr Sr.out.ht)
          have hle : x ≤ (k : Int) := x2
          go_wp2_with (fail)
          refine K6.out.mono ?_
          rintro e w6 ⟨rfl, b6⟩
          have hBf := Lib.hid (Sr.out.low.trans (b6.mono Sr.out.low.size))
          clear b6 y0 y1 y2 K6
          rcases hmore.out with hy | hy | hy
          · have g1 : (y == -1) = true := by rw [beq_iff_eq]; exact hy
            rw [hy] at g1 ⊢
            go_wp2
            go_ret
            exact ⟨rfl, hBf.out⟩
          · have g1 : (x == -1) = false := by rw [beq_eq_false_iff_ne]; omega
            have g2 : (x == x) = true := by rw [beq_iff_eq]
            rw [hy]
            replace hy := Lib.hid hy
            go_wp2
            go_ret
            exact ⟨rfl, hBf.out⟩
          · have g1 : ((k : Int) + 1 == -1) = false := by rw [beq_eq_false_iff_ne]; omega
            have g2 : ((k : Int) + 1 == x) = false := by rw [beq_eq_false_iff_ne]; omega
            have g3 : ((k : Int) + 1 == (k : Int) + 1) = true := by rw [beq_iff_eq]
            rw [hy]
            replace hy := Lib.hid hy
            go_wp2
            go_ret
            exact ⟨rfl, hBf.out⟩
  · have hl' : 1048576 < n := by omega
    go_enter Try.func6, Try.ntmps6
    go_wp2
    go_ret
    exact ⟨rfl, Below.refl _ _⟩

set_option maxRecDepth 100000 in
theorem lifted (os : Os) (started : os.Started) (H : Type) (enc : TypeId × Value → H) :
    ReturnsInHanded {} Try.checked os 6 .any (Rows.fnLastOfSpec.pre6 enc Try.prog Try.f6 Rows.fnLastOfRow.domain false) (Rows.fnLastOfSpec.post enc Try.prog Try.f6 false true false false) := by
  refine returnsInHanded_of_change (C := Try.checked) own started (by kernel_rfl) Try.func6
    (ChangeSpec.witness6 (enc := enc) (C := Try.checked) false ⟨#[], #[.slice none 0 0], []⟩ 8 (by kernel_rfl) (by kernel_rfl) (by kernel_rfl) (by kernel_rfl)) ?_
  intro W base args ds gs before hval0 hW hcnd _
  have hval : ∀ (j : Nat) t v, Try.f6.params[j]? = some t → args[j]? = some v → Value.okWide Try.prog W .any base t v := hval0
  have hW' := hW
  obtain ⟨p, q, hA0, hV, rfl, hfz, hnd⟩ := hW
  have hA : DataW.TrodAll enc Try.prog W 0 (fun _ => true) true Try.f6.params.toList args.toList ds p := hA0
  rw [Try.params6] at hA hval
  obtain ⟨v0, vs0, d0, ds0, p0, q0, hargs, rfl, rfl, h0, r0⟩ := trodAll_cons hA
  obtain ⟨rfl, rfl, rfl⟩ := trodAll_nil r0
  obtain rfl : args = #[v0] := by cases args; simp_all
  obtain ⟨rfl, rfl⟩ := trodVars_none hV
  obtain ⟨a0, len0, cap0, rfl⟩ := okWide_slice Try.underlying22 (hval 0 22 v0 rfl rfl)
  have k0 := h0
  have lt0 : ∀ x ∈ p0, x.block < W.heap.size := by obtain ⟨m, hm⟩ := k0; exact DataW.trod_lt m _ _ _ hm
  obtain ⟨z0, s0, w0, m0⟩ : ∃ zs, Ints W .u8 a0 len0 cap0 zs ∧ (∀ n ∈ zs, (Lit.int .u8 n).wf = true) ∧ cap0 ≤ maxLen := by
    obtain ⟨fuel, hf⟩ := h0
    rcases open_ints Try.underlying22 Try.underlying5 (by kernel_rfl) hf with ⟨hcs, _⟩ | ⟨x, l, c, zs, hcs, _, hl, hm, hz, _, hcell, hwz⟩
    · simp [Value.cells] at hcs
      obtain ⟨rfl, rfl, rfl⟩ := hcs
      exact ⟨[], Ints.none_, by simp, Nat.zero_le _⟩
    · simp [Value.cells] at hcs
      obtain ⟨rfl, rfl, rfl⟩ := hcs
      exact ⟨_, Ints.of_row hl (by simpa using hz) hcell, fun n hn => hwz n (List.mem_of_mem_take hn), hm⟩
  clear hA0 hval0
  refine (walk W a0 len0 cap0 z0 s0 w0 m0).mono fun e W' ⟨he, bel⟩ => ?_
  subst he
  exact ⟨_, rfl, _, _, _, [], _, [], hW', trodAll_mk1 (shut_bool Try.underlying4 _), (trodAll_cons_mk (Below.trod laidOut (by kernel_rfl) (of_decide_eq_true (by kernel_rfl)) k0 bel lt0) trodAll_mk0), rfl, bel.frame _, fun h => by cases h⟩

theorem over : Rows.fnLastOfRow.holds Try.pinned (OpenSpec.ofChange Rows.fnLastOfSpec) :=
  OpenClaim.holds_of_wide 6 Try.f6 rfl rfl rfl rfl rfl rfl rfl ⟨rfl, rfl, rfl, rfl, rfl⟩ rfl rfl rfl rfl rfl (by kernel_rfl) Try.func6 (by kernel_rfl)
    (of_decide_eq_true (by kernel_rfl)) (by unfold Func.isWrapper; first | (rw [if_pos (by decide +kernel)]; kernel_rfl) | (rw [if_neg (by decide +kernel)]; exact ⟨rfl, rfl⟩))
    (fun os started H enc _ => lifted os started H enc)
theorem proved : Rows.FnLastOfSaid := over
end Go.Proofs.Ytjggdlnbfoglaaa.fnLastOf
