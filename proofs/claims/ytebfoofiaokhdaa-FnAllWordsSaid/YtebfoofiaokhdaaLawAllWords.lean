/-
  FnAllWords holds for every input: the drawn tongue and number are answered by AllWords as by its model; with one number more it is as much more as the words of its name; and it is at least as many as numbers, if all have names. No condition.
-/
import Derived.Test.YtebfoofiaokhdaaRows
import Derived.Test.YtebfoofiaokhdaaDrawQ
import Derived.Test.YtebfoofiaokhdaaMathQ
import Derived.Lib.QuietBelow
import Derived.Test.YtebfoofiaokhdaaE1
import Derived.Test.YtebfoofiaokhdaaF3
import Derived.Test.YtebfoofiaokhdaaP3c
namespace Go.Proofs.Ytebfoofiaokhdaa.fnAllWords
open Go.ChangeShapes Go.WideShapes Go.ChangeAt Go.RowKit Go.Sort
open Go.ChangeMaps (open_string shut_string)

theorem own : ownKnob Try.prog.godebug = none := by kernel_rfl
theorem laidOut : laidOutB Try.prog = true := by kernel_rfl

set_option maxRecDepth 100000 in
set_option maxHeartbeats 8000000 in
theorem walk (w : World) (A : Option Addr) (n c : Nat) (xs : List Int) (h : Ints w .u8 A n c xs) (hwf : ∀ x ∈ xs, (Lit.int .u8 x).wf = true) (hc : c ≤ maxLen) :
    Calls Try.prog 6 #[.slice A n c] w fun e w' => e = .returned (.bool true) ∧ Below w.heap.size w w' := by
  have hn : n ≤ 9223372036854775807 := by have := h.le; unfold maxLen at hc; omega
  by_cases hl : n ≤ 1048576
  · have HD := Lib.hid (drawAllWords_any A n c xs w h hl hwf hc)
    clear h hwf hc
    go_enter Try.func6, Try.ntmps6
    go_wp2_with (fail)
    refine HD.out.mono ?_
    rintro e w1 ⟨v, t, a, rfl, ho, hsm, ha, hb⟩
    obtain ⟨ha1, ha2⟩ := ha
    obtain ⟨A1, c1, A2, c2, A3, c3, rfl⟩ := ho.shape
    have hf := Lib.hid (hsm.fine (by omega))
    have hba := (Below.refl w1.heap.size w1).alloc (Nat.le_refl _) (.cells #[.slice A1 t.us.length c1, .slice A2 t.bs.length c2, .slice A3 t.ns.length c3] 26)
    have S := Lib.hid (⟨hb.trans (hba.mono hb.size), Blk.new w1 26 #[.slice A1 t.us.length c1, .slice A2 t.bs.length c2, .slice A3 t.ns.length c3], ho.tng.below hba (Nat.le_refl _)⟩ : LSt w w1.heap.size #[.slice A1 t.us.length c1, .slice A2 t.bs.length c2, .slice A3 t.ns.length c3] t (w1.alloc (.cells #[.slice A1 t.us.length c1, .slice A2 t.bs.length c2, .slice A3 t.ns.length c3] 26)))
    clear ho hsm hb hba HD
    go_upto_region 4 with (fail)
    generalize w1.alloc (.cells #[.slice A1 t.us.length c1, .slice A2 t.bs.length c2, .slice A3 t.ns.length c3] 26) = W at *
    generalize w1.heap.size = z at *
    obtain ⟨z0, z1, z2, -, -, -⟩ := blk3 S.out.hz
    have KL := Lib.hid (fun x W' (hT : Tng W' (.agg #[.slice A1 t.us.length c1, .slice A2 t.bs.length c2, .slice A3 t.ns.length c3]) t) hx => implLongOf_any _ t x W' hT hf.out hx)
    have K1 := Lib.hid (implAllWords_any _ t a W S.out.ht hf.out (by omega))
    have KM := Lib.hid (fun W' (hT : Tng W' (.agg #[.slice A1 t.us.length c1, .slice A2 t.bs.length c2, .slice A3 t.ns.length c3]) t) => implAllWords_any _ t (a + 1) W' hT hf.out (by omega))
    have KG := Lib.hid (fun W' (hT : Tng W' (.agg #[.slice A1 t.us.length c1, .slice A2 t.bs.length c2, .slice A3 t.ns.length c3]) t) => implGreatest_any _ t W' hT hf.out)
    have hlaw := all_law t a
    have hbm := all_bd t (a + 1)
    have hgb := greatest_bd t
    have hne : (allA t a != allA t a) = false := by simp
    go_wp2_with (fail)
    refine K1.out.mono ?_
    rintro e w2 ⟨rfl, b2⟩
    replace S := Lib.hid (S.out.step b2)
    have K2 := Lib.hid (specAllWords_any _ t a w2 S.out.ht hf.out (by omega))
    clear b2 z0 z1 z2 K1
    obtain ⟨z0, z1, z2, -, -, -⟩ := blk3 S.out.hz
    go_wp2_with (fail)
    refine K2.out.mono ?_
    rintro e w3 ⟨rfl, b2⟩
    replace S := Lib.hid (S.out.step b2)
    clear b2 z0 z1 z2 K2
    obtain ⟨z0, z1, z2, -, -, -⟩ := blk3 S.out.hz
    rcases hlaw with hr | ⟨M, s, rfl, hM1, hM2, hx, hs, hmore, hall⟩
    · have hq1 : allA t a < 0 := by omega
      have hq2 : (allA t a == -1) = true := by rw [beq_iff_eq]; exact hr
      rw [hr] at hq1 hq2 hne ⊢
      replace hr := Lib.hid hr
      clear KL KM KG hbm hgb
      go_wp2_with (fail)
      refine (alive_any _).mono ?_
      rintro e w9 ⟨rfl, b9⟩
      have hB9 := Lib.hid (S.out.low.trans (b9.mono S.out.low.size))
      clear b9
      go_wp2
      go_ret
      exact ⟨rfl, hB9.out⟩
    · rw [hx] at hne ⊢
      replace hx := Lib.hid hx
      have hn1 : ¬ (s : Int) < 0 := by omega
      have ea : IntKind.i64.wrap ((M : Int) + 1) = (M : Int) + 1 := IntWalk.i64_in _ (by omega)
      have K3 := Lib.hid (KM.out w3 S.out.ht)
      have K5' := Lib.hid (fun W' hT => KL.out ((M : Int) + 1) W' hT (by omega))
      have hlb := longOf_bd t ((M : Int) + 1)
      have hlz := long_nz t ((M : Int) + 1)
      replace hall := Lib.hid hall
      generalize allA t ((M : Int) + 1) = y at *
      generalize longOf t ((M : Int) + 1) = lo at *
      replace hmore := Lib.hid hmore
      clear KM KL
      go_wp2_with (fail)
      refine K3.out.mono ?_
      rintro e w4 ⟨rfl, b2⟩
      replace S := Lib.hid (S.out.step b2)
      clear b2 z0 z1 z2 K3
      obtain ⟨z0, z1, z2, -, -, -⟩ := blk3 S.out.hz
      by_cases hy : y < 0
      · replace hmore := Lib.hid hmore.out
        have K6 := Lib.hid (KG.out w4 S.out.ht)
        by_cases hg : greatest t < (M : Int)
        · generalize greatest t = gr at *
          clear hall
          go_wp2_with (fail)
          refine K6.out.mono ?_
          rintro e w6 ⟨rfl, b6⟩
          have S6 := Lib.hid (S.out.step b6)
          clear b6 z0 z1 z2 K6
          go_wp2_with (fail)
          refine (alive_any _).mono ?_
          rintro e w9 ⟨rfl, b9⟩
          have hB9 := Lib.hid (S6.out.low.trans (b9.mono S6.out.low.size))
          clear b9
          go_wp2
          go_ret
          exact ⟨rfl, hB9.out⟩
        · have hsk : (M : Int) ≤ (s : Int) := by
            rcases hall.out with h | h
            · exact absurd h hg
            · omega
          generalize greatest t = gr at *
          clear hall
          go_wp2_with (fail)
          refine K6.out.mono ?_
          rintro e w6 ⟨rfl, b6⟩
          have S6 := Lib.hid (S.out.step b6)
          clear b6 z0 z1 z2 K6
          go_wp2_with (fail)
          refine (alive_any _).mono ?_
          rintro e w9 ⟨rfl, b9⟩
          have hB9 := Lib.hid (S6.out.low.trans (b9.mono S6.out.low.size))
          clear b9
          go_wp2
          go_ret
          exact ⟨rfl, hB9.out⟩
      · have hy2 : y = (s : Int) + max lo 0 := by
          rcases hmore.out with h | h
          · omega
          · exact h
        by_cases hlo : 0 < lo
        · have hy3 : y = (s : Int) + lo := by omega
          have hlo2 : ¬ lo < 0 := by omega
          have e2 : IntKind.i64.wrap ((s : Int) + lo) = (s : Int) + lo := IntWalk.i64_in _ (by omega)
          have g1 : ((s : Int) + lo == (s : Int) + lo) = true := by rw [beq_iff_eq]
          rw [hy3] at hy ⊢
          replace hy2 := Lib.hid hy2
          replace hy3 := Lib.hid hy3
          have K5 := Lib.hid (K5'.out w4 S.out.ht)
          go_wp2_with (fail)
          refine K5.out.mono ?_
          rintro e w5 ⟨rfl, b5⟩
          replace S := Lib.hid (S.out.step b5)
          clear b5 z0 z1 z2 K5
          obtain ⟨z0, z1, z2, -, -, -⟩ := blk3 S.out.hz
          have K6 := Lib.hid (KG.out w5 S.out.ht)
          by_cases hg : greatest t < (M : Int)
          · generalize greatest t = gr at *
            clear hall
            go_wp2_with (fail)
            refine K6.out.mono ?_
            rintro e w6 ⟨rfl, b6⟩
            have S6 := Lib.hid (S.out.step b6)
            clear b6 z0 z1 z2 K6
            go_wp2_with (fail)
            refine (alive_any _).mono ?_
            rintro e w9 ⟨rfl, b9⟩
            have hB9 := Lib.hid (S6.out.low.trans (b9.mono S6.out.low.size))
            clear b9
            go_wp2
            go_ret
            exact ⟨rfl, hB9.out⟩
          · have hsk : (M : Int) ≤ (s : Int) := by
              rcases hall.out with h | h
              · exact absurd h hg
              · omega
            generalize greatest t = gr at *
            clear hall
            go_wp2_with (fail)
            refine K6.out.mono ?_
            rintro e w6 ⟨rfl, b6⟩
            have S6 := Lib.hid (S.out.step b6)
            clear b6 z0 z1 z2 K6
            go_wp2_with (fail)
            refine (alive_any _).mono ?_
            rintro e w9 ⟨rfl, b9⟩
            have hB9 := Lib.hid (S6.out.low.trans (b9.mono S6.out.low.size))
            clear b9
            go_wp2
            go_ret
            exact ⟨rfl, hB9.out⟩
        · have hy3 : y = (s : Int) := by omega
          have hlo2 : lo < 0 := by omega
          have e2 : IntKind.i64.wrap ((s : Int) + 0) = (s : Int) := by rw [Int.add_zero]; exact IntWalk.i64_in _ (by omega)
          have e3 : IntKind.i64.wrap (s : Int) = (s : Int) := IntWalk.i64_in _ (by omega)
          have g1 : ((s : Int) == (s : Int)) = true := by rw [beq_iff_eq]
          rw [hy3] at hy ⊢
          replace hy2 := Lib.hid hy2
          replace hy3 := Lib.hid hy3
          have K5 := Lib.hid (K5'.out w4 S.out.ht)
          go_wp2_with (fail)
          refine K5.out.mono ?_
          rintro e w5 ⟨rfl, b5⟩
          replace S := Lib.hid (S.out.step b5)
          clear b5 z0 z1 z2 K5
          obtain ⟨z0, z1, z2, -, -, -⟩ := blk3 S.out.hz
          have K6 := Lib.hid (KG.out w5 S.out.ht)
          by_cases hg : greatest t < (M : Int)
          · generalize greatest t = gr at *
            clear hall
            go_wp2_with (fail)
            refine K6.out.mono ?_
            rintro e w6 ⟨rfl, b6⟩
            have S6 := Lib.hid (S.out.step b6)
            clear b6 z0 z1 z2 K6
            go_wp2_with (fail)
            refine (alive_any _).mono ?_
            rintro e w9 ⟨rfl, b9⟩
            have hB9 := Lib.hid (S6.out.low.trans (b9.mono S6.out.low.size))
            clear b9
            go_wp2
            go_ret
            exact ⟨rfl, hB9.out⟩
          · have hsk : (M : Int) ≤ (s : Int) := by
              rcases hall.out with h | h
              · exact absurd h hg
              · omega
            generalize greatest t = gr at *
            clear hall
            go_wp2_with (fail)
            refine K6.out.mono ?_
            rintro e w6 ⟨rfl, b6⟩
            have S6 := Lib.hid (S.out.step b6)
            clear b6 z0 z1 z2 K6
            go_wp2_with (fail)
            refine (alive_any _).mono ?_
            rintro e w9 ⟨rfl, b9⟩
            have hB9 := Lib.hid (S6.out.low.trans (b9.mono S6.out.low.size))
            clear b9
            go_wp2
            go_ret
            exact ⟨rfl, hB9.out⟩
  · have hl' : 1048576 < n := by omega
    go_enter Try.func6, Try.ntmps6
    go_wp2
    go_ret
    exact ⟨rfl, Below.refl _ _⟩

set_option maxRecDepth 100000 in
theorem lifted (os : Os) (started : os.Started) (H : Type) (enc : TypeId × Value → H) :
    ReturnsInHanded {} Try.checked os 6 .any (Rows.fnAllWordsSpec.pre6 enc Try.prog Try.f6 Rows.fnAllWordsRow.domain false) (Rows.fnAllWordsSpec.post enc Try.prog Try.f6 false true false false) := by
  refine returnsInHanded_of_change (C := Try.checked) own started (by kernel_rfl) Try.func6
    (ChangeSpec.witness6 (enc := enc) (C := Try.checked) false ⟨#[], #[.slice none 0 0], []⟩ 8 (by kernel_rfl) (by kernel_rfl) (by kernel_rfl) (by kernel_rfl)) ?_
  intro W base args ds gs before hval0 hW hcnd _
  have hval : ∀ (j : Nat) t v, Try.f6.params[j]? = some t → args[j]? = some v → Value.okWide Try.prog W .any base t v := hval0
  have hW' := hW
  obtain ⟨p, q, hA0, hV, rfl, hfz, hnd⟩ := hW
  have hA : DataW.TrodAll enc Try.prog W 0 (fun _ => true) true Try.f6.params.toList args.toList ds p := hA0
  rw [Try.params6] at hA hval
  obtain ⟨v0, vs0, d0, ds0, p0, q0, hargs, rfl, rfl, h0, r0⟩ := trodAll_cons hA
  obtain ⟨rfl, rfl, rfl⟩ := trodAll_nil r0
  obtain rfl : args = #[v0] := by cases args; simp_all
  obtain ⟨rfl, rfl⟩ := trodVars_none hV
  obtain ⟨a0, len0, cap0, rfl⟩ := okWide_slice Try.underlying22 (hval 0 22 v0 rfl rfl)
  have k0 := h0
  have lt0 : ∀ x ∈ p0, x.block < W.heap.size := by obtain ⟨m, hm⟩ := k0; exact DataW.trod_lt m _ _ _ hm
  obtain ⟨z0, s0, w0, m0⟩ : ∃ zs, Ints W .u8 a0 len0 cap0 zs ∧ (∀ n ∈ zs, (Lit.int .u8 n).wf = true) ∧ cap0 ≤ maxLen := by
    obtain ⟨fuel, hf⟩ := h0
    rcases open_ints Try.underlying22 Try.underlying5 (by kernel_rfl) hf with ⟨hcs, _⟩ | ⟨x, l, c, zs, hcs, _, hl, hm, hz, _, hcell, hwz⟩
    · simp [Value.cells] at hcs
      obtain ⟨rfl, rfl, rfl⟩ := hcs
      exact ⟨[], Ints.none_, by simp, Nat.zero_le _⟩
    · simp [Value.cells] at hcs
      obtain ⟨rfl, rfl, rfl⟩ := hcs
      exact ⟨_, Ints.of_row hl (by simpa using hz) hcell, fun n hn => hwz n (List.mem_of_mem_take hn), hm⟩
  clear hA0 hval0
  refine (walk W a0 len0 cap0 z0 s0 w0 m0).mono fun e W' ⟨he, bel⟩ => ?_
  subst he
  exact ⟨_, rfl, _, _, _, [], _, [], hW', trodAll_mk1 (shut_bool Try.underlying4 _), (trodAll_cons_mk (Below.trod laidOut (by kernel_rfl) (of_decide_eq_true (by kernel_rfl)) k0 bel lt0) trodAll_mk0), rfl, bel.frame _, fun h => by cases h⟩

theorem over : Rows.fnAllWordsRow.holds Try.pinned (OpenSpec.ofChange Rows.fnAllWordsSpec) :=
  OpenClaim.holds_of_wide 6 Try.f6 rfl rfl rfl rfl rfl rfl rfl ⟨rfl, rfl, rfl, rfl, rfl⟩ rfl rfl rfl rfl rfl (by kernel_rfl) Try.func6 (by kernel_rfl)
    (of_decide_eq_true (by kernel_rfl)) (by unfold Func.isWrapper; first | (rw [if_pos (by decide +kernel)]; kernel_rfl) | (rw [if_neg (by decide +kernel)]; exact ⟨rfl, rfl⟩))
    (fun os started H enc _ => lifted os started H enc)
theorem proved : Rows.FnAllWordsSaid := over
end Go.Proofs.Ytebfoofiaokhdaa.fnAllWords
