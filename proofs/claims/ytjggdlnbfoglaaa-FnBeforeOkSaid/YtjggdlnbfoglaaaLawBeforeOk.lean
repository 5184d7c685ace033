/-
  FnBeforeOk holds for every input: the drawn tongue and numbers are answered by BeforeOk as by its model; of two different numbers that have names one is before the other one, not both, and none is before itself; of others it is false. No condition.
-/
import Derived.Test.YtjggdlnbfoglaaaRows
import Derived.Test.YtjggdlnbfoglaaaDrawM
import Derived.Test.YtjggdlnbfoglaaaOL
import Derived.Test.YtjggdlnbfoglaaaO1
import Derived.Test.YtjggdlnbfoglaaaY1
namespace Go.Proofs.Ytjggdlnbfoglaaa.fnBeforeOk
open Go.ChangeShapes Go.WideShapes Go.ChangeAt Go.RowKit Go.Sort
open Go.ChangeMaps (open_string shut_string)

theorem own : ownKnob Try.prog.godebug = none := by kernel_rfl
theorem laidOut : laidOutB Try.prog = true := by kernel_rfl

set_option maxRecDepth 100000 in
set_option maxHeartbeats 8000000 in
theorem walk (w : World) (A : Option Addr) (n c : Nat) (xs : List Int) (h : Ints w .u8 A n c xs) (hwf : ∀ x ∈ xs, (Lit.int .u8 x).wf = true) (hc : c ≤ maxLen) :
    Calls Try.prog 3 #[.slice A n c] w fun e w' => e = .returned (.bool true) ∧ Below w.heap.size w w' := by
  have hn : n ≤ 9223372036854775807 := by have := h.le; unfold maxLen at hc; omega
  by_cases hl : n ≤ 1048576
  · have HD := Lib.hid (drawBeforeOk_any A n c xs w h hl hwf hc)
    clear h hwf hc
    go_enter Try.func3, Try.ntmps3
    go_wp2_with (fail)
    refine HD.out.mono ?_
    rintro e w1 ⟨v, t, a, b, rfl, ho, hsm, ha, hb2, hb⟩
    obtain ⟨ha1, ha2⟩ := ha
    obtain ⟨hb1, hb2⟩ := hb2
    obtain ⟨A1, c1, A2, c2, A3, c3, rfl⟩ := ho.shape
    have hf := Lib.hid (hsm.fine (by omega))
    have hba := (Below.refl w1.heap.size w1).alloc (Nat.le_refl _) (.cells #[.slice A1 t.us.length c1, .slice A2 t.bs.length c2, .slice A3 t.ns.length c3] 26)
    have S := Lib.hid (⟨hb.trans (hba.mono hb.size), Blk.new w1 26 #[.slice A1 t.us.length c1, .slice A2 t.bs.length c2, .slice A3 t.ns.length c3], ho.tng.below hba (Nat.le_refl _)⟩ : LSt w w1.heap.size #[.slice A1 t.us.length c1, .slice A2 t.bs.length c2, .slice A3 t.ns.length c3] t (w1.alloc (.cells #[.slice A1 t.us.length c1, .slice A2 t.bs.length c2, .slice A3 t.ns.length c3] 26)))
    clear ho hsm hb hba HD
    go_upto_region 4 with (fail)
    generalize w1.alloc (.cells #[.slice A1 t.us.length c1, .slice A2 t.bs.length c2, .slice A3 t.ns.length c3] 26) = W at *
    generalize w1.heap.size = z at *
    obtain ⟨z0, z1, z2, -, -, -⟩ := blk3 S.out.hz
    have KB := Lib.hid (fun x y W' (hT : Tng W' (.agg #[.slice A1 t.us.length c1, .slice A2 t.bs.length c2, .slice A3 t.ns.length c3]) t) hx hy => implBeforeOk_any _ t x y W' hT hf.out hx hy)
    have KN := Lib.hid (fun x W' (hT : Tng W' (.agg #[.slice A1 t.us.length c1, .slice A2 t.bs.length c2, .slice A3 t.ns.length c3]) t) hx => implNameOf_any _ t x W' hT hf.out hx)
    have K1 := Lib.hid (KB.out a b W S.out.ht (by omega) (by omega))
    have hne : (beforeB t a b != beforeB t a b) = false := by simp
    have hself := before_self t a
    have hno := Lib.hid (fun h => before_no (t := t) (a := a) (b := b) h)
    have hone := Lib.hid (fun h1 h2 h3 => before_one (t := t) (a := a) (b := b) h1 h2 h3)
    go_wp2_with (fail)
    refine K1.out.mono ?_
    rintro e w2 ⟨rfl, b2⟩
    replace S := Lib.hid (S.out.step b2)
    have K2 := Lib.hid (specBeforeOk_any _ t a b w2 S.out.ht hf.out (by omega) (by omega))
    clear b2 z0 z1 z2 K1
    obtain ⟨z0, z1, z2, -, -, -⟩ := blk3 S.out.hz
    go_wp2_with (fail)
    refine K2.out.mono ?_
    rintro e w3 ⟨rfl, b2⟩
    replace S := Lib.hid (S.out.step b2)
    have K3 := Lib.hid (KN.out a w3 S.out.ht (by omega))
    clear b2 z0 z1 z2 K2
    obtain ⟨z0, z1, z2, -, -, -⟩ := blk3 S.out.hz
    go_wp2_with (fail)
    refine K3.out.mono ?_
    rintro e w4 ⟨u, rfl, o2, b2⟩
    obtain ⟨uA, uc, rfl, -⟩ := o2.strs
    replace S := Lib.hid (S.out.step b2)
    have K4 := Lib.hid (KN.out b w4 S.out.ht (by omega))
    clear b2 o2 z0 z1 z2 K3
    obtain ⟨z0, z1, z2, -, -, -⟩ := blk3 S.out.hz
    generalize (nameOf t a).length = La at *
    go_wp2_with (fail)
    refine K4.out.mono ?_
    rintro e w5 ⟨x, rfl, o2, b2⟩
    obtain ⟨xA, xc, rfl, -⟩ := o2.strs
    replace S := Lib.hid (S.out.step b2)
    clear b2 o2 z0 z1 z2 K4
    obtain ⟨z0, z1, z2, -, -, -⟩ := blk3 S.out.hz
    generalize (nameOf t b).length = Lb at *
    have K5 := Lib.hid (KB.out b a w5 S.out.ht (by omega) (by omega))
    have K7 := Lib.hid (fun W' hT => KB.out a a W' hT (by omega) (by omega))
    clear KN
    cases hna : namedB t a
    · have hb0 := hno.out (.inl hna)
      rw [hb0] at hne ⊢
      clear hb0 hself hone K5 K7 KB
      go_wp2_with (fail)
      refine (alive_any _).mono ?_
      rintro e w9 ⟨rfl, b9⟩
      have hB9 := Lib.hid (S.out.low.trans (b9.mono S.out.low.size))
      clear b9
      go_wp2
      go_ret
      exact ⟨rfl, hB9.out⟩
    · cases hnb : namedB t b
      · have hb0 := hno.out (.inr hnb)
        rw [hb0] at hne ⊢
        clear hb0 hself hone K5 K7 KB
        go_wp2_with (fail)
        refine (alive_any _).mono ?_
        rintro e w9 ⟨rfl, b9⟩
        have hB9 := Lib.hid (S.out.low.trans (b9.mono S.out.low.size))
        clear b9
        go_wp2
        go_ret
        exact ⟨rfl, hB9.out⟩
      · rw [hself] at K7
        by_cases hab : a = b
        · subst hab
          have hq : (a != a) = false := by simp
          rw [hself] at K5 hne ⊢
          clear hself hone hno KB
          replace hna := Lib.hid hna
          replace hnb := Lib.hid hnb
          go_wp2_with (fail)
          refine K5.out.mono ?_
          rintro e w6 ⟨rfl, b2⟩
          replace S := Lib.hid (S.out.step b2)
          have K6 := Lib.hid (K7.out w6 S.out.ht)
          clear b2 z0 z1 z2 K5
          obtain ⟨z0, z1, z2, -, -, -⟩ := blk3 S.out.hz
          go_wp2_with (fail)
          refine K6.out.mono ?_
          rintro e w7 ⟨rfl, b2⟩
          replace S := Lib.hid (S.out.step b2)
          have hBf := Lib.hid S.out.low
          clear b2 z0 z1 z2 K6
          go_wp2
          go_ret
          exact ⟨rfl, hBf.out⟩
        · have hq : (a != b) = true := by rw [bne_iff_ne]; exact hab
          have hrev := hone.out hna hnb hab
          rw [hrev] at K5
          clear hself hone hno KB hab hrev
          replace hna := Lib.hid hna
          replace hnb := Lib.hid hnb
          cases hbb : beforeB t a b
          all_goals
            rw [hbb] at K5 hne
            replace hbb := Lib.hid hbb
            go_wp2_with (fail)
            refine K5.out.mono ?_
            rintro e w6 ⟨rfl, b2⟩
            replace S := Lib.hid (S.out.step b2)
            have K6 := Lib.hid (K7.out w6 S.out.ht)
            clear b2 z0 z1 z2 K5
            obtain ⟨z0, z1, z2, -, -, -⟩ := blk3 S.out.hz
            go_wp2_with (fail)
            refine K6.out.mono ?_
            rintro e w7 ⟨rfl, b2⟩
            replace S := Lib.hid (S.out.step b2)
            have hBf := Lib.hid S.out.low
            clear b2 z0 z1 z2 K6
            go_wp2
            go_ret
            exact ⟨rfl, hBf.out⟩
  · have hl' : 1048576 < n := by omega
    go_enter Try.func3, Try.ntmps3
    go_wp2
    go_ret
    exact ⟨rfl, Below.refl _ _⟩

set_option maxRecDepth 100000 in
theorem lifted (os : Os) (started : os.Started) (H : Type) (enc : TypeId × Value → H) :
    ReturnsInHanded {} Try.checked os 3 .any (Rows.fnBeforeOkSpec.pre6 enc Try.prog Try.f3 Rows.fnBeforeOkRow.domain false) (Rows.fnBeforeOkSpec.post enc Try.prog Try.f3 false true false false) := by
  refine returnsInHanded_of_change (C := Try.checked) own started (by kernel_rfl) Try.func3
    (ChangeSpec.witness6 (enc := enc) (C := Try.checked) false ⟨#[], #[.slice none 0 0], []⟩ 8 (by kernel_rfl) (by kernel_rfl) (by kernel_rfl) (by kernel_rfl)) ?_
  intro W base args ds gs before hval0 hW hcnd _
  have hval : ∀ (j : Nat) t v, Try.f3.params[j]? = some t → args[j]? = some v → Value.okWide Try.prog W .any base t v := hval0
  have hW' := hW
  obtain ⟨p, q, hA0, hV, rfl, hfz, hnd⟩ := hW
  have hA : DataW.TrodAll enc Try.prog W 0 (fun _ => true) true Try.f3.params.toList args.toList ds p := hA0
  rw [Try.params3] at hA hval
  obtain ⟨v0, vs0, d0, ds0, p0, q0, hargs, rfl, rfl, h0, r0⟩ := trodAll_cons hA
  obtain ⟨rfl, rfl, rfl⟩ := trodAll_nil r0
  obtain rfl : args = #[v0] := by cases args; simp_all
  obtain ⟨rfl, rfl⟩ := trodVars_none hV
  obtain ⟨a0, len0, cap0, rfl⟩ := okWide_slice Try.underlying22 (hval 0 22 v0 rfl rfl)
  have k0 := h0
  have lt0 : ∀ x ∈ p0, x.block < W.heap.size := by obtain ⟨m, hm⟩ := k0; exact DataW.trod_lt m _ _ _ hm
  obtain ⟨z0, s0, w0, m0⟩ : ∃ zs, Ints W .u8 a0 len0 cap0 zs ∧ (∀ n ∈ zs, (Lit.int .u8 n).wf = true) ∧ cap0 ≤ maxLen := by
    obtain ⟨fuel, hf⟩ := h0
    rcases open_ints Try.underlying22 Try.underlying5 (by kernel_rfl) hf with ⟨hcs, _⟩ | ⟨x, l, c, zs, hcs, _, hl, hm, hz, _, hcell, hwz⟩
    · simp [Value.cells] at hcs
      obtain ⟨rfl, rfl, rfl⟩ := hcs
      exact ⟨[], Ints.none_, by simp, Nat.zero_le _⟩
    · simp [Value.cells] at hcs
      obtain ⟨rfl, rfl, rfl⟩ := hcs
      exact ⟨_, Ints.of_row hl (by simpa using hz) hcell, fun n hn => hwz n (List.mem_of_mem_take hn), hm⟩
  clear hA0 hval0
  refine (walk W a0 len0 cap0 z0 s0 w0 m0).mono fun e W' ⟨he, bel⟩ => ?_
  subst he
  exact ⟨_, rfl, _, _, _, [], _, [], hW', trodAll_mk1 (shut_bool Try.underlying4 _), (trodAll_cons_mk (Below.trod laidOut (by kernel_rfl) (of_decide_eq_true (by kernel_rfl)) k0 bel lt0) trodAll_mk0), rfl, bel.frame _, fun h => by cases h⟩

theorem over : Rows.fnBeforeOkRow.holds Try.pinned (OpenSpec.ofChange Rows.fnBeforeOkSpec) :=
  OpenClaim.holds_of_wide 3 Try.f3 rfl rfl rfl rfl rfl rfl rfl ⟨rfl, rfl, rfl, rfl, rfl⟩ rfl rfl rfl rfl rfl (by kernel_rfl) Try.func3 (by kernel_rfl)
    (of_decide_eq_true (by kernel_rfl)) (by unfold Func.isWrapper; first | (rw [if_pos (by decide +kernel)]; kernel_rfl) | (rw [if_neg (by decide +kernel)]; exact ⟨rfl, rfl⟩))
    (fun os started H enc _ => lifted os started H enc)
theorem proved : Rows.FnBeforeOkSaid := over
end Go.Proofs.Ytjggdlnbfoglaaa.fnBeforeOk
