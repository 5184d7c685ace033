/-
  FnShorterName holds for every input: the drawn tongue, number, word and bound are answered by ShorterName as by its model; it has at most as many words as the name, is the name or the name by taking away, and with the bound 0 it is the name. No condition.
-/
import Derived.Test.YtpbinajjlambfaaRows
import Derived.Test.YtpbinajjlambfaaDrawAB
import Derived.Test.YtpbinajjlambfaaA3
import Derived.Test.YtpbinajjlambfaaB3
import Derived.Test.YtpbinajjlambfaaGN
namespace Go.Proofs.Ytpbinajjlambfaa.fnShorterName
open Go.ChangeShapes Go.WideShapes Go.ChangeAt Go.RowKit Go.Sort
open Go.ChangeMaps (open_string shut_string)

theorem own : ownKnob Try.prog.godebug = none := by kernel_rfl
theorem laidOut : laidOutB Try.prog = true := by kernel_rfl

set_option maxRecDepth 100000 in
set_option maxHeartbeats 8000000 in
theorem walk (w : World) (A : Option Addr) (n c : Nat) (xs : List Int) (h : Ints w .u8 A n c xs) (hwf : ∀ x ∈ xs, (Lit.int .u8 x).wf = true) (hc : c ≤ maxLen) :
    Calls Try.prog 4 #[.slice A n c] w fun e w' => e = .returned (.bool true) ∧ Below w.heap.size w w' := by
  have hn : n ≤ 9223372036854775807 := by have := h.le; unfold maxLen at hc; omega
  by_cases hl : n ≤ 1048576
  · have HD := Lib.hid (drawShorterName_any A n c xs w h hl hwf hc)
    clear h hwf hc
    go_enter Try.func4, Try.ntmps4
    go_wp2_with (fail)
    refine HD.out.mono ?_
    rintro e w1 ⟨v, t, m, x, bd, rfl, ho, hsm, ⟨hm1, hm2⟩, hx16, ⟨hbd1, hbd2⟩, hb⟩
    obtain ⟨A1, c1, A2, c2, A3, c3, rfl⟩ := ho.shape
    have hf := Lib.hid (hsm.fine (by omega))
    have hxl : x.size ≤ maxLen := by unfold maxLen; omega
    have hba := (Below.refl w1.heap.size w1).alloc (Nat.le_refl _) (.cells #[.slice A1 t.us.length c1, .slice A2 t.bs.length c2, .slice A3 t.ns.length c3] 26)
    have S := Lib.hid (⟨hb.trans (hba.mono hb.size), Blk.new w1 26 #[.slice A1 t.us.length c1, .slice A2 t.bs.length c2, .slice A3 t.ns.length c3], ho.tng.below hba (Nat.le_refl _)⟩ : LSt w w1.heap.size #[.slice A1 t.us.length c1, .slice A2 t.bs.length c2, .slice A3 t.ns.length c3] t (w1.alloc (.cells #[.slice A1 t.us.length c1, .slice A2 t.bs.length c2, .slice A3 t.ns.length c3] 26)))
    replace hxl := Lib.hid hxl
    clear ho hsm hb hba HD
    go_upto_region 4 with (fail)
    generalize w1.alloc (.cells #[.slice A1 t.us.length c1, .slice A2 t.bs.length c2, .slice A3 t.ns.length c3] 26) = W at *
    obtain ⟨z0, z1, z2, -, -, -⟩ := blk3 S.out.hz
    have K1 := Lib.hid (implShorterName_any _ t m x bd W S.out.ht hf.out (by omega) hxl.out)
    go_wp2_with (fail)
    refine K1.out.mono ?_
    rintro e w2 ⟨v2, rfl, o2, b2⟩
    obtain ⟨A5, c5, rfl, s5⟩ := o2.strs
    replace S := Lib.hid (S.out.step b2)
    have K2 := Lib.hid (specShorterName_any _ t m x bd w2 S.out.ht hf.out (by omega) hxl.out (by omega))
    have hnl := short_len t m x bd
    clear o2 b2 z0 z1 z2 K1
    obtain ⟨z0, z1, z2, -, -, -⟩ := blk3 S.out.hz
    go_wp2_with (fail)
    refine K2.out.mono ?_
    rintro e w3 ⟨v3, rfl, o3, b3⟩
    obtain ⟨A6, c6, rfl, s6⟩ := o3.strs
    replace S := Lib.hid (S.out.step b3)
    replace s5 := s5.below b3 (Nat.le_refl _)
    have KX := sameTexts_any A5 A6 _ c5 _ c6 _ _ w3 s5 s6 (by omega) (by omega)
    rw [decide_eq_true rfl] at KX
    replace KX := Lib.hid KX
    replace s5 := Lib.hid s5
    clear o3 s6 b3 z0 z1 z2 K2
    have hne := fun h => short_no (t := t) (x := x) (n := m) (b := bd) h
    have hnf := fun h => short_law (t := t) (x := x) (n := m) (b := bd) h
    generalize shortOf t m x bd = nx at *
    generalize shortB t m x bd = nb at *
    replace hne := Lib.hid hne
    replace hnf := Lib.hid hnf
    have hnbne : (nb != nb) = false := by simp
    go_wp2_with (fail)
    refine KX.out.mono ?_
    rintro e w4 ⟨rfl, m4, rfl⟩
    have b4 := below_drewN (Below.refl w3.heap.size w3) m4
    replace S := Lib.hid (S.out.step b4)
    replace s5 := Lib.hid (s5.out.below b4 (Nat.le_refl _))
    clear b4 KX
    generalize w3.drewN m4 = W4 at *
    obtain ⟨z0, z1, z2, -, -, -⟩ := blk3 S.out.hz
    cases nb
    · have he := hne.out rfl
      subst he
      have hl0 : (([] : List ByteArray).length : Int) = 0 := rfl
      go_wp2_with (fail)
      refine (alive_any W4).mono ?_
      rintro e w9 ⟨rfl, b9⟩
      have hB9 := Lib.hid (S.out.low.trans (b9.mono S.out.low.size))
      clear b9
      go_wp2
      go_ret
      exact ⟨rfl, hB9.out⟩
    · obtain ⟨f1, f2, f3⟩ := hnf.out rfl
      have KN := Lib.hid (implNameOf_any _ t m W4 S.out.ht hf.out (by omega))
      have KT' := Lib.hid (fun W hT => implTakenFrom_any (.agg #[.slice A1 t.us.length c1, .slice A2 t.bs.length c2, .slice A3 t.ns.length c3]) t m x bd W hT hf.out (by omega) hxl.out)
      have KZ' := Lib.hid (fun W hT => implShorterName_any (.agg #[.slice A1 t.us.length c1, .slice A2 t.bs.length c2, .slice A3 t.ns.length c3]) t m x 0 W hT hf.out (by omega) hxl.out)
      have hnml := nameOf_31 t m
      have htl := taken_len t m x bd
      have hzl := short_len t m x 0
      generalize nameOf t m = nm at *
      generalize namedB t m = one at *
      generalize takenOf t m x bd = tk at *
      generalize takenB t m x bd = two at *
      generalize shortOf t m x 0 = nz at *
      generalize shortB t m x 0 = three at *
      replace f1 := Lib.hid f1
      replace f2 := Lib.hid f2
      replace f3 := Lib.hid f3
      clear hne hnf
      go_wp2_with (fail)
      refine KN.out.mono ?_
      rintro e w5 ⟨v5, rfl, o5, b5⟩
      obtain ⟨A7, c7, rfl, s7⟩ := o5.strs
      replace S := Lib.hid (S.out.step b5)
      replace s5 := Lib.hid (s5.out.below b5 (Nat.le_refl _))
      replace s7 := Lib.hid s7
      clear o5 b5 z0 z1 z2 KN
      obtain ⟨z0, z1, z2, -, -, -⟩ := blk3 S.out.hz
      have KT := Lib.hid (KT'.out w5 S.out.ht)
      go_wp2_with (fail)
      refine KT.out.mono ?_
      rintro e w6 ⟨v6, rfl, o6, b6⟩
      obtain ⟨A8, c8, rfl, s8⟩ := o6.strs
      replace S := Lib.hid (S.out.step b6)
      replace s5 := Lib.hid (s5.out.below b6 (Nat.le_refl _))
      replace s7 := Lib.hid (s7.out.below b6 (Nat.le_refl _))
      replace s8 := Lib.hid s8
      clear o6 b6 z0 z1 z2 KT KT'
      obtain ⟨z0, z1, z2, -, -, -⟩ := blk3 S.out.hz
      have KZ := Lib.hid (KZ'.out w6 S.out.ht)
      go_wp2_with (fail)
      refine KZ.out.mono ?_
      rintro e w7 ⟨v7, rfl, o7, b7⟩
      obtain ⟨A9, c9, rfl, s9⟩ := o7.strs
      replace S := Lib.hid (S.out.step b7)
      replace s5 := Lib.hid (s5.out.below b7 (Nat.le_refl _))
      replace s7 := Lib.hid (s7.out.below b7 (Nat.le_refl _))
      replace s8 := Lib.hid (s8.out.below b7 (Nat.le_refl _))
      replace s9 := Lib.hid s9
      clear o7 b7 z0 z1 z2 KZ KZ'
      have hB7 := Lib.hid S.out.low
      have KNm := Lib.hid (fun m' => sameTexts_any A5 A7 _ c5 _ c7 _ _ (w7.drewN m') (s5.out.below (below_drewN (Below.refl _ _) m') (Nat.le_refl _)) (s7.out.below (below_drewN (Below.refl _ _) m') (Nat.le_refl _)) (by omega) (by omega))
      have KTk := Lib.hid (fun m' => sameTexts_any A5 A8 _ c5 _ c8 _ _ (w7.drewN m') (s5.out.below (below_drewN (Below.refl _ _) m') (Nat.le_refl _)) (s8.out.below (below_drewN (Below.refl _ _) m') (Nat.le_refl _)) (by omega) (by omega))
      have KZn := Lib.hid (fun m' => sameTexts_any A9 A7 _ c9 _ c7 _ _ (w7.drewN m') (s9.out.below (below_drewN (Below.refl _ _) m') (Nat.le_refl _)) (s7.out.below (below_drewN (Below.refl _ _) m') (Nat.le_refl _)) (by omega) (by omega))
      clear s5 s7 s8 s9
      cases one
      · obtain ⟨h2, h3⟩ : two = true ∧ nx = tk := by
          rcases f2.out with ⟨h, -⟩ | h
          · cases h
          · exact h
        subst h2
        have KX2 := KTk.out 0
        rw [decide_eq_true h3] at KX2
        rw [World.drewN_zero] at KX2
        replace KX2 := Lib.hid KX2
        replace h3 := Lib.hid h3
        go_wp2_with (fail)
        refine KX2.out.mono ?_
        rintro e w8 ⟨rfl, m8, rfl⟩
        go_wp2
        go_ret
        exact ⟨rfl, below_drewN hB7.out m8⟩
      · have g1 := f1.out rfl
        obtain ⟨g3, g4⟩ := f3.out rfl
        subst g3
        have g1' : (nx.length : Int) ≤ (nm.length : Int) := by omega
        have g1d : decide ((nx.length : Int) ≤ (nm.length : Int)) = true := decide_eq_true g1'
        by_cases he : nx = nm
        · have KX2 := KNm.out 0
          rw [decide_eq_true he] at KX2
          rw [World.drewN_zero] at KX2
          have KX3 := KZn.out
          simp only [decide_eq_true g4] at KX3
          replace KX2 := Lib.hid KX2
          replace KX3 := Lib.hid KX3
          replace he := Lib.hid he
          replace g4 := Lib.hid g4
          clear f1 f2 f3
          go_wp2_with (fail)
          refine KX2.out.mono ?_
          rintro e w8 ⟨rfl, m8, rfl⟩
          go_wp2_with (fail)
          refine (KX3.out m8).mono ?_
          rintro e w8 ⟨rfl, m9, rfl⟩
          go_wp2
          go_ret
          first | exact ⟨rfl, below_drewN (below_drewN hB7.out m8) m9⟩ | exact ⟨rfl, below_drewN hB7.out (m8 + m9)⟩
        · obtain ⟨h2, h3⟩ : two = true ∧ nx = tk := by
            rcases f2.out with ⟨-, h⟩ | h
            · exact absurd h he
            · exact h
          subst h2
          have KX2 := KNm.out 0
          rw [decide_eq_false he] at KX2
          rw [World.drewN_zero] at KX2
          have KX4 := KTk.out
          simp only [decide_eq_true h3] at KX4
          have KX3 := fun m8 m9 => KZn.out (m8 + m9)
          simp only [decide_eq_true g4] at KX3
          replace KX2 := Lib.hid KX2
          replace KX3 := Lib.hid KX3
          replace KX4 := Lib.hid KX4
          replace he := Lib.hid he
          replace h3 := Lib.hid h3
          replace g4 := Lib.hid g4
          clear f1 f2 f3
          go_wp2_with (fail)
          refine KX2.out.mono ?_
          rintro e w8 ⟨rfl, m8, rfl⟩
          go_wp2_with (fail)
          refine (KX4.out m8).mono ?_
          rintro e w8 ⟨rfl, m9, rfl⟩
          have eD : (w7.drewN m8).drewN m9 = w7.drewN (m8 + m9) := World.drewN_drewN _ _ _
          rw [eD]
          go_wp2_with (fail)
          refine (KX3.out m8 m9).mono ?_
          rintro e w8 ⟨rfl, m10, rfl⟩
          go_wp2
          go_ret
          first | exact ⟨rfl, below_drewN (below_drewN hB7.out (m8 + m9)) m10⟩ | exact ⟨rfl, below_drewN hB7.out (m8 + m9 + m10)⟩
  · have t1 : (1048576 : Int) < (n : Int) := by omega
    go_enter Try.func4, Try.ntmps4
    go_wp2
    go_ret
    exact ⟨rfl, Below.refl _ _⟩

set_option maxRecDepth 100000 in
theorem lifted (os : Os) (started : os.Started) (H : Type) (enc : TypeId × Value → H) :
    ReturnsInHanded {} Try.checked os 4 .any (Rows.fnShorterNameSpec.pre6 enc Try.prog Try.f4 Rows.fnShorterNameRow.domain false) (Rows.fnShorterNameSpec.post enc Try.prog Try.f4 false true false false) := by
  refine returnsInHanded_of_change (C := Try.checked) own started (by kernel_rfl) Try.func4
    (ChangeSpec.witness6 (enc := enc) (C := Try.checked) false ⟨#[], #[.slice none 0 0], []⟩ 8 (by kernel_rfl) (by kernel_rfl) (by kernel_rfl) (by kernel_rfl)) ?_
  intro W base args ds gs before hval0 hW hcnd _
  have hval : ∀ (j : Nat) t v, Try.f4.params[j]? = some t → args[j]? = some v → Value.okWide Try.prog W .any base t v := hval0
  have hW' := hW
  obtain ⟨p, q, hA0, hV, rfl, hfz, hnd⟩ := hW
  have hA : DataW.TrodAll enc Try.prog W 0 (fun _ => true) true Try.f4.params.toList args.toList ds p := hA0
  rw [Try.params4] at hA hval
  obtain ⟨v0, vs0, d0, ds0, p0, q0, hargs, rfl, rfl, h0, r0⟩ := trodAll_cons hA
  obtain ⟨rfl, rfl, rfl⟩ := trodAll_nil r0
  obtain rfl : args = #[v0] := by cases args; simp_all
  obtain ⟨rfl, rfl⟩ := trodVars_none hV
  obtain ⟨a0, len0, cap0, rfl⟩ := okWide_slice Try.underlying22 (hval 0 22 v0 rfl rfl)
  have k0 := h0
  have lt0 : ∀ x ∈ p0, x.block < W.heap.size := by obtain ⟨m, hm⟩ := k0; exact DataW.trod_lt m _ _ _ hm
  obtain ⟨z0, s0, w0, m0⟩ : ∃ zs, Ints W .u8 a0 len0 cap0 zs ∧ (∀ n ∈ zs, (Lit.int .u8 n).wf = true) ∧ cap0 ≤ maxLen := by
    obtain ⟨fuel, hf⟩ := h0
    rcases open_ints Try.underlying22 Try.underlying5 (by kernel_rfl) hf with ⟨hcs, _⟩ | ⟨x, l, c, zs, hcs, _, hl, hm, hz, _, hcell, hwz⟩
    · simp [Value.cells] at hcs
      obtain ⟨rfl, rfl, rfl⟩ := hcs
      exact ⟨[], Ints.none_, by simp, Nat.zero_le _⟩
    · simp [Value.cells] at hcs
      obtain ⟨rfl, rfl, rfl⟩ := hcs
      exact ⟨_, Ints.of_row hl (by simpa using hz) hcell, fun n hn => hwz n (List.mem_of_mem_take hn), hm⟩
  clear hA0 hval0
  refine (walk W a0 len0 cap0 z0 s0 w0 m0).mono fun e W' ⟨he, bel⟩ => ?_
  subst he
  exact ⟨_, rfl, _, _, _, [], _, [], hW', trodAll_mk1 (shut_bool Try.underlying4 _), (trodAll_cons_mk (Below.trod laidOut (by kernel_rfl) (of_decide_eq_true (by kernel_rfl)) k0 bel lt0) trodAll_mk0), rfl, bel.frame _, fun h => by cases h⟩

theorem over : Rows.fnShorterNameRow.holds Try.pinned (OpenSpec.ofChange Rows.fnShorterNameSpec) :=
  OpenClaim.holds_of_wide 4 Try.f4 rfl rfl rfl rfl rfl rfl rfl ⟨rfl, rfl, rfl, rfl, rfl⟩ rfl rfl rfl rfl rfl (by kernel_rfl) Try.func4 (by kernel_rfl)
    (of_decide_eq_true (by kernel_rfl)) (by unfold Func.isWrapper; first | (rw [if_pos (by decide +kernel)]; kernel_rfl) | (rw [if_neg (by decide +kernel)]; exact ⟨rfl, rfl⟩))
    (fun os started H enc _ => lifted os started H enc)
theorem proved : Rows.FnShorterNameSaid := over
end Go.Proofs.Ytpbinajjlambfaa.fnShorterName
