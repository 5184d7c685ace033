/-
  FnReadName holds for every input: the drawn tongue and words are answered by ReadName as by its model; the name of the number is the words, and the name of another number is read as that. No condition.
-/
import Derived.Test.YteemgkabhkdeaaaRows
import Derived.Test.YteemgkabhkdeaaaDrawSf
import Derived.Test.YteemgkabhkdeaaaP4e
import Derived.Test.YteemgkabhkdeaaaSame
namespace Go.Proofs.Yteemgkabhkdeaaa.fnReadName
open Go.ChangeShapes Go.WideShapes Go.ChangeAt Go.RowKit
open Go.ChangeMaps (open_string shut_string)

theorem own : ownKnob Try.prog.godebug = none := by kernel_rfl
theorem laidOut : laidOutB Try.prog = true := by kernel_rfl

theorem u8_bd {ys : List Int} (h : ∀ x ∈ ys, (Lit.int .u8 x).wf = true) : ∀ j, 0 ≤ ys.getD j 0 ∧ ys.getD j 0 ≤ 255 := by
  intro j
  by_cases hj : j < ys.length
  · have := h ys[j] (List.getElem_mem hj)
    simp only [List.getD_eq_getElem?_getD, List.getElem?_eq_getElem hj, Option.getD_some]
    simpa [Lit.wf, IntKind.min, IntKind.max, IntKind.signed, IntKind.bits] using this
  · simp [List.getD_eq_getElem?_getD, List.getElem?_eq_none (by omega : ys.length ≤ j)]

set_option maxRecDepth 100000 in
set_option maxHeartbeats 8000000 in
theorem walk (w : World) (A : Option Addr) (n c : Nat) (xs : List Int) (h : Ints w .u8 A n c xs) (hwf : ∀ x ∈ xs, (Lit.int .u8 x).wf = true) (hc : c ≤ maxLen) (A' : Option Addr) (n' c' : Nat) (ys : List Int) (h' : Ints w .u8 A' n' c' ys) (hwf' : ∀ x ∈ ys, (Lit.int .u8 x).wf = true) (hc' : c' ≤ maxLen) :
    Calls Try.prog 3 #[.slice A n c, .slice A' n' c'] w fun e w' => e = .returned (.bool true) ∧ Below w.heap.size w w' := by
  have hn : n ≤ 9223372036854775807 := by have := h.le; unfold maxLen at hc; omega
  have hn' : n' ≤ 9223372036854775807 := by have := h'.le; unfold maxLen at hc'; omega
  by_cases hl : n ≤ 1048576
  · by_cases hl' : n' ≤ 1048576
    · have HD := Lib.hid (drawReadName_any A n c xs w h hl hwf hc)
      have HM := Lib.hid (fun W (hb : Below w.heap.size w W) => h'.below hb (Nat.le_refl _))
      have hyb := Lib.hid (u8_bd hwf')
      clear h hwf hc h' hwf' hc'
      go_enter Try.func3, Try.ntmps3
      go_wp2_with (fail)
      refine HD.out.mono ?_
      rintro e w1 ⟨v, t, u, l, rfl, ho, hou, hsm, hsw, hb⟩
      obtain ⟨A1, c1, A2, c2, A3, c3, rfl⟩ := ho.shape
      obtain ⟨A4, c4, rfl, hls⟩ := hou.strs
      have hf := Lib.hid (hsm.fine (by omega))
      have hba := (Below.refl w1.heap.size w1).alloc (Nat.le_refl _) (.cells #[.slice A1 t.us.length c1, .slice A2 t.bs.length c2, .slice A3 t.ns.length c3] 26)
      have S := Lib.hid (⟨hb.trans (hba.mono hb.size), Blk.new w1 26 #[.slice A1 t.us.length c1, .slice A2 t.bs.length c2, .slice A3 t.ns.length c3], ho.tng.below hba (Nat.le_refl _)⟩ : LSt w w1.heap.size #[.slice A1 t.us.length c1, .slice A2 t.bs.length c2, .slice A3 t.ns.length c3] t (w1.alloc (.cells #[.slice A1 t.us.length c1, .slice A2 t.bs.length c2, .slice A3 t.ns.length c3] 26)))
      have hL := Lib.hid (hls.below hba (Nat.le_refl _))
      have hl44 := hsw.1
      have hlz := Lib.hid (fun (x : ByteArray) (hx : x ∈ l) => show x.size ≤ 1048576 by have := hsw.2 x hx; omega)
      have hlz' := Lib.hid (fun (x : ByteArray) (hx : x ∈ l) => show x.size ≤ maxLen by have := hsw.2 x hx; unfold maxLen; omega)
      clear ho hou hls hsm hsw hb hba HD
      go_upto_region 4 with (fail)
      generalize w1.alloc (.cells #[.slice A1 t.us.length c1, .slice A2 t.bs.length c2, .slice A3 t.ns.length c3] 26) = W at *
      obtain ⟨z0, z1, z2, -, -, -⟩ := blk3 S.out.hz
      have K1 := Lib.hid (implReadName_any _ t A4 _ c4 l W S.out.ht hf.out hL.out (by omega) hlz.out)
      go_wp2_with (fail)
      refine K1.out.mono ?_
      rintro e w2 ⟨rfl, b2⟩
      replace S := Lib.hid (S.out.step b2)
      replace hL := Lib.hid (hL.out.below b2 (Nat.le_refl _))
      have K2 := Lib.hid (specReadName_any _ t A4 _ c4 l w2 S.out.ht hf.out hL.out (by omega) hlz'.out)
      clear b2 z0 z1 z2 K1
      obtain ⟨z0, z1, z2, -, -, -⟩ := blk3 S.out.hz
      go_wp2_with (fail)
      refine K2.out.mono ?_
      rintro e w3 ⟨rfl, b3⟩
      replace S := Lib.hid (S.out.step b3)
      replace hL := Lib.hid (hL.out.below b3 (Nat.le_refl _))
      have hM := (HM.out _ S.out.low).at_
      clear b3 z0 z1 z2 K2
      obtain ⟨z0, z1, z2, -, -, -⟩ := blk3 S.out.hz
      have hyes := fun h => read_yes (t := t) (l := l) h
      have hno := fun h => read_no (t := t) (l := l) h
      have hrb := readV_bd t l
      generalize readV t l = rv at *
      generalize readB t l = rb at *
      replace hyes := Lib.hid hyes
      replace hno := Lib.hid hno
      replace hM := Lib.hid hM
      go_wp2
      go_loop [11, 12] (fun s11 s12 => ∃ (k : Nat) (o : Int), k ≤ 2 ∧ s12 = .int .i64 k ∧ s11 = .int .i64 o ∧ 1 ≤ o ∧ (k = 0 → o ≤ 1) ∧ (k ≤ 1 → o ≤ 399) ∧ o ≤ 79999) (fun _ i => 2 - (intOf i).toNat)
      case atStart => exact ⟨0, 1, by omega, rfl, rfl, by omega, fun _ => by omega, fun _ => by omega, by omega⟩
      case round =>
        obtain ⟨k, o, hk, rfl, rfl, ho1, ho2, ho3, ho4⟩ := hrel
        by_cases hgo : k < n' ∧ k < 2
        · obtain ⟨hg1, hg2⟩ := hgo
          obtain ⟨b, off, rfl, -, hcm⟩ := hM.out (by omega)
          have ck := hcm k hg1
          have hy := hyb.out k
          have hb1 : o ≤ 399 := ho3 (by omega)
          have hb0 : k = 0 → o ≤ 1 := ho2
          generalize ys.getD k 0 = y at *
          have e1 : IntKind.i64.wrap (o * 200) = o * 200 := IntWalk.i64_in _ (by omega)
          have hm0 : 0 ≤ y % 200 := Int.emod_nonneg _ (by omega)
          have hm1 : y % 200 < 200 := Int.emod_lt_of_pos _ (by omega)
          have hg1' : (k : Int) < (n' : Int) := by omega
          have hg2' : (k : Int) < 2 := by omega
          replace hb0 := Lib.hid hb0
          clear hcm ho2 ho3
          go_wp2
          go_round
          case rel => exact ⟨k + 1, o * 200 + y % 200, by omega, by go_num, rfl, by omega, fun h => by omega, fun h => by have := hb0.out (by omega); omega, by omega⟩
          case measure => simp [intOf]; omega
        · have KN := Lib.hid (implNameOf_any _ t o w3 S.out.ht hf.out (by omega))
          clear ho2 ho3 hM
          have hgo' : (decide ((k : Int) < (n' : Int)) && decide ((k : Int) < 2)) = false := by
            rw [Bool.and_eq_false_iff, decide_eq_false_iff_not, decide_eq_false_iff_not]; omega
          clear hgo'
          obtain ⟨z0, z1, z2, -, -, -⟩ := blk3 S.out.hz
          have hnl := nameOf_len t o
          have hns := nameOf_short t o
          have hnz := Lib.hid (fun (x : ByteArray) (hx : x ∈ nameOf t o) => show x.size ≤ 1048576 by have := (nameOf_size t o x hx).2; omega)
          have hrn := Lib.hid (fun (h : namedB t o = true) => read_name (t := t) (n := o) h hns)
          generalize hnm : nameOf t o = nm at *
          generalize hnb : namedB t o = nb at *
          replace hnm := Lib.hid hnm
          replace hnb := Lib.hid hnb
          by_cases hkn : k < n'
          all_goals
            first
            | (have t1 : (k : Int) < (n' : Int) := by omega
               have t2 : ¬ (k : Int) < 2 := by omega
               go_upto_region 13 with (fail)
               clear t1 t2)
            | (have t1 : ¬ (k : Int) < (n' : Int) := by omega
               go_upto_region 13 with (fail)
               clear t1)
          all_goals
            replace hkn := Lib.hid hkn
            go_wp2_with (fail)
            refine KN.out.mono ?_
            rintro e w4 ⟨v4, rfl, o4, b4⟩
            obtain ⟨A5, c5, rfl, s5⟩ := o4.strs
            replace S := Lib.hid (S.out.step b4)
            replace hL := Lib.hid (hL.out.below b4 (Nat.le_refl _))
            have KR := implReadName_any _ t A5 _ c5 nm w4 S.out.ht hf.out s5 (by omega) hnz.out
            clear o4 s5 b4 z0 z1 z2 KN
            obtain ⟨z0, z1, z2, -, -, -⟩ := blk3 S.out.hz
            cases nb
            · generalize readB t nm = rb5 at *
              generalize readV t nm = rv5 at *
              replace KR := Lib.hid KR
              clear hrn
              go_wp2_with (fail)
              refine KR.out.mono ?_
              rintro e w5 ⟨rfl, b5⟩
              replace S := Lib.hid (S.out.step b5)
              replace hL := Lib.hid (hL.out.below b5 (Nat.le_refl _))
              clear b5 z0 z1 z2 KR
              obtain ⟨z0, z1, z2, -, -, -⟩ := blk3 S.out.hz
              cases rb
              · have hv := hno.out rfl
                subst hv
                go_wp2_with (fail)
                refine (alive_any w5).mono ?_
                rintro e w9 ⟨rfl, b9⟩
                have hB9 := Lib.hid (S.out.low.trans (b9.mono S.out.low.size))
                clear b9
                go_wp2
                go_ret
                exact ⟨rfl, hB9.out⟩
              · obtain ⟨-, y1, y2, -, -⟩ := hyes.out rfl
                have KN2 := implNameOf_any _ t rv w5 S.out.ht hf.out (by omega)
                rw [y1, y2] at KN2
                replace KN2 := Lib.hid KN2
                replace y1 := Lib.hid y1
                replace y2 := Lib.hid y2
                go_wp2_with (fail)
                refine KN2.out.mono ?_
                rintro e w6 ⟨v6, rfl, o6, b6⟩
                obtain ⟨A7, c7, rfl, s7⟩ := o6.strs
                have hL6 := hL.out.below b6 (Nat.le_refl _)
                have hB6 := Lib.hid (S.out.low.trans (b6.mono S.out.low.size))
                have KX := sameTexts_any A7 A4 _ c7 _ c4 l l w6 s7 hL6 (by omega) (by omega)
                rw [decide_eq_true rfl] at KX
                replace KX := Lib.hid KX
                clear o6 s7 hL6 b6 z0 z1 z2
                go_wp2_with (fail)
                refine KX.out.mono ?_
                rintro e w7 ⟨rfl, m7, rfl⟩
                go_wp2
                go_ret
                exact ⟨rfl, below_drewN hB6.out m7⟩
            · obtain ⟨e1, e2⟩ := hrn.out rfl
              rw [e1, e2] at KR
              replace KR := Lib.hid KR
              clear hrn e1 e2
              go_wp2_with (fail)
              refine KR.out.mono ?_
              rintro e w5 ⟨rfl, b5⟩
              replace S := Lib.hid (S.out.step b5)
              replace hL := Lib.hid (hL.out.below b5 (Nat.le_refl _))
              clear b5 z0 z1 z2 KR
              obtain ⟨z0, z1, z2, -, -, -⟩ := blk3 S.out.hz
              cases rb
              · have hv := hno.out rfl
                subst hv
                go_wp2_with (fail)
                refine (alive_any w5).mono ?_
                rintro e w9 ⟨rfl, b9⟩
                have hB9 := Lib.hid (S.out.low.trans (b9.mono S.out.low.size))
                clear b9
                go_wp2
                go_ret
                exact ⟨rfl, hB9.out⟩
              · obtain ⟨-, y1, y2, -, -⟩ := hyes.out rfl
                have KN2 := implNameOf_any _ t rv w5 S.out.ht hf.out (by omega)
                rw [y1, y2] at KN2
                replace KN2 := Lib.hid KN2
                replace y1 := Lib.hid y1
                replace y2 := Lib.hid y2
                go_wp2_with (fail)
                refine KN2.out.mono ?_
                rintro e w6 ⟨v6, rfl, o6, b6⟩
                obtain ⟨A7, c7, rfl, s7⟩ := o6.strs
                have hL6 := hL.out.below b6 (Nat.le_refl _)
                have hB6 := Lib.hid (S.out.low.trans (b6.mono S.out.low.size))
                have KX := sameTexts_any A7 A4 _ c7 _ c4 l l w6 s7 hL6 (by omega) (by omega)
                rw [decide_eq_true rfl] at KX
                replace KX := Lib.hid KX
                clear o6 s7 hL6 b6 z0 z1 z2
                go_wp2_with (fail)
                refine KX.out.mono ?_
                rintro e w7 ⟨rfl, m7, rfl⟩
                go_wp2
                go_ret
                exact ⟨rfl, below_drewN hB6.out m7⟩
    · have t1 : ¬ (1048576 : Int) < (n : Int) := by omega
      have t2 : (1048576 : Int) < (n' : Int) := by omega
      go_enter Try.func3, Try.ntmps3
      go_wp2
      go_ret
      exact ⟨rfl, Below.refl _ _⟩
  · have t1 : (1048576 : Int) < (n : Int) := by omega
    go_enter Try.func3, Try.ntmps3
    go_wp2
    go_ret
    exact ⟨rfl, Below.refl _ _⟩

set_option maxRecDepth 100000 in
theorem lifted (os : Os) (started : os.Started) (H : Type) (enc : TypeId × Value → H) :
    ReturnsInHanded {} Try.checked os 3 .any (Rows.fnReadNameSpec.pre6 enc Try.prog Try.f3 Rows.fnReadNameRow.domain false) (Rows.fnReadNameSpec.post enc Try.prog Try.f3 false true false false) := by
  refine returnsInHanded_of_change (C := Try.checked) own started (by kernel_rfl) Try.func3
    (ChangeSpec.witness6 (enc := enc) (C := Try.checked) false ⟨#[], #[.slice none 0 0, .slice none 0 0], []⟩ 8 (by kernel_rfl) (by kernel_rfl) (by kernel_rfl) (by kernel_rfl)) ?_
  intro W base args ds gs before hval0 hW hcnd _
  have hval : ∀ (j : Nat) t v, Try.f3.params[j]? = some t → args[j]? = some v → Value.okWide Try.prog W .any base t v := hval0
  have hW' := hW
  obtain ⟨p, q, hA0, hV, rfl, hfz, hnd⟩ := hW
  have hA : DataW.TrodAll enc Try.prog W 0 (fun _ => true) true Try.f3.params.toList args.toList ds p := hA0
  rw [Try.params3] at hA hval
  obtain ⟨v0, vs0, d0, ds0, p0, q0, hargs, rfl, rfl, h0, r0⟩ := trodAll_cons hA
  obtain ⟨v1, vs1, d1, ds1, p1, q1, rfl, rfl, rfl, h1, r1⟩ := trodAll_cons r0
  obtain ⟨rfl, rfl, rfl⟩ := trodAll_nil r1
  obtain rfl : args = #[v0, v1] := by cases args; simp_all
  obtain ⟨rfl, rfl⟩ := trodVars_none hV
  obtain ⟨a0, len0, cap0, rfl⟩ := okWide_slice Try.underlying22 (hval 0 22 v0 rfl rfl)
  have k0 := h0
  have lt0 : ∀ x ∈ p0, x.block < W.heap.size := by obtain ⟨m, hm⟩ := k0; exact DataW.trod_lt m _ _ _ hm
  obtain ⟨z0, s0, w0, m0⟩ : ∃ zs, Ints W .u8 a0 len0 cap0 zs ∧ (∀ n ∈ zs, (Lit.int .u8 n).wf = true) ∧ cap0 ≤ maxLen := by
    obtain ⟨fuel, hf⟩ := h0
    rcases open_ints Try.underlying22 Try.underlying5 (by kernel_rfl) hf with ⟨hcs, _⟩ | ⟨x, l, c, zs, hcs, _, hl, hm, hz, _, hcell, hwz⟩
    · simp [Value.cells] at hcs
      obtain ⟨rfl, rfl, rfl⟩ := hcs
      exact ⟨[], Ints.none_, by simp, Nat.zero_le _⟩
    · simp [Value.cells] at hcs
      obtain ⟨rfl, rfl, rfl⟩ := hcs
      exact ⟨_, Ints.of_row hl (by simpa using hz) hcell, fun n hn => hwz n (List.mem_of_mem_take hn), hm⟩
  obtain ⟨a1, len1, cap1, rfl⟩ := okWide_slice Try.underlying22 (hval 1 22 v1 rfl rfl)
  have k1 := h1
  have lt1 : ∀ x ∈ p1, x.block < W.heap.size := by obtain ⟨m, hm⟩ := k1; exact DataW.trod_lt m _ _ _ hm
  obtain ⟨z1, s1, w1, m1⟩ : ∃ zs, Ints W .u8 a1 len1 cap1 zs ∧ (∀ n ∈ zs, (Lit.int .u8 n).wf = true) ∧ cap1 ≤ maxLen := by
    obtain ⟨fuel, hf⟩ := h1
    rcases open_ints Try.underlying22 Try.underlying5 (by kernel_rfl) hf with ⟨hcs, _⟩ | ⟨x, l, c, zs, hcs, _, hl, hm, hz, _, hcell, hwz⟩
    · simp [Value.cells] at hcs
      obtain ⟨rfl, rfl, rfl⟩ := hcs
      exact ⟨[], Ints.none_, by simp, Nat.zero_le _⟩
    · simp [Value.cells] at hcs
      obtain ⟨rfl, rfl, rfl⟩ := hcs
      exact ⟨_, Ints.of_row hl (by simpa using hz) hcell, fun n hn => hwz n (List.mem_of_mem_take hn), hm⟩
  clear hA0 hval0
  refine (walk W a0 len0 cap0 z0 s0 w0 m0 a1 len1 cap1 z1 s1 w1 m1).mono fun e W' ⟨he, bel⟩ => ?_
  subst he
  exact ⟨_, rfl, _, _, _, [], _, [], hW', trodAll_mk1 (shut_bool Try.underlying4 _), (trodAll_cons_mk (Below.trod laidOut (by kernel_rfl) (of_decide_eq_true (by kernel_rfl)) k0 bel lt0) (trodAll_cons_mk (Below.trod laidOut (by kernel_rfl) (of_decide_eq_true (by kernel_rfl)) k1 bel lt1) trodAll_mk0)), rfl, bel.frame _, fun h => by cases h⟩

theorem over : Rows.fnReadNameRow.holds Try.pinned (OpenSpec.ofChange Rows.fnReadNameSpec) :=
  OpenClaim.holds_of_wide 3 Try.f3 rfl rfl rfl rfl rfl rfl rfl ⟨rfl, rfl, rfl, rfl, rfl⟩ rfl rfl rfl rfl rfl (by kernel_rfl) Try.func3 (by kernel_rfl)
    (of_decide_eq_true (by kernel_rfl)) (by unfold Func.isWrapper; first | (rw [if_pos (by decide +kernel)]; kernel_rfl) | (rw [if_neg (by decide +kernel)]; exact ⟨rfl, rfl⟩))
    (fun os started H enc _ => lifted os started H enc)
theorem proved : Rows.FnReadNameSaid := over
end Go.Proofs.Yteemgkabhkdeaaa.fnReadName
