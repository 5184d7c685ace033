/-
  FnMostWords holds for every input: the drawn tongue and number are answered by MostWords as by its model; the number has so many words, and no other one has more, nor a lesser one as many; for each lesser number of words there is a number up to it that has so many. No condition.
-/
import Derived.Test.YtebfoofiaokhdaaRows
import Derived.Test.YtebfoofiaokhdaaDrawQ
import Derived.Test.YtebfoofiaokhdaaMathQ
import Derived.Lib.QuietBelow
import Derived.Test.YtebfoofiaokhdaaE1
import Derived.Test.YtebfoofiaokhdaaF3
namespace Go.Proofs.Ytebfoofiaokhdaa.fnMostWords
open Go.ChangeShapes Go.WideShapes Go.ChangeAt Go.RowKit Go.Sort
open Go.ChangeMaps (open_string shut_string)

theorem own : ownKnob Try.prog.godebug = none := by kernel_rfl
theorem laidOut : laidOutB Try.prog = true := by kernel_rfl

set_option maxRecDepth 100000 in
set_option maxHeartbeats 8000000 in
theorem walk (w : World) (A : Option Addr) (n c : Nat) (xs : List Int) (h : Ints w .u8 A n c xs) (hwf : ∀ x ∈ xs, (Lit.int .u8 x).wf = true) (hc : c ≤ maxLen) :
    Calls Try.prog 5 #[.slice A n c] w fun e w' => e = .returned (.bool true) ∧ Below w.heap.size w w' := by
  have hn : n ≤ 9223372036854775807 := by have := h.le; unfold maxLen at hc; omega
  by_cases hl : n ≤ 1048576
  · have HD := Lib.hid (drawMostWords_any A n c xs w h hl hwf hc)
    clear h hwf hc
    go_enter Try.func5, Try.ntmps5
    go_wp2_with (fail)
    refine HD.out.mono ?_
    rintro e w1 ⟨v, t, a, rfl, ho, hsm, ha, hb⟩
    obtain ⟨ha1, ha2⟩ := ha
    obtain ⟨A1, c1, A2, c2, A3, c3, rfl⟩ := ho.shape
    have hf := Lib.hid (hsm.fine (by omega))
    have hba := (Below.refl w1.heap.size w1).alloc (Nat.le_refl _) (.cells #[.slice A1 t.us.length c1, .slice A2 t.bs.length c2, .slice A3 t.ns.length c3] 26)
    have S := Lib.hid (⟨hb.trans (hba.mono hb.size), Blk.new w1 26 #[.slice A1 t.us.length c1, .slice A2 t.bs.length c2, .slice A3 t.ns.length c3], ho.tng.below hba (Nat.le_refl _)⟩ : LSt w w1.heap.size #[.slice A1 t.us.length c1, .slice A2 t.bs.length c2, .slice A3 t.ns.length c3] t (w1.alloc (.cells #[.slice A1 t.us.length c1, .slice A2 t.bs.length c2, .slice A3 t.ns.length c3] 26)))
    clear ho hsm hb hba HD
    go_upto_region 4 with (fail)
    generalize w1.alloc (.cells #[.slice A1 t.us.length c1, .slice A2 t.bs.length c2, .slice A3 t.ns.length c3] 26) = W at *
    generalize w1.heap.size = z at *
    obtain ⟨z0, z1, z2, -, -, -⟩ := blk3 S.out.hz
    have KL := Lib.hid (fun x W' (hT : Tng W' (.agg #[.slice A1 t.us.length c1, .slice A2 t.bs.length c2, .slice A3 t.ns.length c3]) t) hx => implLongOf_any _ t x W' hT hf.out hx)
    have K1 := Lib.hid (implMostWords_any _ t a W S.out.ht hf.out (by omega))
    have KE := Lib.hid (fun x W' (hT : Tng W' (.agg #[.slice A1 t.us.length c1, .slice A2 t.bs.length c2, .slice A3 t.ns.length c3]) t) hx => implLeastOf_any _ t x W' hT hf.out hx)
    have hlaw := most_law t a
    have hne : (mostA t a != mostA t a) = false := by simp
    have hne2 : (mostAt t a != mostAt t a) = false := by simp
    have hne3 : (okM t a != okM t a) = false := by simp
    go_wp2_with (fail)
    refine K1.out.mono ?_
    rintro e w2 ⟨rfl, b2⟩
    replace S := Lib.hid (S.out.step b2)
    have K2 := Lib.hid (specMostWords_any _ t a w2 S.out.ht hf.out (by omega))
    clear b2 z0 z1 z2 K1
    obtain ⟨z0, z1, z2, -, -, -⟩ := blk3 S.out.hz
    go_wp2_with (fail)
    refine K2.out.mono ?_
    rintro e w3 ⟨rfl, b2⟩
    replace S := Lib.hid (S.out.step b2)
    clear b2 z0 z1 z2 K2
    obtain ⟨z0, z1, z2, -, -, -⟩ := blk3 S.out.hz
    rcases hlaw with ⟨ho, hr1, hr2⟩ | ⟨M, tw, ta, rfl, hM1, hM2, ho, hx1, hx2, tw1, tw2, ta1, ta2, hat, hup, hdn⟩
    · rw [hr1] at hne
      rw [hr2] at hne2
      rw [ho] at hne3
      rw [ho, hr1, hr2]
      replace ho := Lib.hid ho
      replace hr1 := Lib.hid hr1
      replace hr2 := Lib.hid hr2
      clear KL KE
      go_wp2_with (fail)
      refine (alive_any _).mono ?_
      rintro e w9 ⟨rfl, b9⟩
      have hB9 := Lib.hid (S.out.low.trans (b9.mono S.out.low.size))
      clear b9
      go_wp2
      go_ret
      exact ⟨rfl, hB9.out⟩
    · rw [hx1] at hne
      rw [hx2] at hne2
      rw [ho] at hne3
      rw [ho, hx1, hx2]
      replace ho := Lib.hid ho
      replace hx1 := Lib.hid hx1
      replace hx2 := Lib.hid hx2
      replace hup := Lib.hid hup
      replace hdn := Lib.hid hdn
      go_wp2
      go_loopw [11, 12] (fun s11 s12 wr => ∃ k : Nat, k ≤ M ∧ s11 = .int .i64 ((k : Int) + 1) ∧ Below w3.heap.size w3 wr) (fun s11 _ _ => M + 1 - (intOf s11).toNat)
      case atStart => exact ⟨0, Nat.zero_le _, rfl, Below.refl _ _⟩
      case round =>
        obtain ⟨k, hk, rfl, hbr⟩ := hrel
        have Sr := Lib.hid (S.out.step hbr)
        obtain ⟨y0, y1, y2, -, -, -⟩ := blk3 Sr.out.hz
        by_cases hlt : k < M
        · have hlt' : (k : Int) + 1 ≤ (M : Int) := by omega
          have e1 : IntKind.i64.wrap ((k : Int) + 1 + 1) = (k : Int) + 1 + 1 := IntWalk.i64_in _ (by omega)
          have K5 := KL.out ((k : Int) + 1) wr Sr.out.ht (by omega)
          have hu := hup.out (k + 1) (by omega) (by omega)
          rw [show ((k + 1 : Nat) : Int) = (k : Int) + 1 by omega] at hu
          generalize longOf t ((k : Int) + 1) = y at *
          obtain ⟨hu1, hu2⟩ := hu
          have g0 : ¬ (tw : Int) < y := by omega
          replace K5 := Lib.hid K5
          replace hbr := Lib.hid hbr
          by_cases hka : k + 1 < ta
          · have hu3 := hu2 hka
            have g1 : (k : Int) + 1 < (ta : Int) := by omega
            have g2 : (y == (tw : Int)) = false := by rw [beq_eq_false_iff_ne]; omega
            clear hu1 hu2 hu3
            go_wp2_with (fail)
            refine K5.out.mono ?_
            rintro e w5 ⟨rfl, b5⟩
            have hB5 := Lib.hid (hbr.out.trans (b5.mono hbr.out.size))
            clear b5 y0 y1 y2 K5
            go_wp2
            go_roundw
            case rel => exact ⟨k + 1, by omega, by go_num, hB5.out⟩
            case measure => simp [intOf]; omega
          · have g1 : ¬ (k : Int) + 1 < (ta : Int) := by omega
            clear hu1 hu2
            go_wp2_with (fail)
            refine K5.out.mono ?_
            rintro e w5 ⟨rfl, b5⟩
            have hB5 := Lib.hid (hbr.out.trans (b5.mono hbr.out.size))
            clear b5 y0 y1 y2 K5
            go_wp2
            go_roundw
            case rel => exact ⟨k + 1, by omega, by go_num, hB5.out⟩
            case measure => simp [intOf]; omega
        · obtain rfl : k = M := by omega
          have hlt' : ¬ (k : Int) + 1 ≤ (k : Int) := by omega
          clear hbr y0 y1 y2
          go_wp2
          go_loopw [13, 14] (fun s13 s14 wx => ∃ j : Nat, j + 1 ≤ tw ∧ s13 = .int .i64 ((j : Int) + 1) ∧ Below wr.heap.size wr wx) (fun s13 _ _ => tw - (intOf s13).toNat)
          case atStart => exact ⟨0, by omega, rfl, Below.refl _ _⟩
          case round =>
            obtain ⟨j, hj, rfl, hbx⟩ := hrel
            have Sx := Lib.hid (Sr.out.step hbx)
            obtain ⟨y0, y1, y2, -, -, -⟩ := blk3 Sx.out.hz
            replace hbx := Lib.hid hbx
            by_cases hjt : j + 1 < tw
            · have hjt' : (j : Int) + 1 < (tw : Int) := by omega
              have h4' : (j : Int) + 1 ≤ 40 := by omega
              have e1 : IntKind.i64.wrap ((j : Int) + 1 + 1) = (j : Int) + 1 + 1 := IntWalk.i64_in _ (by omega)
              have K5 := KE.out ((j : Int) + 1) wr Sx.out.ht (by omega)
              obtain ⟨nn, d1, d2, d3⟩ := hdn.out (j + 1) (by omega) hjt
              rw [show ((j + 1 : Nat) : Int) = (j : Int) + 1 by omega] at d1
              rw [d1] at K5
              have g1 : ¬ (nn : Int) < 1 := by omega
              have g2 : ¬ (ta : Int) < (nn : Int) := by omega
              replace d1 := Lib.hid d1
              replace K5 := Lib.hid K5
              go_wp2_with (fail)
              refine K5.out.mono ?_
              rintro e w5 ⟨rfl, b5⟩
              have hB5 := Lib.hid (hbx.out.trans (b5.mono hbx.out.size))
              clear b5 y0 y1 y2 K5
              go_wp2
              go_roundw
              case rel => exact ⟨j + 1, by omega, by go_num, hB5.out⟩
              case measure => simp [intOf]; omega
            · have hjt' : ¬ (j : Int) + 1 < (tw : Int) := by omega
              have K7 := KL.out (ta : Int) wr Sx.out.ht (by omega)
              rw [hat] at K7
              replace K7 := Lib.hid K7
              have g1 : ((tw : Int) == (tw : Int)) = true := by rw [beq_iff_eq]
              have g2 : (1 : Int) ≤ (ta : Int) := by omega
              have g3 : (ta : Int) ≤ (k : Int) := by omega
              go_wp2_with (fail)
              refine K7.out.mono ?_
              rintro e w7 ⟨rfl, b7⟩
              have hBf := Lib.hid (Sx.out.low.trans (b7.mono Sx.out.low.size))
              clear b7 y0 y1 y2 K7
              go_wp2
              go_ret
              exact ⟨rfl, hBf.out⟩
  · have hl' : 1048576 < n := by omega
    go_enter Try.func5, Try.ntmps5
    go_wp2
    go_ret
    exact ⟨rfl, Below.refl _ _⟩

set_option maxRecDepth 100000 in
theorem lifted (os : Os) (started : os.Started) (H : Type) (enc : TypeId × Value → H) :
    ReturnsInHanded {} Try.checked os 5 .any (Rows.fnMostWordsSpec.pre6 enc Try.prog Try.f5 Rows.fnMostWordsRow.domain false) (Rows.fnMostWordsSpec.post enc Try.prog Try.f5 false true false false) := by
  refine returnsInHanded_of_change (C := Try.checked) own started (by kernel_rfl) Try.func5
    (ChangeSpec.witness6 (enc := enc) (C := Try.checked) false ⟨#[], #[.slice none 0 0], []⟩ 8 (by kernel_rfl) (by kernel_rfl) (by kernel_rfl) (by kernel_rfl)) ?_
  intro W base args ds gs before hval0 hW hcnd _
  have hval : ∀ (j : Nat) t v, Try.f5.params[j]? = some t → args[j]? = some v → Value.okWide Try.prog W .any base t v := hval0
  have hW' := hW
  obtain ⟨p, q, hA0, hV, rfl, hfz, hnd⟩ := hW
  have hA : DataW.TrodAll enc Try.prog W 0 (fun _ => true) true Try.f5.params.toList args.toList ds p := hA0
  rw [Try.params5] at hA hval
  obtain ⟨v0, vs0, d0, ds0, p0, q0, hargs, rfl, rfl, h0, r0⟩ := trodAll_cons hA
  obtain ⟨rfl, rfl, rfl⟩ := trodAll_nil r0
  obtain rfl : args = #[v0] := by cases args; simp_all
  obtain ⟨rfl, rfl⟩ := trodVars_none hV
  obtain ⟨a0, len0, cap0, rfl⟩ := okWide_slice Try.underlying22 (hval 0 22 v0 rfl rfl)
  have k0 := h0
  have lt0 : ∀ x ∈ p0, x.block < W.heap.size := by obtain ⟨m, hm⟩ := k0; exact DataW.trod_lt m _ _ _ hm
  obtain ⟨z0, s0, w0, m0⟩ : ∃ zs, Ints W .u8 a0 len0 cap0 zs ∧ (∀ n ∈ zs, (Lit.int .u8 n).wf = true) ∧ cap0 ≤ maxLen := by
    obtain ⟨fuel, hf⟩ := h0
    rcases open_ints Try.underlying22 Try.underlying5 (by kernel_rfl) hf with ⟨hcs, _⟩ | ⟨x, l, c, zs, hcs, _, hl, hm, hz, _, hcell, hwz⟩
    · simp [Value.cells] at hcs
      obtain ⟨rfl, rfl, rfl⟩ := hcs
      exact ⟨[], Ints.none_, by simp, Nat.zero_le _⟩
    · simp [Value.cells] at hcs
      obtain ⟨rfl, rfl, rfl⟩ := hcs
      exact ⟨_, Ints.of_row hl (by simpa using hz) hcell, fun n hn => hwz n (List.mem_of_mem_take hn), hm⟩
  clear hA0 hval0
  refine (walk W a0 len0 cap0 z0 s0 w0 m0).mono fun e W' ⟨he, bel⟩ => ?_
  subst he
  exact ⟨_, rfl, _, _, _, [], _, [], hW', trodAll_mk1 (shut_bool Try.underlying4 _), (trodAll_cons_mk (Below.trod laidOut (by kernel_rfl) (of_decide_eq_true (by kernel_rfl)) k0 bel lt0) trodAll_mk0), rfl, bel.frame _, fun h => by cases h⟩

theorem over : Rows.fnMostWordsRow.holds Try.pinned (OpenSpec.ofChange Rows.fnMostWordsSpec) :=
  OpenClaim.holds_of_wide 5 Try.f5 rfl rfl rfl rfl rfl rfl rfl ⟨rfl, rfl, rfl, rfl, rfl⟩ rfl rfl rfl rfl rfl (by kernel_rfl) Try.func5 (by kernel_rfl)
    (of_decide_eq_true (by kernel_rfl)) (by unfold Func.isWrapper; first | (rw [if_pos (by decide +kernel)]; kernel_rfl) | (rw [if_neg (by decide +kernel)]; exact ⟨rfl, rfl⟩))
    (fun os started H enc _ => lifted os started H enc)
theorem proved : Rows.FnMostWordsSaid := over
end Go.Proofs.Ytebfoofiaokhdaa.fnMostWords
