/-
  FnCountOf holds for every input: the drawn tongue and numbers are answered by CountOf as by its model; for all numbers of words up to MostWords they are together as many as numbers, if all up to the number have names. No condition.
-/
import Derived.Test.YtebfoofiaokhdaaRows
import Derived.Test.YtebfoofiaokhdaaDrawQ
import Derived.Test.YtebfoofiaokhdaaMathQ
import Derived.Lib.QuietBelow
import Derived.Test.YtebfoofiaokhdaaE1
import Derived.Test.YtebfoofiaokhdaaF3
import Derived.Test.YtebfoofiaokhdaaP3c
namespace Go.Proofs.Ytebfoofiaokhdaa.fnCountOf
open Go.ChangeShapes Go.WideShapes Go.ChangeAt Go.RowKit Go.Sort
open Go.ChangeMaps (open_string shut_string)

theorem own : ownKnob Try.prog.godebug = none := by kernel_rfl
theorem laidOut : laidOutB Try.prog = true := by kernel_rfl

set_option maxRecDepth 100000 in
set_option maxHeartbeats 8000000 in
theorem walk (w : World) (A : Option Addr) (n c : Nat) (xs : List Int) (h : Ints w .u8 A n c xs) (hwf : ∀ x ∈ xs, (Lit.int .u8 x).wf = true) (hc : c ≤ maxLen) :
    Calls Try.prog 4 #[.slice A n c] w fun e w' => e = .returned (.bool true) ∧ Below w.heap.size w w' := by
  have hn : n ≤ 9223372036854775807 := by have := h.le; unfold maxLen at hc; omega
  by_cases hl : n ≤ 1048576
  · have HD := Lib.hid (drawCountOf_any A n c xs w h hl hwf hc)
    clear h hwf hc
    go_enter Try.func4, Try.ntmps4
    go_wp2_with (fail)
    refine HD.out.mono ?_
    rintro e w1 ⟨v, t, a, b, rfl, ho, hsm, ha, hb2, hb⟩
    obtain ⟨ha1, ha2⟩ := ha
    obtain ⟨hb1, hb2⟩ := hb2
    obtain ⟨A1, c1, A2, c2, A3, c3, rfl⟩ := ho.shape
    have hf := Lib.hid (hsm.fine (by omega))
    have hba := (Below.refl w1.heap.size w1).alloc (Nat.le_refl _) (.cells #[.slice A1 t.us.length c1, .slice A2 t.bs.length c2, .slice A3 t.ns.length c3] 26)
    have S := Lib.hid (⟨hb.trans (hba.mono hb.size), Blk.new w1 26 #[.slice A1 t.us.length c1, .slice A2 t.bs.length c2, .slice A3 t.ns.length c3], ho.tng.below hba (Nat.le_refl _)⟩ : LSt w w1.heap.size #[.slice A1 t.us.length c1, .slice A2 t.bs.length c2, .slice A3 t.ns.length c3] t (w1.alloc (.cells #[.slice A1 t.us.length c1, .slice A2 t.bs.length c2, .slice A3 t.ns.length c3] 26)))
    clear ho hsm hb hba HD
    go_upto_region 4 with (fail)
    generalize w1.alloc (.cells #[.slice A1 t.us.length c1, .slice A2 t.bs.length c2, .slice A3 t.ns.length c3] 26) = W at *
    generalize w1.heap.size = z at *
    obtain ⟨z0, z1, z2, -, -, -⟩ := blk3 S.out.hz
    have K1 := Lib.hid (implCountOf_any _ t a b W S.out.ht hf.out (by omega) (by omega))
    have KC := Lib.hid (fun x W' (hT : Tng W' (.agg #[.slice A1 t.us.length c1, .slice A2 t.bs.length c2, .slice A3 t.ns.length c3]) t) hx => implCountOf_any _ t a x W' hT hf.out (by omega) hx)
    have KW := Lib.hid (fun W' (hT : Tng W' (.agg #[.slice A1 t.us.length c1, .slice A2 t.bs.length c2, .slice A3 t.ns.length c3]) t) => implMostWords_any _ t a W' hT hf.out (by omega))
    have KG := Lib.hid (fun W' (hT : Tng W' (.agg #[.slice A1 t.us.length c1, .slice A2 t.bs.length c2, .slice A3 t.ns.length c3]) t) => implGreatest_any _ t W' hT hf.out)
    have hlaw := cnt_law t a b
    have hgb := greatest_bd t
    have hne : (cntA t a b != cntA t a b) = false := by simp
    go_wp2_with (fail)
    refine K1.out.mono ?_
    rintro e w2 ⟨rfl, b2⟩
    replace S := Lib.hid (S.out.step b2)
    have K2 := Lib.hid (specCountOf_any _ t a b w2 S.out.ht hf.out (by omega) (by omega))
    clear b2 z0 z1 z2 K1
    obtain ⟨z0, z1, z2, -, -, -⟩ := blk3 S.out.hz
    go_wp2_with (fail)
    refine K2.out.mono ?_
    rintro e w3 ⟨rfl, b2⟩
    replace S := Lib.hid (S.out.step b2)
    clear b2 z0 z1 z2 K2
    obtain ⟨z0, z1, z2, -, -, -⟩ := blk3 S.out.hz
    rcases hlaw with hr | ⟨M, ct, tw, rfl, hM1, hM2, hok, hx, hcM, htw, tw1, tw2, hcn, hall⟩
    · have hq1 : cntA t a b < 0 := by omega
      have hq2 : (cntA t a b == -1) = true := by rw [beq_iff_eq]; exact hr
      rw [hr] at hq1 hq2 hne ⊢
      replace hr := Lib.hid hr
      clear KC KW KG hgb
      go_wp2_with (fail)
      refine (alive_any _).mono ?_
      rintro e w9 ⟨rfl, b9⟩
      have hB9 := Lib.hid (S.out.low.trans (b9.mono S.out.low.size))
      clear b9
      go_wp2
      go_ret
      exact ⟨rfl, hB9.out⟩
    · rw [hx] at hne ⊢
      replace hx := Lib.hid hx
      have hn1 : ¬ (ct : Int) < 0 := by omega
      have hle : (ct : Int) ≤ (M : Int) := by omega
      have K3 := KW.out w3 S.out.ht
      rw [hok, htw] at K3
      replace K3 := Lib.hid K3
      replace hok := Lib.hid hok
      replace htw := Lib.hid htw
      replace hcn := Lib.hid hcn
      replace hall := Lib.hid hall
      have hsl := Lib.hid (fun j => show cwSum (lngF t) M j ≤ M by rw [cw_sum_top]; exact cw_top_le _ _ _)
      generalize mostAt t (M : Int) = at' at *
      clear KW
      go_wp2_with (fail)
      refine K3.out.mono ?_
      rintro e w4 ⟨rfl, b2⟩
      replace S := Lib.hid (S.out.step b2)
      clear b2 z0 z1 z2 K3
      obtain ⟨z0, z1, z2, -, -, -⟩ := blk3 S.out.hz
      go_wp2
      go_loopw [10, 11] (fun s10 s11 wr => ∃ k : Nat, k ≤ tw ∧ s11 = .int .i64 ((k : Int) + 1) ∧ s10 = .int .i64 (cwSum (lngF t) M k : Int) ∧ Below w4.heap.size w4 wr) (fun _ s11 _ => tw + 1 - (intOf s11).toNat)
      case atStart => exact ⟨0, Nat.zero_le _, rfl, rfl, Below.refl _ _⟩
      case round =>
        obtain ⟨k, hk, rfl, rfl, hbr⟩ := hrel
        have Sr := Lib.hid (S.out.step hbr)
        obtain ⟨y0, y1, y2, -, -, -⟩ := blk3 Sr.out.hz
        replace hbr := Lib.hid hbr
        by_cases hlt : k < tw
        · have hlt' : (k : Int) + 1 ≤ (tw : Int) := by omega
          have h4' : (k : Int) + 1 ≤ 40 := by omega
          have e1 : IntKind.i64.wrap ((k : Int) + 1 + 1) = (k : Int) + 1 + 1 := IntWalk.i64_in _ (by omega)
          have K5 := KC.out ((k : Int) + 1) wr Sr.out.ht (by omega)
          have hs1 : cwSum (lngF t) M (k + 1) = cwSum (lngF t) M k + cwTo (lngF t) ((k : Int) + 1) M := rfl
          have hs2 := hsl.out (k + 1)
          rw [hcn.out k] at K5
          generalize cwSum (lngF t) M k = sk at *
          generalize cwTo (lngF t) ((k : Int) + 1) M = ck at *
          have e2 : IntKind.i64.wrap ((sk : Int) + (ck : Int)) = (sk : Int) + (ck : Int) := IntWalk.i64_in _ (by omega)
          replace hs1 := Lib.hid hs1
          replace K5 := Lib.hid K5
          clear hs2
          go_wp2_with (fail)
          refine K5.out.mono ?_
          rintro e w5 ⟨rfl, b5⟩
          have hB5 := Lib.hid (hbr.out.trans (b5.mono hbr.out.size))
          clear b5 y0 y1 y2 K5
          go_wp2
          go_roundw
          case rel => exact ⟨k + 1, by omega, by go_num, by rw [hs1.out]; rfl, hB5.out⟩
          case measure => simp [intOf]; omega
        · obtain rfl : k = tw := by omega
          have hlt' : ¬ (k : Int) + 1 ≤ (k : Int) := by omega
          have K6 := Lib.hid (KG.out wr Sr.out.ht)
          generalize cwSum (lngF t) M k = sk at *
          by_cases hg : greatest t < (M : Int)
          · generalize greatest t = gr at *
            have hw := Lib.hid hall
            clear hall
            go_wp2_with (fail)
            refine K6.out.mono ?_
            rintro e w6 ⟨rfl, b6⟩
            have S6 := Lib.hid (Sr.out.step b6)
            clear b6 y0 y1 y2 K6
            go_wp2_with (fail)
            refine (alive_any _).mono ?_
            rintro e w9 ⟨rfl, b9⟩
            have hB9 := Lib.hid (S6.out.low.trans (b9.mono S6.out.low.size))
            clear b9
            go_wp2
            go_ret
            exact ⟨rfl, hB9.out⟩
          · have hsk : (sk : Int) = (M : Int) := by
              rcases hall.out with h | h
              · exact absurd h hg
              · omega
            have g1 : ((sk : Int) == (M : Int)) = true := by rw [beq_iff_eq]; exact hsk
            rw [hsk] at g1 ⊢
            generalize greatest t = gr at *
            replace hsk := Lib.hid hsk
            clear hall
            go_wp2_with (fail)
            refine K6.out.mono ?_
            rintro e w6 ⟨rfl, b6⟩
            have S6 := Lib.hid (Sr.out.step b6)
            clear b6 y0 y1 y2 K6
            go_wp2_with (fail)
            refine (alive_any _).mono ?_
            rintro e w9 ⟨rfl, b9⟩
            have hB9 := Lib.hid (S6.out.low.trans (b9.mono S6.out.low.size))
            clear b9
            go_wp2
            go_ret
            exact ⟨rfl, hB9.out⟩
  · have hl' : 1048576 < n := by omega
    go_enter Try.func4, Try.ntmps4
    go_wp2
    go_ret
    exact ⟨rfl, Below.refl _ _⟩

set_option maxRecDepth 100000 in
theorem lifted (os : Os) (started : os.Started) (H : Type) (enc : TypeId × Value → H) :
    ReturnsInHanded {} Try.checked os 4 .any (Rows.fnCountOfSpec.pre6 enc Try.prog Try.f4 Rows.fnCountOfRow.domain false) (Rows.fnCountOfSpec.post enc Try.prog Try.f4 false true false false) := by
  refine returnsInHanded_of_change (C := Try.checked) own started (by kernel_rfl) Try.func4
    (ChangeSpec.witness6 (enc := enc) (C := Try.checked) false ⟨#[], #[.slice none 0 0], []⟩ 8 (by kernel_rfl) (by kernel_rfl) (by kernel_rfl) (by kernel_rfl)) ?_
  intro W base args ds gs before hval0 hW hcnd _
  have hval : ∀ (j : Nat) t v, Try.f4.params[j]? = some t → args[j]? = some v → Value.okWide Try.prog W .any base t v := hval0
  have hW' := hW
  obtain ⟨p, q, hA0, hV, rfl, hfz, hnd⟩ := hW
  have hA : DataW.TrodAll enc Try.prog W 0 (fun _ => true) true Try.f4.params.toList args.toList ds p := hA0
  rw [Try.params4] at hA hval
  obtain ⟨v0, vs0, d0, ds0, p0, q0, hargs, rfl, rfl, h0, r0⟩ := trodAll_cons hA
  obtain ⟨rfl, rfl, rfl⟩ := trodAll_nil r0
  obtain rfl : args = #[v0] := by cases args; simp_all
  obtain ⟨rfl, rfl⟩ := trodVars_none hV
  obtain ⟨a0, len0, cap0, rfl⟩ := okWide_slice Try.underlying22 (hval 0 22 v0 rfl rfl)
  have k0 := h0
  have lt0 : ∀ x ∈ p0, x.block < W.heap.size := by obtain ⟨m, hm⟩ := k0; exact DataW.trod_lt m _ _ _ hm
  obtain ⟨z0, s0, w0, m0⟩ : ∃ zs, Ints W .u8 a0 len0 cap0 zs ∧ (∀ n ∈ zs, (Lit.int .u8 n).wf = true) ∧ cap0 ≤ maxLen := by
    obtain ⟨fuel, hf⟩ := h0
    rcases open_ints Try.underlying22 Try.underlying5 (by kernel_rfl) hf with ⟨hcs, _⟩ | ⟨x, l, c, zs, hcs, _, hl, hm, hz, _, hcell, hwz⟩
    · simp [Value.cells] at hcs
      obtain ⟨rfl, rfl, rfl⟩ := hcs
      exact ⟨[], Ints.none_, by simp, Nat.zero_le _⟩
    · simp [Value.cells] at hcs
      obtain ⟨rfl, rfl, rfl⟩ := hcs
      exact ⟨_, Ints.of_row hl (by simpa using hz) hcell, fun n hn => hwz n (List.mem_of_mem_take hn), hm⟩
  clear hA0 hval0
  refine (walk W a0 len0 cap0 z0 s0 w0 m0).mono fun e W' ⟨he, bel⟩ => ?_
  subst he
  exact ⟨_, rfl, _, _, _, [], _, [], hW', trodAll_mk1 (shut_bool Try.underlying4 _), (trodAll_cons_mk (Below.trod laidOut (by kernel_rfl) (of_decide_eq_true (by kernel_rfl)) k0 bel lt0) trodAll_mk0), rfl, bel.frame _, fun h => by cases h⟩

theorem over : Rows.fnCountOfRow.holds Try.pinned (OpenSpec.ofChange Rows.fnCountOfSpec) :=
  OpenClaim.holds_of_wide 4 Try.f4 rfl rfl rfl rfl rfl rfl rfl ⟨rfl, rfl, rfl, rfl, rfl⟩ rfl rfl rfl rfl rfl (by kernel_rfl) Try.func4 (by kernel_rfl)
    (of_decide_eq_true (by kernel_rfl)) (by unfold Func.isWrapper; first | (rw [if_pos (by decide +kernel)]; kernel_rfl) | (rw [if_neg (by decide +kernel)]; exact ⟨rfl, rfl⟩))
    (fun os started H enc _ => lifted os started H enc)
theorem proved : Rows.FnCountOfSaid := over
end Go.Proofs.Ytebfoofiaokhdaa.fnCountOf
