/-
  FnShortenedUpTo holds for every input: the drawn tongue, number, word and bound are answered by ShortenedUpTo as by its model; a greater bound and one number more shorten no fewer; with the bound 0 it is 0. No condition.
-/
import Derived.Test.YtebfoofiaokhdaaRows
import Derived.Test.YtebfoofiaokhdaaDrawAB
import Derived.Test.YtebfoofiaokhdaaA5
import Derived.Test.YtebfoofiaokhdaaB5
import Derived.Lib.QuietBelow
namespace Go.Proofs.Ytebfoofiaokhdaa.fnShortenedUpTo
open Go.ChangeShapes Go.WideShapes Go.ChangeAt Go.RowKit Go.Sort
open Go.ChangeMaps (open_string shut_string)

theorem own : ownKnob Try.prog.godebug = none := by kernel_rfl
theorem laidOut : laidOutB Try.prog = true := by kernel_rfl

set_option maxRecDepth 100000 in
set_option maxHeartbeats 8000000 in
theorem walk (w : World) (A : Option Addr) (n c : Nat) (xs : List Int) (h : Ints w .u8 A n c xs) (hwf : ∀ x ∈ xs, (Lit.int .u8 x).wf = true) (hc : c ≤ maxLen) :
    Calls Try.prog 13 #[.slice A n c] w fun e w' => e = .returned (.bool true) ∧ Below w.heap.size w w' := by
  have hn : n ≤ 9223372036854775807 := by have := h.le; unfold maxLen at hc; omega
  by_cases hl : n ≤ 1048576
  · have HD := Lib.hid (drawShortenedUpTo_any A n c xs w h hl hwf hc)
    clear h hwf hc
    go_enter Try.func13, Try.ntmps13
    go_wp2_with (fail)
    refine HD.out.mono ?_
    rintro e w1 ⟨v, t, m, x, bd, rfl, ho, hsm, ⟨hm1, hm2⟩, hx16, ⟨hbd1, hbd2⟩, hb⟩
    obtain ⟨A1, c1, A2, c2, A3, c3, rfl⟩ := ho.shape
    have hf := Lib.hid (hsm.fine (by omega))
    have hxl : x.size ≤ maxLen := by unfold maxLen; omega
    have hba := (Below.refl w1.heap.size w1).alloc (Nat.le_refl _) (.cells #[.slice A1 t.us.length c1, .slice A2 t.bs.length c2, .slice A3 t.ns.length c3] 26)
    have S := Lib.hid (⟨hb.trans (hba.mono hb.size), Blk.new w1 26 #[.slice A1 t.us.length c1, .slice A2 t.bs.length c2, .slice A3 t.ns.length c3], ho.tng.below hba (Nat.le_refl _)⟩ : LSt w w1.heap.size #[.slice A1 t.us.length c1, .slice A2 t.bs.length c2, .slice A3 t.ns.length c3] t (w1.alloc (.cells #[.slice A1 t.us.length c1, .slice A2 t.bs.length c2, .slice A3 t.ns.length c3] 26)))
    replace hxl := Lib.hid hxl
    clear ho hsm hb hba HD
    go_upto_region 4 with (fail)
    generalize w1.alloc (.cells #[.slice A1 t.us.length c1, .slice A2 t.bs.length c2, .slice A3 t.ns.length c3] 26) = W at *
    obtain ⟨z0, z1, z2, -, -, -⟩ := blk3 S.out.hz
    have KI := fun (z : Int) (y : Int) W hT => implShortened_any (.agg #[.slice A1 t.us.length c1, .slice A2 t.bs.length c2, .slice A3 t.ns.length c3]) t z x y W hT hf.out hxl.out
    have K2 := fun W hT => specShortened_any (.agg #[.slice A1 t.us.length c1, .slice A2 t.bs.length c2, .slice A3 t.ns.length c3]) t m x bd W hT hf.out (by omega) hxl.out (by omega)
    have hbd0 := countA_bd (t := t) (x := x) (b := bd) m
    have hlaw := fun h => count_law (t := t) (x := x) (b := bd) (most := m) h
    have hbda := countA_bd (t := t) (x := x) (b := bd + 1) m
    have hbdb := countA_bd (t := t) (x := x) (b := bd) (m + 1)
    have K1 := KI m bd
    have Ka := KI m (bd + 1)
    have Kb := KI (m + 1) bd
    have Kz := KI m 0
    generalize countA t m x bd = c0 at *
    generalize countA t m x (bd + 1) = ca at *
    generalize countA t (m + 1) x bd = cb at *
    generalize countA t m x 0 = cz at *
    have w8 : IntKind.i64.wrap (bd + 1) = bd + 1 := IntWalk.i64_in _ (by omega)
    have w9 : IntKind.i64.wrap (m + 1) = m + 1 := IntWalk.i64_in _ (by omega)
    have hcc : (c0 != c0) = false := by simp
    replace hlaw := Lib.hid hlaw
    replace Ka := Lib.hid Ka
    replace Kb := Lib.hid Kb
    replace Kz := Lib.hid Kz
    replace K2 := Lib.hid K2
    clear KI
    replace K1 := Lib.hid (K1 W S.out.ht)
    go_wp2_with (fail)
    refine K1.out.mono ?_
    rintro e w2 ⟨rfl, b2⟩
    replace S := Lib.hid (S.out.step b2)
    clear b2 z0 z1 z2 K1
    obtain ⟨z0, z1, z2, -, -, -⟩ := blk3 S.out.hz
    replace K2 := Lib.hid (K2.out w2 S.out.ht)
    go_wp2_with (fail)
    refine K2.out.mono ?_
    rintro e w3 ⟨rfl, b3⟩
    replace S := Lib.hid (S.out.step b3)
    clear b3 z0 z1 z2 K2
    obtain ⟨z0, z1, z2, -, -, -⟩ := blk3 S.out.hz
    by_cases hneg : c0 < 0
    · obtain rfl : c0 = -1 := by omega
      go_wp2_with (fail)
      refine (alive_any w3).mono ?_
      rintro e w9 ⟨rfl, b9⟩
      have hB9 := Lib.hid (S.out.low.trans (b9.mono S.out.low.size))
      clear b9
      go_wp2
      go_ret
      exact ⟨rfl, hB9.out⟩
    · obtain ⟨g1, g2, rfl, g4⟩ := hlaw.out (by omega)
      replace Ka := Lib.hid (Ka.out w3 S.out.ht)
      go_wp2_with (fail)
      refine Ka.out.mono ?_
      rintro e w4 ⟨rfl, b4⟩
      replace S := Lib.hid (S.out.step b4)
      clear b4 z0 z1 z2 Ka
      obtain ⟨z0, z1, z2, -, -, -⟩ := blk3 S.out.hz
      replace Kb := Lib.hid (Kb.out w4 S.out.ht)
      go_wp2_with (fail)
      refine Kb.out.mono ?_
      rintro e w5 ⟨rfl, b5⟩
      replace S := Lib.hid (S.out.step b5)
      clear b5 z0 z1 z2 Kb
      obtain ⟨z0, z1, z2, -, -, -⟩ := blk3 S.out.hz
      replace Kz := Lib.hid (Kz.out w5 S.out.ht)
      by_cases ha : ca < 0
      · by_cases hb : cb < 0
        · go_wp2_with (fail)
          refine Kz.out.mono ?_
          rintro e w6 ⟨rfl, b6⟩
          have hB6 := Lib.hid (S.out.low.trans (b6.mono S.out.low.size))
          clear b6
          go_wp2
          go_ret
          exact ⟨ret_bool (by simp <;> omega), hB6.out⟩
        · have g2' : c0 ≤ cb := by omega
          have g2d : decide (c0 ≤ cb) = true := decide_eq_true g2'
          go_wp2_with (fail)
          refine Kz.out.mono ?_
          rintro e w6 ⟨rfl, b6⟩
          have hB6 := Lib.hid (S.out.low.trans (b6.mono S.out.low.size))
          clear b6
          go_wp2
          go_ret
          exact ⟨ret_bool (by simp <;> omega), hB6.out⟩
      · have g1' : c0 ≤ ca := by omega
        have g1d : decide (c0 ≤ ca) = true := decide_eq_true g1'
        by_cases hb : cb < 0
        · go_wp2_with (fail)
          refine Kz.out.mono ?_
          rintro e w6 ⟨rfl, b6⟩
          have hB6 := Lib.hid (S.out.low.trans (b6.mono S.out.low.size))
          clear b6
          go_wp2
          go_ret
          exact ⟨ret_bool (by simp <;> omega), hB6.out⟩
        · have g2' : c0 ≤ cb := by omega
          have g2d : decide (c0 ≤ cb) = true := decide_eq_true g2'
          go_wp2_with (fail)
          refine Kz.out.mono ?_
          rintro e w6 ⟨rfl, b6⟩
          have hB6 := Lib.hid (S.out.low.trans (b6.mono S.out.low.size))
          clear b6
          go_wp2
          go_ret
          exact ⟨ret_bool (by simp <;> omega), hB6.out⟩
  · have t1 : (1048576 : Int) < (n : Int) := by omega
    go_enter Try.func13, Try.ntmps13
    go_wp2
    go_ret
    exact ⟨rfl, Below.refl _ _⟩

set_option maxRecDepth 100000 in
theorem lifted (os : Os) (started : os.Started) (H : Type) (enc : TypeId × Value → H) :
    ReturnsInHanded {} Try.checked os 13 .any (Rows.fnShortenedUpToSpec.pre6 enc Try.prog Try.f13 Rows.fnShortenedUpToRow.domain false) (Rows.fnShortenedUpToSpec.post enc Try.prog Try.f13 false true false false) := by
  refine returnsInHanded_of_change (C := Try.checked) own started (by kernel_rfl) Try.func13
    (ChangeSpec.witness6 (enc := enc) (C := Try.checked) false ⟨#[], #[.slice none 0 0], []⟩ 8 (by kernel_rfl) (by kernel_rfl) (by kernel_rfl) (by kernel_rfl)) ?_
  intro W base args ds gs before hval0 hW hcnd _
  have hval : ∀ (j : Nat) t v, Try.f13.params[j]? = some t → args[j]? = some v → Value.okWide Try.prog W .any base t v := hval0
  have hW' := hW
  obtain ⟨p, q, hA0, hV, rfl, hfz, hnd⟩ := hW
  have hA : DataW.TrodAll enc Try.prog W 0 (fun _ => true) true Try.f13.params.toList args.toList ds p := hA0
  rw [Try.params13] at hA hval
  obtain ⟨v0, vs0, d0, ds0, p0, q0, hargs, rfl, rfl, h0, r0⟩ := trodAll_cons hA
  obtain ⟨rfl, rfl, rfl⟩ := trodAll_nil r0
  obtain rfl : args = #[v0] := by cases args; simp_all
  obtain ⟨rfl, rfl⟩ := trodVars_none hV
  obtain ⟨a0, len0, cap0, rfl⟩ := okWide_slice Try.underlying22 (hval 0 22 v0 rfl rfl)
  have k0 := h0
  have lt0 : ∀ x ∈ p0, x.block < W.heap.size := by obtain ⟨m, hm⟩ := k0; exact DataW.trod_lt m _ _ _ hm
  obtain ⟨z0, s0, w0, m0⟩ : ∃ zs, Ints W .u8 a0 len0 cap0 zs ∧ (∀ n ∈ zs, (Lit.int .u8 n).wf = true) ∧ cap0 ≤ maxLen := by
    obtain ⟨fuel, hf⟩ := h0
    rcases open_ints Try.underlying22 Try.underlying5 (by kernel_rfl) hf with ⟨hcs, _⟩ | ⟨x, l, c, zs, hcs, _, hl, hm, hz, _, hcell, hwz⟩
    · simp [Value.cells] at hcs
      obtain ⟨rfl, rfl, rfl⟩ := hcs
      exact ⟨[], Ints.none_, by simp, Nat.zero_le _⟩
    · simp [Value.cells] at hcs
      obtain ⟨rfl, rfl, rfl⟩ := hcs
      exact ⟨_, Ints.of_row hl (by simpa using hz) hcell, fun n hn => hwz n (List.mem_of_mem_take hn), hm⟩
  clear hA0 hval0
  refine (walk W a0 len0 cap0 z0 s0 w0 m0).mono fun e W' ⟨he, bel⟩ => ?_
  subst he
  exact ⟨_, rfl, _, _, _, [], _, [], hW', trodAll_mk1 (shut_bool Try.underlying4 _), (trodAll_cons_mk (Below.trod laidOut (by kernel_rfl) (of_decide_eq_true (by kernel_rfl)) k0 bel lt0) trodAll_mk0), rfl, bel.frame _, fun h => by cases h⟩

theorem over : Rows.fnShortenedUpToRow.holds Try.pinned (OpenSpec.ofChange Rows.fnShortenedUpToSpec) :=
  OpenClaim.holds_of_wide 13 Try.f13 rfl rfl rfl rfl rfl rfl rfl ⟨rfl, rfl, rfl, rfl, rfl⟩ rfl rfl rfl rfl rfl (by kernel_rfl) Try.func13 (by kernel_rfl)
    (of_decide_eq_true (by kernel_rfl)) (by unfold Func.isWrapper; first | (rw [if_pos (by decide +kernel)]; kernel_rfl) | (rw [if_neg (by decide +kernel)]; exact ⟨rfl, rfl⟩))
    (fun os started H enc _ => lifted os started H enc)
theorem proved : Rows.FnShortenedUpToSaid := over
end Go.Proofs.Ytebfoofiaokhdaa.fnShortenedUpTo
