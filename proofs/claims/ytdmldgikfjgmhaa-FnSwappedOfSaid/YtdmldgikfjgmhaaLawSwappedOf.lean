/-
  FnSwappedOf holds for every input: the drawn tongue with two words exchanged is answered by SwappedOf as by its model; it is a tongue with the same bases, and exchanged again it is as before. No condition.
-/
import Derived.Test.YtdmldgikfjgmhaaRows
import Derived.Test.YtdmldgikfjgmhaaDrawS
import Derived.Test.YtdmldgikfjgmhaaSame
import Derived.Test.YtdmldgikfjgmhaaSwapS
import Derived.Test.YtdmldgikfjgmhaaSwapM
namespace Go.Proofs.Ytdmldgikfjgmhaa.fnSwappedOf
open Go.ChangeShapes Go.WideShapes Go.ChangeAt Go.RowKit
open Go.ChangeMaps (open_string shut_string)

theorem own : ownKnob Try.prog.godebug = none := by kernel_rfl
theorem laidOut : laidOutB Try.prog = true := by kernel_rfl

set_option maxRecDepth 100000 in
set_option maxHeartbeats 4000000 in
theorem walk (w : World) (A : Option Addr) (n c : Nat) (xs : List Int) (h : Ints w .u8 A n c xs) (hwf : ∀ x ∈ xs, (Lit.int .u8 x).wf = true) (hc : c ≤ maxLen) :
    Calls Try.prog 8 #[.slice A n c] w fun e w' => e = .returned (.bool true) ∧ Below w.heap.size w w' := by
  have hn : n ≤ 9223372036854775807 := by have := h.le; unfold maxLen at hc; omega
  by_cases hl : n ≤ 1048576
  · have HD := Lib.hid (drawSwappedOf_any A n c xs w h hl hwf hc)
    clear h hwf hc
    go_enter Try.func8, Try.ntmps8
    go_wp2_with (fail)
    refine HD.out.mono ?_
    rintro e w1 ⟨v, t, a, b, rfl, ho, hsm, ha, hb0, hb⟩
    obtain ⟨A1, c1, A2, c2, A3, c3, rfl⟩ := ho.shape
    have hf := hsm.fine (by omega)
    have hB := hb.alloc hb.size (.cells #[.slice A1 t.us.length c1, .slice A2 t.bs.length c2, .slice A3 t.ns.length c3] 30)
    have hZ := Blk.new w1 30 #[.slice A1 t.us.length c1, .slice A2 t.bs.length c2, .slice A3 t.ns.length c3]
    have hT := ho.tng.below ((Below.refl _ _).alloc (Nat.le_refl _) (.cells #[.slice A1 t.us.length c1, .slice A2 t.bs.length c2, .slice A3 t.ns.length c3] 30)) (Nat.le_refl _)
    have hfu := swT_fine hf a b
    have hno : swB t a b = false → swT t a b = noTg := swT_no
    have hyes := @swT_yes t a b
    replace hno := Lib.hid hno
    replace hyes := Lib.hid hyes
    replace hB := Lib.hid hB
    replace hZ := Lib.hid hZ
    replace hT := Lib.hid hT
    replace hf := Lib.hid hf
    replace hfu := Lib.hid hfu
    clear ho hsm hb HD
    go_upto_region 4 with (fail)
    generalize w1.alloc (.cells #[.slice A1 t.us.length c1, .slice A2 t.bs.length c2, .slice A3 t.ns.length c3] 30) = W at *
    obtain ⟨z0, z1, z2, -, -, -⟩ := blk3 hZ.out
    have K1 := Lib.hid (implSwappedOf_any _ t a b W hT.out hf.out (by omega) (by omega))
    go_wp2_with (fail)
    refine K1.out.mono ?_
    rintro e w2 ⟨v2, rfl, o2, b2⟩
    have K2 := Lib.hid (fun W' (h : Below w2.heap.size w2 W') => specSwappedOf_any _ t a b W' ((hT.out.below b2 (Nat.le_refl _)).below h (Nat.le_refl _)) hf.out (by omega) (by omega))
    generalize swT t a b = u at *
    generalize swB t a b = ok at *
    obtain ⟨B1, d1, B2, d2, B3, d3, rfl⟩ := o2.shape
    have hA2 : Below w2.heap.size w2 (w2.alloc (.cells #[.slice B1 u.us.length d1, .slice B2 u.bs.length d2, .slice B3 u.ns.length d3] 30)) := (Below.refl _ _).alloc (Nat.le_refl _) _
    have hB2 := (hB.out.trans (b2.mono hB.out.size)).trans (hA2.mono (hB.out.trans (b2.mono hB.out.size)).size)
    have hZ2 := (hZ.out.below b2 hZ.out.lt).below hA2 (hZ.out.below b2 hZ.out.lt).lt
    have hT2 := (hT.out.below b2 (Nat.le_refl _)).below hA2 (Nat.le_refl _)
    have hU2 := o2.tng.below hA2 (Nat.le_refl _)
    have hY2 := Blk.new w2 30 #[.slice B1 u.us.length d1, .slice B2 u.bs.length d2, .slice B3 u.ns.length d3]
    have K2' := Lib.hid (K2.out _ hA2)
    replace hB2 := Lib.hid hB2
    replace hT2 := Lib.hid hT2
    replace hU2 := Lib.hid hU2
    replace hZ2 := Lib.hid hZ2
    replace hY2 := Lib.hid hY2
    clear b2 z0 z1 z2 hB hZ hT K1 o2 K2 hA2
    go_upto_region 5 with (fail)
    generalize w2.alloc (.cells #[.slice B1 u.us.length d1, .slice B2 u.bs.length d2, .slice B3 u.ns.length d3] 30) = W2 at *
    obtain ⟨z0, z1, z2, -, -, -⟩ := blk3 hZ2.out
    go_wp2_with (fail)
    refine K2'.out.mono ?_
    rintro e w3 ⟨v3, rfl, o3, b3⟩
    obtain ⟨C1, e1, C2, e2, C3, e3, rfl⟩ : ∃ C1 e1 C2 e2 C3 e3, v3 = .agg #[.slice C1 u.us.length e1, .slice C2 u.bs.length e2, .slice C3 u.ns.length e3] := by
      obtain ⟨C1, e1, C2, e2, C3, e3, e, _⟩ := o3.ex
      exact ⟨C1, e1, C2, e2, C3, e3, e⟩
    have hA3 : Below w3.heap.size w3 (w3.alloc (.cells #[.slice C1 u.us.length e1, .slice C2 u.bs.length e2, .slice C3 u.ns.length e3] 30)) := (Below.refl _ _).alloc (Nat.le_refl _) _
    have b3' := b3.trans (hA3.mono b3.size)
    have hB3 := hB2.out.trans (b3'.mono hB2.out.size)
    have hZ3 := hZ2.out.below b3' hZ2.out.lt
    have hY3 := hY2.out.below b3' hY2.out.lt
    have hT3 := hT2.out.below b3' (Nat.le_refl _)
    have hU3 := hU2.out.below b3' (Nat.le_refl _)
    have hV3 := o3.below hA3 (Nat.le_refl _)
    have hX3 := Blk.new w3 30 #[.slice C1 u.us.length e1, .slice C2 u.bs.length e2, .slice C3 u.ns.length e3]
    have K3 := Lib.hid (sameTongue_same _ _ u _ hU3 hV3 hfu.out)
    replace hB3 := Lib.hid hB3
    replace hT3 := Lib.hid hT3
    replace hU3 := Lib.hid hU3
    replace hZ3 := Lib.hid hZ3
    replace hY3 := Lib.hid hY3
    replace hX3 := Lib.hid hX3
    clear b3 b3' z0 z1 z2 hB2 hZ2 hT2 hU2 hY2 K2' o3 hA3 hV3
    go_upto_region 6 with (fail)
    generalize w3.alloc (.cells #[.slice C1 u.us.length e1, .slice C2 u.bs.length e2, .slice C3 u.ns.length e3] 30) = W3 at *
    obtain ⟨y0, y1, y2, -, -, -⟩ := blk3 hY3.out
    obtain ⟨x0, x1, x2, -, -, -⟩ := blk3 hX3.out
    have hne : (ok != ok) = false := by simp
    go_wp2_with (fail)
    refine K3.out.mono ?_
    rintro e w4 ⟨rfl, b4⟩
    have hB4 := hB3.out.trans (b4.mono hB3.out.size)
    have hZ4 := hZ3.out.below b4 hZ3.out.lt
    have hY4 := hY3.out.below b4 hY3.out.lt
    have hT4 := hT3.out.below b4 (Nat.le_refl _)
    have hU4 := hU3.out.below b4 (Nat.le_refl _)
    clear b4 x0 x1 x2 y0 y1 y2 hB3 hZ3 hT3 hU3 hY3 hX3 K3
    obtain ⟨y0, y1, y2, -, -, -⟩ := blk3 hY4
    replace hB4 := Lib.hid hB4
    replace hT4 := Lib.hid hT4
    replace hU4 := Lib.hid hU4
    replace hZ4 := Lib.hid hZ4
    replace hY4 := Lib.hid hY4
    cases ok
    · have hN : Tng w4 (.agg #[.slice none 0 0, .slice none 0 0, .slice none 0 0]) u := by rw [hno.out rfl]; exact tng_noTg w4
      have K5 := Lib.hid (sameTongue_same _ _ u w4 hU4.out hN hfu.out)
      clear hN
      go_wp2_with (fail)
      refine K5.out.mono ?_
      rintro e w5 ⟨rfl, b5⟩
      have hB5 := Lib.hid (hB4.out.trans (b5.mono hB4.out.size))
      clear b5
      go_wp2_with (fail)
      refine (alive_any w5).mono ?_
      rintro e w9 ⟨rfl, b9⟩
      have hB9 := Lib.hid (hB5.out.trans (b9.mono hB5.out.size))
      clear b9
      go_wp2
      go_ret
      exact ⟨rfl, hB9.out⟩
    · obtain ⟨g1, g2, g3, g4⟩ := hyes.out rfl
      have K5 := implSwappedOf_any _ u a b w4 hU4.out hfu.out (by omega) (by omega)
      rw [g3, g4] at K5
      replace K5 := Lib.hid K5
      replace g1 := Lib.hid g1
      replace g2 := Lib.hid g2
      clear g3 g4 hyes hno
      go_wp2_with (fail)
      refine K5.out.mono ?_
      rintro e w5 ⟨v5, rfl, o5, b5⟩
      obtain ⟨D1, f1, D2, f2, D3, f3, rfl⟩ := o5.shape
      have hA5 : Below w5.heap.size w5 (w5.alloc (.cells #[.slice D1 t.us.length f1, .slice D2 t.bs.length f2, .slice D3 t.ns.length f3] 30)) := (Below.refl _ _).alloc (Nat.le_refl _) _
      have b5' := b5.trans (hA5.mono b5.size)
      have hB5 := hB4.out.trans (b5'.mono hB4.out.size)
      have hZ5 := hZ4.out.below b5' hZ4.out.lt
      have hY5 := hY4.out.below b5' hY4.out.lt
      have hT5 := hT4.out.below b5' (Nat.le_refl _)
      have hU5 := hU4.out.below b5' (Nat.le_refl _)
      have hV5 := o5.tng.below hA5 (Nat.le_refl _)
      have hX5 := Blk.new w5 30 #[.slice D1 t.us.length f1, .slice D2 t.bs.length f2, .slice D3 t.ns.length f3]
      have K6 := implTongueOk_any _ u _ hU5 hfu.out
      rw [g1.out] at K6
      replace K6 := Lib.hid K6
      replace hB5 := Lib.hid hB5
      replace hT5 := Lib.hid hT5
      replace hU5 := Lib.hid hU5
      replace hV5 := Lib.hid hV5
      replace hZ5 := Lib.hid hZ5
      replace hY5 := Lib.hid hY5
      replace hX5 := Lib.hid hX5
      clear b5 b5' y0 y1 y2 hB4 hZ4 hT4 hU4 hY4 K5 o5 hA5
      go_upto_region 11 with (fail)
      generalize w5.alloc (.cells #[.slice D1 t.us.length f1, .slice D2 t.bs.length f2, .slice D3 t.ns.length f3] 30) = W5 at *
      obtain ⟨y0, y1, y2, -, -, -⟩ := blk3 hY5.out
      go_wp2_with (fail)
      refine K6.out.mono ?_
      rintro e w6 ⟨rfl, b6⟩
      have hB6 := hB5.out.trans (b6.mono hB5.out.size)
      have hZ6 := hZ5.out.below b6 hZ5.out.lt
      have hY6 := hY5.out.below b6 hY5.out.lt
      have hX6 := hX5.out.below b6 hX5.out.lt
      have hT6 := hT5.out.below b6 (Nat.le_refl _)
      have hU6 := hU5.out.below b6 (Nat.le_refl _)
      have hV6 := hV5.out.below b6 (Nat.le_refl _)
      obtain ⟨_, _, _, _, _, _, ev, -, hI1, -⟩ := hU6.ex
      cases ev
      obtain ⟨_, _, _, _, _, _, ev, -, hI2, -⟩ := hT6.ex
      cases ev
      have K7 := sameInts_any _ _ _ _ _ _ u.bs t.bs w6 hI1 hI2 hfu.out.bs hf.out.bs
      rw [decide_eq_true g2.out] at K7
      have K8 := Lib.hid (fun m => sameTongue_same _ _ t (w6.drewN m) (hV6.drewN m) (hT6.drewN m) hf.out)
      replace K7 := Lib.hid K7
      replace hB6 := Lib.hid hB6
      clear b6 y0 y1 y2 hB5 hZ5 hT5 hU5 hV5 hY5 hX5 K6 hT6 hU6 hV6 hI1 hI2
      obtain ⟨z0, z1, z2, -, -, -⟩ := blk3 hZ6
      obtain ⟨y0, y1, y2, -, -, -⟩ := blk3 hY6
      obtain ⟨x0, x1, x2, -, -, -⟩ := blk3 hX6
      replace hZ6 := Lib.hid hZ6
      replace hY6 := Lib.hid hY6
      replace hX6 := Lib.hid hX6
      go_wp2_with (fail)
      refine K7.out.mono ?_
      rintro e _ ⟨rfl, m, rfl⟩
      go_wp2_with (fail)
      refine (K8.out m).mono ?_
      rintro e w9 ⟨rfl, b9⟩
      have hB9 := Lib.hid ((below_drewN hB6.out m).trans (b9.mono (below_drewN hB6.out m).size))
      clear b9
      go_wp2
      go_ret
      exact ⟨rfl, hB9.out⟩
  · have hl' : 1048576 < n := by omega
    go_enter Try.func8, Try.ntmps8
    go_wp2
    go_ret
    exact ⟨rfl, Below.refl _ _⟩

set_option maxRecDepth 100000 in
theorem lifted (os : Os) (started : os.Started) (H : Type) (enc : TypeId × Value → H) :
    ReturnsInHanded {} Try.checked os 8 .any (Rows.fnSwappedOfSpec.pre6 enc Try.prog Try.f8 Rows.fnSwappedOfRow.domain false) (Rows.fnSwappedOfSpec.post enc Try.prog Try.f8 false true false false) := by
  refine returnsInHanded_of_change (C := Try.checked) own started (by kernel_rfl) Try.func8
    (ChangeSpec.witness6 (enc := enc) (C := Try.checked) false ⟨#[], #[.slice none 0 0], []⟩ 8 (by kernel_rfl) (by kernel_rfl) (by kernel_rfl) (by kernel_rfl)) ?_
  intro W base args ds gs before hval0 hW hcnd _
  have hval : ∀ (j : Nat) t v, Try.f8.params[j]? = some t → args[j]? = some v → Value.okWide Try.prog W .any base t v := hval0
  have hW' := hW
  obtain ⟨p, q, hA0, hV, rfl, hfz, hnd⟩ := hW
  have hA : DataW.TrodAll enc Try.prog W 0 (fun _ => true) true Try.f8.params.toList args.toList ds p := hA0
  rw [Try.params8] at hA hval
  obtain ⟨v0, vs0, d0, ds0, p0, q0, hargs, rfl, rfl, h0, r0⟩ := trodAll_cons hA
  obtain ⟨rfl, rfl, rfl⟩ := trodAll_nil r0
  obtain rfl : args = #[v0] := by cases args; simp_all
  obtain ⟨rfl, rfl⟩ := trodVars_none hV
  obtain ⟨a0, len0, cap0, rfl⟩ := okWide_slice Try.underlying22 (hval 0 22 v0 rfl rfl)
  have k0 := h0
  have lt0 : ∀ x ∈ p0, x.block < W.heap.size := by obtain ⟨m, hm⟩ := k0; exact DataW.trod_lt m _ _ _ hm
  obtain ⟨z0, s0, w0, m0⟩ : ∃ zs, Ints W .u8 a0 len0 cap0 zs ∧ (∀ n ∈ zs, (Lit.int .u8 n).wf = true) ∧ cap0 ≤ maxLen := by
    obtain ⟨fuel, hf⟩ := h0
    rcases open_ints Try.underlying22 Try.underlying5 (by kernel_rfl) hf with ⟨hcs, _⟩ | ⟨x, l, c, zs, hcs, _, hl, hm, hz, _, hcell, hwz⟩
    · simp [Value.cells] at hcs
      obtain ⟨rfl, rfl, rfl⟩ := hcs
      exact ⟨[], Ints.none_, by simp, Nat.zero_le _⟩
    · simp [Value.cells] at hcs
      obtain ⟨rfl, rfl, rfl⟩ := hcs
      exact ⟨_, Ints.of_row hl (by simpa using hz) hcell, fun n hn => hwz n (List.mem_of_mem_take hn), hm⟩
  clear hA0 hval0
  refine (walk W a0 len0 cap0 z0 s0 w0 m0).mono fun e W' ⟨he, bel⟩ => ?_
  subst he
  exact ⟨_, rfl, _, _, _, [], _, [], hW', trodAll_mk1 (shut_bool Try.underlying4 _), (trodAll_cons_mk (Below.trod laidOut (by kernel_rfl) (of_decide_eq_true (by kernel_rfl)) k0 bel lt0) trodAll_mk0), rfl, bel.frame _, fun h => by cases h⟩

theorem over : Rows.fnSwappedOfRow.holds Try.pinned (OpenSpec.ofChange Rows.fnSwappedOfSpec) :=
  OpenClaim.holds_of_wide 8 Try.f8 rfl rfl rfl rfl rfl rfl rfl ⟨rfl, rfl, rfl, rfl, rfl⟩ rfl rfl rfl rfl rfl (by kernel_rfl) Try.func8 (by kernel_rfl)
    (of_decide_eq_true (by kernel_rfl)) (by unfold Func.isWrapper; first | (rw [if_pos (by decide +kernel)]; kernel_rfl) | (rw [if_neg (by decide +kernel)]; exact ⟨rfl, rfl⟩))
    (fun os started H enc _ => lifted os started H enc)
theorem proved : Rows.FnSwappedOfSaid := over
end Go.Proofs.Ytdmldgikfjgmhaa.fnSwappedOf
