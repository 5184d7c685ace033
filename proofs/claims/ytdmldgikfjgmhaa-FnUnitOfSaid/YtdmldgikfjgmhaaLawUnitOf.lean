/-
  FnUnitOf holds for every input: the drawn tongue and word are answered by UnitOf as by its model; and the promise holds of the answer. No condition.
-/
import Derived.Test.YtdmldgikfjgmhaaRows
import Derived.Test.YtdmldgikfjgmhaaDrawU
namespace Go.Proofs.Ytdmldgikfjgmhaa.fnUnitOf
open Go.ChangeShapes Go.WideShapes Go.ChangeAt Go.RowKit
open Go.ChangeMaps (open_string shut_string)

theorem own : ownKnob Try.prog.godebug = none := by kernel_rfl
theorem laidOut : laidOutB Try.prog = true := by kernel_rfl

theorem unit_yes {t : Tg} {x : ByteArray} (h : unitB t x = true) : ∃ j : Nat, j < t.us.length ∧ t.us.getD j ByteArray.empty = x ∧ unitV t x = (j : Int) + 1 ∧ baseB t x = false := by
  have hb := h
  unfold unitB at hb
  rw [Bool.and_eq_true, decide_eq_true_eq] at hb
  obtain ⟨ho, hp⟩ := hb
  refine ⟨place t.us x, hp, place_at hp, by unfold unitV; rw [h, if_pos rfl], ?_⟩
  have hw : wordsOf t = t.us ++ t.ns := by unfold wordsOf; rw [ho]; rfl
  exact (base_none (fun _ => by rw [hw, place_left hp]; exact hp)).1
theorem unit_off {t : Tg} {x : ByteArray} (h : unitB t x = false) : unitV t x = -1 := by unfold unitV; rw [h]; rfl

set_option maxRecDepth 100000 in
set_option maxHeartbeats 4000000 in
theorem walk (w : World) (A : Option Addr) (n c : Nat) (xs : List Int) (h : Ints w .u8 A n c xs) (hwf : ∀ x ∈ xs, (Lit.int .u8 x).wf = true) (hc : c ≤ maxLen) :
    Calls Try.prog 5 #[.slice A n c] w fun e w' => e = .returned (.bool true) ∧ Below w.heap.size w w' := by
  have hn : n ≤ 9223372036854775807 := by have := h.le; unfold maxLen at hc; omega
  by_cases hl : n ≤ 1048576
  · have HD := Lib.hid (drawUnitOf_any A n c xs w h hl hwf hc)
    clear h hwf hc
    go_enter Try.func5, Try.ntmps5
    go_wp2_with (fail)
    refine HD.out.mono ?_
    rintro e w1 ⟨v, t, x, rfl, ho, hsm, hx, hb⟩
    obtain ⟨A1, c1, A2, c2, A3, c3, rfl⟩ := ho.shape
    have hf := hsm.fine (by omega)
    have hxm : x.size ≤ maxLen := by unfold maxLen; omega
    have hB := hb.alloc hb.size (.cells #[.slice A1 t.us.length c1, .slice A2 t.bs.length c2, .slice A3 t.ns.length c3] 30)
    have hZ := Blk.new w1 30 #[.slice A1 t.us.length c1, .slice A2 t.bs.length c2, .slice A3 t.ns.length c3]
    have hT := ho.tng.below ((Below.refl _ _).alloc (Nat.le_refl _) (.cells #[.slice A1 t.us.length c1, .slice A2 t.bs.length c2, .slice A3 t.ns.length c3] 30)) (Nat.le_refl _)
    have hu25 := hsm.us
    have hul := hf.us
    replace hB := Lib.hid hB
    replace hZ := Lib.hid hZ
    replace hT := Lib.hid hT
    replace hf := Lib.hid hf
    clear ho hsm hb HD
    go_upto_region 4 with (fail)
    generalize w1.alloc (.cells #[.slice A1 t.us.length c1, .slice A2 t.bs.length c2, .slice A3 t.ns.length c3] 30) = W at *
    obtain ⟨z0, z1, z2, -, -, -⟩ := blk3 hZ.out
    have K1 := Lib.hid (implUnitOf_any _ t x W hT.out hf.out hxm)
    go_wp2_with (fail)
    refine K1.out.mono ?_
    rintro e w2 ⟨rfl, b2⟩
    have hB2 := hB.out.trans (b2.mono hB.out.size)
    have hZ2 := hZ.out.below b2 hZ.out.lt
    have hT2 := hT.out.below b2 (Nat.le_refl _)
    have K2 := Lib.hid (specUnitOf_any _ t x w2 hT2 hf.out)
    replace hB2 := Lib.hid hB2
    replace hT2 := Lib.hid hT2
    clear b2 z0 z1 z2 hB hZ hT K1
    obtain ⟨z0, z1, z2, -, -, -⟩ := blk3 hZ2
    replace hZ2 := Lib.hid hZ2
    go_wp2_with (fail)
    refine K2.out.mono ?_
    rintro e w3 ⟨rfl, b3⟩
    have hB3 := hB2.out.trans (b3.mono hB2.out.size)
    have hZ3 := hZ2.out.below b3 hZ2.out.lt
    have hT3 := hT2.out.below b3 (Nat.le_refl _)
    clear b3 z0 z1 z2 hB2 hZ2 hT2 K2
    obtain ⟨z0, z1, z2, -, -, -⟩ := blk3 hZ3
    replace hB3 := Lib.hid hB3
    replace hZ3 := Lib.hid hZ3
    cases hu : unitB t x
    · have hv := unit_off hu
      have hne1 : ((-1 : Int) != -1) = false := rfl
      have hne2 : (false != false) = false := rfl
      rw [hv]
      clear hv hu
      replace hT3 := Lib.hid hT3
      go_wp2_with (fail)
      refine (alive_any w3).mono ?_
      rintro e w4 ⟨rfl, b4⟩
      have hB4 := Lib.hid (hB3.out.trans (b4.mono hB3.out.size))
      clear b4
      go_wp2
      go_ret
      exact ⟨rfl, hB4.out⟩
    · obtain ⟨j, hj, hxj, hv, hbb⟩ := unit_yes hu
      have K3 := implBaseOf_any _ t x w3 hT3 hf.out hxm
      rw [hbb] at K3
      generalize baseV t x = bv at *
      rw [hv]
      have hne1 : (((j : Int) + 1) != ((j : Int) + 1)) = false := by simp
      have hne2 : (true != true) = false := rfl
      replace hT3 := Lib.hid hT3
      replace K3 := Lib.hid K3
      clear hv hu hbb
      go_wp2_with (fail)
      refine K3.out.mono ?_
      rintro e w4 ⟨rfl, b4⟩
      have hB4 := hB3.out.trans (b4.mono hB3.out.size)
      have hZ4 := hZ3.out.below b4 hZ3.out.lt
      have hT4 := hT3.out.below b4 (Nat.le_refl _)
      clear b4 z0 z1 z2 hB3 hZ3 hT3 K3
      obtain ⟨z0, z1, z2, -, -, -⟩ := blk3 hZ4
      obtain ⟨B1, d1, B2, d2, B3, d3, ev, hS1, -, -⟩ := hT4.ex
      cases ev
      obtain ⟨bb, oo, rfl, hbo, hcs⟩ := hS1.at_ (by omega)
      have cj := hcs j hj
      rw [hxj] at cj
      replace hB4 := Lib.hid hB4
      clear hZ4 hT4 hS1 hcs hxj
      have g1 : (1 : Int) ≤ (j : Int) + 1 := by omega
      have g2 : (j : Int) + 1 ≤ (t.us.length : Int) := by omega
      have g3 : (j : Int) < (t.us.length : Int) := by omega
      have heq : (x.toList == x.toList) = true := by simp
      go_wp2
      go_ret
      exact ⟨rfl, hB4.out⟩
  · have hl' : 1048576 < n := by omega
    go_enter Try.func5, Try.ntmps5
    go_wp2
    go_ret
    exact ⟨rfl, Below.refl _ _⟩

set_option maxRecDepth 100000 in
theorem lifted (os : Os) (started : os.Started) (H : Type) (enc : TypeId × Value → H) :
    ReturnsInHanded {} Try.checked os 5 .any (Rows.fnUnitOfSpec.pre6 enc Try.prog Try.f5 Rows.fnUnitOfRow.domain false) (Rows.fnUnitOfSpec.post enc Try.prog Try.f5 false true false false) := by
  refine returnsInHanded_of_change (C := Try.checked) own started (by kernel_rfl) Try.func5
    (ChangeSpec.witness6 (enc := enc) (C := Try.checked) false ⟨#[], #[.slice none 0 0], []⟩ 8 (by kernel_rfl) (by kernel_rfl) (by kernel_rfl) (by kernel_rfl)) ?_
  intro W base args ds gs before hval0 hW hcnd _
  have hval : ∀ (j : Nat) t v, Try.f5.params[j]? = some t → args[j]? = some v → Value.okWide Try.prog W .any base t v := hval0
  have hW' := hW
  obtain ⟨p, q, hA0, hV, rfl, hfz, hnd⟩ := hW
  have hA : DataW.TrodAll enc Try.prog W 0 (fun _ => true) true Try.f5.params.toList args.toList ds p := hA0
  rw [Try.params5] at hA hval
  obtain ⟨v0, vs0, d0, ds0, p0, q0, hargs, rfl, rfl, h0, r0⟩ := trodAll_cons hA
  obtain ⟨rfl, rfl, rfl⟩ := trodAll_nil r0
  obtain rfl : args = #[v0] := by cases args; simp_all
  obtain ⟨rfl, rfl⟩ := trodVars_none hV
  obtain ⟨a0, len0, cap0, rfl⟩ := okWide_slice Try.underlying22 (hval 0 22 v0 rfl rfl)
  have k0 := h0
  have lt0 : ∀ x ∈ p0, x.block < W.heap.size := by obtain ⟨m, hm⟩ := k0; exact DataW.trod_lt m _ _ _ hm
  obtain ⟨z0, s0, w0, m0⟩ : ∃ zs, Ints W .u8 a0 len0 cap0 zs ∧ (∀ n ∈ zs, (Lit.int .u8 n).wf = true) ∧ cap0 ≤ maxLen := by
    obtain ⟨fuel, hf⟩ := h0
    rcases open_ints Try.underlying22 Try.underlying5 (by kernel_rfl) hf with ⟨hcs, _⟩ | ⟨x, l, c, zs, hcs, _, hl, hm, hz, _, hcell, hwz⟩
    · simp [Value.cells] at hcs
      obtain ⟨rfl, rfl, rfl⟩ := hcs
      exact ⟨[], Ints.none_, by simp, Nat.zero_le _⟩
    · simp [Value.cells] at hcs
      obtain ⟨rfl, rfl, rfl⟩ := hcs
      exact ⟨_, Ints.of_row hl (by simpa using hz) hcell, fun n hn => hwz n (List.mem_of_mem_take hn), hm⟩
  clear hA0 hval0
  refine (walk W a0 len0 cap0 z0 s0 w0 m0).mono fun e W' ⟨he, bel⟩ => ?_
  subst he
  exact ⟨_, rfl, _, _, _, [], _, [], hW', trodAll_mk1 (shut_bool Try.underlying4 _), (trodAll_cons_mk (Below.trod laidOut (by kernel_rfl) (of_decide_eq_true (by kernel_rfl)) k0 bel lt0) trodAll_mk0), rfl, bel.frame _, fun h => by cases h⟩

theorem over : Rows.fnUnitOfRow.holds Try.pinned (OpenSpec.ofChange Rows.fnUnitOfSpec) :=
  OpenClaim.holds_of_wide 5 Try.f5 rfl rfl rfl rfl rfl rfl rfl ⟨rfl, rfl, rfl, rfl, rfl⟩ rfl rfl rfl rfl rfl (by kernel_rfl) Try.func5 (by kernel_rfl)
    (of_decide_eq_true (by kernel_rfl)) (by unfold Func.isWrapper; first | (rw [if_pos (by decide +kernel)]; kernel_rfl) | (rw [if_neg (by decide +kernel)]; exact ⟨rfl, rfl⟩))
    (fun os started H enc _ => lifted os started H enc)
theorem proved : Rows.FnUnitOfSaid := over
end Go.Proofs.Ytdmldgikfjgmhaa.fnUnitOf
