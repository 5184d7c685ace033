/-
  FnKeptOf holds for every input: the drawn tongue and number are answered by KeptOf as by its model; it is at most the number, never one less, and of one number it is 1. No condition.
-/
import Derived.Test.YtjggdlnbfoglaaaRows
import Derived.Test.YtjggdlnbfoglaaaDrawM
import Derived.Test.YtjggdlnbfoglaaaOL
import Derived.Test.YtjggdlnbfoglaaaO3
import Derived.Test.YtjggdlnbfoglaaaY4
namespace Go.Proofs.Ytjggdlnbfoglaaa.fnKeptOf
open Go.ChangeShapes Go.WideShapes Go.ChangeAt Go.RowKit Go.Sort
open Go.ChangeMaps (open_string shut_string)

theorem own : ownKnob Try.prog.godebug = none := by kernel_rfl
theorem laidOut : laidOutB Try.prog = true := by kernel_rfl

set_option maxRecDepth 100000 in
set_option maxHeartbeats 8000000 in
theorem walk (w : World) (A : Option Addr) (n c : Nat) (xs : List Int) (h : Ints w .u8 A n c xs) (hwf : ∀ x ∈ xs, (Lit.int .u8 x).wf = true) (hc : c ≤ maxLen) :
    Calls Try.prog 8 #[.slice A n c] w fun e w' => e = .returned (.bool true) ∧ Below w.heap.size w w' := by
  have hn : n ≤ 9223372036854775807 := by have := h.le; unfold maxLen at hc; omega
  by_cases hl : n ≤ 1048576
  · have HD := Lib.hid (drawKeptOf_any A n c xs w h hl hwf hc)
    clear h hwf hc
    go_enter Try.func8, Try.ntmps8
    go_wp2_with (fail)
    refine HD.out.mono ?_
    rintro e w1 ⟨v, t, a, rfl, ho, hsm, ha, hb⟩
    obtain ⟨ha1, ha2⟩ := ha
    obtain ⟨A1, c1, A2, c2, A3, c3, rfl⟩ := ho.shape
    have hf := Lib.hid (hsm.fine (by omega))
    have hba := (Below.refl w1.heap.size w1).alloc (Nat.le_refl _) (.cells #[.slice A1 t.us.length c1, .slice A2 t.bs.length c2, .slice A3 t.ns.length c3] 26)
    have S := Lib.hid (⟨hb.trans (hba.mono hb.size), Blk.new w1 26 #[.slice A1 t.us.length c1, .slice A2 t.bs.length c2, .slice A3 t.ns.length c3], ho.tng.below hba (Nat.le_refl _)⟩ : LSt w w1.heap.size #[.slice A1 t.us.length c1, .slice A2 t.bs.length c2, .slice A3 t.ns.length c3] t (w1.alloc (.cells #[.slice A1 t.us.length c1, .slice A2 t.bs.length c2, .slice A3 t.ns.length c3] 26)))
    clear ho hsm hb hba HD
    go_upto_region 4 with (fail)
    generalize w1.alloc (.cells #[.slice A1 t.us.length c1, .slice A2 t.bs.length c2, .slice A3 t.ns.length c3] 26) = W at *
    generalize w1.heap.size = z at *
    obtain ⟨z0, z1, z2, -, -, -⟩ := blk3 S.out.hz
    have K1 := Lib.hid (implKeptOf_any _ t a W S.out.ht hf.out (by omega))
    have KM := Lib.hid (fun W' (hT : Tng W' (.agg #[.slice A1 t.us.length c1, .slice A2 t.bs.length c2, .slice A3 t.ns.length c3]) t) => implKeptOf_any _ t 1 W' hT hf.out (by omega))
    have hlaw := kept_law t a
    have hne : (keptF t a != keptF t a) = false := by simp
    go_wp2_with (fail)
    refine K1.out.mono ?_
    rintro e w2 ⟨rfl, b2⟩
    replace S := Lib.hid (S.out.step b2)
    have K2 := Lib.hid (specKeptOf_any _ t a w2 S.out.ht hf.out (by omega))
    clear b2 z0 z1 z2 K1
    obtain ⟨z0, z1, z2, -, -, -⟩ := blk3 S.out.hz
    go_wp2_with (fail)
    refine K2.out.mono ?_
    rintro e w3 ⟨rfl, b2⟩
    replace S := Lib.hid (S.out.step b2)
    clear b2 z0 z1 z2 K2
    obtain ⟨z0, z1, z2, -, -, -⟩ := blk3 S.out.hz
    rcases hlaw with hr | ⟨M, K, rfl, hM1, hM2, hx, x1, x2, hone⟩
    · have hq1 : keptF t a < 0 := by omega
      have hq2 : (keptF t a == -1) = true := by rw [beq_iff_eq]; exact hr
      rw [hr] at hq1 hq2 hne ⊢
      replace hr := Lib.hid hr
      clear KM
      go_wp2_with (fail)
      refine (alive_any _).mono ?_
      rintro e w9 ⟨rfl, b9⟩
      have hB9 := Lib.hid (S.out.low.trans (b9.mono S.out.low.size))
      clear b9
      go_wp2
      go_ret
      exact ⟨rfl, hB9.out⟩
    · rw [hx] at hne ⊢
      rw [hone] at KM
      have K3 := Lib.hid (KM.out w3 S.out.ht)
      replace hx := Lib.hid hx
      replace hone := Lib.hid hone
      have hle : (K : Int) ≤ (M : Int) := by omega
      have e1 : IntKind.i64.wrap ((M : Int) - 1) = (M : Int) - 1 := IntWalk.i64_in _ (by omega)
      have g1 : ((K : Int) != (M : Int) - 1) = true := by rw [bne_iff_ne]; omega
      have hn1 : ¬ (K : Int) < 0 := by omega
      clear KM
      go_wp2_with (fail)
      refine K3.out.mono ?_
      rintro e w4 ⟨rfl, b4⟩
      have hBf := Lib.hid (S.out.low.trans (b4.mono S.out.low.size))
      clear b4 z0 z1 z2 K3
      go_wp2
      go_ret
      exact ⟨rfl, hBf.out⟩
  · have hl' : 1048576 < n := by omega
    go_enter Try.func8, Try.ntmps8
    go_wp2
    go_ret
    exact ⟨rfl, Below.refl _ _⟩

set_option maxRecDepth 100000 in
theorem lifted (os : Os) (started : os.Started) (H : Type) (enc : TypeId × Value → H) :
    ReturnsInHanded {} Try.checked os 8 .any (Rows.fnKeptOfSpec.pre6 enc Try.prog Try.f8 Rows.fnKeptOfRow.domain false) (Rows.fnKeptOfSpec.post enc Try.prog Try.f8 false true false false) := by
  refine returnsInHanded_of_change (C := Try.checked) own started (by kernel_rfl) Try.func8
    (ChangeSpec.witness6 (enc := enc) (C := Try.checked) false ⟨#[], #[.slice none 0 0], []⟩ 8 (by kernel_rfl) (by kernel_rfl) (by kernel_rfl) (by kernel_rfl)) ?_
  intro W base args ds gs before hval0 hW hcnd _
  have hval : ∀ (j : Nat) t v, Try.f8.params[j]? = some t → args[j]? = some v → Value.okWide Try.prog W .any base t v := hval0
  have hW' := hW
  obtain ⟨p, q, hA0, hV, rfl, hfz, hnd⟩ := hW
  have hA : DataW.TrodAll enc Try.prog W 0 (fun _ => true) true Try.f8.params.toList args.toList ds p := hA0
  rw [Try.params8] at hA hval
  obtain ⟨v0, vs0, d0, ds0, p0, q0, hargs, rfl, rfl, h0, r0⟩ := trodAll_cons hA
  obtain ⟨rfl, rfl, rfl⟩ := trodAll_nil r0
  obtain rfl : args = #[v0] := by cases args; simp_all
  obtain ⟨rfl, rfl⟩ := trodVars_none hV
  obtain ⟨a0, len0, cap0, rfl⟩ := okWide_slice Try.underlying22 (hval 0 22 v0 rfl rfl)
  have k0 := h0
  have lt0 : ∀ x ∈ p0, x.block < W.heap.size := by obtain ⟨m, hm⟩ := k0; exact DataW.trod_lt m _ _ _ hm
  obtain ⟨z0, s0, w0, m0⟩ : ∃ zs, Ints W .u8 a0 len0 cap0 zs ∧ (∀ n ∈ zs, (Lit.int .u8 n).wf = true) ∧ cap0 ≤ maxLen := by
    obtain ⟨fuel, hf⟩ := h0
    rcases open_ints Try.underlying22 Try.underlying5 (by kernel_rfl) hf with ⟨hcs, _⟩ | ⟨x, l, c, zs, hcs, _, hl, hm, hz, _, hcell, hwz⟩
    · simp [Value.cells] at hcs
      obtain ⟨rfl, rfl, rfl⟩ := hcs
      exact ⟨[], Ints.none_, by simp, Nat.zero_le _⟩
    · simp [Value.cells] at hcs
      obtain ⟨rfl, rfl, rfl⟩ := hcs
      exact ⟨_, Ints.of_row hl (by simpa using hz) hcell, fun n hn => hwz n (List.mem_of_mem_take hn), hm⟩
  clear hA0 hval0
  refine (walk W a0 len0 cap0 z0 s0 w0 m0).mono fun e W' ⟨he, bel⟩ => ?_
  subst he
  exact ⟨_, rfl, _, _, _, [], _, [], hW', trodAll_mk1 (shut_bool Try.underlying4 _), (trodAll_cons_mk (Below.trod laidOut (by kernel_rfl) (of_decide_eq_true (by kernel_rfl)) k0 bel lt0) trodAll_mk0), rfl, bel.frame _, fun h => by cases h⟩

theorem over : Rows.fnKeptOfRow.holds Try.pinned (OpenSpec.ofChange Rows.fnKeptOfSpec) :=
  OpenClaim.holds_of_wide 8 Try.f8 rfl rfl rfl rfl rfl rfl rfl ⟨rfl, rfl, rfl, rfl, rfl⟩ rfl rfl rfl rfl rfl (by kernel_rfl) Try.func8 (by kernel_rfl)
    (of_decide_eq_true (by kernel_rfl)) (by unfold Func.isWrapper; first | (rw [if_pos (by decide +kernel)]; kernel_rfl) | (rw [if_neg (by decide +kernel)]; exact ⟨rfl, rfl⟩))
    (fun os started H enc _ => lifted os started H enc)
theorem proved : Rows.FnKeptOfSaid := over
end Go.Proofs.Ytjggdlnbfoglaaa.fnKeptOf
