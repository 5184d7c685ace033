/-
  FnTurnedName holds for every input: the drawn tongue, number and word are answered by TurnedName as by its model; a turned name has one word more than the name, and its number has a unit and the second base; else it is the name. No condition.
-/
import Derived.Test.YtbckckicffjccaaRows
import Derived.Test.YtbckckicffjccaaDrawV
import Derived.Test.YtbckckicffjccaaU3
import Derived.Test.YtbckckicffjccaaV5
import Derived.Test.YtbckckicffjccaaV6
import Derived.Test.YtbckckicffjccaaGN
namespace Go.Proofs.Ytbckckicffjccaa.fnTurnedName
open Go.ChangeShapes Go.WideShapes Go.ChangeAt Go.RowKit
open Go.ChangeMaps (open_string shut_string)

theorem own : ownKnob Try.prog.godebug = none := by kernel_rfl
theorem laidOut : laidOutB Try.prog = true := by kernel_rfl

set_option maxRecDepth 100000 in
set_option maxHeartbeats 8000000 in
theorem walk (w : World) (A : Option Addr) (n c : Nat) (xs : List Int) (h : Ints w .u8 A n c xs) (hwf : ∀ x ∈ xs, (Lit.int .u8 x).wf = true) (hc : c ≤ maxLen) :
    Calls Try.prog 3 #[.slice A n c] w fun e w' => e = .returned (.bool true) ∧ Below w.heap.size w w' := by
  have hn : n ≤ 9223372036854775807 := by have := h.le; unfold maxLen at hc; omega
  by_cases hl : n ≤ 1048576
  · have HD := Lib.hid (drawTurnedName_any A n c xs w h hl hwf hc)
    clear h hwf hc
    go_enter Try.func3, Try.ntmps3
    go_wp2_with (fail)
    refine HD.out.mono ?_
    rintro e w1 ⟨v, t, m, x, rfl, ho, hsm, ⟨hm1, hm2⟩, hx16, hb⟩
    obtain ⟨A1, c1, A2, c2, A3, c3, rfl⟩ := ho.shape
    have hf := Lib.hid (hsm.fine (by omega))
    have hxl : x.size ≤ maxLen := by unfold maxLen; omega
    have hba := (Below.refl w1.heap.size w1).alloc (Nat.le_refl _) (.cells #[.slice A1 t.us.length c1, .slice A2 t.bs.length c2, .slice A3 t.ns.length c3] 26)
    have S := Lib.hid (⟨hb.trans (hba.mono hb.size), Blk.new w1 26 #[.slice A1 t.us.length c1, .slice A2 t.bs.length c2, .slice A3 t.ns.length c3], ho.tng.below hba (Nat.le_refl _)⟩ : LSt w w1.heap.size #[.slice A1 t.us.length c1, .slice A2 t.bs.length c2, .slice A3 t.ns.length c3] t (w1.alloc (.cells #[.slice A1 t.us.length c1, .slice A2 t.bs.length c2, .slice A3 t.ns.length c3] 26)))
    replace hxl := Lib.hid hxl
    clear ho hsm hb hba HD
    go_upto_region 4 with (fail)
    generalize w1.alloc (.cells #[.slice A1 t.us.length c1, .slice A2 t.bs.length c2, .slice A3 t.ns.length c3] 26) = W at *
    obtain ⟨z0, z1, z2, -, -, -⟩ := blk3 S.out.hz
    have K1 := Lib.hid (implTurnedName_any _ t m x W S.out.ht hf.out (by omega) hxl.out)
    go_wp2_with (fail)
    refine K1.out.mono ?_
    rintro e w2 ⟨v2, rfl, o2, b2⟩
    obtain ⟨A5, c5, rfl, s5⟩ := o2.strs
    replace S := Lib.hid (S.out.step b2)
    have K2 := Lib.hid (specTurnedName_any _ t m x w2 S.out.ht hf.out (by omega) hxl.out)
    have hnl := turned_len t m x
    clear o2 b2 z0 z1 z2 K1
    obtain ⟨z0, z1, z2, -, -, -⟩ := blk3 S.out.hz
    go_wp2_with (fail)
    refine K2.out.mono ?_
    rintro e w3 ⟨v3, rfl, o3, b3⟩
    obtain ⟨A6, c6, rfl, s6⟩ := o3.strs
    replace S := Lib.hid (S.out.step b3)
    replace s5 := s5.below b3 (Nat.le_refl _)
    have KX := sameTexts_any A5 A6 _ c5 _ c6 _ _ w3 s5 s6 (by omega) (by omega)
    rw [decide_eq_true rfl] at KX
    replace KX := Lib.hid KX
    replace s5 := Lib.hid s5
    clear o3 s6 b3 z0 z1 z2 K2
    have hne := fun h => (turned_not (t := t) (x := x) (n := m) h).1
    have hnf := fun h => turned_law (t := t) (x := x) (n := m) h
    generalize turnedOf t m x = nx at *
    generalize turnedB t m x = nb at *
    replace hne := Lib.hid hne
    replace hnf := Lib.hid hnf
    have hnbne : (nb != nb) = false := by simp
    go_wp2_with (fail)
    refine KX.out.mono ?_
    rintro e w4 ⟨rfl, m4, rfl⟩
    have b4 := below_drewN (Below.refl w3.heap.size w3) m4
    replace S := Lib.hid (S.out.step b4)
    replace s5 := Lib.hid (s5.out.below b4 (Nat.le_refl _))
    clear b4 KX
    generalize w3.drewN m4 = W4 at *
    obtain ⟨z0, z1, z2, -, -, -⟩ := blk3 S.out.hz
    cases nb
    · have he := hne.out rfl
      subst he
      have hl0 : (([] : List ByteArray).length : Int) = 0 := rfl
      go_wp2_with (fail)
      refine (alive_any W4).mono ?_
      rintro e w9 ⟨rfl, b9⟩
      have hB9 := Lib.hid (S.out.low.trans (b9.mono S.out.low.size))
      clear b9
      go_wp2
      go_ret
      exact ⟨rfl, hB9.out⟩
    · obtain ⟨f1, f2⟩ := hnf.out rfl
      have KN := implNameOf_any _ t m W4 S.out.ht hf.out (by omega)
      rw [f1] at KN
      have hnml := nameOf_31 t m
      generalize nameOf t m = nm at *
      replace KN := Lib.hid KN
      replace f2 := Lib.hid f2
      clear f1
      go_wp2_with (fail)
      refine KN.out.mono ?_
      rintro e w5 ⟨v5, rfl, o5, b5⟩
      obtain ⟨A7, c7, rfl, s7⟩ := o5.strs
      replace S := Lib.hid (S.out.step b5)
      replace s5 := Lib.hid (s5.out.below b5 (Nat.le_refl _))
      replace s7 := Lib.hid s7
      clear o5 b5 z0 z1 z2 KN
      obtain ⟨z0, z1, z2, -, -, -⟩ := blk3 S.out.hz
      have KI := Lib.hid (implIsTurned_any _ t m x w5 S.out.ht hf.out (by omega) hxl.out)
      generalize isTurnedB t m x = ib at *
      go_wp2_with (fail)
      refine KI.out.mono ?_
      rintro e w6 ⟨rfl, b6⟩
      replace S := Lib.hid (S.out.step b6)
      replace s5 := Lib.hid (s5.out.below b6 (Nat.le_refl _))
      replace s7 := Lib.hid (s7.out.below b6 (Nat.le_refl _))
      clear b6 z0 z1 z2 KI
      obtain ⟨z0, z1, z2, -, -, -⟩ := blk3 S.out.hz
      cases ib
      · have he := f2.out.2 rfl
        have KX2 := sameTexts_any A5 A7 _ c5 _ c7 _ _ w6 s5.out s7.out (by omega) (by omega)
        rw [decide_eq_true he] at KX2
        replace KX2 := Lib.hid KX2
        replace he := Lib.hid he
        have hB6 := Lib.hid S.out.low
        clear s5 s7
        go_wp2_with (fail)
        refine KX2.out.mono ?_
        rintro e w7 ⟨rfl, m7, rfl⟩
        go_wp2
        go_ret
        exact ⟨rfl, below_drewN hB6.out m7⟩
      · obtain ⟨g1, k, rfl, g2, g3, g4, g5, g6, g7⟩ := f2.out.1 rfl
        obtain ⟨_, _, _, _, _, _, ev, -, I2, -⟩ := S.out.ht.ex
        cases ev
        obtain ⟨bb, ob, rfl, -, hcb⟩ := I2.at_ (by omega)
        have ck := hcb 1 (by omega)
        rw [← g6] at ck
        have d1 : ((nx.length : Int) == (nm.length : Int) + 1) = true := by rw [beq_iff_eq]; omega
        have d2 : (k : Int) % (bN t 1 : Int) = ((lowU t k : Nat) : Int) := rfl
        have d3 : (0 : Int) < (k : Int) % (bN t 1 : Int) := by rw [d2]; omega
        have d4 : (0 : Int) ≤ (k : Int) % (bN t 1 : Int) := by omega
        have d5 : (bN t 1 : Int) ≤ (k : Int) := by omega
        have d6 : 1 ≤ bN t 1 := by omega
        have d7 : IntKind.i64.wrap ((nm.length : Int) + 1) = (nm.length : Int) + 1 := IntWalk.i64_in _ (by omega)
        have d8 : (nx.length : Int) = (nm.length : Int) + 1 := by omega
        have hB6 := Lib.hid S.out.low
        replace d2 := Lib.hid d2
        replace g1 := Lib.hid g1
        replace g6 := Lib.hid g6
        replace d8 := Lib.hid d8
        clear I2 hcb s5 s7 S f2
        generalize bN t 1 = B1 at *
        generalize nx.length = n1 at *
        generalize nm.length = n2 at *
        go_wp2
        go_ret
        exact ⟨rfl, hB6.out⟩
  · have t1 : (1048576 : Int) < (n : Int) := by omega
    go_enter Try.func3, Try.ntmps3
    go_wp2
    go_ret
    exact ⟨rfl, Below.refl _ _⟩

set_option maxRecDepth 100000 in
theorem lifted (os : Os) (started : os.Started) (H : Type) (enc : TypeId × Value → H) :
    ReturnsInHanded {} Try.checked os 3 .any (Rows.fnTurnedNameSpec.pre6 enc Try.prog Try.f3 Rows.fnTurnedNameRow.domain false) (Rows.fnTurnedNameSpec.post enc Try.prog Try.f3 false true false false) := by
  refine returnsInHanded_of_change (C := Try.checked) own started (by kernel_rfl) Try.func3
    (ChangeSpec.witness6 (enc := enc) (C := Try.checked) false ⟨#[], #[.slice none 0 0], []⟩ 8 (by kernel_rfl) (by kernel_rfl) (by kernel_rfl) (by kernel_rfl)) ?_
  intro W base args ds gs before hval0 hW hcnd _
  have hval : ∀ (j : Nat) t v, Try.f3.params[j]? = some t → args[j]? = some v → Value.okWide Try.prog W .any base t v := hval0
  have hW' := hW
  obtain ⟨p, q, hA0, hV, rfl, hfz, hnd⟩ := hW
  have hA : DataW.TrodAll enc Try.prog W 0 (fun _ => true) true Try.f3.params.toList args.toList ds p := hA0
  rw [Try.params3] at hA hval
  obtain ⟨v0, vs0, d0, ds0, p0, q0, hargs, rfl, rfl, h0, r0⟩ := trodAll_cons hA
  obtain ⟨rfl, rfl, rfl⟩ := trodAll_nil r0
  obtain rfl : args = #[v0] := by cases args; simp_all
  obtain ⟨rfl, rfl⟩ := trodVars_none hV
  obtain ⟨a0, len0, cap0, rfl⟩ := okWide_slice Try.underlying22 (hval 0 22 v0 rfl rfl)
  have k0 := h0
  have lt0 : ∀ x ∈ p0, x.block < W.heap.size := by obtain ⟨m, hm⟩ := k0; exact DataW.trod_lt m _ _ _ hm
  obtain ⟨z0, s0, w0, m0⟩ : ∃ zs, Ints W .u8 a0 len0 cap0 zs ∧ (∀ n ∈ zs, (Lit.int .u8 n).wf = true) ∧ cap0 ≤ maxLen := by
    obtain ⟨fuel, hf⟩ := h0
    rcases open_ints Try.underlying22 Try.underlying5 (by kernel_rfl) hf with ⟨hcs, _⟩ | ⟨x, l, c, zs, hcs, _, hl, hm, hz, _, hcell, hwz⟩
    · simp [Value.cells] at hcs
      obtain ⟨rfl, rfl, rfl⟩ := hcs
      exact ⟨[], Ints.none_, by simp, Nat.zero_le _⟩
    · simp [Value.cells] at hcs
      obtain ⟨rfl, rfl, rfl⟩ := hcs
      exact ⟨_, Ints.of_row hl (by simpa using hz) hcell, fun n hn => hwz n (List.mem_of_mem_take hn), hm⟩
  clear hA0 hval0
  refine (walk W a0 len0 cap0 z0 s0 w0 m0).mono fun e W' ⟨he, bel⟩ => ?_
  subst he
  exact ⟨_, rfl, _, _, _, [], _, [], hW', trodAll_mk1 (shut_bool Try.underlying4 _), (trodAll_cons_mk (Below.trod laidOut (by kernel_rfl) (of_decide_eq_true (by kernel_rfl)) k0 bel lt0) trodAll_mk0), rfl, bel.frame _, fun h => by cases h⟩

theorem over : Rows.fnTurnedNameRow.holds Try.pinned (OpenSpec.ofChange Rows.fnTurnedNameSpec) :=
  OpenClaim.holds_of_wide 3 Try.f3 rfl rfl rfl rfl rfl rfl rfl ⟨rfl, rfl, rfl, rfl, rfl⟩ rfl rfl rfl rfl rfl (by kernel_rfl) Try.func3 (by kernel_rfl)
    (of_decide_eq_true (by kernel_rfl)) (by unfold Func.isWrapper; first | (rw [if_pos (by decide +kernel)]; kernel_rfl) | (rw [if_neg (by decide +kernel)]; exact ⟨rfl, rfl⟩))
    (fun os started H enc _ => lifted os started H enc)
theorem proved : Rows.FnTurnedNameSaid := over
end Go.Proofs.Ytbckckicffjccaa.fnTurnedName
