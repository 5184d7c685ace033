/-
  FnIsTurned holds for every input: the drawn tongue, number and word are answered by IsTurned as by its model; if it holds, the number has a unit and is more than the second base; the turned name is read as the number, whether it holds or not. No condition.
-/
import Derived.Test.YtbckckicffjccaaRows
import Derived.Test.YtbckckicffjccaaDrawV
import Derived.Test.YtbckckicffjccaaU4
import Derived.Test.YtbckckicffjccaaV5
import Derived.Test.YtbckckicffjccaaV6
import Derived.Test.YtbckckicffjccaaGN
namespace Go.Proofs.Ytbckckicffjccaa.fnIsTurned
open Go.ChangeShapes Go.WideShapes Go.ChangeAt Go.RowKit
open Go.ChangeMaps (open_string shut_string)

theorem own : ownKnob Try.prog.godebug = none := by kernel_rfl
theorem laidOut : laidOutB Try.prog = true := by kernel_rfl

set_option maxRecDepth 100000 in
set_option maxHeartbeats 8000000 in
theorem walk (w : World) (A : Option Addr) (n c : Nat) (xs : List Int) (h : Ints w .u8 A n c xs) (hwf : ∀ x ∈ xs, (Lit.int .u8 x).wf = true) (hc : c ≤ maxLen) :
    Calls Try.prog 5 #[.slice A n c] w fun e w' => e = .returned (.bool true) ∧ Below w.heap.size w w' := by
  have hn : n ≤ 9223372036854775807 := by have := h.le; unfold maxLen at hc; omega
  by_cases hl : n ≤ 1048576
  · have HD := Lib.hid (drawIsTurned_any A n c xs w h hl hwf hc)
    clear h hwf hc
    go_enter Try.func5, Try.ntmps5
    go_wp2_with (fail)
    refine HD.out.mono ?_
    rintro e w1 ⟨v, t, m, x, rfl, ho, hsm, ⟨hm1, hm2⟩, hx16, hb⟩
    obtain ⟨A1, c1, A2, c2, A3, c3, rfl⟩ := ho.shape
    have hf := Lib.hid (hsm.fine (by omega))
    have hxl : x.size ≤ maxLen := by unfold maxLen; omega
    have hba := (Below.refl w1.heap.size w1).alloc (Nat.le_refl _) (.cells #[.slice A1 t.us.length c1, .slice A2 t.bs.length c2, .slice A3 t.ns.length c3] 26)
    have S := Lib.hid (⟨hb.trans (hba.mono hb.size), Blk.new w1 26 #[.slice A1 t.us.length c1, .slice A2 t.bs.length c2, .slice A3 t.ns.length c3], ho.tng.below hba (Nat.le_refl _)⟩ : LSt w w1.heap.size #[.slice A1 t.us.length c1, .slice A2 t.bs.length c2, .slice A3 t.ns.length c3] t (w1.alloc (.cells #[.slice A1 t.us.length c1, .slice A2 t.bs.length c2, .slice A3 t.ns.length c3] 26)))
    replace hxl := Lib.hid hxl
    clear ho hsm hb hba HD
    go_upto_region 4 with (fail)
    generalize w1.alloc (.cells #[.slice A1 t.us.length c1, .slice A2 t.bs.length c2, .slice A3 t.ns.length c3] 26) = W at *
    obtain ⟨z0, z1, z2, -, -, -⟩ := blk3 S.out.hz
    have K1 := fun W hT => implIsTurned_any (.agg #[.slice A1 t.us.length c1, .slice A2 t.bs.length c2, .slice A3 t.ns.length c3]) t m x W hT hf.out (by omega) hxl.out
    have K2 := fun W hT => specIsTurned_any (.agg #[.slice A1 t.us.length c1, .slice A2 t.bs.length c2, .slice A3 t.ns.length c3]) t m x W hT hf.out (by omega) hxl.out
    have K3 := fun W hT => implTurnedName_any (.agg #[.slice A1 t.us.length c1, .slice A2 t.bs.length c2, .slice A3 t.ns.length c3]) t m x W hT hf.out (by omega) hxl.out
    have hnot := fun h => (turned_not (t := t) (x := x) (n := m) h).2
    have hlaw := fun h => turned_law (t := t) (x := x) (n := m) h
    have hrd := fun h => read_turned (t := t) (x := x) (n := m) h
    have hnz := turned_size (t := t) (x := x) m
    have hnl := turned_len t m x
    have hib : (isTurnedB t m x != isTurnedB t m x) = false := by simp
    generalize isTurnedB t m x = ib at *
    generalize turnedOf t m x = nx at *
    generalize turnedB t m x = nb at *
    replace hnot := Lib.hid hnot
    replace hlaw := Lib.hid hlaw
    replace hrd := Lib.hid hrd
    replace hnz := Lib.hid (fun (y : ByteArray) (hy : y ∈ nx) => show y.size ≤ 1048576 by have := (hnz y hy).2; omega)
    replace K3 := Lib.hid K3
    replace K1 := Lib.hid (K1 W S.out.ht)
    replace K2 := Lib.hid K2
    go_wp2_with (fail)
    refine K1.out.mono ?_
    rintro e w2 ⟨rfl, b2⟩
    replace S := Lib.hid (S.out.step b2)
    clear b2 z0 z1 z2 K1
    obtain ⟨z0, z1, z2, -, -, -⟩ := blk3 S.out.hz
    replace K2 := Lib.hid (K2.out w2 S.out.ht)
    go_wp2_with (fail)
    refine K2.out.mono ?_
    rintro e w3 ⟨rfl, b3⟩
    replace S := Lib.hid (S.out.step b3)
    clear b3 z0 z1 z2 K2
    obtain ⟨z0, z1, z2, -, -, -⟩ := blk3 S.out.hz
    replace K3 := Lib.hid (K3.out w3 S.out.ht)
    go_wp2_with (fail)
    refine K3.out.mono ?_
    rintro e w4 ⟨v4, rfl, o4, b4⟩
    obtain ⟨A5, c5, rfl, s5⟩ := o4.strs
    have hcap := own_cap o4
    replace S := Lib.hid (S.out.step b4)
    clear b4 z0 z1 z2 K3 o4
    obtain ⟨z0, z1, z2, -, -, -⟩ := blk3 S.out.hz
    cases nb
    · have he := hnot.out rfl
      subst he
      clear s5 hcap
      go_wp2_with (fail)
      refine (alive_any w4).mono ?_
      rintro e w9 ⟨rfl, b9⟩
      have hB9 := Lib.hid (S.out.low.trans (b9.mono S.out.low.size))
      clear b9
      go_wp2
      go_ret
      exact ⟨rfl, hB9.out⟩
    · obtain ⟨f1, f2, -⟩ := hlaw.out rfl
      obtain ⟨r1, r2⟩ := hrd.out rfl
      have KR := implReadTurned_any _ t A5 _ c5 nx x w4 S.out.ht hf.out s5 (by omega) hcap hnz.out hxl.out
      rw [r1, r2] at KR
      replace KR := Lib.hid KR
      replace r1 := Lib.hid r1
      replace r2 := Lib.hid r2
      replace f1 := Lib.hid f1
      replace f2 := Lib.hid f2
      clear s5 hcap hlaw hrd hnot hnz
      generalize nx.length = n1 at *
      go_wp2_with (fail)
      refine KR.out.mono ?_
      rintro e w5 ⟨rfl, b5⟩
      replace S := Lib.hid (S.out.step b5)
      clear b5 z0 z1 z2 KR
      obtain ⟨z0, z1, z2, -, -, -⟩ := blk3 S.out.hz
      cases ib
      · go_wp2_with (fail)
        refine (alive_any w5).mono ?_
        rintro e w9 ⟨rfl, b9⟩
        have hB9 := Lib.hid (S.out.low.trans (b9.mono S.out.low.size))
        clear b9
        go_wp2
        go_ret
        exact ⟨rfl, hB9.out⟩
      · obtain ⟨-, k, rfl, g2, g3, g4, g5, g6, g7⟩ := f2.out rfl
        obtain ⟨_, _, _, _, _, _, ev, -, I2, -⟩ := S.out.ht.ex
        cases ev
        obtain ⟨bb, ob, rfl, -, hcb⟩ := I2.at_ (by omega)
        have ck := hcb 1 (by omega)
        rw [← g6] at ck
        have d2 : (k : Int) % (bN t 1 : Int) = ((lowU t k : Nat) : Int) := rfl
        have d3 : (0 : Int) < (k : Int) % (bN t 1 : Int) := by rw [d2]; omega
        have d4 : (0 : Int) ≤ (k : Int) % (bN t 1 : Int) := by omega
        have d5 : (bN t 1 : Int) < (k : Int) := by omega
        have d6 : 1 ≤ bN t 1 := by omega
        replace d2 := Lib.hid d2
        replace g6 := Lib.hid g6
        clear I2 hcb f2
        generalize bN t 1 = B1 at *
        go_wp2_with (fail)
        refine (alive_any w5).mono ?_
        rintro e w9 ⟨rfl, b9⟩
        have hB9 := Lib.hid (S.out.low.trans (b9.mono S.out.low.size))
        clear b9
        go_wp2
        go_ret
        exact ⟨rfl, hB9.out⟩
  · have t1 : (1048576 : Int) < (n : Int) := by omega
    go_enter Try.func5, Try.ntmps5
    go_wp2
    go_ret
    exact ⟨rfl, Below.refl _ _⟩

set_option maxRecDepth 100000 in
theorem lifted (os : Os) (started : os.Started) (H : Type) (enc : TypeId × Value → H) :
    ReturnsInHanded {} Try.checked os 5 .any (Rows.fnIsTurnedSpec.pre6 enc Try.prog Try.f5 Rows.fnIsTurnedRow.domain false) (Rows.fnIsTurnedSpec.post enc Try.prog Try.f5 false true false false) := by
  refine returnsInHanded_of_change (C := Try.checked) own started (by kernel_rfl) Try.func5
    (ChangeSpec.witness6 (enc := enc) (C := Try.checked) false ⟨#[], #[.slice none 0 0], []⟩ 8 (by kernel_rfl) (by kernel_rfl) (by kernel_rfl) (by kernel_rfl)) ?_
  intro W base args ds gs before hval0 hW hcnd _
  have hval : ∀ (j : Nat) t v, Try.f5.params[j]? = some t → args[j]? = some v → Value.okWide Try.prog W .any base t v := hval0
  have hW' := hW
  obtain ⟨p, q, hA0, hV, rfl, hfz, hnd⟩ := hW
  have hA : DataW.TrodAll enc Try.prog W 0 (fun _ => true) true Try.f5.params.toList args.toList ds p := hA0
  rw [Try.params5] at hA hval
  obtain ⟨v0, vs0, d0, ds0, p0, q0, hargs, rfl, rfl, h0, r0⟩ := trodAll_cons hA
  obtain ⟨rfl, rfl, rfl⟩ := trodAll_nil r0
  obtain rfl : args = #[v0] := by cases args; simp_all
  obtain ⟨rfl, rfl⟩ := trodVars_none hV
  obtain ⟨a0, len0, cap0, rfl⟩ := okWide_slice Try.underlying22 (hval 0 22 v0 rfl rfl)
  have k0 := h0
  have lt0 : ∀ x ∈ p0, x.block < W.heap.size := by obtain ⟨m, hm⟩ := k0; exact DataW.trod_lt m _ _ _ hm
  obtain ⟨z0, s0, w0, m0⟩ : ∃ zs, Ints W .u8 a0 len0 cap0 zs ∧ (∀ n ∈ zs, (Lit.int .u8 n).wf = true) ∧ cap0 ≤ maxLen := by
    obtain ⟨fuel, hf⟩ := h0
    rcases open_ints Try.underlying22 Try.underlying5 (by kernel_rfl) hf with ⟨hcs, _⟩ | ⟨x, l, c, zs, hcs, _, hl, hm, hz, _, hcell, hwz⟩
    · simp [Value.cells] at hcs
      obtain ⟨rfl, rfl, rfl⟩ := hcs
      exact ⟨[], Ints.none_, by simp, Nat.zero_le _⟩
    · simp [Value.cells] at hcs
      obtain ⟨rfl, rfl, rfl⟩ := hcs
      exact ⟨_, Ints.of_row hl (by simpa using hz) hcell, fun n hn => hwz n (List.mem_of_mem_take hn), hm⟩
  clear hA0 hval0
  refine (walk W a0 len0 cap0 z0 s0 w0 m0).mono fun e W' ⟨he, bel⟩ => ?_
  subst he
  exact ⟨_, rfl, _, _, _, [], _, [], hW', trodAll_mk1 (shut_bool Try.underlying4 _), (trodAll_cons_mk (Below.trod laidOut (by kernel_rfl) (of_decide_eq_true (by kernel_rfl)) k0 bel lt0) trodAll_mk0), rfl, bel.frame _, fun h => by cases h⟩

theorem over : Rows.fnIsTurnedRow.holds Try.pinned (OpenSpec.ofChange Rows.fnIsTurnedSpec) :=
  OpenClaim.holds_of_wide 5 Try.f5 rfl rfl rfl rfl rfl rfl rfl ⟨rfl, rfl, rfl, rfl, rfl⟩ rfl rfl rfl rfl rfl (by kernel_rfl) Try.func5 (by kernel_rfl)
    (of_decide_eq_true (by kernel_rfl)) (by unfold Func.isWrapper; first | (rw [if_pos (by decide +kernel)]; kernel_rfl) | (rw [if_neg (by decide +kernel)]; exact ⟨rfl, rfl⟩))
    (fun os started H enc _ => lifted os started H enc)
theorem proved : Rows.FnIsTurnedSaid := over
end Go.Proofs.Ytbckckicffjccaa.fnIsTurned
