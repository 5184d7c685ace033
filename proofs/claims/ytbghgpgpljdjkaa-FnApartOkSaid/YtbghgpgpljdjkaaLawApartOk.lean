/-
  FnApartOk holds for every input: the drawn code is answered by ApartOk as by its model; words that are apart can be read, and words of as many letters each are apart. No condition.
-/
import Derived.Test.YtbghgpgpljdjkaaRows
import Derived.Test.YtbghgpgpljdjkaaGA
import Derived.Test.YtbghgpgpljdjkaaW3
import Derived.Test.YtbghgpgpljdjkaaQ2
import Derived.Test.YtbghgpgpljdjkaaZ2
import Derived.Test.YtbghgpgpljdjkaaZ3
import Derived.Test.YtbghgpgpljdjkaaMathJ
namespace Go.Proofs.Ytbghgpgpljdjkaa.fnApartOk
open Go.ChangeShapes Go.WideShapes Go.ChangeAt Go.RowKit
open Go.ChangeMaps (open_string shut_string)

theorem own : ownKnob Try.prog.godebug = none := by kernel_rfl
theorem laidOut : laidOutB Try.prog = true := by kernel_rfl

set_option maxRecDepth 100000 in
set_option maxHeartbeats 8000000 in
theorem walk (w : World) (A : Option Addr) (n c : Nat) (xs : List Int) (h : Ints w .u8 A n c xs) (hwf : ∀ x ∈ xs, (Lit.int .u8 x).wf = true) (hc : c ≤ maxLen) :
    Calls Try.prog 5 #[.slice A n c] w fun e w' => e = .returned (.bool true) ∧ Below w.heap.size w w' := by
  have hn : n ≤ 9223372036854775807 := by have := h.le; unfold maxLen at hc; omega
  by_cases hl : n ≤ 1048576
  · have HD := Lib.hid (drawApartOk_any A n c xs w h hl hwf hc)
    clear h hwf hc
    go_enter Try.func5, Try.ntmps5
    go_wp2_with (fail)
    refine HD.out.mono ?_
    rintro e w1 ⟨v, l, rfl, ho, hfw, hb⟩
    obtain ⟨A4, c4, rfl, hls⟩ := ho.strs
    have hl6 := hfw.1
    have hlz := Lib.hid (fun (x : ByteArray) (hx : x ∈ l) => show x.size ≤ 1048576 by have := hfw.2 x hx; omega)
    have hB := Lib.hid hb
    have hL := Lib.hid hls
    clear ho hfw hls hb HD
    have K1 := Lib.hid (implApartOk_any A4 _ c4 l w1 hL.out (by omega) hlz.out)
    go_wp2_with (fail)
    refine K1.out.mono ?_
    rintro e w2 ⟨rfl, b⟩
    replace hB := Lib.hid (hB.out.trans (b.mono hB.out.size))
    replace hL := Lib.hid (hL.out.below b (Nat.le_refl _))
    clear b K1
    have K2 := Lib.hid (specApartOk_any A4 _ c4 l w2 hL.out (by omega) hlz.out)
    go_wp2_with (fail)
    refine K2.out.mono ?_
    rintro e _ ⟨rfl, m, rfl⟩
    have b := below_drewN (Below.refl w2.heap.size w2) m
    replace hB := Lib.hid (hB.out.trans (b.mono hB.out.size))
    replace hL := Lib.hid (hL.out.below b (Nat.le_refl _))
    generalize w2.drewN m = w3 at *
    clear b K2
    have K3 := implCodeOk_any A4 _ c4 l w3 hL.out (by omega) hlz.out
    have C6 := fun (W : World) (hs : Strs W A4 l.length c4 l) => implReadableOk_any A4 _ c4 l W hs (by omega) hlz.out
    have t1 := fun (h : apartOk l = true) => apart_read h
    have t2 := fun (h : codeOk l = true) (hs : ∀ j, j < l.length → (l.getD j ByteArray.empty).size = (l.getD 0 ByteArray.empty).size) => alike_apart h (fun s hs' => by
      obtain ⟨k, hk, rfl⟩ := mem_getD hs'
      exact hs k hk)
    generalize apartOk l = ok at *
    generalize readOk l = ro at *
    generalize codeOk l = co at *
    have hne : (ok != ok) = false := by simp
    replace C6 := Lib.hid C6
    replace t1 := Lib.hid t1
    replace t2 := Lib.hid t2
    replace K3 := Lib.hid K3
    go_wp2_with (fail)
    refine K3.out.mono ?_
    rintro e w4 ⟨rfl, b⟩
    replace hB := Lib.hid (hB.out.trans (b.mono hB.out.size))
    replace hL := Lib.hid (hL.out.below b (Nat.le_refl _))
    clear b K3
    have hLl : l.length = l.length := rfl
    go_wp2
    go_loopw [5, 6] (fun s5 s6 wr => ∃ (k m : Nat) (b : Bool), k ≤ l.length ∧ s6 = .int .i64 k ∧ s5 = .bool b ∧ (b = true ↔ co = true ∧ ∀ j, j < k → (l.getD j ByteArray.empty).size = (l.getD 0 ByteArray.empty).size) ∧ wr = w4.drewN m) (fun _ i _ => l.length - (intOf i).toNat)
    case atStart => exact ⟨0, 0, co, Nat.zero_le _, rfl, rfl, ⟨fun h => ⟨h, fun j hj => by omega⟩, fun h => h.1⟩, rfl⟩
    case round =>
      obtain ⟨k, m, b, hk, rfl, rfl, hbi, rfl⟩ := hrel
      by_cases hlt : k < l.length
      · have hlt' : (k : Int) < (l.length : Int) := by omega
        cases b
        · have hbi2 : ¬ (co = true ∧ ∀ j, j < k + 1 → (l.getD j ByteArray.empty).size = (l.getD 0 ByteArray.empty).size) := fun h => absurd (hbi.2 ⟨h.1, fun j hj => h.2 j (by omega)⟩) (by simp)
          replace hbi := Lib.hid hbi
          replace hbi2 := Lib.hid hbi2
          go_wp2
          go_quiet (fail)
          go_wp2
          go_roundw
          case rel => exact ⟨k + 1, _, false, by omega, by go_num, rfl, ⟨fun h => absurd h (by simp), fun h => absurd h hbi2.out⟩, by first | rfl | exact World.drewN_drewN _ _ _⟩
          case measure => simp [intOf]; omega
        · obtain ⟨bb, oo, rfl, -, hcm⟩ := hL.out.at_ (by omega)
          have ck := hcm k hlt
          have c0 := hcm 0 (by omega)
          have hl0 : (0 : Int) < (l.length : Int) := by omega
          have hl1 : 0 < l.length := by omega
          have hl2 : l ≠ [] := List.ne_nil_of_length_pos hl1
          rw [Nat.add_zero] at c0
          obtain ⟨hb1, hb2⟩ := hbi.1 rfl
          have hnx : (l.getD k ByteArray.empty).size = (l.getD 0 ByteArray.empty).size → ∀ j, j < k + 1 → (l.getD j ByteArray.empty).size = (l.getD 0 ByteArray.empty).size := fun e j hj => by
            by_cases h : j < k
            · exact hb2 j h
            · rw [show j = k by omega]; exact e
          have hnn : (∀ j, j < k + 1 → (l.getD j ByteArray.empty).size = (l.getD 0 ByteArray.empty).size) → (l.getD k ByteArray.empty).size = (l.getD 0 ByteArray.empty).size := fun h => h k (by omega)
          generalize l.getD k ByteArray.empty = y at *
          generalize hy0 : l.getD 0 ByteArray.empty = y0 at *
          replace hy0 := Lib.hid hy0
          replace hnx := Lib.hid hnx
          replace hnn := Lib.hid hnn
          replace hbi := Lib.hid hbi
          replace hb2 := Lib.hid hb2
          replace hb1 := Lib.hid hb1
          clear hcm
          by_cases he : y.size = y0.size
          · have he' : ((y.size : Int) == (y0.size : Int)) = true := by rw [beq_iff_eq]; omega
            go_wp2
            go_quiet (fail)
            go_wp2
            go_roundw
            case rel => exact ⟨k + 1, _, true, by omega, by go_num, rfl, ⟨fun _ => ⟨hb1.out, hnx.out he⟩, fun _ => rfl⟩, by first | rfl | exact World.drewN_drewN _ _ _⟩
            case measure => simp [intOf]; omega
          · have he' : ((y.size : Int) == (y0.size : Int)) = false := by rw [beq_eq_false_iff_ne]; omega
            go_wp2
            go_quiet (fail)
            go_wp2
            go_roundw
            case rel => exact ⟨k + 1, _, false, by omega, by go_num, rfl, ⟨fun h => absurd h (by simp), fun h => absurd (hnn.out h.2) he⟩, by first | rfl | exact World.drewN_drewN _ _ _⟩
            case measure => simp [intOf]; omega
      · have hkl : k = l.length := by omega
        subst hkl
        have hlt' : ¬ (l.length : Int) < (l.length : Int) := by omega
        have t3 : b = true → ok = true := fun h => t2.out (hbi.1 h).1 (hbi.1 h).2
        have bd := below_drewN (Below.refl w4.heap.size w4) m
        replace hB := Lib.hid (hB.out.trans (bd.mono hB.out.size))
        replace hL := Lib.hid (hL.out.below bd (Nat.le_refl _))
        replace hbi := Lib.hid hbi
        clear bd
        generalize w4.drewN m = w5 at *
        cases ok
        · obtain rfl : b = false := by
            cases b
            · rfl
            · exact absurd (t3 rfl) (by simp)
          clear t3
          clear hL
          have K7 := implApartOk_any _ 3 3 [cA, cBA, cBB] _ (strs_new w5 [cA, cBA, cBB] #[.string cA, .string cBA, .string cBB] rfl) (by omega) (by decide)
          rw [apart_a] at K7
          replace K7 := Lib.hid K7
          replace hB := Lib.hid (hB.out.alloc hB.out.size (.cells #[.string cA, .string cBA, .string cBB] 9))
          go_wp2_with (fail)
          refine K7.out.mono ?_
          rintro e wx ⟨rfl, b⟩
          replace hB := Lib.hid (hB.out.trans (b.mono hB.out.size))
          clear b K7
          go_wp2
          go_ret
          exact ⟨rfl, hB.out⟩
        · obtain rfl := t1.out rfl
          have K6 := Lib.hid (C6.out w5 hL.out)
          clear t3
          go_wp2_with (fail)
          refine K6.out.mono ?_
          rintro e w6 ⟨rfl, b⟩
          replace hB := Lib.hid (hB.out.trans (b.mono hB.out.size))
          replace hL := Lib.hid (hL.out.below b (Nat.le_refl _))
          clear b K6
          cases b
          · clear hL
            have K7 := implApartOk_any _ 3 3 [cA, cBA, cBB] _ (strs_new w6 [cA, cBA, cBB] #[.string cA, .string cBA, .string cBB] rfl) (by omega) (by decide)
            rw [apart_a] at K7
            replace K7 := Lib.hid K7
            replace hB := Lib.hid (hB.out.alloc hB.out.size (.cells #[.string cA, .string cBA, .string cBB] 9))
            go_wp2_with (fail)
            refine K7.out.mono ?_
            rintro e wx ⟨rfl, b⟩
            replace hB := Lib.hid (hB.out.trans (b.mono hB.out.size))
            clear b K7
            go_wp2
            go_ret
            exact ⟨rfl, hB.out⟩
          · clear hL
            have K7 := implApartOk_any _ 3 3 [cA, cBA, cBB] _ (strs_new w6 [cA, cBA, cBB] #[.string cA, .string cBA, .string cBB] rfl) (by omega) (by decide)
            rw [apart_a] at K7
            replace K7 := Lib.hid K7
            replace hB := Lib.hid (hB.out.alloc hB.out.size (.cells #[.string cA, .string cBA, .string cBB] 9))
            go_wp2_with (fail)
            refine K7.out.mono ?_
            rintro e wx ⟨rfl, b⟩
            replace hB := Lib.hid (hB.out.trans (b.mono hB.out.size))
            clear b K7
            go_wp2
            go_ret
            exact ⟨rfl, hB.out⟩
  · have t1 : (1048576 : Int) < (n : Int) := by omega
    go_enter Try.func5, Try.ntmps5
    go_wp2
    go_ret
    exact ⟨rfl, Below.refl _ _⟩

set_option maxRecDepth 100000 in
theorem lifted (os : Os) (started : os.Started) (H : Type) (enc : TypeId × Value → H) :
    ReturnsInHanded {} Try.checked os 5 .any (Rows.fnApartOkSpec.pre6 enc Try.prog Try.f5 Rows.fnApartOkRow.domain false) (Rows.fnApartOkSpec.post enc Try.prog Try.f5 false true false false) := by
  refine returnsInHanded_of_change (C := Try.checked) own started (by kernel_rfl) Try.func5
    (ChangeSpec.witness6 (enc := enc) (C := Try.checked) false ⟨#[], #[.slice none 0 0], []⟩ 8 (by kernel_rfl) (by kernel_rfl) (by kernel_rfl) (by kernel_rfl)) ?_
  intro W base args ds gs before hval0 hW hcnd _
  have hval : ∀ (j : Nat) t v, Try.f5.params[j]? = some t → args[j]? = some v → Value.okWide Try.prog W .any base t v := hval0
  have hW' := hW
  obtain ⟨p, q, hA0, hV, rfl, hfz, hnd⟩ := hW
  have hA : DataW.TrodAll enc Try.prog W 0 (fun _ => true) true Try.f5.params.toList args.toList ds p := hA0
  rw [Try.params5] at hA hval
  obtain ⟨v0, vs0, d0, ds0, p0, q0, hargs, rfl, rfl, h0, r0⟩ := trodAll_cons hA
  obtain ⟨rfl, rfl, rfl⟩ := trodAll_nil r0
  obtain rfl : args = #[v0] := by cases args; simp_all
  obtain ⟨rfl, rfl⟩ := trodVars_none hV
  obtain ⟨a0, len0, cap0, rfl⟩ := okWide_slice Try.underlying22 (hval 0 22 v0 rfl rfl)
  have k0 := h0
  have lt0 : ∀ x ∈ p0, x.block < W.heap.size := by obtain ⟨m, hm⟩ := k0; exact DataW.trod_lt m _ _ _ hm
  obtain ⟨z0, s0, w0, m0⟩ : ∃ zs, Ints W .u8 a0 len0 cap0 zs ∧ (∀ n ∈ zs, (Lit.int .u8 n).wf = true) ∧ cap0 ≤ maxLen := by
    obtain ⟨fuel, hf⟩ := h0
    rcases open_ints Try.underlying22 Try.underlying5 (by kernel_rfl) hf with ⟨hcs, _⟩ | ⟨x, l, c, zs, hcs, _, hl, hm, hz, _, hcell, hwz⟩
    · simp [Value.cells] at hcs
      obtain ⟨rfl, rfl, rfl⟩ := hcs
      exact ⟨[], Ints.none_, by simp, Nat.zero_le _⟩
    · simp [Value.cells] at hcs
      obtain ⟨rfl, rfl, rfl⟩ := hcs
      exact ⟨_, Ints.of_row hl (by simpa using hz) hcell, fun n hn => hwz n (List.mem_of_mem_take hn), hm⟩
  clear hA0 hval0
  refine (walk W a0 len0 cap0 z0 s0 w0 m0).mono fun e W' ⟨he, bel⟩ => ?_
  subst he
  exact ⟨_, rfl, _, _, _, [], _, [], hW', trodAll_mk1 (shut_bool Try.underlying4 _), (trodAll_cons_mk (Below.trod laidOut (by kernel_rfl) (of_decide_eq_true (by kernel_rfl)) k0 bel lt0) trodAll_mk0), rfl, bel.frame _, fun h => by cases h⟩

theorem over : Rows.fnApartOkRow.holds Try.pinned (OpenSpec.ofChange Rows.fnApartOkSpec) :=
  OpenClaim.holds_of_wide 5 Try.f5 rfl rfl rfl rfl rfl rfl rfl ⟨rfl, rfl, rfl, rfl, rfl⟩ rfl rfl rfl rfl rfl (by kernel_rfl) Try.func5 (by kernel_rfl)
    (of_decide_eq_true (by kernel_rfl)) (by unfold Func.isWrapper; first | (rw [if_pos (by decide +kernel)]; kernel_rfl) | (rw [if_neg (by decide +kernel)]; exact ⟨rfl, rfl⟩))
    (fun os started H enc _ => lifted os started H enc)
theorem proved : Rows.FnApartOkSaid := over
end Go.Proofs.Ytbghgpgpljdjkaa.fnApartOk
