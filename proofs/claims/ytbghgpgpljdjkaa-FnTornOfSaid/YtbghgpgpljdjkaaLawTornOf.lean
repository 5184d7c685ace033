/-
  FnTornOf holds for every input: the drawn code and text are answered by TornOf as by its model; the words, one behind the other, are the text, and each is one of the code. No condition.
-/
import Derived.Test.YtbghgpgpljdjkaaRows
import Derived.Test.YtbghgpgpljdjkaaGA
import Derived.Test.YtbghgpgpljdjkaaW3
import Derived.Test.YtbghgpgpljdjkaaQ5
import Derived.Test.YtbghgpgpljdjkaaZ6
import Derived.Test.YtbghgpgpljdjkaaGN
import Derived.Test.YtbghgpgpljdjkaaMathJ
namespace Go.Proofs.Ytbghgpgpljdjkaa.fnTornOf
open Go.ChangeShapes Go.WideShapes Go.ChangeAt Go.RowKit
open Go.ChangeMaps (open_string shut_string)

theorem own : ownKnob Try.prog.godebug = none := by kernel_rfl
theorem laidOut : laidOutB Try.prog = true := by kernel_rfl

set_option maxRecDepth 100000 in
set_option maxHeartbeats 8000000 in
theorem walk (w : World) (A : Option Addr) (n c : Nat) (xs : List Int) (h : Ints w .u8 A n c xs) (hwf : ∀ x ∈ xs, (Lit.int .u8 x).wf = true) (hc : c ≤ maxLen) :
    Calls Try.prog 11 #[.slice A n c] w fun e w' => e = .returned (.bool true) ∧ Below w.heap.size w w' := by
  have hn : n ≤ 9223372036854775807 := by have := h.le; unfold maxLen at hc; omega
  by_cases hl : n ≤ 1048576
  · have HD := Lib.hid (drawTornOf_any A n c xs w h hl hwf hc)
    clear h hwf hc
    go_enter Try.func11, Try.ntmps11
    go_wp2_with (fail)
    refine HD.out.mono ?_
    rintro e w1 ⟨v, l, s, rfl, ho, hfw, hs200, hb⟩
    obtain ⟨A4, c4, rfl, hls⟩ := ho.strs
    have hl6 := hfw.1
    have hlz := Lib.hid (fun (x : ByteArray) (hx : x ∈ l) => show x.size ≤ 1048576 by have := hfw.2 x hx; omega)
    have hB := Lib.hid hb
    have hL := Lib.hid hls
    clear ho hfw hls hb HD
    have K1 := Lib.hid (implTornOf_any A4 _ c4 l s w1 hL.out (by omega) hlz.out (by omega))
    go_wp2_with (fail)
    refine K1.out.mono ?_
    rintro e w2 ⟨v2, rfl, o2, b⟩
    replace hB := Lib.hid (hB.out.trans (b.mono hB.out.size))
    replace hL := Lib.hid (hL.out.below b (Nat.le_refl _))
    clear b K1
    obtain ⟨A5, c5, rfl, s5⟩ := o2.strs
    have hR := Lib.hid s5
    clear o2 s5
    have K2 := Lib.hid (specTornOf_any A4 _ c4 l s w2 hL.out (by omega) hlz.out (by omega))
    go_wp2_with (fail)
    refine K2.out.mono ?_
    rintro e w3 ⟨v3, rfl, o3, b⟩
    replace hB := Lib.hid (hB.out.trans (b.mono hB.out.size))
    replace hL := Lib.hid (hL.out.below b (Nat.le_refl _))
    replace hR := Lib.hid (hR.out.below b (Nat.le_refl _))
    clear b K2
    obtain ⟨A6, c6, rfl, s6⟩ := o3.strs
    have r1 := torn_len l s
    have t1 := fun (h : tornB l s = false) => torn_none h
    have t2 := fun (h : tornB l s = true) => torn_facts h
    have KX := sameTexts_any A5 A6 _ c5 _ c6 (tornOf l s) (tornOf l s) w3 hR.out s6 (by omega) (by omega)
    rw [decide_eq_true rfl] at KX
    replace KX := Lib.hid KX
    clear s6 o3
    generalize tornOf l s = ws at *
    generalize tornB l s = ok at *
    have hne : (ok != ok) = false := by simp
    replace t1 := Lib.hid t1
    replace t2 := Lib.hid t2
    go_wp2_with (fail)
    refine KX.out.mono ?_
    rintro e _ ⟨rfl, m, rfl⟩
    have b := below_drewN (Below.refl w3.heap.size w3) m
    replace hB := Lib.hid (hB.out.trans (b.mono hB.out.size))
    replace hL := Lib.hid (hL.out.below b (Nat.le_refl _))
    replace hR := Lib.hid (hR.out.below b (Nat.le_refl _))
    generalize w3.drewN m = w4 at *
    clear b KX
    cases ok
    · obtain rfl := t1.out rfl
      have hl0 : (([] : List ByteArray).length : Int) = 0 := rfl
      clear hL hR
      go_wp2_with (fail)
      refine (alive_any _).mono ?_
      rintro e w9 ⟨rfl, b⟩
      replace hB := Lib.hid (hB.out.trans (b.mono hB.out.size))
      clear b
      go_wp2
      go_ret
      exact ⟨rfl, hB.out⟩
    · obtain ⟨hc, h24, hof, hfl⟩ := t2.out rfl
      have hl1 := (codeOk_iff.1 hc).1.1
      have g1 := Lib.hid (fun k (hk : k < ws.length) => torn_to hfl hk)
      have g2 := Lib.hid (torn_all hfl)
      have g3 := Lib.hid (fun k (hk : k < ws.length) => mem_getD (hof _ (getD_mem hk)))
      obtain ⟨bb, oo, rfl, -, hcm⟩ := hL.out.at_ (by omega)
      replace hc := Lib.hid hc
      replace hfl := Lib.hid hfl
      replace hof := Lib.hid hof
      replace hcm := Lib.hid hcm
      go_wp2
      go_loopw [9, 10, 11, 12] (fun s9 s10 s11 s12 wr => ∃ (k m : Nat) (x : ByteArray), k ≤ ws.length ∧ s10 = .int .i64 k ∧ s9 = .string x ∧ x = s.extract 0 ((ws.take k).map tl).flatten.length ∧ wr = w4.drewN m) (fun _ i _ _ _ => ws.length - (intOf i).toNat)
      case atStart => exact ⟨0, 0, ⟨#[]⟩, Nat.zero_le _, rfl, rfl, (extract_none s ws).symm, rfl⟩
      case round =>
        obtain ⟨k, m, x, hk, rfl, rfl, hx, rfl⟩ := hrel
        by_cases hlt : k < ws.length
        · have hlt' : (k : Int) < (ws.length : Int) := by omega
          have hto := g1.out k hlt
          obtain ⟨i, hi, hiy⟩ := g3.out k hlt
          obtain ⟨b2, o2, rfl, -, hcw⟩ := hR.out.at_ (by omega)
          have cw := hcw k hlt
          generalize ws.getD k ByteArray.empty = y at *
          replace hx := Lib.hid hx
          replace hto := Lib.hid hto
          replace hiy := Lib.hid hiy
          clear hcw
          go_wp2
          go_loopw [11, 12] (fun s11 s12 wx => ∃ (j m2 : Nat) (b : Bool), j ≤ l.length ∧ s12 = .int .i64 j ∧ s11 = .bool b ∧ (∀ i, i < j → l.getD i ByteArray.empty = y → b = true) ∧ wx = w4.drewN m2) (fun _ i _ => l.length - (intOf i).toNat)
          case atStart => exact ⟨0, m, false, Nat.zero_le _, rfl, rfl, fun i hi => absurd hi (by omega), rfl⟩
          case round =>
            obtain ⟨j, m2, b, hj, rfl, rfl, hbi, rfl⟩ := hrel
            by_cases hjt : j < l.length
            · have hjt' : (j : Int) < (l.length : Int) := by omega
              have cj := hcm.out j hjt
              cases b
              · have hj2 : ∀ i, i < j → l.getD i ByteArray.empty ≠ y := fun i hi e => absurd (hbi i hi e) (by simp)
                by_cases hjy : l.getD j ByteArray.empty = y
                · have hbn : ∀ i, i < j + 1 → l.getD i ByteArray.empty = y → true = true := fun _ _ _ => rfl
                  generalize l.getD j ByteArray.empty = z at *
                  have he : (z.toList == y.toList) = true := by rw [hjy]; simp
                  replace hjy := Lib.hid hjy
                  replace hj2 := Lib.hid hj2
                  clear hbi
                  go_wp2
                  go_quiet (fail)
                  go_wp2
                  go_roundw
                  case rel => exact ⟨j + 1, _, true, by omega, by go_num, rfl, fun _ _ _ => rfl, by first | rfl | exact World.drewN_drewN _ _ _⟩
                  case measure => simp [intOf]; omega
                · have hbn : ∀ i, i < j + 1 → l.getD i ByteArray.empty = y → false = true := fun i hi e => by
                    by_cases h : i < j
                    · exact absurd e (hj2 i h)
                    · rw [show i = j by omega] at e; exact absurd e hjy
                  generalize l.getD j ByteArray.empty = z at *
                  have he : (z.toList == y.toList) = false := by
                    rw [beq_eq_false_iff_ne]
                    intro e
                    rw [tl_is, tl_is] at e
                    exact hjy (tl_inj e)
                  replace hjy := Lib.hid hjy
                  replace hbn := Lib.hid hbn
                  replace hj2 := Lib.hid hj2
                  clear hbi
                  go_wp2
                  go_quiet (fail)
                  go_wp2
                  go_roundw
                  case rel => exact ⟨j + 1, _, false, by omega, by go_num, rfl, hbn.out, by first | rfl | exact World.drewN_drewN _ _ _⟩
                  case measure => simp [intOf]; omega
              · clear hbi
                go_wp2
                go_quiet (fail)
                go_wp2
                go_roundw
                case rel => exact ⟨j + 1, _, true, by omega, by go_num, rfl, fun _ _ _ => rfl, by first | rfl | exact World.drewN_drewN _ _ _⟩
                case measure => simp [intOf]; omega
            · have hjl : j = l.length := by omega
              subst hjl
              have hjt' : ¬ (l.length : Int) < (l.length : Int) := by omega
              obtain rfl : b = true := hbi i hi hiy.out
              have hsz : x.size + y.size ≤ 24 := by
                rw [← ByteArray.size_append, hx.out, hto.out, ByteArray.size_extract]; omega
              have hcat : ¬ (9223372036854775807 < x.size + y.size) := by omega
              clear hbi
              go_wp2
              go_roundw
              case rel => exact ⟨k + 1, _, x ++ y, by omega, by go_num, rfl, by rw [hx.out, hto.out], by first | rfl | exact World.drewN_drewN _ _ _⟩
              case measure => simp [intOf]; omega
        · have hkl : k = ws.length := by omega
          subst hkl
          have hlt' : ¬ (ws.length : Int) < (ws.length : Int) := by omega
          obtain rfl : x = s := hx.trans g2.out
          have hq : (x.toList == x.toList) = true := by simp
          replace hx := Lib.hid hx
          have bd := below_drewN (Below.refl w4.heap.size w4) m
          replace hB := Lib.hid (hB.out.trans (bd.mono hB.out.size))
          clear bd hL hR
          generalize w4.drewN m = w5 at *
          go_wp2_with (fail)
          refine (alive_any _).mono ?_
          rintro e w9 ⟨rfl, b⟩
          replace hB := Lib.hid (hB.out.trans (b.mono hB.out.size))
          clear b
          go_wp2
          go_ret
          exact ⟨rfl, hB.out⟩
  · have t1 : (1048576 : Int) < (n : Int) := by omega
    go_enter Try.func11, Try.ntmps11
    go_wp2
    go_ret
    exact ⟨rfl, Below.refl _ _⟩

set_option maxRecDepth 100000 in
theorem lifted (os : Os) (started : os.Started) (H : Type) (enc : TypeId × Value → H) :
    ReturnsInHanded {} Try.checked os 11 .any (Rows.fnTornOfSpec.pre6 enc Try.prog Try.f11 Rows.fnTornOfRow.domain false) (Rows.fnTornOfSpec.post enc Try.prog Try.f11 false true false false) := by
  refine returnsInHanded_of_change (C := Try.checked) own started (by kernel_rfl) Try.func11
    (ChangeSpec.witness6 (enc := enc) (C := Try.checked) false ⟨#[], #[.slice none 0 0], []⟩ 8 (by kernel_rfl) (by kernel_rfl) (by kernel_rfl) (by kernel_rfl)) ?_
  intro W base args ds gs before hval0 hW hcnd _
  have hval : ∀ (j : Nat) t v, Try.f11.params[j]? = some t → args[j]? = some v → Value.okWide Try.prog W .any base t v := hval0
  have hW' := hW
  obtain ⟨p, q, hA0, hV, rfl, hfz, hnd⟩ := hW
  have hA : DataW.TrodAll enc Try.prog W 0 (fun _ => true) true Try.f11.params.toList args.toList ds p := hA0
  rw [Try.params11] at hA hval
  obtain ⟨v0, vs0, d0, ds0, p0, q0, hargs, rfl, rfl, h0, r0⟩ := trodAll_cons hA
  obtain ⟨rfl, rfl, rfl⟩ := trodAll_nil r0
  obtain rfl : args = #[v0] := by cases args; simp_all
  obtain ⟨rfl, rfl⟩ := trodVars_none hV
  obtain ⟨a0, len0, cap0, rfl⟩ := okWide_slice Try.underlying22 (hval 0 22 v0 rfl rfl)
  have k0 := h0
  have lt0 : ∀ x ∈ p0, x.block < W.heap.size := by obtain ⟨m, hm⟩ := k0; exact DataW.trod_lt m _ _ _ hm
  obtain ⟨z0, s0, w0, m0⟩ : ∃ zs, Ints W .u8 a0 len0 cap0 zs ∧ (∀ n ∈ zs, (Lit.int .u8 n).wf = true) ∧ cap0 ≤ maxLen := by
    obtain ⟨fuel, hf⟩ := h0
    rcases open_ints Try.underlying22 Try.underlying5 (by kernel_rfl) hf with ⟨hcs, _⟩ | ⟨x, l, c, zs, hcs, _, hl, hm, hz, _, hcell, hwz⟩
    · simp [Value.cells] at hcs
      obtain ⟨rfl, rfl, rfl⟩ := hcs
      exact ⟨[], Ints.none_, by simp, Nat.zero_le _⟩
    · simp [Value.cells] at hcs
      obtain ⟨rfl, rfl, rfl⟩ := hcs
      exact ⟨_, Ints.of_row hl (by simpa using hz) hcell, fun n hn => hwz n (List.mem_of_mem_take hn), hm⟩
  clear hA0 hval0
  refine (walk W a0 len0 cap0 z0 s0 w0 m0).mono fun e W' ⟨he, bel⟩ => ?_
  subst he
  exact ⟨_, rfl, _, _, _, [], _, [], hW', trodAll_mk1 (shut_bool Try.underlying4 _), (trodAll_cons_mk (Below.trod laidOut (by kernel_rfl) (of_decide_eq_true (by kernel_rfl)) k0 bel lt0) trodAll_mk0), rfl, bel.frame _, fun h => by cases h⟩

theorem over : Rows.fnTornOfRow.holds Try.pinned (OpenSpec.ofChange Rows.fnTornOfSpec) :=
  OpenClaim.holds_of_wide 11 Try.f11 rfl rfl rfl rfl rfl rfl rfl ⟨rfl, rfl, rfl, rfl, rfl⟩ rfl rfl rfl rfl rfl (by kernel_rfl) Try.func11 (by kernel_rfl)
    (of_decide_eq_true (by kernel_rfl)) (by unfold Func.isWrapper; first | (rw [if_pos (by decide +kernel)]; kernel_rfl) | (rw [if_neg (by decide +kernel)]; exact ⟨rfl, rfl⟩))
    (fun os started H enc _ => lifted os started H enc)
theorem proved : Rows.FnTornOfSaid := over
end Go.Proofs.Ytbghgpgpljdjkaa.fnTornOf
