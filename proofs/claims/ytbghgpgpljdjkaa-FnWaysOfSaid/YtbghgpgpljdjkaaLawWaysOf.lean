/-
  FnWaysOf holds for every input: the drawn code and text are answered by WaysOf as by its model; it is the sum over the words with which the text begins, and at most 1 where the code can be read. No condition.
-/
import Derived.Test.YtbghgpgpljdjkaaRows
import Derived.Test.YtbghgpgpljdjkaaGA
import Derived.Test.YtbghgpgpljdjkaaW3
import Derived.Test.YtbghgpgpljdjkaaQ4
import Derived.Test.YtbghgpgpljdjkaaZ3
import Derived.Test.YtbghgpgpljdjkaaZ4
import Derived.Test.YtbghgpgpljdjkaaMathJ
namespace Go.Proofs.Ytbghgpgpljdjkaa.fnWaysOf
open Go.ChangeShapes Go.WideShapes Go.ChangeAt Go.RowKit
open Go.ChangeMaps (open_string shut_string)

theorem own : ownKnob Try.prog.godebug = none := by kernel_rfl
theorem laidOut : laidOutB Try.prog = true := by kernel_rfl

set_option maxRecDepth 100000 in
set_option maxHeartbeats 8000000 in
theorem walk (w : World) (A : Option Addr) (n c : Nat) (xs : List Int) (h : Ints w .u8 A n c xs) (hwf : ∀ x ∈ xs, (Lit.int .u8 x).wf = true) (hc : c ≤ maxLen) :
    Calls Try.prog 9 #[.slice A n c] w fun e w' => e = .returned (.bool true) ∧ Below w.heap.size w w' := by
  have hn : n ≤ 9223372036854775807 := by have := h.le; unfold maxLen at hc; omega
  by_cases hl : n ≤ 1048576
  · have HD := Lib.hid (drawWaysOf_any A n c xs w h hl hwf hc)
    clear h hwf hc
    go_enter Try.func9, Try.ntmps9
    go_wp2_with (fail)
    refine HD.out.mono ?_
    rintro e w1 ⟨v, l, s, rfl, ho, hfw, hs200, hb⟩
    obtain ⟨A4, c4, rfl, hls⟩ := ho.strs
    have hl6 := hfw.1
    have hlz := Lib.hid (fun (x : ByteArray) (hx : x ∈ l) => show x.size ≤ 1048576 by have := hfw.2 x hx; omega)
    have hB := Lib.hid hb
    have hL := Lib.hid hls
    clear ho hfw hls hb HD
    have K1 := Lib.hid (implWaysOf_any A4 _ c4 l s w1 hL.out (by omega) hlz.out (by omega))
    go_wp2_with (fail)
    refine K1.out.mono ?_
    rintro e w2 ⟨rfl, b⟩
    replace hB := Lib.hid (hB.out.trans (b.mono hB.out.size))
    replace hL := Lib.hid (hL.out.below b (Nat.le_refl _))
    clear b K1
    have K2 := Lib.hid (specWaysOf_any A4 _ c4 l s w2 hL.out (by omega) hlz.out (by omega))
    go_wp2_with (fail)
    refine K2.out.mono ?_
    rintro e w3 ⟨rfl, b⟩
    replace hB := Lib.hid (hB.out.trans (b.mono hB.out.size))
    replace hL := Lib.hid (hL.out.below b (Nat.le_refl _))
    clear b K2
    have CW := Lib.hid (fun (W : World) (t : ByteArray) (hs : Strs W A4 l.length c4 l) (hz : t.size ≤ 1048576) => implWaysOf_any A4 _ c4 l t W hs (by omega) hlz.out hz)
    have CR := Lib.hid (fun (W : World) (hs : Strs W A4 l.length c4 l) => implReadableOk_any A4 _ c4 l W hs (by omega) hlz.out)
    have f1 := Lib.hid (fun (h : waysV l s < 0) => ways_neg h)
    have f2 := Lib.hid (fun (h : 0 ≤ waysV l s) => ways_fine h)
    generalize hv : waysV l s = v at *
    replace hv := Lib.hid hv
    have hne : (v != v) = false := by simp
    by_cases hneg : v < 0
    · obtain rfl := f1.out hneg
      clear hL
      go_wp2_with (fail)
      refine (alive_any _).mono ?_
      rintro e w9 ⟨rfl, b⟩
      replace hB := Lib.hid (hB.out.trans (b.mono hB.out.size))
      clear b
      go_wp2
      go_ret
      exact ⟨rfl, hB.out⟩
    · obtain ⟨hc, h24, hvn⟩ := f2.out (by omega)
      by_cases h0 : s.size = 0
      · obtain rfl : s = ⟨#[]⟩ := tl_inj (List.eq_nil_of_length_eq_zero (by rw [tl_len]; exact h0))
        obtain rfl : v = 1 := hv.out.symm.trans (ways_empty hc)
        have hq : (ByteArray.toList ⟨#[]⟩ == ByteArray.toList ⟨#[]⟩) = true := by simp
        have hq2 : (ByteArray.toList ⟨#[]⟩).isEmpty = true := by rw [text_none]; exact decide_eq_true rfl
        clear hL hvn
        go_wp2_with (fail)
        refine (alive_any _).mono ?_
        rintro e w9 ⟨rfl, b⟩
        replace hB := Lib.hid (hB.out.trans (b.mono hB.out.size))
        clear b
        go_wp2
        go_ret
        exact ⟨rfl, hB.out⟩
      · have hs0 : s ≠ ByteArray.empty := fun e => h0 (by rw [e]; rfl)
        have hq : s.toList.isEmpty = false := by rw [text_none]; exact decide_eq_false hs0
        have hq2 : (s.toList == ByteArray.toList ⟨#[]⟩) = false := by
          rw [beq_eq_false_iff_ne]
          intro e
          rw [tl_is, tl_is] at e
          exact hs0 (tl_inj e)
        replace hs0 := Lib.hid hs0
        have g1 := Lib.hid (fun k (hk : k < l.length) => ways_step hc h24 hk)
        have g2 := Lib.hid (fun k (hk : k ≤ l.length) => wayTo_mono l s 0 k hk)
        have g3 := Lib.hid (ways_sum hc h0)
        have g4 := Lib.hid (wf_small hc h24 0)
        have g5 := Lib.hid (fun (h : readOk l = true) => read_ways h s)
        have hcl := Lib.hid (codeOk_iff.1 hc).1.1
        replace hvn := Lib.hid hvn
        replace hc := Lib.hid hc
        go_wp2
        go_loopw [6, 7] (fun s6 s7 wr => ∃ (k : Nat) (x : Int), k ≤ l.length ∧ s7 = .int .i64 k ∧ s6 = .int .i64 x ∧ x = (wayTo l s 0 k : Int) ∧ Below w3.heap.size w3 wr) (fun _ i _ => l.length - (intOf i).toNat)
        case atStart => exact ⟨0, 0, Nat.zero_le _, rfl, rfl, by rw [wayTo_zero]; rfl, Below.refl _ _⟩
        case round =>
          obtain ⟨k, x, hk, rfl, rfl, hx, hb⟩ := hrel
          by_cases hlt : k < l.length
          · have hlt' : (k : Int) < (l.length : Int) := by omega
            have hst := g1.out k hlt
            have hm := g2.out (k + 1) (by omega)
            have hm0 := g2.out k (by omega)
            have hg3 := g3.out
            have hg4 := g4.out
            rw [wf_zero] at hg4
            have hLr := hL.out.below hb (Nat.le_refl _)
            obtain ⟨bb, oo, rfl, -, hcm⟩ := hLr.at_ (by omega)
            have ck := hcm k hlt
            have CWk := Lib.hid (fun (W : World) (hb' : Below wr.heap.size wr W) => CW.out W (s.extract (l.getD k ByteArray.empty).size s.size) (hLr.below hb' (Nat.le_refl _)) (by rw [ByteArray.size_extract]; omega))
            have hfit := fits_take (s := s) (u := l.getD k ByteArray.empty)
            generalize l.getD k ByteArray.empty = y at *
            generalize waysV l (s.extract y.size s.size) = u at *
            clear hcm hLr
            replace hb := Lib.hid hb
            by_cases h1 : y.size ≤ s.size
            · have h1' : (y.size : Int) ≤ (s.size : Int) := by omega
              have h1z : (0 : Int) ≤ (y.size : Int) := by omega
              have h1d : decide ((y.size : Int) ≤ (s.size : Int)) = true := decide_eq_true h1'
              by_cases h2 : s.extract 0 y.size = y
              · have he : ((s.extract 0 y.size).toList == y.toList) = true := by rw [h2]; simp
                rw [if_pos (hfit.2 ⟨h1, h2⟩)] at hst
                have hxu : x + u = (wayTo l s 0 (k + 1) : Int) := by rw [hst, hx]
                have e1 : IntKind.i64.wrap (x + u) = x + u := IntWalk.i64_in _ (by omega)
                replace h2 := Lib.hid h2
                replace hst := Lib.hid hst
                replace hx := Lib.hid hx
                replace hxu := Lib.hid hxu
                replace hfit := Lib.hid hfit
                replace hg3 := Lib.hid hg3
                clear hm hm0 hg4
                go_wp2
                go_quiet (fail)
                go_wp2_with (fail)
                refine (CWk.out _ (below_drewN (Below.refl _ _) _)).mono ?_
                rintro e w5 ⟨rfl, b5⟩
                have hb5 := Lib.hid ((below_drewN hb.out nq).trans (b5.mono (below_drewN hb.out nq).size))
                clear b5
                go_wp2
                go_roundw
                case rel => exact ⟨k + 1, x + u, by omega, by go_num, rfl, hxu.out, hb5.out⟩
                case measure => simp [intOf]; omega
              · have he : ((s.extract 0 y.size).toList == y.toList) = false := by
                  rw [beq_eq_false_iff_ne]
                  intro e
                  rw [tl_is, tl_is] at e
                  exact h2 (tl_inj e)
                have hn2 : ¬ fitsAt s 0 y = true := fun h => h2 (hfit.1 h).2
                rw [if_neg hn2, Int.add_zero] at hst
                replace h2 := Lib.hid h2
                replace hn2 := Lib.hid hn2
                replace hst := Lib.hid hst
                replace hx := Lib.hid hx
                replace hfit := Lib.hid hfit
                replace hg3 := Lib.hid hg3
                clear hm hm0 hg4
                go_wp2
                go_quiet (fail)
                go_wp2
                go_roundw
                case rel => exact ⟨k + 1, x, by omega, by go_num, rfl, by rw [hst.out, hx.out], below_drewN hb.out _⟩
                case measure => simp [intOf]; omega
            · have h1' : ¬ (y.size : Int) ≤ (s.size : Int) := by omega
              have h1d : decide ((y.size : Int) ≤ (s.size : Int)) = false := decide_eq_false h1'
              have hn2 : ¬ fitsAt s 0 y = true := fun h => h1 (hfit.1 h).1
              rw [if_neg hn2, Int.add_zero] at hst
              replace hn2 := Lib.hid hn2
              replace hst := Lib.hid hst
              replace hx := Lib.hid hx
              replace hfit := Lib.hid hfit
              replace hg3 := Lib.hid hg3
              clear hm hm0 hg4
              go_wp2
              go_quiet (fail)
              go_wp2
              go_roundw
              case rel => exact ⟨k + 1, x, by omega, by go_num, rfl, by rw [hst.out, hx.out], below_drewN hb.out _⟩
              case measure => simp [intOf]; omega
          · have hkl : k = l.length := by omega
            subst hkl
            have hlt' : ¬ (l.length : Int) < (l.length : Int) := by omega
            have hg3 := g3.out
            have hvn' := hvn.out
            obtain rfl : x = v := by omega
            have hxx : (x == x) = true := by simp
            have hx1 : x ≤ 1 ∨ readOk l = false := by
              cases hr : readOk l
              · exact .inr rfl
              · have := g5.out hr; exact .inl (by omega)
            replace hg3 := Lib.hid hg3
            replace hvn' := Lib.hid hvn'
            replace hx := Lib.hid hx
            replace hB := Lib.hid (hB.out.trans (hb.mono hB.out.size))
            replace hL := Lib.hid (hL.out.below hb (Nat.le_refl _))
            clear hb
            by_cases h1 : x ≤ 1
            · clear hL hx1
              go_wp2_with (fail)
              refine (alive_any _).mono ?_
              rintro e w9 ⟨rfl, b⟩
              replace hB := Lib.hid (hB.out.trans (b.mono hB.out.size))
              clear b
              go_wp2
              go_ret
              exact ⟨rfl, hB.out⟩
            · have K6 := CR.out wr hL.out
              rw [hx1.resolve_left h1] at K6
              replace K6 := Lib.hid K6
              replace hx1 := Lib.hid hx1
              go_wp2_with (fail)
              refine K6.out.mono ?_
              rintro e w6 ⟨rfl, b⟩
              replace hB := Lib.hid (hB.out.trans (b.mono hB.out.size))
              clear b K6
              go_wp2_with (fail)
              refine (alive_any _).mono ?_
              rintro e w9 ⟨rfl, b⟩
              replace hB := Lib.hid (hB.out.trans (b.mono hB.out.size))
              clear b
              go_wp2
              go_ret
              exact ⟨rfl, hB.out⟩
  · have t1 : (1048576 : Int) < (n : Int) := by omega
    go_enter Try.func9, Try.ntmps9
    go_wp2
    go_ret
    exact ⟨rfl, Below.refl _ _⟩

set_option maxRecDepth 100000 in
theorem lifted (os : Os) (started : os.Started) (H : Type) (enc : TypeId × Value → H) :
    ReturnsInHanded {} Try.checked os 9 .any (Rows.fnWaysOfSpec.pre6 enc Try.prog Try.f9 Rows.fnWaysOfRow.domain false) (Rows.fnWaysOfSpec.post enc Try.prog Try.f9 false true false false) := by
  refine returnsInHanded_of_change (C := Try.checked) own started (by kernel_rfl) Try.func9
    (ChangeSpec.witness6 (enc := enc) (C := Try.checked) false ⟨#[], #[.slice none 0 0], []⟩ 8 (by kernel_rfl) (by kernel_rfl) (by kernel_rfl) (by kernel_rfl)) ?_
  intro W base args ds gs before hval0 hW hcnd _
  have hval : ∀ (j : Nat) t v, Try.f9.params[j]? = some t → args[j]? = some v → Value.okWide Try.prog W .any base t v := hval0
  have hW' := hW
  obtain ⟨p, q, hA0, hV, rfl, hfz, hnd⟩ := hW
  have hA : DataW.TrodAll enc Try.prog W 0 (fun _ => true) true Try.f9.params.toList args.toList ds p := hA0
  rw [Try.params9] at hA hval
  obtain ⟨v0, vs0, d0, ds0, p0, q0, hargs, rfl, rfl, h0, r0⟩ := trodAll_cons hA
  obtain ⟨rfl, rfl, rfl⟩ := trodAll_nil r0
  obtain rfl : args = #[v0] := by cases args; simp_all
  obtain ⟨rfl, rfl⟩ := trodVars_none hV
  obtain ⟨a0, len0, cap0, rfl⟩ := okWide_slice Try.underlying22 (hval 0 22 v0 rfl rfl)
  have k0 := h0
  have lt0 : ∀ x ∈ p0, x.block < W.heap.size := by obtain ⟨m, hm⟩ := k0; exact DataW.trod_lt m _ _ _ hm
  obtain ⟨z0, s0, w0, m0⟩ : ∃ zs, Ints W .u8 a0 len0 cap0 zs ∧ (∀ n ∈ zs, (Lit.int .u8 n).wf = true) ∧ cap0 ≤ maxLen := by
    obtain ⟨fuel, hf⟩ := h0
    rcases open_ints Try.underlying22 Try.underlying5 (by kernel_rfl) hf with ⟨hcs, _⟩ | ⟨x, l, c, zs, hcs, _, hl, hm, hz, _, hcell, hwz⟩
    · simp [Value.cells] at hcs
      obtain ⟨rfl, rfl, rfl⟩ := hcs
      exact ⟨[], Ints.none_, by simp, Nat.zero_le _⟩
    · simp [Value.cells] at hcs
      obtain ⟨rfl, rfl, rfl⟩ := hcs
      exact ⟨_, Ints.of_row hl (by simpa using hz) hcell, fun n hn => hwz n (List.mem_of_mem_take hn), hm⟩
  clear hA0 hval0
  refine (walk W a0 len0 cap0 z0 s0 w0 m0).mono fun e W' ⟨he, bel⟩ => ?_
  subst he
  exact ⟨_, rfl, _, _, _, [], _, [], hW', trodAll_mk1 (shut_bool Try.underlying4 _), (trodAll_cons_mk (Below.trod laidOut (by kernel_rfl) (of_decide_eq_true (by kernel_rfl)) k0 bel lt0) trodAll_mk0), rfl, bel.frame _, fun h => by cases h⟩

theorem over : Rows.fnWaysOfRow.holds Try.pinned (OpenSpec.ofChange Rows.fnWaysOfSpec) :=
  OpenClaim.holds_of_wide 9 Try.f9 rfl rfl rfl rfl rfl rfl rfl ⟨rfl, rfl, rfl, rfl, rfl⟩ rfl rfl rfl rfl rfl (by kernel_rfl) Try.func9 (by kernel_rfl)
    (of_decide_eq_true (by kernel_rfl)) (by unfold Func.isWrapper; first | (rw [if_pos (by decide +kernel)]; kernel_rfl) | (rw [if_neg (by decide +kernel)]; exact ⟨rfl, rfl⟩))
    (fun os started H enc _ => lifted os started H enc)
theorem proved : Rows.FnWaysOfSaid := over
end Go.Proofs.Ytbghgpgpljdjkaa.fnWaysOf
