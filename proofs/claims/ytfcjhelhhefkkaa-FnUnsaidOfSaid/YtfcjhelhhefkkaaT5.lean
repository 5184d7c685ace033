/-
  The program's UnsaidOf.
-/
import Derived.StillTailTactics
import Derived.Test.YtfcjhelhhefkkaaT4
import Derived.Test.YtfcjhelhhefkkaaS5
namespace Go.Proofs.Ytfcjhelhhefkkaa
open Go Go.RowKit Go.Shelf

theorem repL_one (b : UInt8) : ∀ n, Lib.repeatL [b] n = List.replicate n b := by
  intro n
  induction n with
  | zero => rfl
  | succ n ih => rw [Lib.repeatL, ih, List.replicate_succ]; rfl
theorem ext_one {s : ByteArray} {k : Nat} (h : k < s.size) : tl (s.extract k (k + 1)) = [s[k]] := by
  have h2 : k < (tl s).length := by rw [tl_len]; exact h
  rw [tl_ext, List.drop_eq_getElem_cons h2, show k + 1 - k = 1 by omega]
  simp [tl, ByteArray.getElem_eq_getElem_data]

set_option maxRecDepth 100000 in
set_option maxHeartbeats 4000000 in
theorem implUnsaidOf_any (s : ByteArray) (w : World) (hs : s.size ≤ 2097152) :
    Calls Try.prog 28 #[.string s] w fun e w' => e = .returned (optV (unsaidL (tl s))) ∧ Below w.heap.size w w' := by
  have hR := implRowOk_any s w hs
  cases hrow : rowL (tl s)
  · have hE := Lib.hid (unsaidL_no hrow)
    rw [hrow] at hR
    replace hrow := Lib.hid hrow
    go_enter Try.func28, Try.ntmps28
    go_wp2_with (fail)
    refine hR.mono ?_
    rintro e W ⟨rfl, hB⟩
    go_wp2
    go_ret2
    exact ⟨by rw [hE.out]; rfl, hB⟩
  · have h60 := row_len hrow
    rw [tl_len] at h60
    rw [hrow] at hR
    have hdig := fun k (h : k < s.size) => row_mem hrow (show s[k] ∈ tl s from List.getElem_mem (by rw [tl_len]; exact h))
    have hbl := backTo_len (l := tl s) (fun b hb => (row_mem hrow hb).2)
    rw [tl_len] at hbl
    have hY := Lib.hid (unsaidL_yes hrow)
    have hO := Lib.hid (unsaidL_other (l := tl s))
    replace hdig := Lib.hid hdig
    replace hrow := Lib.hid hrow
    go_enter Try.func28, Try.ntmps28
    go_wp2_with (fail)
    refine hR.mono ?_
    rintro e W ⟨rfl, hB⟩
    have hw1 := hB.size
    have hX0 := Lib.hid (Bl.new W)
    have hB0 := Lib.hid (hB.alloc hB.size (.cells #[.pointer none, .slice none 0 0] 67))
    clear hR hB
    go_wp2
    go_loopw [5] (fun k wr => ∃ i : Nat, 2 * i ≤ s.size ∧ k = .int .i64 ((2 * i + 1 : Nat) : Int) ∧ Bl W.heap.size W.heap.size (backTo (tl s) i) wr ∧ Below w.heap.size w wr ∧ W.heap.size ≤ wr.heap.size) (fun k _ => s.size + 1 - (intOf k).toNat)
    case atStart => exact ⟨0, Nat.zero_le _, rfl, by rw [backTo_zero]; exact hX0.out, hB0.out, by simp⟩
    case round =>
      obtain ⟨i, hi, rfl, hbd, hb, hsz⟩ := hrel
      by_cases hlt : 2 * i + 1 < s.size
      · have h2i : 2 * i < s.size := by omega
        have hd1 := hdig.out (2 * i) h2i
        have hgo := backTo_go (l := tl s) (i := i) (by rw [tl_len]; exact hlt)
        rw [tl_get h2i, tl_get hlt] at hgo
        have hln := hbl i (by omega)
        obtain ⟨T, hT⟩ : ∃ T, T = s[2 * i].toNat - 48 := ⟨_, rfl⟩
        have hT9 : T ≤ 9 := by omega
        have hTi : ((s[2 * i]).toNat : Int) - 48 = (T : Int) := by omega
        have hw0 : IntKind.i64.wrap ((s[2 * i]).toNat : Int) = ((s[2 * i]).toNat : Int) := IntWalk.i64_in _ (by omega)
        have hw64 : IntKind.i64.wrap (T : Int) = (T : Int) := IntWalk.i64_in _ (by omega)
        have hwi : IntKind.i64.wrap (2 * (i : Int)) = 2 * (i : Int) := IntWalk.i64_in _ (by omega)
        have hwj : IntKind.i64.wrap (2 * (i : Int) + 1 + 1) = 2 * (i : Int) + 1 + 1 := IntWalk.i64_in _ (by omega)
        rw [← hT] at hgo
        have he1 := ext_one hlt
        have hsx : (s.extract (2 * i + 1) (2 * i + 1 + 1)).size = 1 := by rw [← tl_len, he1]; rfl
        have KR := fun W' => repeat_any (s.extract (2 * i + 1) (2 * i + 1 + 1)) T W' (by omega) (by omega)
        have hrep : Lib.repeatL (s.extract (2 * i + 1) (2 * i + 1 + 1)).data.toList T = List.replicate T s[2 * i + 1] := by
          rw [show (s.extract (2 * i + 1) (2 * i + 1 + 1)).data.toList = [s[2 * i + 1]] from he1, repL_one]
        rw [hrep] at KR
        have KW := fun W' h hB => wstr_any W.heap.size W.heap.size (backTo (tl s) i) (strOf (List.replicate T s[2 * i + 1])) W' h (by rw [strOf_size, List.length_replicate]; omega) hB
        have hst : (strOf (List.replicate T s[2 * i + 1])).data.toList = List.replicate T s[2 * i + 1] := strOf_tl _
        rw [hst, ← hgo] at KW
        have f0 : (2 * (i : Int) + 1).toNat = 2 * i + 1 := by omega
        have f4 : (2 * (i : Int) + 1 + 1).toNat = 2 * i + 1 + 1 := by omega
        have f5 : (2 * (i : Int)).toNat = 2 * i := by omega
        have g1 : 2 * (i : Int) + 1 ≤ (s.size : Int) := by omega
        have g2 : 2 * (i : Int) + 1 + 1 ≤ (s.size : Int) := by omega
        have g3 : (0 : Int) ≤ 2 * (i : Int) + 1 := by omega
        have g5 : 2 * (i : Int) + 1 ≤ 2 * (i : Int) + 1 + 1 := by omega
        have g6 : 2 * (i : Int) < (s.size : Int) := by omega
        have g7 : (0 : Int) ≤ 2 * (i : Int) := by omega
        have g8 : 2 * (i : Int) + 1 < (s.size : Int) := by omega
        have g9 : 2 * (i : Int) + 1 - 1 = 2 * (i : Int) := by omega
        replace KR := Lib.hid KR
        replace KW := Lib.hid KW
        replace hb := Lib.hid hb
        replace hbd := Lib.hid hbd
        replace hT := Lib.hid hT
        clear hgo hd1 he1 hrep hst
        go_upto_region 7 with (fail)
        go_still_tail 11, (by kernel_rfl)
        change wpList _ _ _ _ _ wr.drew
        have hbdV : Hid (Bl W.heap.size W.heap.size (backTo (tl s) i) wr.drew) := hbd.out
        have hbV := Lib.hid (hb.out.drew)
        have hszV : W.heap.size ≤ wr.drew.heap.size := hsz
        clear hbd hb hsz
        generalize wr.drew = V at *
        go_wp2_with (fail)
        refine (KR.out V).mono ?_
        rintro e V2 ⟨rfl, b2⟩
        have hbd2 := Lib.hid (hbdV.out.below b2)
        have hs2 := b2.size
        have hb2 := Lib.hid (hbV.out.trans (b2.mono (by omega)))
        replace KW := Lib.hid (KW.out V2 hbd2.out (by omega))
        change Hid (Calls _ _ #[_, .string (strOf (List.replicate T s[2 * i + 1]))] _ _) at KW
        have hcon : (⟨(List.replicate T s[2 * i + 1]).toArray⟩ : ByteArray) = strOf (List.replicate T s[2 * i + 1]) := rfl
        rw [hcon]
        replace hcon := Lib.hid hcon
        generalize strOf (List.replicate T s[2 * i + 1]) = st at *
        clear b2
        go_wp2_with (fail)
        refine KW.out.mono ?_
        rintro e V3 ⟨rfl, h3, b3, -⟩
        have hs3 := b3.size
        have hb3 := hb2.out.trans (b3.mono (by omega))
        clear b3 KW
        go_wp2
        go_roundw
        case rel => exact ⟨i + 1, by omega, by go_num, h3, hb3, by omega⟩
        case measure => simp [intOf]; omega
      · have hfin : backTo (tl s) i = putBack (tl s) := backTo_end (by rw [tl_len]; omega)
        rw [hfin] at hbd
        have hpl : (putBack (tl s)).length ≤ 9 * i := by rw [← hfin]; exact hbl i hi
        generalize putBack (tl s) = p at *
        have K1 := Lib.hid (bstr_any W.heap.size W.heap.size p wr hbd (by omega))
        have KS := Lib.hid (fun W' => implSaidOf_any (strOf p) W' (by rw [strOf_size]; omega))
        replace hb := Lib.hid hb
        clear hfin hbd
        go_wp2_with (fail)
        refine K1.out.mono ?_
        rintro e V ⟨rfl, hbV, b2, -⟩
        have hs2 := b2.size
        replace hb := Lib.hid (hb.out.trans (b2.mono (by omega)))
        replace hbV := Lib.hid hbV
        have K2 := KS.out V
        rw [strOf_tl] at K2
        clear b2 KS K1
        by_cases hsd : saidL p = some (tl s)
        · have hE := Lib.hid (hY.out hsd)
          rw [hsd, optV_some, strOf_of] at K2
          have he : (s.toList == s.toList) = true := by rw [str_eq]; exact decide_eq_true rfl
          replace hsd := Lib.hid hsd
          go_wp2_with (fail)
          refine K2.mono ?_
          rintro e V2 ⟨rfl, b3⟩
          have hs3 := b3.size
          have hbd3 := hbV.out.below b3
          have K3 := Lib.hid (bstr_any W.heap.size W.heap.size p V2 hbd3 (by omega))
          replace hb := Lib.hid (hb.out.trans (b3.mono (by omega)))
          clear b3 K2 hbd3
          go_wp2_with (fail)
          refine K3.out.mono ?_
          rintro e V3 ⟨rfl, -, b4, -⟩
          replace hb := Lib.hid (hb.out.trans (b4.mono (by omega)))
          clear b4
          go_wp2
          go_ret2
          exact ⟨by rw [hE.out]; rfl, hb.out⟩
        · have hE := Lib.hid (hO.out hsd)
          cases hq : saidL p with
          | none =>
            rw [hq, optV_none] at K2
            replace hq := Lib.hid hq
            replace hsd := Lib.hid hsd
            go_wp2_with (fail)
            refine K2.mono ?_
            rintro e V2 ⟨rfl, b3⟩
            replace hb := Lib.hid (hb.out.trans (b3.mono (by omega)))
            clear b3
            go_wp2
            go_ret2
            exact ⟨by rw [hE.out]; rfl, hb.out⟩
          | some x =>
            rw [hq, optV_some] at K2
            have he : ((strOf x).toList == s.toList) = false := by
              rw [str_eq]; exact decide_eq_false fun e => hsd (by rw [hq, ← e, strOf_tl])
            replace hq := Lib.hid hq
            replace hsd := Lib.hid hsd
            generalize strOf x = xs at *
            go_wp2_with (fail)
            refine K2.mono ?_
            rintro e V2 ⟨rfl, b3⟩
            replace hb := Lib.hid (hb.out.trans (b3.mono (by omega)))
            clear b3
            go_wp2
            go_ret2
            exact ⟨by rw [hE.out]; rfl, hb.out⟩
end Go.Proofs.Ytfcjhelhhefkkaa
