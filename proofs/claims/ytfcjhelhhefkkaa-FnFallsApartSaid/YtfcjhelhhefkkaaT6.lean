/-
  The program's SaidAgain.
-/
import Derived.Test.YtfcjhelhhefkkaaT4
import Derived.Test.YtfcjhelhhefkkaaS6
namespace Go.Proofs.Ytfcjhelhhefkkaa
open Go.RowKit

theorem again_fail {l : List UInt8} {n : Int} {k : Nat} (hk : (k : Int) ≤ n) (h : agN l k = none) : againL l n = none := by
  unfold againL
  split
  · exact agN_none h _ (by omega)
  · rfl
theorem again_lost {l x : List UInt8} {k : Nat} (h : agN l k = some x) (hy : saidL x = none) : agN l (k + 1) = none := by rw [agN_succ, h]; exact hy
/-- What stands in the variables behind k times. -/
inductive Now (l : List UInt8) (k : Nat) : Value → Value → Prop
  | told {x : List UInt8} (h : agN l k = some x) : Now l k (.string (strOf x)) (.bool true)
  | lost (h : agN l k = none) : Now l k (.string ⟨#[]⟩) (.bool false)

set_option maxRecDepth 100000 in
set_option maxHeartbeats 4000000 in
theorem implSaidAgain_any (s : ByteArray) (n : Int) (w : World) (hs : s.size ≤ 2097152) :
    Calls Try.prog 32 #[.string s, .int .i64 n] w fun e w' => e = .returned (optV (againL (tl s) n)) ∧ Below w.heap.size w w' := by
  have hR := implRowOk_any s w hs
  cases hrow : rowL (tl s)
  · have hE := Lib.hid (again_no (n := n) hrow)
    rw [hrow] at hR
    replace hrow := Lib.hid hrow
    go_enter Try.func32, Try.ntmps32
    go_wp2_with (fail)
    refine hR.mono ?_
    rintro e W ⟨rfl, hB⟩
    go_wp2
    refine wp_loop_rounds 1 ?_
    rw [rounds_succ]
    go_wp2
    go_ret2
    exact ⟨by rw [hE.out]; rfl, hB⟩
  · rw [hrow] at hR
    by_cases hn : 0 ≤ n ∧ n ≤ 10
    · obtain ⟨N, rfl⟩ : ∃ N : Nat, n = (N : Int) := ⟨n.toNat, by omega⟩
      have hN : N ≤ 10 := by omega
      have hst := Lib.hid (fun k (h : k ≤ N) => again_fail (l := tl s) (n := (N : Int)) (k := k) (by omega))
      have hen := Lib.hid (fun x => again_end (x := x) hrow hN)
      have har := Lib.hid (fun k x => agN_row (x := x) hrow k)
      have d1 : decide ((0 : Int) ≤ (N : Int)) = true := decide_eq_true (by omega)
      have d2 : decide ((N : Int) ≤ 10) = true := decide_eq_true (by omega)
      replace hrow := Lib.hid hrow
      clear hn
      go_enter Try.func32, Try.ntmps32
      go_wp2_with (fail)
      refine hR.mono ?_
      rintro e W ⟨rfl, hB0⟩
      have hB := Lib.hid hB0
      clear hB0 hR
      go_wp2
      have h00 : strOf (tl s) = s := strOf_of s
      have ha0 : Now (tl s) 0 (.string s) (.bool true) := by
        have := Now.told (l := tl s) (k := 0) (x := tl s) rfl
        rwa [h00] at this
      replace h00 := Lib.hid h00
      replace ha0 := Lib.hid ha0
      go_loopw [0, 6, 7] (fun o b i wr => ∃ k : Nat, k ≤ N ∧ Now (tl s) k o b ∧ i = .int .i64 k ∧ Below w.heap.size w wr) (fun _ b i _ => N + 1 - (intOf i).toNat)
      case atStart => exact ⟨0, Nat.zero_le _, ha0.out, rfl, hB.out⟩
      case round =>
        obtain ⟨k, hk, hnow, rfl, hb⟩ := hrel
        cases hnow with
        | told ha =>
          rename_i x
          by_cases hlt : k < N
          · have hx := har.out k x ha
            have KS := implSaidOf_any (strOf x) wr (by rw [strOf_size]; have := row_len hx; omega)
            rw [strOf_tl] at KS
            replace ha := Lib.hid ha
            replace hb := Lib.hid hb
            clear hx
            cases hsd : saidL x with
            | none =>
              have hE : Hid (Now (tl s) (k + 1) (.string ⟨#[]⟩) (.bool false)) := Now.lost (again_lost ha.out hsd)
              rw [hsd, optV_none] at KS
              replace hsd := Lib.hid hsd
              go_wp2_with (fail)
              refine KS.mono ?_
              rintro e W2 ⟨rfl, b2⟩
              replace hb := Lib.hid (hb.out.trans (b2.mono hb.out.size))
              clear b2
              go_wp2
              go_roundw
              case rel => exact ⟨k + 1, by omega, hE.out, by go_num, hb.out⟩
              case measure => simp [intOf]; omega
            | some y =>
              have hE : Hid (Now (tl s) (k + 1) (.string (strOf y)) (.bool true)) := Now.told (again_go ha.out hsd)
              rw [hsd, optV_some] at KS
              replace hsd := Lib.hid hsd
              go_wp2_with (fail)
              refine KS.mono ?_
              rintro e W2 ⟨rfl, b2⟩
              replace hb := Lib.hid (hb.out.trans (b2.mono hb.out.size))
              clear b2
              go_wp2
              go_roundw
              case rel => exact ⟨k + 1, by omega, hE.out, by go_num, hb.out⟩
              case measure => simp [intOf]; omega
          · obtain rfl : k = N := by omega
            have hE := Lib.hid (hen.out x ha)
            replace ha := Lib.hid ha
            replace hb := Lib.hid hb
            go_wp2
            go_ret2
            exact ⟨by rw [hE.out]; rfl, hb.out⟩
        | lost ha =>
          have hE := Lib.hid (hst.out k hk ha)
          replace ha := Lib.hid ha
          replace hb := Lib.hid hb
          go_wp2
          go_ret2
          exact ⟨by rw [hE.out]; rfl, hb.out⟩
    · have hE := Lib.hid (again_out (l := tl s) hn)
      by_cases h0 : 0 ≤ n
      · have h10 : ¬ n ≤ 10 := by omega
        replace hrow := Lib.hid hrow
        replace hn := Lib.hid hn
        go_enter Try.func32, Try.ntmps32
        go_wp2_with (fail)
        refine hR.mono ?_
        rintro e W ⟨rfl, hB⟩
        go_wp2
        refine wp_loop_rounds 1 ?_
        rw [rounds_succ]
        go_wp2
        go_ret2
        exact ⟨by rw [hE.out]; rfl, hB⟩
      · replace hrow := Lib.hid hrow
        replace hn := Lib.hid hn
        go_enter Try.func32, Try.ntmps32
        go_wp2_with (fail)
        refine hR.mono ?_
        rintro e W ⟨rfl, hB⟩
        go_wp2
        refine wp_loop_rounds 1 ?_
        rw [rounds_succ]
        go_wp2
        go_ret2
        exact ⟨by rw [hE.out]; rfl, hB⟩
end Go.Proofs.Ytfcjhelhhefkkaa
