/-
  The contracts of SaidAgain and FallsApart of the model.
-/
import Derived.Test.YtfcjhelhhefkkaaS4
namespace Go.Proofs.Ytfcjhelhhefkkaa
open Go.RowKit Go.Lib

theorem again_go {l x y : List UInt8} {k : Nat} (h : agN l k = some x) (hy : saidL x = some y) : agN l (k + 1) = some y := by rw [agN_succ, h]; exact hy
theorem again_stop {l x : List UInt8} {n : Int} {k : Nat} (hk : (k : Int) < n) (h : agN l k = some x) (hy : saidL x = none) : againL l n = none := by
  unfold againL
  split
  · exact agN_none (k := k + 1) (by rw [agN_succ, h]; exact hy) _ (by omega)
  · rfl
theorem again_end {l x : List UInt8} {k : Nat} (hr : rowL l = true) (hk : k ≤ 10) (h : agN l k = some x) : againL l k = some x := by
  rw [again_in hr (by omega), Int.toNat_natCast]; exact h

set_option maxRecDepth 100000 in
set_option maxHeartbeats 4000000 in
theorem specSaidAgain_any (s : ByteArray) (n : Int) (w : World) (hs : s.size ≤ 2097152) :
    Calls Try.prog 33 #[.string s, .int .i64 n] w fun e w' => e = .returned (optV (againL (tl s) n)) ∧ Below w.heap.size w w' := by
  have hR := specRowOk_any s w hs
  cases hrow : rowL (tl s)
  · have hE := Lib.hid (again_no (n := n) hrow)
    rw [hrow] at hR
    replace hrow := Lib.hid hrow
    go_enter Try.func33, Try.ntmps33
    go_wp2_with (fail)
    refine hR.mono ?_
    rintro e _ ⟨rfl, m, rfl⟩
    go_wp2
    go_ret2
    exact ⟨by rw [hE.out]; rfl, below_drewN (Below.refl _ _) m⟩
  · rw [hrow] at hR
    by_cases hn : 0 ≤ n ∧ n ≤ 10
    · obtain ⟨N, rfl⟩ : ∃ N : Nat, n = (N : Int) := ⟨n.toNat, by omega⟩
      have hN : N ≤ 10 := by omega
      have hst := Lib.hid (fun k x (h : k < N) => again_stop (l := tl s) (x := x) (n := (N : Int)) (k := k) (by omega))
      have hen := Lib.hid (fun x => again_end (x := x) hrow hN)
      have har := Lib.hid (fun k x => agN_row (x := x) hrow k)
      have d1 : decide ((0 : Int) ≤ (N : Int)) = true := decide_eq_true (by omega)
      have d2 : decide ((N : Int) ≤ 10) = true := decide_eq_true (by omega)
      replace hrow := Lib.hid hrow
      clear hn
      go_enter Try.func33, Try.ntmps33
      go_wp2_with (first | (go_at_call 62; refine (in_any _ _ _ _).mono ?_; rintro e _ ⟨rfl, rfl⟩) | (refine hR.mono ?_; rintro e _ ⟨rfl, m, rfl⟩))
      have hB := Lib.hid (below_drewN (Below.refl w.heap.size w) m)
      have h00 : strOf (tl s) = s := strOf_of s
      rw [← h00]
      have ha0 := Lib.hid (show agN (tl s) 0 = some (tl s) from rfl)
      replace h00 := Lib.hid h00
      go_loopw [6, 7] (fun o i wr => ∃ (k : Nat) (x : List UInt8), k ≤ N ∧ o = .string (strOf x) ∧ i = .int .i64 k ∧ agN (tl s) k = some x ∧ Below w.heap.size w wr) (fun _ i _ => N - (intOf i).toNat)
      case atStart => exact ⟨0, tl s, Nat.zero_le _, rfl, rfl, rfl, hB.out⟩
      case round =>
        obtain ⟨k, x, hk, rfl, rfl, ha, hb⟩ := hrel
        by_cases hlt : k < N
        · have hx := har.out k x ha
          have KS := specSaidOf_any (strOf x) wr (by rw [strOf_size]; have := row_len hx; omega)
          rw [strOf_tl] at KS
          replace ha := Lib.hid ha
          replace hb := Lib.hid hb
          clear hx
          cases hsd : saidL x with
          | none =>
            have hE := Lib.hid (hst.out k x hlt ha.out hsd)
            rw [hsd, optV_none] at KS
            replace hsd := Lib.hid hsd
            go_wp2_with (fail)
            refine KS.mono ?_
            rintro e W ⟨rfl, b2⟩
            replace hb := Lib.hid (hb.out.trans (b2.mono hb.out.size))
            clear b2
            go_wp2
            go_ret2
            exact ⟨by rw [hE.out]; rfl, hb.out⟩
          | some y =>
            have hE := Lib.hid (again_go ha.out hsd)
            rw [hsd, optV_some] at KS
            replace hsd := Lib.hid hsd
            go_wp2_with (fail)
            refine KS.mono ?_
            rintro e W ⟨rfl, b2⟩
            replace hb := Lib.hid (hb.out.trans (b2.mono hb.out.size))
            clear b2
            go_wp2
            go_roundw
            case rel => exact ⟨k + 1, y, by omega, rfl, by go_num, hE.out, hb.out⟩
            case measure => simp [intOf]; omega
        · obtain rfl : k = N := by omega
          have hE := Lib.hid (hen.out x ha)
          replace ha := Lib.hid ha
          replace hb := Lib.hid hb
          go_wp2
          go_ret2
          exact ⟨by rw [hE.out]; rfl, hb.out⟩
    · have hE := Lib.hid (again_out (l := tl s) hn)
      have hd : (decide (0 ≤ n) && decide (n ≤ 10)) = false := by rw [← Bool.decide_and]; exact decide_eq_false hn
      replace hrow := Lib.hid hrow
      replace hn := Lib.hid hn
      go_enter Try.func33, Try.ntmps33
      go_wp2_with (first | (go_at_call 62; refine (in_any _ _ _ _).mono ?_; rintro e _ ⟨rfl, rfl⟩) | (refine hR.mono ?_; rintro e _ ⟨rfl, m, rfl⟩))
      go_ret2
      exact ⟨by rw [hE.out]; rfl, below_drewN (Below.refl _ _) _⟩
end Go.Proofs.Ytfcjhelhhefkkaa
