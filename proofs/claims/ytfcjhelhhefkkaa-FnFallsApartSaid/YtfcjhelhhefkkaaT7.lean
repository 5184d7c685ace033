/-
  The program's FallsApart.
-/
import Derived.Test.YtfcjhelhhefkkaaT6
import Derived.Test.YtfcjhelhhefkkaaS7
namespace Go.Proofs.Ytfcjhelhhefkkaa
open Go.RowKit

theorem again_ne {l x : List UInt8} {n : Int} (hl : l ≠ []) (h : againL l n = some x) : x ≠ [] := agN_ne hl _ (again_some h).2.2

set_option maxRecDepth 100000 in
set_option maxHeartbeats 4000000 in
theorem implFallsApart_any (s u : ByteArray) (n : Int) (w : World) (hs : s.size ≤ 2097152) (hu : u.size ≤ 2097152) :
    Calls Try.prog 35 #[.string s, .string u, .int .i64 n] w fun e w' => e = .returned (.bool (apartL (tl s) (tl u) n)) ∧ Below w.heap.size w w' := by
  have hes := str_none s
  have heu := str_none u
  by_cases hs0 : tl s = []
  · have hE := Lib.hid (apart_empty (a := tl s) (b := tl u) (n := n) (.inl hs0))
    have : s = ⟨#[]⟩ := tl_inj hs0
    rw [decide_eq_true this] at hes
    clear heu this
    replace hs0 := Lib.hid hs0
    go_enter Try.func35, Try.ntmps35
    go_wp2
    go_ret
    exact ⟨ret_bool hE.out.symm, Below.refl _ _⟩
  · rw [decide_eq_false (fun e => hs0 (by rw [e]))] at hes
    by_cases hu0 : tl u = []
    · have hE := Lib.hid (apart_empty (a := tl s) (b := tl u) (n := n) (.inr hu0))
      have : u = ⟨#[]⟩ := tl_inj hu0
      rw [decide_eq_true this] at heu
      clear this
      replace hs0 := Lib.hid hs0
      replace hu0 := Lib.hid hu0
      go_enter Try.func35, Try.ntmps35
      go_wp2
      go_ret
      exact ⟨ret_bool hE.out.symm, Below.refl _ _⟩
    · rw [decide_eq_false (fun e => hu0 (by rw [e]))] at heu
      by_cases hn : 0 ≤ n ∧ n ≤ 10
      · obtain ⟨N, rfl⟩ : ∃ N : Nat, n = (N : Int) := ⟨n.toNat, by omega⟩
        have hN : N ≤ 10 := by omega
        have hN1 : ¬ (10 : Int) < (N : Int) := by omega
        have hN2 : ¬ (N : Int) < 0 := by omega
        have hYes := Lib.hid (fun h => apart_end (a := tl s) (b := tl u) (n := (N : Int)) (k := N + 1) (by omega) hn h)
        have hNo := Lib.hid (fun k (h : k ≤ N) => apart_no (a := tl s) (b := tl u) (n := (N : Int)) (k := k) (by omega))
        have hGo := Lib.hid (fun k => apartUp_succ (a := tl s) (b := tl u) (k := k))
        have hnes := Lib.hid (fun x k => again_ne (x := x) (n := k) hs0)
        have hneu := Lib.hid (fun x k => again_ne (x := x) (n := k) hu0)
        replace hs0 := Lib.hid hs0
        replace hu0 := Lib.hid hu0
        clear hn
        go_enter Try.func35, Try.ntmps35
        go_wp2
        go_loopw [28] (fun i wr => ∃ k : Nat, k ≤ N + 1 ∧ i = .int .i64 k ∧ apartUp (tl s) (tl u) k = true ∧ Below w.heap.size w wr) (fun i _ => N + 1 - (intOf i).toNat)
        case atStart => exact ⟨0, Nat.zero_le _, rfl, rfl, Below.refl _ _⟩
        case round =>
          obtain ⟨k, hk, rfl, ha, hb⟩ := hrel
          by_cases hlt : k ≤ N
          · have K1 := implSaidAgain_any s k wr hs
            have K2 := Lib.hid (fun W => implSaidAgain_any u k W hu)
            have hNo1 := Lib.hid (hNo.out k hlt)
            have hGo1 := Lib.hid (fun h => hGo.out k ha h)
            have hl1 := Lib.hid (fun x h => again_len (l := tl s) (n := (k : Int)) (x := x) h)
            have hl2 := Lib.hid (fun x h => again_len (l := tl u) (n := (k : Int)) (x := x) h)
            have hlt' : (k : Int) < (N : Int) + 1 := by omega
            have hns := Lib.hid (fun x h => hnes.out x (k : Int) h)
            have hnu := Lib.hid (fun x h => hneu.out x (k : Int) h)
            generalize againL (tl s) k = o1 at *
            generalize againL (tl u) k = o2 at *
            replace hb := Lib.hid hb
            clear ha
            cases o1 with
            | none =>
              have hE := Lib.hid (hNo1.out (meet_none1 _))
              rw [optV_none] at K1
              go_wp2_with (fail)
              refine K1.mono ?_
              rintro e W ⟨rfl, b2⟩
              replace hb := Lib.hid (hb.out.trans (b2.mono hb.out.size))
              replace K2 := K2.out W
              clear b2
              cases o2 with
              | none =>
                rw [optV_none] at K2
                go_wp2_with (fail)
                refine K2.mono ?_
                rintro e W2 ⟨rfl, b2⟩
                replace hb := Lib.hid (hb.out.trans (b2.mono hb.out.size))
                clear b2
                go_wp2
                go_quiet (fail)
                go_wp2
                go_ret
                exact ⟨ret_bool hE.out.symm, below_drewN hb.out _⟩
              | some y =>
                rw [optV_some] at K2
                go_wp2_with (fail)
                refine K2.mono ?_
                rintro e W2 ⟨rfl, b2⟩
                replace hb := Lib.hid (hb.out.trans (b2.mono hb.out.size))
                clear b2
                go_wp2
                go_quiet (fail)
                go_wp2
                go_ret
                exact ⟨ret_bool hE.out.symm, below_drewN hb.out _⟩
            | some x =>
              rw [optV_some] at K1
              have hx60 := hl1.out x rfl
              have hx0 := hns.out x rfl
              go_wp2_with (fail)
              refine K1.mono ?_
              rintro e W ⟨rfl, b2⟩
              replace hb := Lib.hid (hb.out.trans (b2.mono hb.out.size))
              replace K2 := K2.out W
              clear b2
              cases o2 with
              | none =>
                have hE := Lib.hid (hNo1.out (meet_none2 _))
                rw [optV_none] at K2
                replace hx0 := Lib.hid hx0
                go_wp2_with (fail)
                refine K2.mono ?_
                rintro e W2 ⟨rfl, b2⟩
                replace hb := Lib.hid (hb.out.trans (b2.mono hb.out.size))
                clear b2
                go_wp2
                go_quiet (fail)
                go_wp2
                go_ret
                exact ⟨ret_bool hE.out.symm, below_drewN hb.out _⟩
              | some y =>
                rw [optV_some] at K2
                have hy60 := hl2.out y rfl
                have hy0 := hnu.out y rfl
                obtain ⟨m, hm, hm1, hm2, hiff⟩ := ends_of hx0 hy0
                have hM := meet_two hx0 hy0
                rw [hM] at hGo1 hNo1
                rw [decide_eq_true_eq, ne_eq, hiff] at hGo1
                rw [decide_eq_false_iff_not, ne_eq, Decidable.not_not, hiff] at hNo1
                have hm60 : m ≤ 60 := by have := strOf_size x; omega
                have hw1 : IntKind.i64.wrap (m : Int) = (m : Int) := IntWalk.i64_in _ (by omega)
                have hw2 : ((strOf x).size : Int) - 1 = (m : Int) := by rw [hm]; omega
                have hk2 : (m : Int) < ((strOf x).size : Int) := by omega
                have hk3 : (0 : Int) ≤ (m : Int) := by omega
                have hk4 : (0 : Int) < ((strOf y).size : Int) := by omega
                clear hM hiff
                replace hx0 := Lib.hid hx0
                replace hy0 := Lib.hid hy0
                replace hm := Lib.hid hm
                go_wp2_with (fail)
                refine K2.mono ?_
                rintro e W2 ⟨rfl, b2⟩
                replace hb := Lib.hid (hb.out.trans (b2.mono hb.out.size))
                clear b2 K2 K1
                generalize strOf x = xs at *
                generalize strOf y = ys at *
                by_cases he : (xs[m]).toNat = (ys[0]).toNat
                · have hE := Lib.hid (hNo1.out he)
                  go_wp2
                  go_quiet (fail)
                  go_wp2
                  go_ret
                  exact ⟨ret_bool hE.out.symm, below_drewN hb.out _⟩
                · have hE := Lib.hid (hGo1.out he)
                  go_wp2
                  go_quiet (fail)
                  go_wp2
                  go_roundw
                  case rel => exact ⟨k + 1, by omega, by go_num, hE.out, below_drewN hb.out _⟩
                  case measure => simp [intOf]; omega
          · obtain rfl : k = N + 1 := by omega
            have hE := Lib.hid (hYes.out ha)
            replace hb := Lib.hid hb
            clear ha
            go_wp2
            go_ret
            exact ⟨ret_bool hE.out.symm, hb.out⟩
      · have hE := Lib.hid (apart_out (a := tl s) (b := tl u) hn)
        replace hs0 := Lib.hid hs0
        replace hu0 := Lib.hid hu0
        by_cases h0 : n < 0
        · replace hn := Lib.hid hn
          go_enter Try.func35, Try.ntmps35
          go_wp2
          go_ret
          exact ⟨ret_bool hE.out.symm, Below.refl _ _⟩
        · have h10 : 10 < n := by omega
          replace hn := Lib.hid hn
          go_enter Try.func35, Try.ntmps35
          go_wp2
          go_ret
          exact ⟨ret_bool hE.out.symm, Below.refl _ _⟩
end Go.Proofs.Ytfcjhelhhefkkaa
