import Derived.Test.YteemgkabhkdeaaaDoorProg
import Derived.Test.YteemgkabhkdeaaaDoorKit
import Derived.Test.YteemgkabhkdeaaaDoorMath
namespace Go.Proofs.YteemgkabhkdeaaaDoor
open Go.RowKit

theorem in_any (a b c : Int) (w : World) :
    Calls Tryd.prog 31 #[.int .i64 a, .int .i64 b, .int .i64 c] w fun e w' => e = .returned (.bool (decide (b ≤ a ∧ a ≤ c))) ∧ w = w' := by
  go_enter Tryd.func31, Tryd.ntmps31
  go_wp2
  all_goals go_ret
  · exact ⟨by simp [*], rfl⟩
  · exact ⟨by simp; omega, rfl⟩

theorem specBasesOk_any (A : Option Addr) (n c : Nat) (xs : List Int) (w : World) (h : Ints w .i64 A n c xs) (hn : n ≤ 1048576) (hwf : Fits xs) :
    Calls Tryd.prog 61 #[.slice A n c] w fun e w' => e = .returned (.bool (basesOk xs)) ∧ ∃ m, w' = w.drewN m := by
  obtain ⟨rfl, hcap, h⟩ := h
  go_enter Tryd.func61, Tryd.ntmps61
  go_wp2
  go_loopw [3] (fun i wr => ∃ k m : Nat, 1 ≤ k ∧ (k ≤ xs.length ∨ k = 1) ∧ i = .int .i64 k ∧ (xs.getD 0 0 = 1 → up xs k = true) ∧ wr = w.drewN m) (fun i _ => xs.length - (intOf i).toNat)
  case atStart => exact ⟨1, 0, by omega, by omega, rfl, fun _ => up_one xs, rfl⟩
  case round =>
    obtain ⟨k, m, hk1, hk2, rfl, hu, rfl⟩ := hrel
    by_cases hlt : k < xs.length
    · obtain ⟨b, o, rfl, _, h⟩ := h (by omega)
      have c1 := h k hlt
      have c2 := h (k-1) (by omega)
      have b1 := hwf k
      have b2 := hwf (k-1)
      have HN := basesOk_not xs k (by omega) (by omega) hu
      have HU := basesOk_go xs k (by omega) hu
      generalize xs.getD k 0 = x1 at *
      generalize xs.getD (k-1) 0 = x2 at *
      replace HN := Lib.hid HN
      replace HU := Lib.hid HU
      clear h hu hwf
      go_wp2
      go_quiet ((go_at_call 31; exact quiet_add_same (in_any _ _ _ _)))
      go_wp2
      · go_ret
        exact ⟨ret_bool (HN.out ‹_›).symm, m+nq, by simp⟩
      · go_roundw
        case rel => exact ⟨k+1, m+nq, by omega, by omega, by go_num, HU.out ‹_›, rfl⟩
        case measure => simp [intOf]; omega
    · have HL := Lib.hid (basesOk_long xs)
      by_cases hn0 : 0 < xs.length
      · obtain rfl : k = xs.length := by omega
        obtain ⟨b, o, rfl, _, h⟩ := h (by omega)
        have c0 := h 0 hn0; rw [Nat.add_zero] at c0
        have HE := Lib.hid (basesOk_end xs hu)
        generalize xs.getD 0 0 = x0 at *
        clear h hlt hu
        go_wp2_with ((go_at_call 31; refine (in_any _ _ _ _).mono ?_; rintro e w' ⟨rfl, rfl⟩))
        · go_ret
          exact ⟨ret_bool (HE.out (by omega)).symm, m, rfl⟩
        · go_ret
          exact ⟨ret_bool (HL.out (by omega)).symm, m, rfl⟩
      · go_wp2_with ((go_at_call 31; refine (in_any _ _ _ _).mono ?_; rintro e w' ⟨rfl, rfl⟩))
        go_ret
        exact ⟨ret_bool (HL.out (by omega)).symm, m, rfl⟩

theorem implBasesOk_any (A : Option Addr) (n c : Nat) (xs : List Int) (w : World) (h : Ints w .i64 A n c xs) (hn : n ≤ 1048576) (_hwf : Fits xs) :
    Calls Tryd.prog 27 #[.slice A n c] w fun e w' => e = .returned (.bool (basesOk xs)) ∧ w = w' := by
  obtain ⟨rfl, hcap, h⟩ := h
  have HL := Lib.hid (basesOk_long xs)
  by_cases hn0 : 0 < xs.length
  · obtain ⟨b, o, rfl, _, h⟩ := h hn0
    have c0 := h 0 hn0
    rw [Nat.add_zero] at c0
    have H0 := Lib.hid (basesOk_one xs)
    generalize hx0 : xs.getD 0 0 = x0 at *
    have HX := Lib.hid hx0
    clear hx0
    by_cases hg : xs.length ≤ 5 ∧ x0 = 1
    · obtain ⟨hg5, rfl⟩ := hg
      have HE := Lib.hid (basesOk_step xs hn0 hg5 HX.out)
      by_cases h1 : c = 1
      · subst h1
        obtain hg1 : xs.length = 1 := by omega
        have hz := basesOk_single xs hg1 HX.out
        have HZ := Lib.hid hz
        clear hz
        go_enter Tryd.func27, Tryd.ntmps27
        go_wp2
        refine wp_loop_rounds 1 ?_
        rw [rounds_succ]
        go_wp2
        go_ret
        exact ⟨ret_bool HZ.out.symm, rfl⟩
      · go_enter Tryd.func27, Tryd.ntmps27
        go_wp2
        go_loop [22] (fun i => ∃ k : Nat, k + 1 ≤ xs.length ∧ i = .int .i64 k ∧ up xs (k+1) = true) (fun i => xs.length - (intOf i).toNat)
        case atStart => exact ⟨0, by omega, rfl, up_one xs⟩
        case round =>
          obtain ⟨k, hk, rfl, hu⟩ := hrel
          by_cases hlt : k + 1 < xs.length
          · have c1 : w.cell? ⟨b, o + 1 + k, none⟩ = some (.int .i64 (xs.getD (k+1) 0)) := by have := h (k+1) hlt; rwa [show o + (k+1) = o+1+k by omega] at this
            have c2 := h k (by omega)
            have HN := basesOk_no2 xs k hlt
            have HU := basesOk_go2 xs k hu
            generalize xs.getD (k+1) 0 = x1 at *
            generalize xs.getD k 0 = x2 at *
            clear h
            replace HU := Lib.hid HU
            replace HN := Lib.hid HN
            clear hu
            go_wp2
            all_goals first
              | (go_ret; exact ⟨ret_bool (HN.out (by omega)).symm, rfl⟩)
              | (go_round
                 case rel => exact ⟨k+1, by omega, by go_num, HU.out (by omega)⟩
                 case measure => simp [intOf]; omega)
          · have HT := Lib.hid ((basesOk_top xs hg5 HX.out (by omega) hu))
            go_wp2
            go_ret
            exact ⟨ret_bool HT.out.symm, rfl⟩
    · have HX2 := HX.out
      subst HX2
      have HG := Lib.hid (basesOk_one xs)
      generalize xs.getD 0 0 = x0 at *
      by_cases h5 : xs.length ≤ 5
      · have hb : (x0 != 1) = true := by rw [bne_iff_ne]; omega
        go_enter Tryd.func27, Tryd.ntmps27
        go_wp2
        go_ret
        exact ⟨ret_bool (HG.out (by omega)).symm, rfl⟩
      · go_enter Tryd.func27, Tryd.ntmps27
        go_wp2
        go_ret
        exact ⟨ret_bool (HL.out (by omega)).symm, rfl⟩
  · go_enter Tryd.func27, Tryd.ntmps27
    go_wp2
    go_ret
    exact ⟨ret_bool (HL.out (by omega)).symm, rfl⟩
end Go.Proofs.YteemgkabhkdeaaaDoor
