/-
  Contracts of chapter 1: NestedOk, SumOf, GreedyOk, of the program and of the model.
-/
import Derived.Test.YtbckckicffjccaaGA
namespace Go.Proofs.Ytbckckicffjccaa
open Go.RowKit

theorem at_succ {w : World} {b o k : Nat} {v : Value} {P : Prop} (h : P → w.cell? ⟨b, o + (k + 1), none⟩ = some v) : P → w.cell? ⟨b, o + 1 + k, none⟩ = some v := by
  intro p; rw [show o + 1 + k = o + (k + 1) by omega]; exact h p

theorem implNestedOk_any (A : Option Addr) (n c : Nat) (xs : List Int) (w : World) (h : Ints w .i64 A n c xs) (hn : n ≤ 1048576) (hwf : Fits xs) :
    Calls Try.prog 55 #[.slice A n c] w fun e w' => e = .returned (.bool (nested xs)) ∧ w = w' := by
  have HB := Lib.hid (implBasesOk_any A n c xs w h hn hwf)
  obtain ⟨rfl, hcap, h⟩ := h
  cases hb : basesOk xs
  · have HO := Lib.hid (nested_off hb)
    go_enter Try.func55, Try.ntmps55
    go_wp2_with (fail)
    refine HB.out.mono ?_
    rintro e _ ⟨rfl, rfl⟩
    go_wp2
    go_ret
    exact ⟨ret_bool HO.out.symm, rfl⟩
  · have hl := bases_len hb
    have hpos := bases_pos hb
    obtain ⟨b, o, rfl, _, h⟩ := h (by omega)
    by_cases hc1 : c = 1
    · subst hc1
      have HO := Lib.hid (nested_yes (k := 0) hb (by omega) (nestTo_zero xs))
      clear h hpos
      go_enter Try.func55, Try.ntmps55
      go_wp2_with (fail)
      refine HB.out.mono ?_
      rintro e _ ⟨rfl, rfl⟩
      go_wp2
      refine wp_loop_rounds 1 ?_
      rw [rounds_succ]
      go_wp2
      go_ret
      exact ⟨ret_bool HO.out.symm, rfl⟩
    · go_enter Try.func55, Try.ntmps55
      go_wp2_with (fail)
      refine HB.out.mono ?_
      rintro e _ ⟨rfl, rfl⟩
      go_wp2
      go_loop [11] (fun i => ∃ k : Nat, k + 1 ≤ xs.length ∧ i = .int .i64 k ∧ nestTo xs k = true) (fun i => xs.length - (intOf i).toNat)
      case atStart => exact ⟨0, by omega, rfl, nestTo_zero xs⟩
      case round =>
        obtain ⟨k, hk, rfl, hu⟩ := hrel
        by_cases hlt : k + 1 < xs.length
        · have c1 := at_succ (h (k+1)) hlt
          have c2 := h k (by omega)
          have p1 := hpos (k+1) hlt
          have p2 := hpos k (by omega)
          have HU := nestTo_go hu
          have HN := nested_no hlt
          generalize xs.getD (k+1) 0 = x1 at *
          generalize xs.getD k 0 = x2 at *
          replace HU := Lib.hid HU
          replace HN := Lib.hid HN
          clear h hpos hu
          cases hx : (x1 % x2 != 0)
          · go_wp2
            go_round
            case rel => exact ⟨k+1, by omega, by go_num, HU.out hx⟩
            case measure => simp [intOf]; omega
          · go_wp2
            go_ret
            exact ⟨ret_bool (HN.out hx).symm, rfl⟩
        · have HO := Lib.hid (nested_yes hb (by omega) hu)
          clear h hpos hu
          go_wp2
          go_ret
          exact ⟨ret_bool HO.out.symm, rfl⟩

theorem specNestedOk_any (A : Option Addr) (n c : Nat) (xs : List Int) (w : World) (h : Ints w .i64 A n c xs) (hn : n ≤ 1048576) (hwf : Fits xs) :
    Calls Try.prog 62 #[.slice A n c] w fun e w' => e = .returned (.bool (nested xs)) ∧ ∃ m, w' = w.drewN m := by
  have HB := Lib.hid fun m => specBasesOk_any A n c xs (w.drewN m) (h.drewN m) hn hwf
  obtain ⟨rfl, hcap, h⟩ := h
  cases hb : basesOk xs
  · have HO := Lib.hid (nested_off hb)
    by_cases h1 : 1 < xs.length
    · go_enter Try.func62, Try.ntmps62
      go_wp2
      refine wp_loop_rounds 1 ?_
      rw [rounds_succ]
      go_wp2_with (fail)
      refine (HB.out 0).mono ?_
      rintro e _ ⟨rfl, m, rfl⟩
      rw [hb]
      go_wp2_with (fail)
      refine (HB.out _).mono ?_
      rintro e _ ⟨rfl, m', rfl⟩
      go_wp2_with (fail)
      go_ret
      exact ⟨ret_bool (by rw [HO.out]), by first | exact ex1 | exact ex2 | exact ex3⟩
    · go_enter Try.func62, Try.ntmps62
      go_wp2
      refine wp_loop_rounds 1 ?_
      rw [rounds_succ]
      go_wp2_with (fail)
      refine (HB.out 0).mono ?_
      rintro e _ ⟨rfl, m, rfl⟩
      go_wp2_with (fail)
      go_ret
      exact ⟨ret_bool (by rw [HO.out]), by first | exact ex1 | exact ex2 | exact ex3⟩
  · have hl := bases_len hb
    have hpos := bases_pos hb
    obtain ⟨b, o, rfl, _, h⟩ := h (by omega)
    go_enter Try.func62, Try.ntmps62
    go_wp2
    go_loopw [3] (fun i wr => ∃ k m : Nat, k + 1 ≤ xs.length ∧ i = .int .i64 ((k+1 : Nat) : Int) ∧ nestTo xs k = true ∧ wr = w.drewN m) (fun i _ => xs.length - (intOf i).toNat)
    case atStart => exact ⟨0, 0, by omega, rfl, nestTo_zero xs, rfl⟩
    case round =>
      obtain ⟨k, m, hk, rfl, hu, rfl⟩ := hrel
      by_cases hlt : k + 1 < xs.length
      · have c1 := h (k+1) hlt
        have c2 := h k (by omega)
        have p1 := hpos (k+1) hlt
        have p2 := hpos k (by omega)
        have HU := nestTo_go hu
        have HN := nested_no hlt
        generalize xs.getD (k+1) 0 = x1 at *
        generalize xs.getD k 0 = x2 at *
        replace HU := Lib.hid HU
        replace HN := Lib.hid HN
        clear h hpos hu
        go_wp2_with (fail)
        refine (HB.out _).mono ?_
        rintro e _ ⟨rfl, m1, rfl⟩
        rw [hb]
        cases hx : (x1 % x2 != 0)
        · go_wp2
          go_quiet (fail)
          go_wp2
          go_roundw
          case rel => exact ⟨k+1, _, by omega, by go_num, HU.out hx, by first | rfl | exact World.drewN_drewN _ _ _⟩
          case measure => simp [intOf]; omega
        · go_wp2
          go_quiet (fail)
          go_wp2
          go_ret
          exact ⟨ret_bool (HN.out hx).symm, by first | exact ex1 | exact ex2 | exact ex3⟩
      · have HO := Lib.hid (nested_yes hb (by omega) hu)
        clear h hpos hu
        go_wp2_with (fail)
        refine (HB.out _).mono ?_
        rintro e _ ⟨rfl, m1, rfl⟩
        rw [hb, ← HO.out]
        go_wp2_with (fail)
        go_ret
        exact ⟨rfl, by first | exact ex1 | exact ex2 | exact ex3⟩
end Go.Proofs.Ytbckckicffjccaa
