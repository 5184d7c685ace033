/-
  sameDeeds of the laws.
-/
import Derived.Deep.QuietTactic
import Derived.BigQuiet
import Derived.Test.YtmhgpbfogdoaeaaGreatDoorRjDdsB
import Derived.Test.YtmhgpbfogdoaeaaGreatDoorRjGA
import Derived.Lib.QuietBelow
namespace Go.Proofs.YtmhgpbfogdoaeaaGreatDoor
open Go.RowKit Go.Sort Go.Lib

theorem below_drewJ {B : Nat} {w W : World} (h : Below B w W) (k : Nat) : Below B w (W.drewN k) := ⟨h.os, h.tape, h.output, h.size, h.block⟩
set_option maxRecDepth 100000 in
set_option maxHeartbeats 4000000 in
theorem sameDeeds_same (A A' : Option Addr) (n c c' : Nat) (q : List Dd) (w : World) (h : DeedsAre w A n c q) (h' : DeedsAre w A' n c' q) (hn : n ≤ 4000000) :
    Calls Tryz.prog 11 #[.slice A n c, .slice A' n c'] w fun e w' => e = .returned (.bool true) ∧ ∃ m, w' = w.drewN m := by
  have heq : ((n : Int) != n) = false := by simp
  have hl := h.len
  have cs := dd_cells
  replace h := Lib.hid h
  replace h' := Lib.hid h'
  go_enter Tryz.func11, Tryz.ntmps11
  go_wp2
  go_loopw [5] (fun i wr => ∃ k m : Nat, k ≤ n ∧ i = .int .i64 k ∧ wr = w.drewN m) (fun i _ => n - (intOf i).toNat)
  case atStart => exact ⟨0, 0, Nat.zero_le _, rfl, rfl⟩
  case round =>
    obtain ⟨k, m, hk, rfl, rfl⟩ := hrel
    by_cases hlt : k < n
    · have hx : q[k]? = some (q[k]'(by omega)) := List.getElem?_eq_getElem (by omega)
      generalize q[k]'(by omega) = x at *
      obtain ⟨b, o, rfl, hbl, hc⟩ := h.out.at_ (by omega)
      obtain ⟨b', o', rfl, hbl', hc'⟩ := h'.out.at_ (by omega)
      obtain ⟨c1, c2⟩ := hc k _ hx
      obtain ⟨d1, d2⟩ := hc' k _ hx
      obtain ⟨xk, xn⟩ := x
      dsimp only at *
      have e1 : (xk == xk) = true := by simp
      have e2 : (xn == xn) = true := by simp
      clear hc hc' hx
      go_wp2
      go_quiet (fail)
      go_wp2
      go_roundw
      case rel => exact ⟨k + 1, m + nq, by omega, by go_num, by simp⟩
      case measure => simp [intOf]; omega
    · obtain rfl : k = n := by omega
      go_wp2
      go_ret
      exact ⟨rfl, m, rfl⟩
end Go.Proofs.YtmhgpbfogdoaeaaGreatDoor
