/-
  Runs compared by the laws; a row of bytes of the call's own that grows.
-/
import Derived.Laws.IdiomStrings
import Derived.Test.YtfcjhelhhefkkaaS2
import Derived.Test.YtfcjhelhhefkkaaS4
namespace Go.Proofs.Ytfcjhelhhefkkaa
open Go.RowKit

set_option maxRecDepth 100000 in
set_option maxHeartbeats 4000000 in
theorem sameRuns_same (A A' : Option Addr) (n c c' : Nat) (q : List RunB) (w : World) (h : RunsAre w A n c q) (h' : RunsAre w A' n c' q) (hn : n ≤ 1048576) :
    Calls Try.prog 23 #[.slice A n c, .slice A' n c'] w fun e w' => e = .returned (.bool true) ∧ ∃ m, w' = w.drewN m := by
  have heq : ((n : Int) != n) = false := by simp
  have hl := h.len
  replace h := Lib.hid h
  replace h' := Lib.hid h'
  go_enter Try.func23, Try.ntmps23
  go_wp2
  go_loopw [5] (fun i wr => ∃ k m : Nat, k ≤ n ∧ i = .int .i64 k ∧ wr = w.drewN m) (fun i _ => n - (intOf i).toNat)
  case atStart => exact ⟨0, 0, Nat.zero_le _, rfl, rfl⟩
  case round =>
    obtain ⟨k, m, hk, rfl, rfl⟩ := hrel
    by_cases hlt : k < n
    · have hx : q[k]? = some (q[k]'(by omega)) := List.getElem?_eq_getElem (by omega)
      generalize q[k]'(by omega) = x at *
      obtain ⟨b, o, rfl, hbl, hc⟩ := h.out.at_ (by omega)
      obtain ⟨b', o', rfl, hbl', hc'⟩ := h'.out.at_ (by omega)
      obtain ⟨c1, c2⟩ := hc k _ hx
      obtain ⟨d1, d2⟩ := hc' k _ hx
      have cs := run_cells
      have e1 : ((x.1 : Int) == (x.1 : Int)) = true := by simp
      have e2 : (((x.2.toNat : Int) - 48) == ((x.2.toNat : Int) - 48)) = true := by simp
      clear hc hc' hx
      go_wp2
      go_quiet (fail)
      go_wp2
      go_roundw
      case rel => exact ⟨k + 1, m + nq, by omega, by go_num, by simp⟩
      case measure => simp [intOf]; omega
    · obtain rfl : k = n := by omega
      go_wp2
      go_ret
      exact ⟨rfl, m, rfl⟩
theorem byte_info : (Try.prog.info? 5).map (fun i => (i.zero, i.size, i.bytes)) = some (some (.int .u8 0), 1, 1) := by kernel_rfl
/-- A row of bytes of the call's own. -/
def OwnB (w : World) (B : Nat) (v : Value) (l : List UInt8) : Prop := w.ownsRow B 5 1 v l.length (l.map fun b => Value.int .u8 (b.toNat : Int))
theorem OwnB.snoc {w : World} {B n : Nat} {v : Value} {l : List UInt8} {b : UInt8} (h : w.ownsRow B 5 1 v n ((l.map fun b => Value.int .u8 (b.toNat : Int)) ++ [.int .u8 (b.toNat : Int)])) : OwnB w B v (l ++ [b]) := by
  have hl := h.1
  have e : n = (l ++ [b]).length := by simpa using hl.symm
  subst e
  unfold OwnB
  rw [List.map_append]
  exact h
theorem OwnB.slice {w : World} {B : Nat} {v : Value} {l : List UInt8} (h : OwnB w B v l) : ∃ A c, v = .slice A l.length c := by
  rcases h.2 with ⟨rfl, h0⟩ | ⟨g, cap, cur, rfl, _⟩
  · exact ⟨none, 0, by rw [h0]⟩
  · exact ⟨_, cap, rfl⟩
theorem OwnB.text {w : World} {B : Nat} {v : Value} {l : List UInt8} (h : OwnB w B v l) (hl : l ≠ []) : ∃ g c, v = .slice (some ⟨g, 0, none⟩) l.length c ∧ (convert 22 9 v).run Try.prog w = .ok (.string (strOf l)) w := by
  have h' := h
  rcases h.2 with ⟨_, h0⟩ | ⟨g, cap, cur, rfl, _⟩
  · exact absurd (List.eq_nil_of_length_eq_zero h0) hl
  · refine ⟨g, cap, rfl, ?_⟩
    refine run_convert_bytes_back (P := Try.prog) w 22 9 5 ⟨g, 0, none⟩ cap l Try.underlying22 Try.underlying5 Try.underlying9 (fun j hj => ?_)
    rw [add_plain', Nat.zero_add]
    unfold OwnB at h'
    rw [h'.cellAt j (by omega)]
    simp [hj]
end Go.Proofs.Ytfcjhelhhefkkaa
