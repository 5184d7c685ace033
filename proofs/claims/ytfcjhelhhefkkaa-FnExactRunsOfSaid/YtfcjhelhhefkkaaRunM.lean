/-
  Contracts of the laws' own helpers at runs: compared, marked, held.
-/
import Derived.Lib.QuietBelow
import Derived.Test.YtfcjhelhhefkkaaS2
import Derived.Test.YtfcjhelhhefkkaaGA
namespace Go.Proofs.Ytfcjhelhhefkkaa
open Go.RowKit Go.Sort

theorem eqRun_any (x y : Int) (w : World) :
    Calls Try.prog 67 #[.agg #[.int .i64 x, .int .i64 y], .agg #[.int .i64 x, .int .i64 y]] w fun e w' => e = .returned (.bool true) ∧ Below w.heap.size w w' := by
  have hx : (x != x) = false := by simp
  have hy : (y != y) = false := by simp
  have hB := Lib.hid (((Below.refl w.heap.size w).alloc (Nat.le_refl _) (.cells #[.int .i64 x, .int .i64 y] 31)).alloc (by simp) (.cells #[.int .i64 x, .int .i64 y] 31))
  go_enter Try.func67, Try.ntmps67
  go_wp2
  go_ret
  exact ⟨rfl, hB.out⟩

set_option maxRecDepth 100000 in
set_option maxHeartbeats 4000000 in
theorem eqRunS_same (A A' : Option Addr) (n c c' : Nat) (q : List RunB) (w : World) (h : RunsAre w A n c q) (h' : RunsAre w A' n c' q) (hn : n ≤ 1048576) :
    Calls Try.prog 42 #[.slice A n c, .slice A' n c'] w fun e w' => e = .returned (.bool true) ∧ Below w.heap.size w w' := by
  have heq : ((n : Int) != n) = false := by simp
  have hl := h.len
  replace h := Lib.hid h
  replace h' := Lib.hid h'
  go_enter Try.func42, Try.ntmps42
  go_wp2
  go_loopw [5] (fun i wr => ∃ k : Nat, k ≤ n ∧ i = .int .i64 k ∧ Below w.heap.size w wr) (fun i _ => n - (intOf i).toNat)
  case atStart => exact ⟨0, Nat.zero_le _, rfl, Below.refl _ _⟩
  case round =>
    obtain ⟨k, hk, rfl, hb⟩ := hrel
    by_cases hlt : k < n
    · have hx : q[k]? = some (q[k]'(by omega)) := List.getElem?_eq_getElem (by omega)
      generalize q[k]'(by omega) = x at *
      obtain ⟨b, o, rfl, hbl, hc⟩ := (h.out.below hb (Nat.le_refl _)).at_ (by omega)
      obtain ⟨b', o', rfl, hbl', hc'⟩ := (h'.out.below hb (Nat.le_refl _)).at_ (by omega)
      obtain ⟨c1, c2⟩ := hc k _ hx
      obtain ⟨d1, d2⟩ := hc' k _ hx
      have y0 := fun d os => cell_regrown c1 d os
      have y1 := fun d os => cell_regrown c2 d os
      have y2 := fun d os => cell_regrown d1 d os
      have y3 := fun d os => cell_regrown d2 d os
      have cs := run_cells
      replace hb := Lib.hid hb
      clear hc hc' c1 c2 d1 d2 hx
      go_wp2
      refine wp_region_quiet_below (by kernel_rfl) (by kernel_rfl) ?_
      repeat (go_big_quiet_step (first | (go_at_call 67; exact Calls.regrown_of (eqRun_any _ _ _))))
      refine wpQuiet_nil ?_
      intro _ hw'
      obtain ⟨pq, hw''⟩ := hw'
      have bq := Lib.hid (hb.out.trans ((below_regrown wr pq.d pq.os).mono hb.out.size))
      subst hw''
      clear y0 y1 y2 y3
      go_wp2
      go_roundw
      case rel => exact ⟨k + 1, by omega, by go_num, bq.out⟩
      case measure => simp [intOf]; omega
    · obtain rfl : k = n := by omega
      replace hb := Lib.hid hb
      go_wp2
      go_ret
      exact ⟨rfl, hb.out⟩

theorem marks_all {k : Int} {n : Nat} {cs : List Value} (hl : cs.length = n) (h : ∀ i, i < n → cs[i]? = some (.int .i64 (k + i))) : cs = (marks k n).map (Value.int .i64) := by
  apply List.ext_getElem?
  intro i
  by_cases hi : i < n
  · rw [h i hi, List.getElem?_map, List.getElem?_eq_getElem (by rw [marks_length]; exact hi)]
    simp [marks]
  · rw [List.getElem?_eq_none (by omega), List.getElem?_eq_none (by rw [List.length_map, marks_length]; omega)]

set_option maxRecDepth 100000 in
set_option maxHeartbeats 4000000 in
theorem markRunS_any (B : Nat) (v : Value) (n : Nat) (cs : List Value) (k : Int) (w : World) (h : w.ownsRow B 31 2 v n cs) (hn : n ≤ 1048576) (hk : 0 ≤ k ∧ k ≤ 2000000) :
    Calls Try.prog 43 #[v, .int .i64 k] w fun e w' => e = .returned (.int .i64 (k + 2 * (n : Int))) ∧ w'.ownsRow B 31 2 v n ((marks k (2 * n)).map (Value.int .i64)) ∧ w.grownBy w' v.ownBlock := by
  have hl : cs.length = n * 2 := h.1
  by_cases hn0 : 0 < n
  · obtain ⟨g, cap, rfl, hB, hcap⟩ : ∃ g cap, v = .slice (some ⟨g, 0, none⟩) n cap ∧ B ≤ g ∧ n ≤ cap := by
      rcases h.2 with ⟨_, h0⟩ | ⟨g, cap, cur, rfl, hb, _, hc, _⟩
      · omega
      · exact ⟨g, cap, rfl, hb, hc⟩
    have c2 := run_cells
    replace hl := Lib.hid hl
    go_enter Try.func43, Try.ntmps43
    go_wp2
    go_loopw [1, 5] (fun kk i wr => ∃ (j : Nat) (zs : List Value), j ≤ n ∧ i = .int .i64 j ∧ kk = .int .i64 (k + 2 * (j : Int)) ∧ wr.ownsRow B 31 2 (.slice (some ⟨g, 0, none⟩) n cap) n zs ∧ (∀ i, i < 2 * j → zs[i]? = some (.int .i64 (k + i))) ∧ w.grownBy wr (some g)) (fun _ i _ => n - (intOf i).toNat)
    case atStart => exact ⟨0, cs, Nat.zero_le _, rfl, by simp, h, fun i hi => absurd hi (by omega), World.grownBy.refl w _⟩
    case round =>
      obtain ⟨j, zs, hj, rfl, rfl, ho, hz, hg⟩ := hrel
      have hzl : zs.length = n * 2 := ho.1
      by_cases hlt2 : j < n
      · have a1 : wr.cell? ⟨g, j * 2, none⟩ = some (zs[j * 2]'(by omega)) := by
          rw [ho.cellAt (j * 2) (by omega), List.getElem?_eq_getElem (by omega)]
        have f1 := ho.frozenAt (j * 2)
        have hst := ho.stored (j * 2) (.int .i64 (k + 2 * (j : Int)))
        have a2 : (wr.setCell ⟨g, j * 2, none⟩ (.int .i64 (k + 2 * (j : Int)))).cell? ⟨g, j * 2 + 1, none⟩ = some ((zs.set (j * 2) (.int .i64 (k + 2 * (j : Int))))[j * 2 + 1]'(by rw [List.length_set]; omega)) := by
          rw [hst.1.cellAt (j * 2 + 1) (by omega), List.getElem?_eq_getElem (by rw [List.length_set]; omega)]
        have f2 := hst.1.frozenAt (j * 2 + 1)
        have hst2 := hst.1.stored (j * 2 + 1) (.int .i64 (k + 2 * (j : Int) + 1))
        have HZ : ∀ i, i < 2 * (j + 1) → ((zs.set (j * 2) (.int .i64 (k + 2 * (j : Int)))).set (j * 2 + 1) (.int .i64 (k + 2 * (j : Int) + 1)))[i]? = some (.int .i64 (k + i)) := fun i hi => by
          by_cases e : j * 2 + 1 = i
          · subst e
            rw [List.getElem?_set_self (by rw [List.length_set]; omega)]
            congr 2; omega
          · rw [List.getElem?_set_ne e]
            by_cases e' : j * 2 = i
            · subst e'
              rw [List.getElem?_set_self (by omega)]
              congr 2; omega
            · rw [List.getElem?_set_ne e']
              exact hz i (by omega)
        have HG := (hg.trans hst.2).trans hst2.2
        have HO := hst2.1
        generalize zs[j * 2]'(by omega) = z1 at *
        generalize (zs.set (j * 2) (.int .i64 (k + 2 * (j : Int))))[j * 2 + 1]'(by rw [List.length_set]; omega) = z2 at *
        have hw1 : IntKind.i64.wrap (k + 2 * (j : Int) + 1) = k + 2 * (j : Int) + 1 := IntWalk.i64_in _ (by omega)
        have hw2 : IntKind.i64.wrap (k + 2 * (j : Int) + 1 + 1) = k + 2 * (j : Int) + 1 + 1 := IntWalk.i64_in _ (by omega)
        replace HZ := Lib.hid HZ
        replace HG := Lib.hid HG
        replace HO := Lib.hid HO
        clear hst hst2 ho hz hg hzl h
        go_wp2
        go_roundw
        case rel => exact ⟨j + 1, _, by omega, by go_num, by congr 1; omega, HO.out, HZ.out, HG.out⟩
        case measure => simp [intOf]; omega
      · obtain rfl : j = n := by omega
        have hm := marks_all (n := 2 * j) (by omega) hz
        rw [hm] at ho
        replace ho := Lib.hid ho
        replace hg := Lib.hid hg
        clear hz hm hzl h
        go_wp2
        go_ret
        exact ⟨rfl, ho.out, hg.out⟩
  · obtain rfl : n = 0 := by omega
    obtain ⟨A, c, rfl⟩ : ∃ A c, v = .slice A 0 c := by
      rcases h.2 with ⟨rfl, _⟩ | ⟨g, cap, cur, rfl, _⟩
      · exact ⟨_, _, rfl⟩
      · exact ⟨_, _, rfl⟩
    have hx : cs = [] := List.eq_nil_of_length_eq_zero (by omega)
    subst hx
    replace h := Lib.hid h
    go_enter Try.func43, Try.ntmps43
    go_wp2
    refine wp_loop_rounds 1 ?_
    rw [rounds_succ]
    go_wp2
    go_ret
    exact ⟨by simp, by simpa [marks] using h.out, World.grownBy.refl w _⟩

/-- The slice holds the marks from k on, two a run. -/
def MarksAre (w : World) (A : Option Addr) (n : Nat) (k : Int) : Prop := 0 < n → ∃ b o, A = some ⟨b, o, none⟩ ∧ b < w.heap.size ∧ ∀ i, i < 2 * n → w.cell? ⟨b, o + i, none⟩ = some (.int .i64 (k + i))
theorem MarksAre.below {w w' : World} {A : Option Addr} {n : Nat} {k : Int} (h : MarksAre w A n k) (hb : Below w.heap.size w w') : MarksAre w' A n k := fun hn => by
  obtain ⟨b, o, e, hl, hc⟩ := h hn
  exact ⟨b, o, e, Nat.lt_of_lt_of_le hl hb.size, fun i hi => (hb.cell (p := ⟨b, o + i, none⟩) hl).trans (hc i hi)⟩
theorem marks_own {w : World} {B : Nat} {A : Option Addr} {n c : Nat} {k : Int} (h : w.ownsRow B 31 2 (.slice A n c) n ((marks k (2 * n)).map (Value.int .i64))) : MarksAre w A n k := fun hn => by
  have h' := h
  rcases h.2 with ⟨_, h0⟩ | ⟨g, cap, cur, e, hb, hg, _⟩
  · omega
  · cases e
    refine ⟨g, 0, rfl, ?_, fun i hi => ?_⟩
    · rcases Nat.lt_or_ge g w.heap.size with hlt | hge
      · exact hlt
      · rw [Array.getElem?_eq_none hge] at hg; cases hg
    · rw [Nat.zero_add, h'.cellAt i (by omega), List.getElem?_map, List.getElem?_eq_getElem (by rw [marks_length]; exact hi)]
      simp [marks]

set_option maxRecDepth 100000 in
set_option maxHeartbeats 4000000 in
theorem heldRunS_any (A : Option Addr) (n c : Nat) (k : Int) (w : World) (h : MarksAre w A n k) (hn : n ≤ 1048576) (hc : n ≤ c) (hk : 0 ≤ k ∧ k ≤ 2000000) :
    Calls Try.prog 44 #[.slice A n c, .int .i64 k] w fun e w' => e = .returned (.int .i64 (k + 2 * (n : Int))) ∧ w = w' := by
  have c2 := run_cells
  replace h := Lib.hid h
  go_enter Try.func44, Try.ntmps44
  go_wp2
  go_loop [1, 5] (fun kk i => ∃ (j : Nat), j ≤ n ∧ i = .int .i64 j ∧ kk = .int .i64 (k + 2 * (j : Int))) (fun _ i => n - (intOf i).toNat)
  case atStart => exact ⟨0, Nat.zero_le _, rfl, by simp⟩
  case round =>
    obtain ⟨j, hj, rfl, rfl⟩ := hrel
    by_cases hlt2 : j < n
    · obtain ⟨b, o, rfl, hbl, hcs⟩ := h.out (by omega)
      have a1 := hcs (j * 2) (by omega)
      have a2 := hcs (j * 2 + 1) (by omega)
      rw [show k + ((j * 2 : Nat) : Int) = k + 2 * (j : Int) by omega] at a1
      rw [show k + ((j * 2 + 1 : Nat) : Int) = k + 2 * (j : Int) + 1 by omega, ← Nat.add_assoc] at a2
      have hb1 : ((k + 2 * (j : Int)) != (k + 2 * (j : Int))) = false := by simp
      have hb2 : ((k + 2 * (j : Int) + 1) != (k + 2 * (j : Int) + 1)) = false := by simp
      have hw1 : IntKind.i64.wrap (k + 2 * (j : Int) + 1) = k + 2 * (j : Int) + 1 := IntWalk.i64_in _ (by omega)
      have hw2 : IntKind.i64.wrap (k + 2 * (j : Int) + 1 + 1) = k + 2 * (j : Int) + 1 + 1 := IntWalk.i64_in _ (by omega)
      clear hcs
      go_wp2
      go_round
      case rel => exact ⟨j + 1, by omega, by go_num, by congr 1; omega⟩
      case measure => simp [intOf]; omega
    · obtain rfl : j = n := by omega
      go_wp2
      go_ret
      exact ⟨rfl, rfl⟩
end Go.Proofs.Ytfcjhelhhefkkaa
