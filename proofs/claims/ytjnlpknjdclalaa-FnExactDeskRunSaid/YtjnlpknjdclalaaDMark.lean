/-
  Marks written into a row that may lack its first number.
-/
import Derived.Test.YtjnlpknjdclalaaDkM
import Derived.Test.YtjnlpknjdclalaaGA
namespace Go.Proofs.Ytjnlpknjdclalaa
open Go.RowKit

set_option maxHeartbeats 1000000 in
theorem markTail_any (B : Nat) (v : Value) (xs : List Int) (k : Int) (w : World) (h : TailI w B v xs) (hn : xs.length ≤ 1048576) (hk : 0 ≤ k ∧ k ≤ 5000000) :
    Calls Try.prog 48 #[v, .int .i64 k] w fun e w' => e = .returned (.int .i64 (k + xs.length)) ∧ TailI w' B v (marks k xs.length) ∧ w.grownBy w' v.ownBlock ∧ w'.heap.size = w.heap.size := by
  rcases h.ex with h | ⟨z, g, cap, h1, rfl⟩
  · refine (markIntS_any B v xs.length xs k w h hn hk).mono ?_
    rintro e w' ⟨he, ho, hg, hs⟩
    exact ⟨he, ⟨.inl (by unfold OwnI; rw [marks_length]; exact ho)⟩, hg, hs⟩
  · generalize hnx : xs.length = n at *
    have h0 : w.ownsRow B 3 1 (.slice (some ⟨g, 0, none⟩) (n + 1) (cap + 1)) (n + 1) ((z :: xs).map (Value.int .i64)) := by unfold OwnI at h1; rw [List.length_cons, hnx] at h1; exact h1
    replace hnx := Lib.hid hnx
    clear h h1
    go_enter Try.func48, Try.ntmps48
    go_wp2
    go_loopw [1, 5] (fun kk i wr => ∃ (j : Nat) (zs : List Int), j ≤ n ∧ i = .int .i64 j ∧ kk = .int .i64 (k + j) ∧ wr.ownsRow B 3 1 (.slice (some ⟨g, 0, none⟩) (n + 1) (cap + 1)) (n + 1) ((z :: zs).map (Value.int .i64)) ∧ (∀ i, i < j → zs.getD i 0 = k + i) ∧ w.grownBy wr (some g) ∧ wr.heap.size = w.heap.size) (fun _ i _ => n - (intOf i).toNat)
    case atStart => exact ⟨0, xs, Nat.zero_le _, rfl, by simp, h0, fun i hi => by omega, World.grownBy.refl w _, rfl⟩
    case round =>
      obtain ⟨j, zs, hj, rfl, rfl, ho, hz, hg, hs⟩ := hrel
      have hzl : zs.length = n := by have := ho.1; simpa using this
      by_cases hlt2 : j < n
      · have c1 : wr.cell? ⟨g, 1 + j, none⟩ = some (.int .i64 (zs.getD j 0)) := by
          rw [ho.cellAt (1 + j) (by omega), Nat.add_comm 1 j]
          simp [List.getElem?_eq_getElem (show j < zs.length by omega)]
        have f1 := ho.frozenAt (1 + j)
        have hst := ho.stored (1 + j) (.int .i64 (k + j))
        have HZ : ∀ i, i < j + 1 → (zs.set j (k + j)).getD i 0 = k + i := fun i hi => by
          by_cases e : j = i
          · subst e; simp [List.getD_eq_getElem?_getD, show j < zs.length by omega]
          · have := hz i (by omega)
            simpa [List.getD_eq_getElem?_getD, List.getElem?_set, e] using this
        have HG := hg.trans hst.2
        have HS : (wr.setCell ⟨g, 1 + j, none⟩ (.int .i64 (k + j))).heap.size = w.heap.size := by simpa [World.setCell] using hs
        have HO : (wr.setCell ⟨g, 1 + j, none⟩ (.int .i64 (k + j))).ownsRow B 3 1 (.slice (some ⟨g, 0, none⟩) (n + 1) (cap + 1)) (n + 1) ((z :: zs.set j (k + j)).map (Value.int .i64)) := by
          have := hst.1
          rw [Nat.add_comm 1 j, List.map_cons, List.set_cons_succ] at this
          rw [Nat.add_comm 1 j, List.map_cons, List.map_set]; exact this
        generalize zs.getD j 0 = zz at *
        replace HZ := Lib.hid HZ
        replace HG := Lib.hid HG
        replace HS := Lib.hid HS
        replace HO := Lib.hid HO
        clear hst ho hz hg hs hzl h0
        go_wp2
        go_roundw
        case rel => exact ⟨j + 1, _, by omega, by go_num, by simp; omega, HO.out, HZ.out, HG.out, HS.out⟩
        case measure => simp [intOf]; omega
      · obtain rfl : j = n := by omega
        have hm : zs = marks k j := by
          apply List.ext_getElem (by rw [marks_length]; exact hzl)
          intro i h1 h2
          have h3 := hz i (by omega)
          have h4 := marks_at k (n := j) (j := i) (by omega)
          simp only [List.getD_eq_getElem?_getD, List.getElem?_eq_getElem h1, Option.getD_some] at h3
          simp only [List.getD_eq_getElem?_getD, List.getElem?_eq_getElem h2, Option.getD_some] at h4
          rw [h3, h4]
        rw [hm] at ho
        have HT : TailI wr B (.slice (some ⟨g, 1, none⟩) j cap) (marks k j) := ⟨.inr ⟨z, g, cap, by unfold OwnI; rw [List.length_cons, marks_length]; exact ho, by rw [marks_length]⟩⟩
        replace HT := Lib.hid HT
        replace hg := Lib.hid hg
        replace hs := Lib.hid hs
        clear hz hm hzl h0 ho
        go_wp2
        go_ret
        exact ⟨rfl, HT.out, hg.out, hs.out⟩
end Go.Proofs.Ytjnlpknjdclalaa
