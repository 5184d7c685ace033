/-
  Contracts of the laws' own helpers: numbers compared, marks written and held.
-/
import Derived.Test.YteemgkabhkdeaaaAlive
import Derived.Test.YteemgkabhkdeaaaHold
namespace Go.Proofs.Yteemgkabhkdeaaa
open Go.RowKit

def marks (k : Int) (n : Nat) : List Int := (List.range n).map (fun i : Nat => k + (i : Int))
theorem marks_length (k : Int) (n : Nat) : (marks k n).length = n := by simp [marks]
theorem marks_at (k : Int) {n j : Nat} (hj : j < n) : (marks k n).getD j 0 = k + j := by simp [marks, List.getD_eq_getElem?_getD, hj]

theorem ownsRow_nil_n {w : World} {B : Nat} {t : TypeId} {n : Nat} {xs : List Value} {v : Value} (h : w.ownsRow B t 1 v n xs) : ∃ A c, v = .slice A n c := by
  rcases h.2 with ⟨rfl, rfl⟩ | ⟨g, cap, cur, rfl, _⟩
  · exact ⟨_, _, rfl⟩
  · exact ⟨_, _, rfl⟩

theorem markIntS_any (B : Nat) (v : Value) (n : Nat) (xs : List Int) (k : Int) (w : World) (h : w.ownsRow B 3 1 v n (xs.map (Value.int .i64))) (hn : n ≤ 1048576) (hk : 0 ≤ k ∧ k ≤ 2000000) :
    Calls Try.prog 45 #[v, .int .i64 k] w fun e w' => e = .returned (.int .i64 (k + n)) ∧ w'.ownsRow B 3 1 v n ((marks k n).map (Value.int .i64)) ∧ w.grownBy w' v.ownBlock ∧ w'.heap.size = w.heap.size := by
  have hl : xs.length = n := by have := h.1; simpa using this
  by_cases hn0 : 0 < n
  · obtain ⟨g, cap, rfl, hB, hlt⟩ := h.form hn0
    replace hl := Lib.hid hl
    go_enter Try.func45, Try.ntmps45
    go_wp2
    go_loopw [1, 5] (fun kk i wr => ∃ (j : Nat) (zs : List Int), j ≤ n ∧ i = .int .i64 j ∧ kk = .int .i64 (k + j) ∧ wr.ownsRow B 3 1 (.slice (some ⟨g, 0, none⟩) n cap) n (zs.map (Value.int .i64)) ∧ (∀ i, i < j → zs.getD i 0 = k + i) ∧ w.grownBy wr (some g) ∧ wr.heap.size = w.heap.size) (fun _ i _ => n - (intOf i).toNat)
    case atStart => exact ⟨0, xs, Nat.zero_le _, rfl, by simp, h, fun i hi => by omega, World.grownBy.refl w _, rfl⟩
    case round =>
      obtain ⟨j, zs, hj, rfl, rfl, ho, hz, hg, hs⟩ := hrel
      have hzl : zs.length = n := by have := ho.1; simpa using this
      by_cases hlt2 : j < n
      · have c1 : wr.cell? ⟨g, j, none⟩ = some (.int .i64 (zs.getD j 0)) := by
          rw [ho.cellAt j (by omega)]
          simp [List.getElem?_eq_getElem (show j < zs.length by omega)]
        have f1 := ho.frozenAt j
        have hst := ho.stored j (.int .i64 (k + j))
        have HZ : ∀ i, i < j + 1 → (zs.set j (k + j)).getD i 0 = k + i := fun i hi => by
          by_cases e : j = i
          · subst e; simp [List.getD_eq_getElem?_getD, show j < zs.length by omega]
          · have := hz i (by omega)
            simpa [List.getD_eq_getElem?_getD, List.getElem?_set, e] using this
        have HG := hg.trans hst.2
        have HS : (wr.setCell ⟨g, j, none⟩ (.int .i64 (k + j))).heap.size = w.heap.size := by simpa [World.setCell] using hs
        have HO : (wr.setCell ⟨g, j, none⟩ (.int .i64 (k + j))).ownsRow B 3 1 (.slice (some ⟨g, 0, none⟩) n cap) n ((zs.set j (k + j)).map (Value.int .i64)) := by rw [List.map_set]; exact hst.1
        generalize zs.getD j 0 = z at *
        replace HZ := Lib.hid HZ
        replace HG := Lib.hid HG
        replace HS := Lib.hid HS
        replace HO := Lib.hid HO
        clear hst ho hz hg hs hzl h
        go_wp2
        go_roundw
        case rel => exact ⟨j + 1, _, by omega, by go_num, by simp; omega, HO.out, HZ.out, HG.out, HS.out⟩
        case measure => simp [intOf]; omega
      · obtain rfl : j = n := by omega
        have hm : zs = marks k j := by
          apply List.ext_getElem (by rw [marks_length]; exact hzl)
          intro i h1 h2
          have h3 := hz i (by omega)
          have h4 := marks_at k (n := j) (j := i) (by omega)
          simp only [List.getD_eq_getElem?_getD, List.getElem?_eq_getElem h1, Option.getD_some] at h3
          simp only [List.getD_eq_getElem?_getD, List.getElem?_eq_getElem h2, Option.getD_some] at h4
          rw [h3, h4]
        rw [hm] at ho
        replace ho := Lib.hid ho
        replace hg := Lib.hid hg
        replace hs := Lib.hid hs
        clear hz hm hzl h
        go_wp2
        go_ret
        exact ⟨rfl, ho.out, hg.out, hs.out⟩
  · obtain rfl : n = 0 := by omega
    obtain ⟨A, c, rfl⟩ := ownsRow_nil_n h
    have hx : xs = [] := List.eq_nil_of_length_eq_zero hl
    subst hx
    replace h := Lib.hid h
    go_enter Try.func45, Try.ntmps45
    go_wp2
    refine wp_loop_rounds 1 ?_
    rw [rounds_succ]
    go_wp2
    go_ret
    exact ⟨by simp, by simpa [marks] using h.out, World.grownBy.refl w _, rfl⟩

theorem OwnInts.row {w : World} {B : Nat} {g n : Nat} {xs : List Int} (h : OwnInts w B 3 .i64 g n xs) (hn : n ≤ 1048576) : w.ownsRow B 3 1 (.slice (some ⟨g, 0, none⟩) n n) n (xs.map (Value.int .i64)) := by
  obtain ⟨hge, rfl, hb⟩ := h
  exact ⟨by simp, .inr ⟨g, xs.length, _, rfl, hge, hb, Nat.le_refl _, by unfold maxLen; omega, by simp, by rw [List.take_of_length_le (by simp)]⟩⟩
theorem row_below {w w' : World} {B S : Nat} {v : Value} {n : Nat} {xs : List Value} (h : w.ownsRow B 3 1 v n xs) (hb : Below S w w') (hS : w.heap.size ≤ S) : w'.ownsRow B 3 1 v n xs :=
  h.kept (row := none) ⟨hb.os, hb.tape, hb.output, hb.size, fun k hk _ => hb.block k (by omega)⟩ (by
    cases hv : v.ownBlock
    · exact .inl rfl
    · exact .inr (by simp))
theorem below_row {w a b : World} {S B : Nat} {v : Value} {n : Nat} {xs : List Value} (h : Below S w a) (ho : a.ownsRow B 3 1 v n xs) (hg : a.grownBy b v.ownBlock) (hS : S ≤ a.heap.size) (hB : S ≤ B) : Below S w b :=
  h.grown hg hS (fun k e => Nat.le_trans hB (ho.lt k e).1)
theorem countsOf_len (b : List Int) (n : Int) : (countsOf b n).length ≤ b.length := by
  unfold countsOf; split <;> simp
end Go.Proofs.Yteemgkabhkdeaaa
