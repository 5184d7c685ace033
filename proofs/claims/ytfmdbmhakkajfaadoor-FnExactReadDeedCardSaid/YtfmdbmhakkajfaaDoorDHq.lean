/-
  Contracts of the laws' own helpers at deeds: laid out, measured, compared, marked.
-/
import Derived.Lib.QuietBelow
import Derived.Test.YtfmdbmhakkajfaaDoorDdsB
import Derived.Test.YtfmdbmhakkajfaaDoorGA
namespace Go.Proofs.YtfmdbmhakkajfaaDoor
open Go.RowKit Go.Sort

theorem toDeed_any (x y : Int) (w : World) :
    Calls Tryd.prog 22 #[.agg #[.int .i64 x, .int .i64 y]] w fun e w' => e = .returned (.agg #[.int .i64 x, .int .i64 y]) ∧ Below w.heap.size w w' := by
  have hB := (((Below.refl w.heap.size w).alloc (Nat.le_refl _) (.cells #[.int .i64 x, .int .i64 y] 38)).alloc (by simp) (.cells #[.int .i64 0, .int .i64 0] 24)).alloc (by simp; omega) (.cells #[.int .i64 0, .int .i64 0] 24)
  have HX := ((Blk.new w 38 #[.int .i64 x, .int .i64 y]).alloc (.cells #[.int .i64 0, .int .i64 0] 24)).alloc (.cells #[.int .i64 0, .int .i64 0] 24)
  have HZ : Blk (((w.alloc (.cells #[.int .i64 x, .int .i64 y] 38)).alloc (.cells #[.int .i64 0, .int .i64 0] 24)).alloc (.cells #[.int .i64 0, .int .i64 0] 24)) (w.heap.size + 1) 24 #[.int .i64 0, .int .i64 0] := (blk_new_at _ (by simp)).alloc _
  have HY : Blk (((w.alloc (.cells #[.int .i64 x, .int .i64 y] 38)).alloc (.cells #[.int .i64 0, .int .i64 0] 24)).alloc (.cells #[.int .i64 0, .int .i64 0] 24)) (w.heap.size + 2) 24 #[.int .i64 0, .int .i64 0] := blk_new_at _ (by simp)
  replace hB := Lib.hid hB
  replace HX := Lib.hid HX
  replace HY := Lib.hid HY
  replace HZ := Lib.hid HZ
  go_enter Tryd.func22, Tryd.ntmps22
  go_upto_region 2 with (fail)
  generalize ((w.alloc (.cells #[.int .i64 x, .int .i64 y] 38)).alloc (.cells #[.int .i64 0, .int .i64 0] 24)).alloc (.cells #[.int .i64 0, .int .i64 0] 24) = W at *
  have x0 : W.cell? ⟨w.heap.size, 0, none⟩ = some (.int .i64 x) := HX.out.cell 0
  have x1 : W.cell? ⟨w.heap.size, 1, none⟩ = some (.int .i64 y) := HX.out.cell 1
  have y0 : W.cell? ⟨w.heap.size + 2, 0, none⟩ = some (.int .i64 0) := HY.out.cell 0
  have y1 : W.cell? ⟨w.heap.size + 2, 1, none⟩ = some (.int .i64 0) := HY.out.cell 1
  have z0 : W.cell? ⟨w.heap.size + 1, 0, none⟩ = some (.int .i64 0) := HZ.out.cell 0
  have z1 : W.cell? ⟨w.heap.size + 1, 1, none⟩ = some (.int .i64 0) := HZ.out.cell 1
  have f0 := HY.out.frozen 0
  have f1 := HY.out.frozen 1
  have e0 := HZ.out.frozen 0
  have e1 := HZ.out.frozen 1
  have hG : ∀ u0 u1 u2 u3, Below w.heap.size w ((((W.setCell ⟨w.heap.size + 2, 0, none⟩ u0).setCell ⟨w.heap.size + 2, 1, none⟩ u1).setCell ⟨w.heap.size + 1, 0, none⟩ u2).setCell ⟨w.heap.size + 1, 1, none⟩ u3) := fun u0 u1 u2 u3 =>
    (((hB.out.setCell (p := ⟨w.heap.size + 2, 0, none⟩) (by show w.heap.size ≤ w.heap.size + 2; omega) u0).setCell (p := ⟨w.heap.size + 2, 1, none⟩) (by show w.heap.size ≤ w.heap.size + 2; omega) u1).setCell (p := ⟨w.heap.size + 1, 0, none⟩) (by show w.heap.size ≤ w.heap.size + 1; omega) u2).setCell (p := ⟨w.heap.size + 1, 1, none⟩) (by show w.heap.size ≤ w.heap.size + 1; omega) u3
  replace hG := Lib.hid hG
  clear HX HY HZ hB
  go_wp2
  refine bodyPost_ret (v := .agg #[.int .i64 x, .int .i64 y]) (by simp [results, Tryd.results22, go_sem, z0, z1]) rfl ?_
  exact ⟨rfl, hG.out _ _ _ _⟩
theorem own_of_cells {w : World} {B g n : Nat} {cur : Array Value} (hb : Blk w g 24 cur) (hs : cur.size = n * 2) (hg : B ≤ g) (hm : n ≤ maxLen) : w.ownsRow B 24 2 (.slice (some ⟨g, 0, none⟩) n n) n cur.toList :=
  ⟨by simpa using hs, .inr ⟨g, n, cur, rfl, hg, hb, Nat.le_refl _, hm, hs, by rw [List.take_of_length_le (by simp [hs])]⟩⟩
set_option maxRecDepth 100000 in
set_option maxHeartbeats 4000000 in
theorem toDeedS_any (A : Option Addr) (n c : Nat) (q : List Dd) (w : World) (h : DeedsAre w A n c q) (hn : n ≤ 1048576) :
    Calls Tryd.prog 25 #[.slice A n c] w fun e w' => ∃ g, e = .returned (.slice (some ⟨g, 0, none⟩) n n) ∧ OwnDds w' w.heap.size (.slice (some ⟨g, 0, none⟩) n n) q ∧ Below w.heap.size w w' := by
  obtain ⟨i0, hi, hz0, hz1, hz2⟩ := info_parts dd_info
  have hl := h.len
  have hmk := fun W => run_make_rowN (P := Tryd.prog) 32 24 i0 _ Tryd.underlying32 hi hz0 .i64 .i64 n n (Nat.le_refl _) (by rw [hz2]; omega) (by omega) W
  rw [hz1] at hmk
  generalize hcur : madeCells (Value.agg #[.int .i64 0, .int .i64 0]).cells (n * 2) = cur at *
  have hcs : cur.size = n * 2 := by rw [← hcur]; exact size_madeCells _ _
  have hO := Lib.hid (own_of_cells (B := w.heap.size) (Blk.new w 24 cur) hcs (Nat.le_refl _) (by unfold maxLen; omega))
  have hB := Lib.hid ((Below.refl w.heap.size w).alloc (Nat.le_refl _) (.cells cur 24))
  replace hcur := Lib.hid hcur
  have cs2 := dd_cells
  have cs3 : Tryd.prog.cellsOf 38 = 2 := by kernel_rfl
  replace h := Lib.hid h
  replace hl := Lib.hid hl
  replace hcs := Lib.hid hcs
  go_enter Tryd.func25, Tryd.ntmps25
  go_upto_region 2 with (fail)
  generalize hg0 : w.heap.size = g at *
  replace hg0 := Lib.hid hg0
  generalize w.alloc (.cells cur 24) = W0 at *
  clear hmk
  go_wp2
  go_loopw [4] (fun i wr => ∃ (k : Nat) (zs : List Value), k ≤ n ∧ i = .int .i64 k ∧ wr.ownsRow g 24 2 (.slice (some ⟨g, 0, none⟩) n n) n zs ∧ (∀ i, i < 2 * k → zs[i]? = (ddCells q)[i]?) ∧ Below g w wr) (fun i _ => n - (intOf i).toNat)
  case atStart => exact ⟨0, _, Nat.zero_le _, rfl, hO.out, fun i hi => absurd hi (by omega), hB.out⟩
  case round =>
    clear hO hB
    obtain ⟨k, zs, hk, rfl, ho, hz, hb⟩ := hrel
    have hzl : zs.length = n * 2 := ho.1
    by_cases hlt : k < n
    · have hx : q[k]? = some (q[k]'(by have := hl.out; omega)) := List.getElem?_eq_getElem (by have := hl.out; omega)
      generalize q[k]'(by have := hl.out; omega) = x at *
      obtain ⟨b, o, rfl, hbl, hc⟩ := (h.out.below hb (by rw [hg0.out]; exact Nat.le_refl _)).at_ (by omega)
      obtain ⟨c1, c2⟩ := hc k _ hx
      have j0 := ddCells_j0 hx
      have j1 := ddCells_j1 hx
      obtain ⟨xk, xn⟩ := x
      dsimp only at *
      replace hz := Lib.hid hz
      replace ho := Lib.hid ho
      replace hb := Lib.hid hb
      clear hc hx
      go_wp2_with (fail)
      refine (toDeed_any xk xn wr).mono ?_
      rintro e w2 ⟨rfl, b2⟩
      have ho2 := ownD_below ho.out b2 (Nat.le_refl _)
      have hb2 := hb.out.trans (b2.mono (by have := hb.out.size; rw [hg0.out] at this; exact this))
      have hzl2 : zs.length = n * 2 := hzl
      have a1 : w2.cell? ⟨g, k * 2, none⟩ = some (zs[k * 2]'(by omega)) := by
        rw [ho2.cellAt (k * 2) (by omega), List.getElem?_eq_getElem (by omega)]
      have f1 := ho2.frozenAt (k * 2)
      have hst := ho2.stored (k * 2) (.int .i64 xk)
      have a2 : (w2.setCell ⟨g, k * 2, none⟩ (.int .i64 xk)).cell? ⟨g, k * 2 + 1, none⟩ = some ((zs.set (k * 2) (.int .i64 xk))[k * 2 + 1]'(by rw [List.length_set]; omega)) := by
        rw [hst.1.cellAt (k * 2 + 1) (by omega), List.getElem?_eq_getElem (by rw [List.length_set]; omega)]
      have f2 := hst.1.frozenAt (k * 2 + 1)
      have hst2 := hst.1.stored (k * 2 + 1) (.int .i64 xn)
      have HZ : ∀ i, i < 2 * (k + 1) → ((zs.set (k * 2) (.int .i64 xk)).set (k * 2 + 1) (.int .i64 xn))[i]? = (ddCells q)[i]? := fun i hi => by
        by_cases e : k * 2 + 1 = i
        · subst e
          rw [List.getElem?_set_self (by rw [List.length_set]; omega), j1]
        · rw [List.getElem?_set_ne e]
          by_cases e' : k * 2 = i
          · subst e'
            rw [List.getElem?_set_self (by omega), j0]
          · rw [List.getElem?_set_ne e']
            exact hz.out i (by omega)
      have HB := (hb2.setCell (p := ⟨g, k * 2, none⟩) (Nat.le_refl _) (.int .i64 xk)).setCell (p := ⟨g, k * 2 + 1, none⟩) (Nat.le_refl _) (.int .i64 xn)
      have HO := hst2.1
      generalize zs[k * 2]'(by omega) = z1 at *
      generalize (zs.set (k * 2) (.int .i64 xk))[k * 2 + 1]'(by rw [List.length_set]; omega) = z2 at *
      replace HZ := Lib.hid HZ
      replace HB := Lib.hid HB
      replace HO := Lib.hid HO
      clear hst hst2 ho hz hb hb2 ho2 hzl hzl2 j0 j1 c1 c2 b2
      go_wp2
      go_roundw
      case rel => exact ⟨k + 1, _, by omega, by go_num, HO.out, HZ.out, HB.out⟩
      case measure => simp [intOf]; omega
    · obtain rfl : k = n := by omega
      have hE : zs = ddCells q := by
        have hlq : (ddCells q).length = k * 2 := by rw [ddCells_len, hl.out]
        apply List.ext_getElem?
        intro i
        by_cases hi : i < 2 * k
        · exact hz i hi
        · rw [List.getElem?_eq_none (by omega), List.getElem?_eq_none (by omega)]
      have hO : OwnDds wr g (.slice (some ⟨g, 0, none⟩) k k) q := by
        unfold OwnDds
        rw [hl.out, ← hE]
        exact ho
      replace hO := Lib.hid hO
      replace hb := Lib.hid hb
      clear ho hz hE hzl
      go_wp2
      go_ret
      rw [hg0.out]
      exact ⟨_, rfl, hO.out, hb.out⟩
theorem szDeedS_any (A : Option Addr) (n c : Nat) (r : Int) (w : World) (hr : 0 ≤ r ∧ r ≤ 1048576) (hn : n ≤ maxLen) :
    Calls Tryd.prog 24 #[.slice A n c, .int .i64 r] w fun e w' => (∃ r2, e = .returned (.int .i64 r2) ∧ (r2 = -1 ∨ (0 ≤ r2 ∧ r2 ≤ 1048576 ∧ n ≤ 1048576))) ∧ w = w' := by
  have hm : n ≤ 9223372036854775807 := by unfold maxLen at hn; omega
  have hw : IntKind.i64.wrap (r - (n : Int)) = r - (n : Int) := IntWalk.i64_in _ (by omega)
  by_cases h0 : r - (n : Int) < 0
  · have hd : decide (r - (n : Int) < 0) = true := decide_eq_true h0
    go_enter Tryd.func24, Tryd.ntmps24
    go_wp2
    go_ret
    exact ⟨⟨_, rfl, .inl rfl⟩, rfl⟩
  · have hd : decide (r - (n : Int) < 0) = false := decide_eq_false h0
    go_enter Tryd.func24, Tryd.ntmps24
    go_wp2
    go_ret
    exact ⟨⟨_, rfl, .inr ⟨by omega, by omega, by omega⟩⟩, rfl⟩
theorem eqDeed_same (x y : Int) (w : World) :
    Calls Tryd.prog 23 #[.agg #[.int .i64 x, .int .i64 y], .agg #[.int .i64 x, .int .i64 y]] w fun e w' => e = .returned (.bool true) ∧ Below w.heap.size w w' := by
  have hx : (x != x) = false := by simp
  have hy : (y != y) = false := by simp
  have hB := Lib.hid (((Below.refl w.heap.size w).alloc (Nat.le_refl _) (.cells #[.int .i64 x, .int .i64 y] 24)).alloc (by simp) (.cells #[.int .i64 x, .int .i64 y] 24))
  go_enter Tryd.func23, Tryd.ntmps23
  go_wp2
  go_ret
  exact ⟨rfl, hB.out⟩
set_option maxRecDepth 100000 in
set_option maxHeartbeats 4000000 in
theorem eqDeedS_same (A A' : Option Addr) (n c c' : Nat) (q : List Dd) (w : World) (h : DeedsAre w A n c q) (h' : DeedsAre w A' n c' q) (hn : n ≤ 1048576) :
    Calls Tryd.prog 26 #[.slice A n c, .slice A' n c'] w fun e w' => e = .returned (.bool true) ∧ Below w.heap.size w w' := by
  have heq : ((n : Int) != n) = false := by simp
  have hl := h.len
  replace h := Lib.hid h
  replace h' := Lib.hid h'
  go_enter Tryd.func26, Tryd.ntmps26
  go_wp2
  go_loopw [5] (fun i wr => ∃ k : Nat, k ≤ n ∧ i = .int .i64 k ∧ Below w.heap.size w wr) (fun i _ => n - (intOf i).toNat)
  case atStart => exact ⟨0, Nat.zero_le _, rfl, Below.refl _ _⟩
  case round =>
    obtain ⟨k, hk, rfl, hb⟩ := hrel
    by_cases hlt : k < n
    · have hx : q[k]? = some (q[k]'(by omega)) := List.getElem?_eq_getElem (by omega)
      generalize q[k]'(by omega) = x at *
      obtain ⟨b, o, rfl, hbl, hc⟩ := (h.out.below hb (Nat.le_refl _)).at_ (by omega)
      obtain ⟨b', o', rfl, hbl', hc'⟩ := (h'.out.below hb (Nat.le_refl _)).at_ (by omega)
      obtain ⟨c1, c2⟩ := hc k _ hx
      obtain ⟨d1, d2⟩ := hc' k _ hx
      have y0 := fun d os => cell_regrown c1 d os
      have y1 := fun d os => cell_regrown c2 d os
      have y2 := fun d os => cell_regrown d1 d os
      have y3 := fun d os => cell_regrown d2 d os
      have cs := dd_cells
      replace hb := Lib.hid hb
      clear hc hc' c1 c2 d1 d2 hx
      go_wp2
      refine wp_region_quiet_below (by kernel_rfl) (by kernel_rfl) ?_
      repeat (go_big_quiet_step (first | (go_at_call 23; exact Calls.regrown_of (eqDeed_same _ _ _))))
      refine wpQuiet_nil ?_
      intro _ hw'
      obtain ⟨pq, hw''⟩ := hw'
      have bq := Lib.hid (hb.out.trans ((below_regrown wr pq.d pq.os).mono hb.out.size))
      subst hw''
      clear y0 y1 y2 y3
      go_wp2
      go_roundw
      case rel => exact ⟨k + 1, by omega, by go_num, bq.out⟩
      case measure => simp [intOf]; omega
    · obtain rfl : k = n := by omega
      replace hb := Lib.hid hb
      go_wp2
      go_ret
      exact ⟨rfl, hb.out⟩
theorem marksD_all {k : Int} {n : Nat} {cs : List Value} (hl : cs.length = n) (h : ∀ i, i < n → cs[i]? = some (.int .i64 (k + i))) : cs = (marks k n).map (Value.int .i64) := by
  apply List.ext_getElem?
  intro i
  by_cases hi : i < n
  · rw [h i hi, List.getElem?_map, List.getElem?_eq_getElem (by rw [marks_length]; exact hi)]
    simp [marks]
  · rw [List.getElem?_eq_none (by omega), List.getElem?_eq_none (by rw [List.length_map, marks_length]; omega)]
set_option maxRecDepth 100000 in
set_option maxHeartbeats 4000000 in
theorem markDeedS_any (B : Nat) (v : Value) (n : Nat) (cs : List Value) (k : Int) (w : World) (h : w.ownsRow B 24 2 v n cs) (hn : n ≤ 1048576) (hk : 0 ≤ k ∧ k ≤ 8000000) :
    Calls Tryd.prog 28 #[v, .int .i64 k] w fun e w' => e = .returned (.int .i64 (k + 2 * (n : Int))) ∧ w'.ownsRow B 24 2 v n ((marks k (2 * n)).map (Value.int .i64)) ∧ w.grownBy w' v.ownBlock := by
  have hl : cs.length = n * 2 := h.1
  by_cases hn0 : 0 < n
  · obtain ⟨g, cap, rfl, hB, hcap⟩ : ∃ g cap, v = .slice (some ⟨g, 0, none⟩) n cap ∧ B ≤ g ∧ n ≤ cap := by
      rcases h.2 with ⟨_, h0⟩ | ⟨g, cap, cur, rfl, hb, _, hc, _⟩
      · omega
      · exact ⟨g, cap, rfl, hb, hc⟩
    have c2 := dd_cells
    replace hl := Lib.hid hl
    go_enter Tryd.func28, Tryd.ntmps28
    go_wp2
    go_loopw [1, 5] (fun kk i wr => ∃ (j : Nat) (zs : List Value), j ≤ n ∧ i = .int .i64 j ∧ kk = .int .i64 (k + 2 * (j : Int)) ∧ wr.ownsRow B 24 2 (.slice (some ⟨g, 0, none⟩) n cap) n zs ∧ (∀ i, i < 2 * j → zs[i]? = some (.int .i64 (k + i))) ∧ w.grownBy wr (some g)) (fun _ i _ => n - (intOf i).toNat)
    case atStart => exact ⟨0, cs, Nat.zero_le _, rfl, by simp, h, fun i hi => absurd hi (by omega), World.grownBy.refl w _⟩
    case round =>
      obtain ⟨j, zs, hj, rfl, rfl, ho, hz, hg⟩ := hrel
      have hzl : zs.length = n * 2 := ho.1
      by_cases hlt2 : j < n
      · have a1 : wr.cell? ⟨g, j * 2, none⟩ = some (zs[j * 2]'(by omega)) := by
          rw [ho.cellAt (j * 2) (by omega), List.getElem?_eq_getElem (by omega)]
        have f1 := ho.frozenAt (j * 2)
        have hst := ho.stored (j * 2) (.int .i64 (k + 2 * (j : Int)))
        have a2 : (wr.setCell ⟨g, j * 2, none⟩ (.int .i64 (k + 2 * (j : Int)))).cell? ⟨g, j * 2 + 1, none⟩ = some ((zs.set (j * 2) (.int .i64 (k + 2 * (j : Int))))[j * 2 + 1]'(by rw [List.length_set]; omega)) := by
          rw [hst.1.cellAt (j * 2 + 1) (by omega), List.getElem?_eq_getElem (by rw [List.length_set]; omega)]
        have f2 := hst.1.frozenAt (j * 2 + 1)
        have hst2 := hst.1.stored (j * 2 + 1) (.int .i64 (k + 2 * (j : Int) + 1))
        have HZ : ∀ i, i < 2 * (j + 1) → ((zs.set (j * 2) (.int .i64 (k + 2 * (j : Int)))).set (j * 2 + 1) (.int .i64 (k + 2 * (j : Int) + 1)))[i]? = some (.int .i64 (k + i)) := fun i hi => by
          by_cases e : j * 2 + 1 = i
          · subst e
            rw [List.getElem?_set_self (by rw [List.length_set]; omega)]
            congr 2; omega
          · rw [List.getElem?_set_ne e]
            by_cases e' : j * 2 = i
            · subst e'
              rw [List.getElem?_set_self (by omega)]
              congr 2; omega
            · rw [List.getElem?_set_ne e']
              exact hz i (by omega)
        have HG := (hg.trans hst.2).trans hst2.2
        have HO := hst2.1
        generalize zs[j * 2]'(by omega) = z1 at *
        generalize (zs.set (j * 2) (.int .i64 (k + 2 * (j : Int))))[j * 2 + 1]'(by rw [List.length_set]; omega) = z2 at *
        have hw1 : IntKind.i64.wrap (k + 2 * (j : Int) + 1) = k + 2 * (j : Int) + 1 := IntWalk.i64_in _ (by omega)
        have hw2 : IntKind.i64.wrap (k + 2 * (j : Int) + 1 + 1) = k + 2 * (j : Int) + 1 + 1 := IntWalk.i64_in _ (by omega)
        replace HZ := Lib.hid HZ
        replace HG := Lib.hid HG
        replace HO := Lib.hid HO
        clear hst hst2 ho hz hg hzl h
        go_wp2
        go_roundw
        case rel => exact ⟨j + 1, _, by omega, by go_num, by congr 1; omega, HO.out, HZ.out, HG.out⟩
        case measure => simp [intOf]; omega
      · obtain rfl : j = n := by omega
        have hm := marksD_all (n := 2 * j) (by omega) hz
        rw [hm] at ho
        replace ho := Lib.hid ho
        replace hg := Lib.hid hg
        clear hz hm hzl h
        go_wp2
        go_ret
        exact ⟨rfl, ho.out, hg.out⟩
  · obtain rfl : n = 0 := by omega
    obtain ⟨A, c, rfl⟩ : ∃ A c, v = .slice A 0 c := by
      rcases h.2 with ⟨rfl, _⟩ | ⟨g, cap, cur, rfl, _⟩
      · exact ⟨_, _, rfl⟩
      · exact ⟨_, _, rfl⟩
    have hx : cs = [] := List.eq_nil_of_length_eq_zero (by omega)
    subst hx
    replace h := Lib.hid h
    go_enter Tryd.func28, Tryd.ntmps28
    go_wp2
    refine wp_loop_rounds 1 ?_
    rw [rounds_succ]
    go_wp2
    go_ret
    exact ⟨by simp, by simpa [marks] using h.out, World.grownBy.refl w _⟩
/-- The slice holds the marks from k on, two a deed. -/
def MarksAreD (w : World) (A : Option Addr) (n : Nat) (k : Int) : Prop := 0 < n → ∃ b o, A = some ⟨b, o, none⟩ ∧ b < w.heap.size ∧ ∀ i, i < 2 * n → w.cell? ⟨b, o + i, none⟩ = some (.int .i64 (k + i))
theorem MarksAreD.below {w w' : World} {A : Option Addr} {n : Nat} {k : Int} (h : MarksAreD w A n k) (hb : Below w.heap.size w w') : MarksAreD w' A n k := fun hn => by
  obtain ⟨b, o, e, hl, hc⟩ := h hn
  exact ⟨b, o, e, Nat.lt_of_lt_of_le hl hb.size, fun i hi => (hb.cell (p := ⟨b, o + i, none⟩) hl).trans (hc i hi)⟩
theorem marksD_own {w : World} {B : Nat} {A : Option Addr} {n c : Nat} {k : Int} (h : w.ownsRow B 24 2 (.slice A n c) n ((marks k (2 * n)).map (Value.int .i64))) : MarksAreD w A n k := fun hn => by
  have h' := h
  rcases h.2 with ⟨_, h0⟩ | ⟨g, cap, cur, e, hb, hg, _⟩
  · omega
  · cases e
    refine ⟨g, 0, rfl, ?_, fun i hi => ?_⟩
    · rcases Nat.lt_or_ge g w.heap.size with hlt | hge
      · exact hlt
      · rw [Array.getElem?_eq_none hge] at hg; cases hg
    · rw [Nat.zero_add, h'.cellAt i (by omega), List.getElem?_map, List.getElem?_eq_getElem (by rw [marks_length]; exact hi)]
      simp [marks]

set_option maxRecDepth 100000 in
set_option maxHeartbeats 4000000 in
theorem heldDeedS_any (A : Option Addr) (n c : Nat) (k : Int) (w : World) (h : MarksAreD w A n k) (hn : n ≤ 1048576) (hc : n ≤ c) (hk : 0 ≤ k ∧ k ≤ 8000000) :
    Calls Tryd.prog 29 #[.slice A n c, .int .i64 k] w fun e w' => e = .returned (.int .i64 (k + 2 * (n : Int))) ∧ w = w' := by
  have c2 := dd_cells
  replace h := Lib.hid h
  go_enter Tryd.func29, Tryd.ntmps29
  go_wp2
  go_loop [1, 5] (fun kk i => ∃ (j : Nat), j ≤ n ∧ i = .int .i64 j ∧ kk = .int .i64 (k + 2 * (j : Int))) (fun _ i => n - (intOf i).toNat)
  case atStart => exact ⟨0, Nat.zero_le _, rfl, by simp⟩
  case round =>
    obtain ⟨j, hj, rfl, rfl⟩ := hrel
    by_cases hlt2 : j < n
    · obtain ⟨b, o, rfl, hbl, hcs⟩ := h.out (by omega)
      have a1 := hcs (j * 2) (by omega)
      have a2 := hcs (j * 2 + 1) (by omega)
      rw [show k + ((j * 2 : Nat) : Int) = k + 2 * (j : Int) by omega] at a1
      rw [show k + ((j * 2 + 1 : Nat) : Int) = k + 2 * (j : Int) + 1 by omega, ← Nat.add_assoc] at a2
      have hb1 : ((k + 2 * (j : Int)) != (k + 2 * (j : Int))) = false := by simp
      have hb2 : ((k + 2 * (j : Int) + 1) != (k + 2 * (j : Int) + 1)) = false := by simp
      have hw1 : IntKind.i64.wrap (k + 2 * (j : Int) + 1) = k + 2 * (j : Int) + 1 := IntWalk.i64_in _ (by omega)
      have hw2 : IntKind.i64.wrap (k + 2 * (j : Int) + 1 + 1) = k + 2 * (j : Int) + 1 + 1 := IntWalk.i64_in _ (by omega)
      clear hcs
      go_wp2
      go_round
      case rel => exact ⟨j + 1, by omega, by go_num, by congr 1; omega⟩
      case measure => simp [intOf]; omega
    · obtain rfl : j = n := by omega
      go_wp2
      go_ret
      exact ⟨rfl, rfl⟩
end Go.Proofs.YtfmdbmhakkajfaaDoor
