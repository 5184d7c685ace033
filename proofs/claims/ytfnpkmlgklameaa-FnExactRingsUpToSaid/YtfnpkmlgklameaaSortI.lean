/-
  slices.Sort, slices.Compact (by the library's contracts at this program) and slices.Min at numbers, on rows of the call's own.
-/
import Derived.Shelf.Sort.Plain
import Derived.Shelf.Slices.CompactI
import Derived.Test.YtfnpkmlgklameaaLK
import Derived.Test.YtfnpkmlgklameaaGA
namespace Go.Proofs.Ytfnpkmlgklameaa
open Go.Shelf Go.RowKit Go.Sort

def sortIRen : Go.Shelf.Ren := ⟨fun | 125 => 73 | 128 => 89 | 129 => 90 | 189 => 59 | 215 => 97 | 216 => 86 | 257 => 72 | 294 => 80 | 295 => 81 | 296 => 82 | 297 => 83 | 298 => 84 | 299 => 85 | 300 => 87 | 301 => 88 | 328 => 92 | 329 => 93 | 330 => 94 | 331 => 95 | 332 => 96 | 343 => 98 | n => n, fun | 0 => 0 | 3 => 3 | 4 => 4 | 5 => 5 | 9 => 9 | 28 => 24 | 46 => 82 | 51 => 96 | 53 => 98 | 131 => 43 | 182 => 88 | 183 => 89 | 218 => 101 | 222 => 105 | 228 => 107 | 229 => 76 | n => n, fun | n => n⟩
theorem sortILays : Go.Proofs.Lays.n189 Try.prog sortIRen := {
  mixed := by kernel_rfl
  f125 := Try.func73.trans (congrArg some (by kernel_rfl))
  f128 := Try.func89.trans (congrArg some (by kernel_rfl))
  f129 := Try.func90.trans (congrArg some (by kernel_rfl))
  f189 := Try.func59.trans (congrArg some (by kernel_rfl))
  f215 := Try.func97.trans (congrArg some (by kernel_rfl))
  f216 := Try.func86.trans (congrArg some (by kernel_rfl))
  f257 := Try.func72.trans (congrArg some (by kernel_rfl))
  f294 := Try.func80.trans (congrArg some (by kernel_rfl))
  f295 := Try.func81.trans (congrArg some (by kernel_rfl))
  f296 := Try.func82.trans (congrArg some (by kernel_rfl))
  f297 := Try.func83.trans (congrArg some (by kernel_rfl))
  f298 := Try.func84.trans (congrArg some (by kernel_rfl))
  f299 := Try.func85.trans (congrArg some (by kernel_rfl))
  f300 := Try.func87.trans (congrArg some (by kernel_rfl))
  f301 := Try.func88.trans (congrArg some (by kernel_rfl))
  f328 := Try.func92.trans (congrArg some (by kernel_rfl))
  f329 := Try.func93.trans (congrArg some (by kernel_rfl))
  f330 := Try.func94.trans (congrArg some (by kernel_rfl))
  f331 := Try.func95.trans (congrArg some (by kernel_rfl))
  f332 := Try.func96.trans (congrArg some (by kernel_rfl))
  f343 := Try.func98.trans (congrArg some (by kernel_rfl))
  t0 := Try.underlying0
  a0 := Try.isAgg0
  z0 := Try.sizeOf0
  v0 := Try.zeroValue0
  t3 := Try.underlying3
  a3 := Try.isAgg3
  z3 := Try.sizeOf3
  v3 := Try.zeroValue3
  t4 := Try.underlying4
  a4 := Try.isAgg4
  z4 := Try.sizeOf4
  v4 := Try.zeroValue4
  t5 := Try.underlying5
  a5 := Try.isAgg5
  z5 := Try.sizeOf5
  v5 := Try.zeroValue5
  t9 := Try.underlying9
  a9 := Try.isAgg9
  z9 := Try.sizeOf9
  v9 := Try.zeroValue9
  t28 := Try.underlying24
  a28 := Try.isAgg24
  z28 := Try.sizeOf24
  v28 := Try.zeroValue24
  t46 := Try.underlying82
  a46 := Try.isAgg82
  z46 := Try.sizeOf82
  v46 := Try.zeroValue82
  t51 := Try.underlying96
  a51 := Try.isAgg96
  z51 := Try.sizeOf96
  v51 := Try.zeroValue96
  t53 := Try.underlying98
  a53 := Try.isAgg98
  z53 := Try.sizeOf98
  v53 := Try.zeroValue98
  t131 := Try.underlying43
  a131 := Try.isAgg43
  z131 := Try.sizeOf43
  v131 := Try.zeroValue43
  t182 := Try.underlying88
  a182 := Try.isAgg88
  z182 := Try.sizeOf88
  v182 := Try.zeroValue88
  t183 := Try.underlying89
  a183 := Try.isAgg89
  z183 := Try.sizeOf89
  v183 := Try.zeroValue89
  t218 := Try.underlying101
  a218 := Try.isAgg101
  z218 := Try.sizeOf101
  v218 := Try.zeroValue101
  t222 := Try.underlying105
  a222 := Try.isAgg105
  z222 := Try.sizeOf105
  v222 := Try.zeroValue105
  t228 := Try.underlying107
  a228 := Try.isAgg107
  z228 := Try.sizeOf107
  v228 := Try.zeroValue107
  t229 := Try.underlying76
  a229 := Try.isAgg76
  z229 := Try.sizeOf76
  v229 := Try.zeroValue76 }
def compIRen : Go.Shelf.Ren := ⟨fun | 20 => 60 | n => n, fun | 0 => 0 | 3 => 3 | 4 => 4 | 22 => 24 | n => n, fun | n => n⟩
theorem compILays : Go.Proofs.Lays2.n20 Try.prog compIRen := {
  mixed := by kernel_rfl
  f20 := Try.func60.trans (congrArg some (by kernel_rfl))
  t0 := Try.underlying0
  a0 := Try.isAgg0
  z0 := Try.sizeOf0
  v0 := Try.zeroValue0
  t3 := Try.underlying3
  a3 := Try.isAgg3
  z3 := Try.sizeOf3
  v3 := Try.zeroValue3
  t4 := Try.underlying4
  a4 := Try.isAgg4
  z4 := Try.sizeOf4
  v4 := Try.zeroValue4
  t22 := Try.underlying24
  a22 := Try.isAgg24
  z22 := Try.sizeOf24
  v22 := Try.zeroValue24
  i3 := by kernel_rfl }

theorem holdsI {w : World} {g : Nat} {cur : Array Value} {e : TypeId} {xs : List Int} (hb : w.heap[g]? = some (.cells cur e (0, 0))) (ht : cur.toList.take xs.length = xs.map (Value.int .i64)) : Holds (Value.int .i64) w g 0 xs.toArray := by
  intro j hj
  have hj' : j < xs.length := by simpa using hj
  refine ⟨?_, by simp [World.frozen?, hb]⟩
  have h1 : (cur.toList.take xs.length)[j]? = (xs.map (Value.int .i64))[j]? := by rw [ht]
  rw [List.getElem?_take_of_lt hj'] at h1
  simp only [World.cell?, hb, Nat.zero_add]
  simp only [Option.isSome_none, Bool.false_eq_true, if_false]
  rw [← Array.getElem?_toList, h1]
  simp [hj']
theorem take_putI (cur : Array Value) (ts : List Int) {m : Nat} (hm : m ≤ ts.length) (h : ts.length ≤ cur.size) : (putCells (Value.int .i64) 0 ts.toArray cur).toList.take m = (ts.take m).map (Value.int .i64) := by
  apply List.ext_getElem?
  intro j
  by_cases hj : j < m
  · rw [List.getElem?_take_of_lt hj, Array.getElem?_toList]
    simp [putCells, hj, show j < cur.size by omega, show j < ts.length by omega]
  · rw [List.getElem?_take_eq_none (by omega), List.getElem?_eq_none (by simp; omega)]
/-- A row of the call's own, written over: what its first places hold. -/
theorem own_putI {w : World} {B g cap q m : Nat} {e : TypeId} {os : Array Obj} {cur : Array Value} {ts : List Int} (hB : B ≤ g) (hb : w.heap[g]? = some (.cells cur e (0, 0))) (h1 : ts.length ≤ cap) (h2 : cap ≤ maxLen) (h3 : cur.size = cap * 1) (hm : m ≤ ts.length) :
    (grow (putRow (Value.int .i64) (Sort.ahead w q) g 0 ts.toArray) os).ownsRow B e 1 (.slice (some ⟨g, 0, none⟩) m cap) m ((ts.take m).map (Value.int .i64)) := by
  have hg : g < w.heap.size := (Array.getElem?_eq_some_iff.1 hb).1
  have hh : (grow (putRow (Value.int .i64) (Sort.ahead w q) g 0 ts.toArray) os).heap[g]? = some (.cells (putCells (Value.int .i64) 0 ts.toArray cur) e (0, 0)) := by
    rw [heap_grow_old _ _ (by simpa using hg)]
    simp [putRow, mapBlock, Sort.ahead, Array.getElem?_modify, hb, onCells]
  exact ⟨by simp; omega, .inr ⟨g, cap, _, rfl, hB, hh, by omega, h2, by simp [putCells, h3], by rw [Nat.mul_one]; exact take_putI cur ts hm (by omega)⟩⟩
theorem grown_putI {w : World} {g q : Nat} {os : Array Obj} (d : Array Int) : w.grownBy (grow (putRow (Value.int .i64) (Sort.ahead w q) g 0 d) os) (some g) := by
  refine ⟨rfl, rfl, rfl, by simp, fun k hk hne => ?_⟩
  rw [heap_grow_old _ _ (by simpa using hk)]
  have : g ≠ k := fun e => hne (by rw [e])
  simp [putRow, mapBlock, Sort.ahead, Array.getElem?_modify, this]
theorem own_cur {w : World} {B g n c : Nat} {t : TypeId} {xs : List Value} (h : w.ownsRow B t 1 (.slice (some ⟨g, 0, none⟩) n c) n xs) : ∃ cur : Array Value, w.heap[g]? = some (.cells cur t (0, 0)) ∧ B ≤ g ∧ n ≤ c ∧ c ≤ maxLen ∧ cur.size = c * 1 ∧ cur.toList.take n = xs := by
  rcases h.2 with ⟨e, _⟩ | ⟨g', cap, cur, e, h1, h2, h3, h4, h5, h6⟩
  · cases e
  · cases e
    exact ⟨cur, h2, h1, h3, h4, h5, by rw [Nat.mul_one] at h6; exact h6⟩

/-- A row of the call's own, sorted. -/
theorem sortI_any {w : World} {B g c : Nat} {xs : List Int} (h : OwnI w B (.slice (some ⟨g, 0, none⟩) xs.length c) xs) (hn : xs.length ≤ 1000000) :
    Calls Try.prog 59 #[.slice (some ⟨g, 0, none⟩) xs.length c] w fun e w' => e = .returned (.tuple #[]) ∧ OwnI w' B (.slice (some ⟨g, 0, none⟩) xs.length c) (xs.mergeSort fun x y => decide (x ≤ y)) ∧ w.grownBy w' (some g) := by
  obtain ⟨cur, hb, hB, h1, h2, h3, h4⟩ := own_cur h
  have hl : (xs.mergeSort fun x y => decide (x ≤ y)).length = xs.length := List.length_mergeSort _
  refine (Any.slices_Sort_int sortILays g 0 c xs w (holdsI hb h4) (Array.getElem?_eq_some_iff.1 hb).1 (by omega)).mono ?_
  rintro e w' ⟨he, n, os, rfl⟩
  refine ⟨he, ?_, grown_putI _⟩
  have := own_putI (q := n) (os := os) (m := xs.length) hB hb (ts := xs.mergeSort fun x y => decide (x ≤ y)) (by omega) h2 h3 (by omega)
  unfold OwnI
  rw [hl]
  rwa [List.take_of_length_le (by omega)] at this
theorem keeps_len (d : Array Int) : ∀ m, (Go.Lib.compactUpTo d m).length ≤ m := by
  intro m
  induction m with
  | zero => simp [Go.Lib.compactUpTo]
  | succ m ih => rw [Go.Lib.compactUpTo_succ, List.length_append]; split <;> simp <;> omega
/-- A row of the call's own, what is equal beside each other struck. -/
theorem compI_any {w : World} {B g c : Nat} {xs : List Int} (h : OwnI w B (.slice (some ⟨g, 0, none⟩) xs.length c) xs) (hn : xs.length ≤ 1000000) :
    Calls Try.prog 60 #[.slice (some ⟨g, 0, none⟩) xs.length c] w fun e w' => ∃ v, e = .returned v ∧ OwnI w' B v (Go.Lib.compactUpTo xs.toArray xs.length) ∧ w.grownBy w' (some g) := by
  obtain ⟨cur, hb, hB, h1, h2, h3, h4⟩ := own_cur h
  refine (Any.slices_Compact_int compILays g 0 c xs w (holdsI hb h4) (by omega) h1).mono ?_
  rintro e w' ⟨rfl, q, rfl⟩
  have hk : (Go.Lib.compact xs).length ≤ xs.length := keeps_len _ _
  refine ⟨_, rfl, ?_, by have := grown_putI (w := w) (g := g) (q := q) (os := #[]) (Go.Lib.compact xs ++ List.replicate (xs.length - (Go.Lib.compact xs).length) 0).toArray; rwa [grow_empty] at this⟩
  have := own_putI (q := q) (os := #[]) (m := (Go.Lib.compact xs).length) hB hb (ts := Go.Lib.compact xs ++ List.replicate (xs.length - (Go.Lib.compact xs).length) 0) (by simp; omega) h2 h3 (by simp)
  rw [grow_empty, List.take_left'] at this
  · exact this
  · rfl

set_option maxRecDepth 100000 in
set_option maxHeartbeats 1000000 in
theorem minI_any (A : Option Addr) (n c : Nat) (xs : List Int) (w : World) (h : Ints w .i64 A n c xs) (h0 : 0 < n) (hn : n ≤ 1000000) :
    Calls Try.prog 58 #[.slice A n c] w fun e w' => e = .returned (.int .i64 (lowL xs)) ∧ w = w' := by
  obtain ⟨bb, oo, rfl, -, hc⟩ := h.at_ h0
  have hl := h.len
  have hfirst := lowTo_one xs
  have hstep := Lib.hid (fun j => show lowTo xs (j + 1) = min (lowTo xs j) (xs.getD j 0) from rfl)
  have hlast : Hid (lowTo xs n = lowL xs) := by rw [← hl]; exact rfl
  have cr0 := hc 0 h0
  rw [← hfirst, Nat.add_zero] at cr0
  have h0' : ¬ (n : Int) < 1 := by omega
  have h1' : (0 : Int) < (n : Int) := by omega
  generalize hl1 : lowTo xs 1 = l1 at *
  replace hl1 := Lib.hid hl1
  replace hc := Lib.hid hc
  replace hl := Lib.hid hl
  clear h hfirst
  go_enter Try.func58, Try.ntmps58
  go_wp2
  go_loop [3, 4] (fun s9 s10 => ∃ j : Nat, 1 ≤ j ∧ j ≤ n ∧ s10 = .int .i64 j ∧ s9 = .int .i64 (lowTo xs j)) (fun _ s10 => n - (intOf s10).toNat)
  case atStart => exact ⟨1, Nat.le_refl _, h0, rfl, by rw [hl1.out]⟩
  case round =>
    obtain ⟨j, hj1, hj, rfl, rfl⟩ := hrel
    by_cases hj2 : j < n
    · have cj := hc.out j hj2
      have hst := hstep.out j
      generalize xs.getD j 0 = y at *
      generalize lowTo xs j = a at *
      replace hst := Lib.hid hst
      by_cases hya : y < a
      · have hmm := Lib.hid (show min a y = y by omega)
        go_wp2
        go_round
        case rel => exact ⟨j + 1, by omega, by omega, by go_num, by rw [hst.out, hmm.out]⟩
        case measure => simp [intOf]; omega
      · have hmm := Lib.hid (show min a y = a by omega)
        go_wp2
        go_round
        case rel => exact ⟨j + 1, by omega, by omega, by go_num, by rw [hst.out, hmm.out]⟩
        case measure => simp [intOf]; omega
    · obtain rfl : j = n := by omega
      rw [hlast.out]
      go_wp2
      go_ret
      exact ⟨rfl, rfl⟩
end Go.Proofs.Ytfnpkmlgklameaa
