/-
  strings.SplitN at a space, by the library's contract of genSplit at this program: the table of its numbers, and that the program holds its functions and types.
-/
import Derived.Shelf.Strings.Split
import Derived.Test.YteemgkabhkdeaaaDoorOwn
import Derived.Test.YteemgkabhkdeaaaDoorCutM
namespace Go.Proofs.YteemgkabhkdeaaaDoor
open Go.Shelf Go.RowKit

def splitRen : Go.Shelf.Ren := ⟨fun | 138 => 59 | 143 => 60 | 195 => 73 | 197 => 74 | 217 => 80 | 218 => 75 | 219 => 76 | 221 => 42 | 224 => 82 | 225 => 81 | 260 => 79 | 266 => 84 | 267 => 83 | 268 => 58 | 314 => 85 | n => n, fun | 0 => 0 | 3 => 3 | 4 => 4 | 5 => 5 | 9 => 9 | 21 => 21 | 31 => 23 | 46 => 114 | 51 => 119 | 105 => 108 | 119 => 115 | 138 => 117 | 139 => 118 | 146 => 120 | n => n, fun | 1 => 0 | 3 => 1 | 4 => 2 | n => n⟩
theorem splitLays : Go.Proofs.Lays.n221 Tryd.prog splitRen := {
  mixed := by kernel_rfl
  f138 := Tryd.func59.trans (congrArg some (by kernel_rfl))
  f143 := Tryd.func60.trans (congrArg some (by kernel_rfl))
  f195 := Tryd.func73.trans (congrArg some (by kernel_rfl))
  f197 := Tryd.func74.trans (congrArg some (by kernel_rfl))
  f217 := Tryd.func80.trans (congrArg some (by kernel_rfl))
  f218 := Tryd.func75.trans (congrArg some (by kernel_rfl))
  f219 := Tryd.func76.trans (congrArg some (by kernel_rfl))
  f221 := Tryd.func42.trans (congrArg some (by kernel_rfl))
  f224 := Tryd.func82.trans (congrArg some (by kernel_rfl))
  f225 := Tryd.func81.trans (congrArg some (by kernel_rfl))
  f260 := Tryd.func79.trans (congrArg some (by kernel_rfl))
  f266 := Tryd.func84.trans (congrArg some (by kernel_rfl))
  f267 := Tryd.func83.trans (congrArg some (by kernel_rfl))
  f268 := Tryd.func58.trans (congrArg some (by kernel_rfl))
  f314 := Tryd.func85.trans (congrArg some (by kernel_rfl))
  t0 := Tryd.underlying0
  a0 := Tryd.isAgg0
  z0 := Tryd.sizeOf0
  v0 := Tryd.zeroValue0
  t3 := Tryd.underlying3
  a3 := Tryd.isAgg3
  z3 := Tryd.sizeOf3
  v3 := Tryd.zeroValue3
  t4 := Tryd.underlying4
  a4 := Tryd.isAgg4
  z4 := Tryd.sizeOf4
  v4 := Tryd.zeroValue4
  t5 := Tryd.underlying5
  a5 := Tryd.isAgg5
  z5 := Tryd.sizeOf5
  v5 := Tryd.zeroValue5
  t9 := Tryd.underlying9
  a9 := Tryd.isAgg9
  z9 := Tryd.sizeOf9
  v9 := Tryd.zeroValue9
  t21 := Tryd.underlying21
  a21 := Tryd.isAgg21
  z21 := Tryd.sizeOf21
  v21 := Tryd.zeroValue21
  t31 := Tryd.underlying23
  a31 := Tryd.isAgg23
  z31 := Tryd.sizeOf23
  v31 := Tryd.zeroValue23
  t46 := Tryd.underlying114
  a46 := Tryd.isAgg114
  z46 := Tryd.sizeOf114
  v46 := Tryd.zeroValue114
  t51 := Tryd.underlying119
  a51 := Tryd.isAgg119
  z51 := Tryd.sizeOf119
  v51 := Tryd.zeroValue119
  t105 := Tryd.underlying108
  a105 := Tryd.isAgg108
  z105 := Tryd.sizeOf108
  v105 := Tryd.zeroValue108
  t119 := Tryd.underlying115
  a119 := Tryd.isAgg115
  z119 := Tryd.sizeOf115
  t138 := Tryd.underlying117
  a138 := Tryd.isAgg117
  z138 := Tryd.sizeOf117
  v138 := Tryd.zeroValue117
  t139 := Tryd.underlying118
  a139 := Tryd.isAgg118
  z139 := Tryd.sizeOf118
  v139 := Tryd.zeroValue118
  t146 := Tryd.underlying120
  a146 := Tryd.isAgg120
  z146 := Tryd.sizeOf120
  v146 := Tryd.zeroValue120
  g1 := by kernel_rfl
  g3 := by kernel_rfl
  g4 := by kernel_rfl }

theorem str_info9 : (Tryd.prog.info? (splitRen.t 9)).map (fun i => (i.zero, i.size, i.bytes)) = some (some (.string ByteArray.empty), 1, 16) := by kernel_rfl
theorem genSplit_any (s : ByteArray) (w : World) (hs : s.size ≤ 2000000) :
    Calls Tryd.prog 42 #[.string s, .string ⟨#[32]⟩, .int .i64 0, .int .i64 41] w fun e w' =>
      e = .returned (.slice (some ⟨w.heap.size, 0, none⟩) (splitL s).length (min 41 (s.size + 1))) ∧ w' = w.alloc (.cells (Lib.cellsOf (splitL s) (min 41 (s.size + 1))) 9) :=
  Any.strings_genSplit_core splitLays str_info9 s ⟨#[32]⟩ 0 41 (min 41 (s.size + 1)) w (by omega) (Nat.le_refl _) (Nat.zero_le _)
    (fun x c _ => (Any.strings_Index_one { splitLays with } x 32 _).mono fun e w' ⟨he, hw⟩ => ⟨he.trans (by
      show Ending.returned (.int .i64 (Lib.indexByte x.data.toList 32)) = .returned (.int .i64 (Lib.index x.data.toList [32]))
      rw [Lib.index_one]), hw⟩)
    ((Any.strings_Count_one { splitLays with } s 32 w).mono fun e w' ⟨he, hw⟩ => ⟨he.trans (by
      show Ending.returned (.int .i64 (Lib.countByte s.data.toList 32)) = .returned (.int .i64 ((Lib.count s.data.toList [32] : Nat) : Int))
      rw [Lib.count_one]
      rfl), hw⟩)
    (by decide) (by decide) (by rw [if_neg (by decide)]; omega)

theorem split_strs (w : World) (s : ByteArray) : Strs (w.alloc (.cells (Lib.cellsOf (splitL s) (min 41 (s.size + 1))) 9)) (some ⟨w.heap.size, 0, none⟩) (splitL s).length (min 41 (s.size + 1)) (splitL s) := by
  have hB := Blk.new w 9 (Lib.cellsOf (splitL s) (min 41 (s.size + 1)))
  refine ⟨rfl, (splitL_len s).2, fun _ => ⟨w.heap.size, 0, rfl, hB.lt, fun j hj => ?_⟩⟩
  rw [Nat.zero_add, hB.cell]
  unfold Lib.cellsOf
  rw [List.getElem?_toArray, List.getElem?_append_left (by simpa using hj), List.getElem?_map, List.getElem?_eq_getElem hj]
  simp [List.getD_eq_getElem?_getD, hj]

theorem splitN_any (s : ByteArray) (w : World) (hs : s.size ≤ 2000000) :
    Calls Tryd.prog 23 #[.string s, .string ⟨#[32]⟩, .int .i64 41] w fun e w' => ∃ c, e = .returned (.slice (some ⟨w.heap.size, 0, none⟩) (splitL s).length c) ∧ Strs w' (some ⟨w.heap.size, 0, none⟩) (splitL s).length c (splitL s) ∧ Below w.heap.size w w' := by
  have K := Lib.hid (genSplit_any s w hs)
  have HS := split_strs w s
  have HB := (Below.refl w.heap.size w).alloc (Nat.le_refl _) (.cells (Lib.cellsOf (splitL s) (min 41 (s.size + 1))) 9)
  replace HS := Lib.hid HS
  replace HB := Lib.hid HB
  generalize splitL s = l at *
  generalize min 41 (s.size + 1) = N at *
  go_enter Tryd.func23, Tryd.ntmps23
  go_wp2_with (fail)
  refine K.out.mono ?_
  rintro e w' ⟨rfl, rfl⟩
  go_wp2
  go_ret
  exact ⟨N, rfl, HS.out, HB.out⟩
end Go.Proofs.YteemgkabhkdeaaaDoor
