/-
  The contract of the program's ReadText: texts cut at spaces (the model's way and the library's are one), strings.SplitN by the library's contract, and the walk.
-/
import Derived.Test.YteemgkabhkdeaaaDoorP4e
import Derived.Deep.RegionHeld3
import Derived.Test.YteemgkabhkdeaaaDoorR7
import Derived.Test.YteemgkabhkdeaaaDoorP3f
import Derived.Lib.SplitLaws
import Derived.Lib.IndexLaws
import Derived.Lib.IndexBytes
import Derived.Shelf.Strings.Split
import Derived.Test.YteemgkabhkdeaaaDoorOwn
namespace Go.Proofs.YteemgkabhkdeaaaDoor
open Go.RowKit

/-- A text cut at each space. -/
def cutR : List UInt8 → List (List UInt8)
  | [] => [[]]
  | c :: r => if c = 32 then [] :: cutR r else (c :: (cutR r).headD []) :: (cutR r).tail
def glue (p : List UInt8) (l : List (List UInt8)) : List (List UInt8) := (p ++ l.headD []) :: l.tail
theorem cutR_ne (l : List UInt8) : ∃ q qs, cutR l = q :: qs := by
  cases l with
  | nil => exact ⟨_, _, rfl⟩
  | cons c r => rw [cutR]; split <;> exact ⟨_, _, rfl⟩
theorem glue_nil (l : List UInt8) : glue [] (cutR l) = cutR l := by
  obtain ⟨q, qs, e⟩ := cutR_ne l
  rw [e]; rfl
theorem cutR_len (l : List UInt8) : (cutR l).length ≤ l.length + 1 := by
  induction l with
  | nil => exact Nat.le_refl _
  | cons c r ih =>
    rw [cutR]
    split
    · simp only [List.length_cons]; omega
    · simp only [List.length_cons, List.length_tail]; omega
theorem extract_snoc (s : ByteArray) (a k : Nat) (ha : a ≤ k) (hk : k < s.size) : (s.extract a (k + 1)).data.toList = (s.extract a k).data.toList ++ [s[k]] := by
  have hk' : k < s.data.toList.length := by simpa using hk
  rw [Lib.extract_data, Lib.extract_data]
  have e : s.data.toList[k] = s[k] := rfl
  have h1 : (s.data.toList.drop a).take (k + 1 - a) = (s.data.toList.drop a).take (k - a) ++ [s[k]] := by
    rw [show k + 1 - a = (k - a) + 1 by omega, List.take_succ_eq_append_getElem (by simp; omega)]
    congr 1
    rw [List.getElem_drop]
    simp only [show a + (k - a) = k by omega]
    rw [e]
  simpa using h1
/-- The model's cut is this one. -/
theorem cutTo_glue (s : ByteArray) : ∀ k, k ≤ s.size → (cutTo s k).1.map (·.data.toList) ++ glue (s.extract (cutTo s k).2 k).data.toList (cutR (s.data.toList.drop k)) = cutR s.data.toList := by
  intro k
  induction k with
  | zero =>
    intro _
    have e : (s.extract 0 0).data.toList = [] := by rw [Lib.extract_data]; simp
    show [] ++ glue (s.extract 0 0).data.toList (cutR (s.data.toList.drop 0)) = _
    rw [e, List.drop_zero, glue_nil, List.nil_append]
  | succ k ih =>
    intro hk
    have hlt : k < s.size := by omega
    have hat := (cutTo_at s k).1
    have hk' : k < s.data.toList.length := by simpa using hlt
    have hd : s.data.toList.drop k = s[k] :: s.data.toList.drop (k + 1) := List.drop_eq_getElem_cons hk'
    rw [← ih (by omega), cutTo, dif_pos hlt, hd, cutR]
    by_cases h32 : s[k].toNat = 32
    · have hc : s[k] = 32 := UInt8.toNat_inj.1 (by rw [h32]; rfl)
      have e0 : (s.extract (k + 1) (k + 1)).data.toList = [] := by rw [Lib.extract_data]; simp
      rw [if_pos h32, if_pos hc]
      show (_ ++ [s.extract (cutTo s k).2 k]).map (·.data.toList) ++ glue (s.extract (k + 1) (k + 1)).data.toList _ = _
      rw [e0, glue_nil, List.map_append]
      simp [glue]
    · have hc : ¬ s[k] = 32 := fun e => h32 (by rw [e]; rfl)
      rw [if_neg h32, if_neg hc, extract_snoc s _ k hat hlt]
      simp [glue]
theorem cutL_data (s : ByteArray) : (cutL s).map (·.data.toList) = cutR s.data.toList := by
  rw [← cutTo_glue s s.size (Nat.le_refl _)]
  have e : s.data.toList.drop s.size = [] := List.drop_eq_nil_of_le (by simp)
  unfold cutL
  rw [e, List.map_append]
  simp [glue, cutR]
theorem joinTail_cons (sep y : List UInt8) (r : List (List UInt8)) : Lib.joinTail sep (y :: r) = sep ++ y ++ Lib.joinTail sep r := by
  simp [Lib.joinTail]
theorem cutR_join (l : List UInt8) : Lib.join (cutR l) [32] = l := by
  induction l with
  | nil => rfl
  | cons c r ih =>
    obtain ⟨q, qs, e⟩ := cutR_ne r
    rw [e, Lib.join_cons] at ih
    rw [cutR]
    by_cases hc : c = 32
    · rw [if_pos hc, e, Lib.join_cons, joinTail_cons, hc, ← ih]
      simp
    · rw [if_neg hc, e]
      simp only [List.headD_cons, List.tail_cons]
      rw [Lib.join_cons, ← ih]
      rfl
/-- What is cut and joined again is the text. -/
theorem join_cut (s : ByteArray) : joinW (cutL s) (cutL s).length = s := by
  rw [← join_text, cutL_data, cutR_join]
theorem cutR_miss {l : List UInt8} (h : ∀ k : Nat, l[k]? ≠ some 32) : cutR l = [l] := by
  induction l with
  | nil => rfl
  | cons c r ih =>
    have h0 : ¬ c = 32 := fun e => h 0 (by rw [e]; rfl)
    rw [cutR, if_neg h0, ih (fun k => by have := h (k + 1); simpa using this)]
    rfl
theorem cutR_hit {l : List UInt8} : ∀ {i : Nat}, l[i]? = some 32 → (∀ k : Nat, k < i → l[k]? ≠ some 32) → cutR l = l.take i :: cutR (l.drop (i + 1)) := by
  induction l with
  | nil => intro i h; simp at h
  | cons c r ih =>
    intro i hi hk
    cases i with
    | zero =>
      have hc : c = 32 := by simpa using hi
      rw [cutR, if_pos hc]
      rfl
    | succ i =>
      have h0 : ¬ c = 32 := fun e => hk 0 (by omega) (by rw [e]; rfl)
      have := ih (i := i) (by simpa using hi) (fun k h => by have := hk (k + 1) (by omega); simpa using this)
      rw [cutR, if_neg h0, this]
      simp
/-- The library's cut, at k spaces at most. -/
theorem splitK_cut : ∀ (k : Nat) (l : List UInt8), ((cutR l).length ≤ k + 1 ∧ Lib.splitK [32] 0 k l = cutR l) ∨ (k + 1 < (cutR l).length ∧ (Lib.splitK [32] 0 k l).length = k + 1) := by
  intro k
  induction k with
  | zero =>
    intro l
    by_cases h : Lib.indexByte l 32 = -1
    · have e := cutR_miss (Lib.indexByte_none h)
      exact .inl ⟨by rw [e]; exact Nat.le_refl _, by rw [e]; rfl⟩
    · obtain ⟨i, hi⟩ : ∃ i : Nat, Lib.indexByte l 32 = i := ⟨(Lib.indexByte l 32).toNat, by have := Lib.indexByte_ge l 32; omega⟩
      obtain ⟨h1, h2⟩ := Lib.indexByte_some hi
      have e := cutR_hit h1 h2
      obtain ⟨q, qs, e2⟩ := cutR_ne (l.drop (i + 1))
      exact .inr ⟨by rw [e, e2]; simp, rfl⟩
  | succ k ih =>
    intro l
    rw [Lib.splitK, Lib.index_one]
    by_cases h : Lib.indexByte l 32 = -1
    · have e := cutR_miss (Lib.indexByte_none h)
      rw [if_pos (beq_iff_eq.2 h), e]
      exact .inl ⟨by simp, rfl⟩
    · obtain ⟨i, hi⟩ : ∃ i : Nat, Lib.indexByte l 32 = i := ⟨(Lib.indexByte l 32).toNat, by have := Lib.indexByte_ge l 32; omega⟩
      obtain ⟨h1, h2⟩ := Lib.indexByte_some hi
      have e := cutR_hit h1 h2
      rw [if_neg (fun hh => h (beq_iff_eq.1 hh)), hi, e]
      have e3 : ((i : Int).toNat + ([32] : List UInt8).length) = i + 1 := by simp
      have e4 : ((i : Int).toNat + 0) = i := by simp
      rw [e3, e4]
      rcases ih (l.drop (i + 1)) with ⟨a, b⟩ | ⟨a, b⟩
      · exact .inl ⟨by simp only [List.length_cons]; omega, by rw [b]⟩
      · exact .inr ⟨by simp only [List.length_cons]; omega, by simp only [List.length_cons]; omega⟩
def splitL (s : ByteArray) : List ByteArray := Lib.splitB ⟨#[32]⟩ 0 (min 41 (s.size + 1) - 1) s
theorem data_inj {a b : List ByteArray} (h : a.map (·.data.toList) = b.map (·.data.toList)) : a = b := by
  induction a generalizing b with
  | nil => cases b with
    | nil => rfl
    | cons y ys => cases h
  | cons x xs ih => cases b with
    | nil => cases h
    | cons y ys =>
      simp only [List.map_cons, List.cons.injEq] at h
      rw [ih h.2, ByteArray.ext (Array.toList_inj.1 h.1)]
theorem split_cut (s : ByteArray) : splitL s = cutL s ∨ (40 < (splitL s).length ∧ 40 < (cutL s).length) := by
  have hd := Lib.splitB_data ⟨#[32]⟩ 0 (min 41 (s.size + 1) - 1) s
  have hcl : (cutL s).length = (cutR s.data.toList).length := by rw [← cutL_data, List.length_map]
  have hsl : (splitL s).length = (Lib.splitK [32] 0 (min 41 (s.size + 1) - 1) s.data.toList).length := by
    rw [← List.length_map (f := fun x : ByteArray => x.data.toList)]
    exact congrArg List.length hd
  have hl := cutR_len s.data.toList
  have hz : s.data.toList.length = s.size := by simp
  rcases splitK_cut (min 41 (s.size + 1) - 1) s.data.toList with ⟨_, b⟩ | ⟨a, b⟩
  · exact .inl (data_inj (hd.trans (b.trans (cutL_data s).symm)))
  · exact .inr ⟨by omega, by omega⟩
theorem splitB_size (sep : ByteArray) : ∀ (k : Nat) (s : ByteArray), ∀ x ∈ Lib.splitB sep 0 k s, x.size ≤ s.size := by
  intro k
  induction k with
  | zero => intro s x hx; rw [Lib.splitB_zero] at hx; rw [List.mem_singleton.1 hx]; exact Nat.le_refl _
  | succ k ih =>
    intro s x hx
    rw [Lib.splitB] at hx
    split at hx
    · rw [List.mem_singleton.1 hx]; exact Nat.le_refl _
    · rcases List.mem_cons.1 hx with h | h
      · rw [h, ByteArray.size_extract]; omega
      · have := ih _ x h; rw [ByteArray.size_extract] at this; omega
theorem splitL_size (s : ByteArray) : ∀ x ∈ splitL s, x.size ≤ s.size := splitB_size _ _ s
theorem splitL_len (s : ByteArray) : (splitL s).length ≤ 41 ∧ (splitL s).length ≤ min 41 (s.size + 1) := by
  have := Lib.splitB_length_le ⟨#[32]⟩ 0 (min 41 (s.size + 1) - 1) s
  unfold splitL
  omega
/-- A text is read as its words are. -/
theorem read_text (t : Tg) (s : ByteArray) : readTB t s = readB t (cutL s) ∧ readTV t s = readV t (cutL s) := by
  have e : readTB t s = readB t (cutL s) := by
    unfold readTB
    cases h : readB t (cutL s)
    · rfl
    · have hn := (read_yes h).2.2.1
      rw [Bool.true_and]
      unfold textOf
      rw [hn, join_cut, decide_eq_true rfl]
  refine ⟨e, ?_⟩
  unfold readTV
  rw [e]
  cases h : readB t (cutL s)
  · rw [if_neg (by simp)]; exact (read_no h).symm
  · rw [if_pos rfl]
theorem read_long {t : Tg} {l : List ByteArray} (h : 40 < l.length) : readB t l = false ∧ readV t l = -1 := by
  have e : readB t l = false := by
    unfold readB okL
    rw [decide_eq_false (show ¬ (1 ≤ l.length ∧ l.length ≤ 40) by omega), Bool.and_false]
    rfl
  exact ⟨e, read_no e⟩
theorem read_split (t : Tg) (s : ByteArray) : readTB t s = readB t (splitL s) ∧ readTV t s = readV t (splitL s) := by
  obtain ⟨e1, e2⟩ := read_text t s
  rw [e1, e2]
  rcases split_cut s with h | ⟨h1, h2⟩
  · rw [h]; exact ⟨rfl, rfl⟩
  · obtain ⟨a1, a2⟩ := read_long (t := t) h1
    obtain ⟨b1, b2⟩ := read_long (t := t) h2
    rw [a1, a2, b1, b2]; exact ⟨rfl, rfl⟩
end Go.Proofs.YteemgkabhkdeaaaDoor

namespace Go.Proofs.YteemgkabhkdeaaaDoor
open Go.Shelf Go.RowKit

def splitRen : Go.Shelf.Ren := ⟨fun | 138 => 59 | 143 => 60 | 195 => 73 | 197 => 74 | 217 => 80 | 218 => 75 | 219 => 76 | 221 => 42 | 224 => 82 | 225 => 81 | 260 => 79 | 266 => 84 | 267 => 83 | 268 => 58 | 314 => 85 | n => n, fun | 0 => 0 | 3 => 3 | 4 => 4 | 5 => 5 | 9 => 9 | 21 => 21 | 31 => 23 | 46 => 114 | 51 => 119 | 105 => 108 | 119 => 115 | 138 => 117 | 139 => 118 | 146 => 120 | n => n, fun | 1 => 0 | 3 => 1 | 4 => 2 | n => n⟩
theorem splitLays : Go.Proofs.Lays.n221 Tryd.prog splitRen := {
  mixed := by kernel_rfl
  f138 := Tryd.func59.trans (congrArg some (by kernel_rfl))
  f143 := Tryd.func60.trans (congrArg some (by kernel_rfl))
  f195 := Tryd.func73.trans (congrArg some (by kernel_rfl))
  f197 := Tryd.func74.trans (congrArg some (by kernel_rfl))
  f217 := Tryd.func80.trans (congrArg some (by kernel_rfl))
  f218 := Tryd.func75.trans (congrArg some (by kernel_rfl))
  f219 := Tryd.func76.trans (congrArg some (by kernel_rfl))
  f221 := Tryd.func42.trans (congrArg some (by kernel_rfl))
  f224 := Tryd.func82.trans (congrArg some (by kernel_rfl))
  f225 := Tryd.func81.trans (congrArg some (by kernel_rfl))
  f260 := Tryd.func79.trans (congrArg some (by kernel_rfl))
  f266 := Tryd.func84.trans (congrArg some (by kernel_rfl))
  f267 := Tryd.func83.trans (congrArg some (by kernel_rfl))
  f268 := Tryd.func58.trans (congrArg some (by kernel_rfl))
  f314 := Tryd.func85.trans (congrArg some (by kernel_rfl))
  t0 := Tryd.underlying0
  a0 := Tryd.isAgg0
  z0 := Tryd.sizeOf0
  v0 := Tryd.zeroValue0
  t3 := Tryd.underlying3
  a3 := Tryd.isAgg3
  z3 := Tryd.sizeOf3
  v3 := Tryd.zeroValue3
  t4 := Tryd.underlying4
  a4 := Tryd.isAgg4
  z4 := Tryd.sizeOf4
  v4 := Tryd.zeroValue4
  t5 := Tryd.underlying5
  a5 := Tryd.isAgg5
  z5 := Tryd.sizeOf5
  v5 := Tryd.zeroValue5
  t9 := Tryd.underlying9
  a9 := Tryd.isAgg9
  z9 := Tryd.sizeOf9
  v9 := Tryd.zeroValue9
  t21 := Tryd.underlying21
  a21 := Tryd.isAgg21
  z21 := Tryd.sizeOf21
  v21 := Tryd.zeroValue21
  t31 := Tryd.underlying23
  a31 := Tryd.isAgg23
  z31 := Tryd.sizeOf23
  v31 := Tryd.zeroValue23
  t46 := Tryd.underlying114
  a46 := Tryd.isAgg114
  z46 := Tryd.sizeOf114
  v46 := Tryd.zeroValue114
  t51 := Tryd.underlying119
  a51 := Tryd.isAgg119
  z51 := Tryd.sizeOf119
  v51 := Tryd.zeroValue119
  t105 := Tryd.underlying108
  a105 := Tryd.isAgg108
  z105 := Tryd.sizeOf108
  v105 := Tryd.zeroValue108
  t119 := Tryd.underlying115
  a119 := Tryd.isAgg115
  z119 := Tryd.sizeOf115
  t138 := Tryd.underlying117
  a138 := Tryd.isAgg117
  z138 := Tryd.sizeOf117
  v138 := Tryd.zeroValue117
  t139 := Tryd.underlying118
  a139 := Tryd.isAgg118
  z139 := Tryd.sizeOf118
  v139 := Tryd.zeroValue118
  t146 := Tryd.underlying120
  a146 := Tryd.isAgg120
  z146 := Tryd.sizeOf120
  v146 := Tryd.zeroValue120
  g1 := by kernel_rfl
  g3 := by kernel_rfl
  g4 := by kernel_rfl }

theorem str_info9 : (Tryd.prog.info? (splitRen.t 9)).map (fun i => (i.zero, i.size, i.bytes)) = some (some (.string ByteArray.empty), 1, 16) := by kernel_rfl
theorem genSplit_any (s : ByteArray) (w : World) (hs : s.size ≤ 2000000) :
    Calls Tryd.prog 42 #[.string s, .string ⟨#[32]⟩, .int .i64 0, .int .i64 41] w fun e w' =>
      e = .returned (.slice (some ⟨w.heap.size, 0, none⟩) (splitL s).length (min 41 (s.size + 1))) ∧ w' = w.alloc (.cells (Lib.cellsOf (splitL s) (min 41 (s.size + 1))) 9) :=
  Any.strings_genSplit_core splitLays str_info9 s ⟨#[32]⟩ 0 41 (min 41 (s.size + 1)) w (by omega) (Nat.le_refl _) (Nat.zero_le _)
    (fun x c _ => (Any.strings_Index_one { splitLays with } x 32 _).mono fun e w' ⟨he, hw⟩ => ⟨he.trans (by
      show Ending.returned (.int .i64 (Lib.indexByte x.data.toList 32)) = .returned (.int .i64 (Lib.index x.data.toList [32]))
      rw [Lib.index_one]), hw⟩)
    ((Any.strings_Count_one { splitLays with } s 32 w).mono fun e w' ⟨he, hw⟩ => ⟨he.trans (by
      show Ending.returned (.int .i64 (Lib.countByte s.data.toList 32)) = .returned (.int .i64 ((Lib.count s.data.toList [32] : Nat) : Int))
      rw [Lib.count_one]
      rfl), hw⟩)
    (by decide) (by decide) (by rw [if_neg (by decide)]; omega)

theorem split_strs (w : World) (s : ByteArray) : Strs (w.alloc (.cells (Lib.cellsOf (splitL s) (min 41 (s.size + 1))) 9)) (some ⟨w.heap.size, 0, none⟩) (splitL s).length (min 41 (s.size + 1)) (splitL s) := by
  have hB := Blk.new w 9 (Lib.cellsOf (splitL s) (min 41 (s.size + 1)))
  refine ⟨rfl, (splitL_len s).2, fun _ => ⟨w.heap.size, 0, rfl, hB.lt, fun j hj => ?_⟩⟩
  rw [Nat.zero_add, hB.cell]
  unfold Lib.cellsOf
  rw [List.getElem?_toArray, List.getElem?_append_left (by simpa using hj), List.getElem?_map, List.getElem?_eq_getElem hj]
  simp [List.getD_eq_getElem?_getD, hj]

theorem splitN_any (s : ByteArray) (w : World) (hs : s.size ≤ 2000000) :
    Calls Tryd.prog 23 #[.string s, .string ⟨#[32]⟩, .int .i64 41] w fun e w' => ∃ c, e = .returned (.slice (some ⟨w.heap.size, 0, none⟩) (splitL s).length c) ∧ Strs w' (some ⟨w.heap.size, 0, none⟩) (splitL s).length c (splitL s) ∧ Below w.heap.size w w' := by
  have K := Lib.hid (genSplit_any s w hs)
  have HS := split_strs w s
  have HB := (Below.refl w.heap.size w).alloc (Nat.le_refl _) (.cells (Lib.cellsOf (splitL s) (min 41 (s.size + 1))) 9)
  replace HS := Lib.hid HS
  replace HB := Lib.hid HB
  generalize splitL s = l at *
  generalize min 41 (s.size + 1) = N at *
  go_enter Tryd.func23, Tryd.ntmps23
  go_wp2_with (fail)
  refine K.out.mono ?_
  rintro e w' ⟨rfl, rfl⟩
  go_wp2
  go_ret
  exact ⟨N, rfl, HS.out, HB.out⟩
end Go.Proofs.YteemgkabhkdeaaaDoor

namespace Go.Proofs.YteemgkabhkdeaaaDoor
open Go.RowKit

set_option maxRecDepth 100000 in
set_option maxHeartbeats 4000000 in
theorem implReadText_any (v : Value) (t : Tg) (s : ByteArray) (w : World) (h : Tng w v t) (hf : t.Fine) (hs : s.size ≤ 1048576) :
    Calls Tryd.prog 7 #[v, .string s] w fun e w' => e = .returned (.tuple #[.int .i64 (readTV t s), .bool (readTB t s)]) ∧ Below w.heap.size w w' := by
  obtain ⟨A1, c1, A2, c2, A3, c3, rfl, -⟩ := h.ex
  have hB := (Below.refl w.heap.size w).alloc (Nat.le_refl _) (.cells #[.slice A1 t.us.length c1, .slice A2 t.bs.length c2, .slice A3 t.ns.length c3] 26)
  have HX := Blk.new w 26 #[.slice A1 t.us.length c1, .slice A2 t.bs.length c2, .slice A3 t.ns.length c3]
  have HT := h.below hB (Nat.le_refl _)
  have hcs := Lib.hid (show ∀ x ∈ splitL s, x.size ≤ 1048576 from fun x hx => by have := splitL_size s x hx; omega)
  have hcl := (splitL_len s).1
  obtain ⟨e1, e2⟩ := read_split t s
  rw [e1, e2]
  clear e1 e2
  replace hB := Lib.hid hB
  replace HX := Lib.hid HX
  replace HT := Lib.hid HT
  clear h
  go_enter Tryd.func7, Tryd.ntmps7
  go_upto_region 1 with (fail)
  generalize w.alloc (.cells #[.slice A1 t.us.length c1, .slice A2 t.bs.length c2, .slice A3 t.ns.length c3] 26) = W at *
  have hXc := Lib.hid (fun W' (h : Below W.heap.size W W') => blk3 (HX.out.below h HX.out.lt))
  have KC := Lib.hid (fun W' => splitN_any s W' (by omega))
  have KR := Lib.hid (fun A c W' (h : Below W.heap.size W W') hs => implReadName_any _ t A (splitL s).length c (splitL s) W' (HT.out.below h (Nat.le_refl _)) hf hs (by omega) hcs.out)
  obtain ⟨x0, x1, x2, -, -, -⟩ := blk3 HX.out
  go_region_held3 (fun w' => w'.cell? ⟨w.heap.size, 0, none⟩ = some (.slice A1 t.us.length c1) ∧ w'.cell? ⟨w.heap.size, 1, none⟩ = some (.slice A2 t.bs.length c2) ∧ w'.cell? ⟨w.heap.size, 2, none⟩ = some (.slice A3 t.ns.length c3))
    (first | go_keep | exact hS2 | exact hS3)
    (first
      | (go_at_call 23; refine (KC.out _).mono ?_; rintro e w2 ⟨c5, rfl, s5, b2'⟩; have b2 : Below W.heap.size W w2 := ⟨b2'.os, b2'.tape, b2'.output, b2'.size, b2'.block⟩; obtain ⟨x0', x1', x2', -, -, -⟩ := hXc.out _ b2; have hS2 := And.intro x0' (And.intro x1' x2'); replace s5 := Lib.hid s5; replace b2 := Lib.hid b2; clear b2')
      | (go_at_call 22; refine (KR.out _ _ _ b2.out s5.out).mono ?_; rintro e w3 ⟨rfl, b3'⟩; have b3 := b2.out.trans (b3'.mono b2.out.size); obtain ⟨x0'', x1'', x2'', -, -, -⟩ := hXc.out _ b3; have hS3 := And.intro x0'' (And.intro x1'' x2''); replace b3 := Lib.hid b3; clear b3'))
  all_goals
    clear hS2 hS3 x0 x1 x2 x0' x1' x2' KC KR s5
    have hB3 := Lib.hid (hB.out.trans (b3.out.mono hB.out.size))
    go_wp2
    go_ret2
    exact ⟨two_ret rfl rfl, hB3.out⟩
end Go.Proofs.YteemgkabhkdeaaaDoor
