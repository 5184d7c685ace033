/-
  The contract of the program's TextOf.
-/
import Derived.Test.YteemgkabhkdeaaaDoorP3b
import Derived.Test.YteemgkabhkdeaaaDoorN6
import Derived.Test.YteemgkabhkdeaaaDoorJoin
namespace Go.Proofs.YteemgkabhkdeaaaDoor
open Go.RowKit

theorem join_snoc (x : List UInt8) (r : List (List UInt8)) (y sep : List UInt8) : Lib.join (x :: r ++ [y]) sep = Lib.join (x :: r) sep ++ sep ++ y := by
  rw [List.cons_append, Lib.join_cons, Lib.join_cons]
  simp [Lib.joinTail, List.append_assoc]
theorem joinW_join (xs : List ByteArray) : ∀ k, k ≤ xs.length → (joinW xs k).data.toList = Lib.join ((xs.take k).map (·.data.toList)) [32] := by
  intro k
  induction k with
  | zero => intro _; rfl
  | succ k ih =>
    intro hk
    have ih := ih (by omega)
    have hlt : k < xs.length := by omega
    rw [List.take_succ_eq_append_getElem hlt, List.map_append, joinW]
    have hg : xs.getD k ByteArray.empty = xs[k] := by simp [List.getD_eq_getElem?_getD, hlt]
    rw [hg]
    by_cases h0 : 0 < k
    · obtain ⟨x, r, e⟩ : ∃ x r, (xs.take k).map (·.data.toList) = x :: r := by
        cases h : (xs.take k).map (·.data.toList) with
        | nil => have := congrArg List.length h; rw [List.length_map, List.length_take, List.length_nil] at this; omega
        | cons x r => exact ⟨x, r, rfl⟩
      rw [e] at ih ⊢
      rw [if_pos h0, List.map_cons, List.map_nil, join_snoc, ← ih]
      simp [ByteArray.data_append]
    · obtain rfl : k = 0 := by omega
      rw [if_neg h0]
      simp [ByteArray.data_append, joinW, Lib.join_one]
theorem join_text (xs : List ByteArray) : (⟨(Lib.join (xs.map (·.data.toList)) [32]).toArray⟩ : ByteArray) = joinW xs xs.length := by
  have h := joinW_join xs xs.length (Nat.le_refl _)
  rw [List.take_length] at h
  rw [← h]

set_option maxRecDepth 100000 in
set_option maxHeartbeats 1000000 in
theorem implTextOf_any (v : Value) (t : Tg) (n : Int) (w : World) (h : Tng w v t) (hf : t.Fine) (hn : -9223372036854775808 ≤ n ∧ n ≤ 9223372036854775807) :
    Calls Tryd.prog 10 #[v, .int .i64 n] w fun e w' => e = .returned (.string (textOf t n)) ∧ Below w.heap.size w w' := by
  obtain ⟨A1, c1, A2, c2, A3, c3, rfl, -⟩ := h.ex
  have hB := (Below.refl w.heap.size w).alloc (Nat.le_refl _) (.cells #[.slice A1 t.us.length c1, .slice A2 t.bs.length c2, .slice A3 t.ns.length c3] 26)
  have HX := Blk.new w 26 #[.slice A1 t.us.length c1, .slice A2 t.bs.length c2, .slice A3 t.ns.length c3]
  have HT := h.below hB (Nat.le_refl _)
  have K1 := Lib.hid (implNameOf_any _ t n _ HT hf hn)
  replace hB := Lib.hid hB
  replace HX := Lib.hid HX
  clear h hf HT
  have hjs := joinW_size (nameOf_at t n) (nameOf t n).length
  have hln := nameOf_len t n
  have htx : joinW (nameOf t n) (nameOf t n).length = textOf t n := rfl
  go_enter Tryd.func10, Tryd.ntmps10
  go_upto_region 1 with (fail)
  generalize w.alloc (.cells #[.slice A1 t.us.length c1, .slice A2 t.bs.length c2, .slice A3 t.ns.length c3] 26) = W at *
  obtain ⟨x0, x1, x2, -, -, -⟩ := blk3 HX.out
  go_wp2_with (fail)
  refine K1.out.mono ?_
  rintro e w1 ⟨v1, rfl, o1, b1⟩
  obtain ⟨A, c, rfl, hs⟩ := o1.strs
  have hB1 := hB.out.trans (b1.mono hB.out.size)
  have KJ := join_any hs ⟨#[32]⟩ (by omega) (by
    have e := join_text (nameOf t n)
    have e2 := congrArg ByteArray.size e
    have e3 : (⟨(Lib.join ((nameOf t n).map (·.data.toList)) [32]).toArray⟩ : ByteArray).size = (Lib.join ((nameOf t n).map (·.data.toList)) [32]).length := by
      rw [ByteArray.size]; simp
    rw [e3] at e2
    show (Lib.join ((nameOf t n).map (·.data.toList)) [32]).length ≤ _
    omega)
  have KJ' : Calls Tryd.prog 29 #[.slice A (nameOf t n).length c, .string ⟨#[32]⟩] w1 fun e w' => e = .returned (.string (textOf t n)) ∧ Below w1.heap.size w1 w' :=
    KJ.mono fun e w' ⟨he, hb⟩ => ⟨by rw [he]; exact congrArg (fun x => Ending.returned (.string x)) (join_text (nameOf t n)), hb⟩
  replace KJ' := Lib.hid KJ'
  replace hB1 := Lib.hid hB1
  clear KJ b1 x0 x1 x2 K1 o1 HX hs hjs htx
  generalize (nameOf t n).length = L at *
  generalize namedB t n = bb at *
  go_wp2_with (fail)
  refine KJ'.out.mono ?_
  rintro e w2 ⟨rfl, b2⟩
  have hB2 := Lib.hid (hB1.out.trans (b2.mono hB1.out.size))
  clear b2
  go_wp2
  go_ret
  exact ⟨rfl, hB2.out⟩
end Go.Proofs.YteemgkabhkdeaaaDoor
