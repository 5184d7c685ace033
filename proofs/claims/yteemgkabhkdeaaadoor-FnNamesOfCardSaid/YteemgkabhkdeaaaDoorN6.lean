/-
  The contract of TextOf of the model.
-/
import Derived.Test.YteemgkabhkdeaaaDoorN5
namespace Go.Proofs.YteemgkabhkdeaaaDoor
open Go.RowKit

/-- The first k words with a space between each two. -/
def joinW (l : List ByteArray) : Nat → ByteArray
  | 0 => ⟨#[]⟩
  | k + 1 => (if 0 < k then joinW l k ++ ⟨#[32]⟩ else joinW l k) ++ l.getD k ByteArray.empty
def textOf (t : Tg) (n : Int) : ByteArray := joinW (nameOf t n) (nameOf t n).length
theorem nameOf_size (t : Tg) (n : Int) : ∀ x ∈ nameOf t n, 1 ≤ x.size ∧ x.size ≤ 8 := by
  intro x hx
  unfold nameOf at hx
  by_cases ho : okN t n = true
  · rw [if_pos ho] at hx
    unfold okN at ho
    rw [Bool.and_eq_true, decide_eq_true_eq] at ho
    obtain ⟨_, hb, hns, _, hw, _⟩ := (ok_iff t).1 ho.1
    exact wordOk_len (hw x (name_mem t.us t.bs t.ns hb hns n.toNat (by omega) x hx))
  · rw [if_neg ho] at hx; cases hx
theorem nameOf_at (t : Tg) (n : Int) (k : Nat) : ((nameOf t n).getD k ByteArray.empty).size ≤ 8 := by
  by_cases hk : k < (nameOf t n).length
  · rw [List.getD_eq_getElem?_getD, List.getElem?_eq_getElem hk]
    exact (nameOf_size t n _ (List.getElem_mem hk)).2
  · rw [List.getD_eq_getElem?_getD, List.getElem?_eq_none (by omega)]
    exact Nat.zero_le _
theorem joinW_size {l : List ByteArray} (h : ∀ k, (l.getD k ByteArray.empty).size ≤ 8) : ∀ k, (joinW l k).size ≤ 9 * k := by
  intro k
  induction k with
  | zero => exact Nat.le_refl _
  | succ k ih =>
    rw [joinW, ByteArray.size_append]
    have h8 := h k
    have h1 : (⟨#[32]⟩ : ByteArray).size = 1 := rfl
    split
    · rw [ByteArray.size_append, h1]; omega
    · omega
theorem nameOf_len (t : Tg) (n : Int) : (nameOf t n).length ≤ 99999 := by
  unfold nameOf
  split
  · rename_i h
    unfold okN at h
    rw [Bool.and_eq_true, decide_eq_true_eq] at h
    have := name_len t.us t.bs t.ns (ok_shape h.1).bs n.toNat (by omega)
    unfold nameT
    omega
  · simp

set_option maxRecDepth 100000 in
set_option maxHeartbeats 2000000 in
theorem specTextOf_any (v : Value) (t : Tg) (n : Int) (w : World) (h : Tng w v t) (hf : t.Fine) (hn : -9223372036854775808 ≤ n ∧ n ≤ 9223372036854775807) :
    Calls Tryd.prog 26 #[v, .int .i64 n] w fun e w' => e = .returned (.string (textOf t n)) ∧ Below w.heap.size w w' := by
  obtain ⟨A1, c1, A2, c2, A3, c3, rfl, -⟩ := h.ex
  have hB := (Below.refl w.heap.size w).alloc (Nat.le_refl _) (.cells #[.slice A1 t.us.length c1, .slice A2 t.bs.length c2, .slice A3 t.ns.length c3] 26)
  have HX := Blk.new w 26 #[.slice A1 t.us.length c1, .slice A2 t.bs.length c2, .slice A3 t.ns.length c3]
  have HT := h.below hB (Nat.le_refl _)
  have K1 := Lib.hid (specNameOf_any _ t n _ HT hf hn)
  replace hB := Lib.hid hB
  replace HX := Lib.hid HX
  clear h hf HT
  have hat := Lib.hid (nameOf_at t n)
  have hjs := Lib.hid (joinW_size (nameOf_at t n))
  have hln := nameOf_len t n
  have htx : joinW (nameOf t n) (nameOf t n).length = textOf t n := rfl
  generalize textOf t n = tx at *
  go_enter Tryd.func26, Tryd.ntmps26
  go_upto_region 2 with (fail)
  generalize w.alloc (.cells #[.slice A1 t.us.length c1, .slice A2 t.bs.length c2, .slice A3 t.ns.length c3] 26) = W at *
  obtain ⟨x0, x1, x2, -, -, -⟩ := blk3 HX.out
  go_wp2_with (fail)
  refine K1.out.mono ?_
  rintro e w1 ⟨v1, rfl, o1, b1⟩
  obtain ⟨A, c, rfl, hs⟩ := o1.strs
  replace hB := Lib.hid (hB.out.trans (b1.mono hB.out.size))
  clear b1 x0 x1 x2 K1 o1 HX
  generalize nameOf t n = xs at *
  generalize hL : xs.length = L at *
  replace hL := Lib.hid hL
  replace htx := Lib.hid htx
  go_wp2
  go_loop [5, 8] (fun s5 s8 => ∃ k : Nat, k ≤ L ∧ s8 = .int .i64 k ∧ s5 = .string (joinW xs k)) (fun _ i => L - (intOf i).toNat)
  case atStart => exact ⟨0, Nat.zero_le _, rfl, rfl⟩
  case round =>
    obtain ⟨k, hk, rfl, rfl⟩ := hrel
    by_cases hlt : k < L
    · obtain ⟨b, o, rfl, -, hc⟩ := hs.at_ (by omega)
      have ck := hc k hlt
      have HJ : joinW xs (k + 1) = (if 0 < k then joinW xs k ++ ⟨#[32]⟩ else joinW xs k) ++ xs.getD k ByteArray.empty := rfl
      have z1 := hjs.out k
      have z2 := hat.out k
      generalize xs.getD k ByteArray.empty = x at *
      generalize joinW xs k = out at *
      have y1 : (⟨#[32]⟩ : ByteArray).size = 1 := rfl
      have y2 : (out ++ ⟨#[32]⟩).size = out.size + 1 := by rw [ByteArray.size_append, y1]
      have y3 : ¬ (9223372036854775807 < out.size + 1) := by omega
      have y4 : ¬ (9223372036854775807 < out.size + 1 + x.size) := by omega
      have y5 : ¬ (9223372036854775807 < out.size + x.size) := by omega
      clear hc
      by_cases h0 : 0 < k
      · have h0' : (0 : Int) < (k : Int) := by omega
        rw [if_pos h0] at HJ
        replace HJ := Lib.hid HJ
        go_wp2
        go_round
        case rel => exact ⟨k + 1, by omega, by go_num, by rw [HJ.out]⟩
        case measure => simp [intOf]; omega
      · have h0' : ¬ (0 : Int) < (k : Int) := by omega
        rw [if_neg h0] at HJ
        replace HJ := Lib.hid HJ
        go_wp2
        go_round
        case rel => exact ⟨k + 1, by omega, by go_num, by rw [HJ.out]⟩
        case measure => simp [intOf]; omega
    · obtain rfl : k = L := by omega
      rw [htx.out]
      go_wp2
      go_ret
      exact ⟨rfl, hB.out⟩
end Go.Proofs.YteemgkabhkdeaaaDoor
