/-
  The contract of NamesOf of the model.
-/
import Derived.Test.YteemgkabhkdeaaaDoorR6
namespace Go.Proofs.YteemgkabhkdeaaaDoor
open Go.RowKit

def namesTo (t : Tg) (a : Int) : Nat → List ByteArray
  | 0 => []
  | k + 1 => namesTo t a k ++ [textOf t (a + k)]
def fullTo (t : Tg) (a : Int) : Nat → Bool
  | 0 => true
  | k + 1 => fullTo t a k && decide (textOf t (a + k) ≠ ⟨#[]⟩)
def spanOk (a b : Int) : Bool := decide ((1 ≤ a ∧ a ≤ b) ∧ b ≤ 99999 ∧ b - a < 200)
def namesOf (t : Tg) (a b : Int) : List ByteArray := if (spanOk a b && fullTo t a (b + 1 - a).toNat) = true then namesTo t a (b + 1 - a).toNat else []
theorem names_no {t : Tg} {a b : Int} (h : spanOk a b = false) : namesOf t a b = [] := by unfold namesOf; rw [h]; rfl
theorem fullTo_le (t : Tg) (a : Int) {k : Nat} (h : fullTo t a k = false) : ∀ m, k ≤ m → fullTo t a m = false := by
  intro m hm
  induction m with
  | zero => obtain rfl : k = 0 := by omega
            exact h
  | succ m ih =>
    by_cases e : k = m + 1
    · rw [← e]; exact h
    · rw [fullTo, ih (by omega)]; rfl
theorem namesTo_len (t : Tg) (a : Int) : ∀ k, (namesTo t a k).length = k := by
  intro k
  induction k with
  | zero => rfl
  | succ k ih => rw [namesTo, List.length_append, ih]; rfl
theorem names_gap {t : Tg} {a b : Int} {k : Nat} (hk : k < (b + 1 - a).toNat) (h : textOf t (a + k) = ⟨#[]⟩) : namesOf t a b = [] := by
  have e : fullTo t a (b + 1 - a).toNat = false := fullTo_le t a (k := k + 1) (by rw [fullTo, h]; simp) _ (by omega)
  unfold namesOf
  rw [e, Bool.and_false]; rfl
theorem names_yes {t : Tg} {a b : Int} (h : spanOk a b = true) (hf : fullTo t a (b + 1 - a).toNat = true) : namesOf t a b = namesTo t a (b + 1 - a).toNat := by
  unfold namesOf; rw [h, hf]; rfl

theorem namesOf_len (t : Tg) (a b : Int) : (namesOf t a b).length ≤ 200 := by
  unfold namesOf
  split
  · rename_i h
    rw [Bool.and_eq_true] at h
    have h1 := of_decide_eq_true h.1
    rw [namesTo_len]; omega
  · simp
theorem empty_list (x : ByteArray) : x.toList.isEmpty = decide (x = ⟨#[]⟩) := by
  by_cases e : x = ⟨#[]⟩
  · subst e; simp [ByteArray.toList_eq]
  · have : ¬ x.data.toList = [] := fun h => e (ByteArray.ext (Array.toList_inj.1 (by rw [h])))
    simp [e, ByteArray.toList_eq] at this ⊢
    exact this

set_option maxRecDepth 100000 in
set_option maxHeartbeats 4000000 in
theorem specNamesOf_any (v : Value) (t : Tg) (a b : Int) (w : World) (h : Tng w v t) (hf : t.Fine) (ha : -9223372036854775808 ≤ a ∧ a ≤ 9223372036854775807) (hb : -9223372036854775808 ≤ b ∧ b ≤ 9223372036854775807) :
    Calls Tryd.prog 14 #[v, .int .i64 a, .int .i64 b] w (RetStrs w (namesOf t a b)) := by
  obtain ⟨i0, hi, hz0, hz1, hz2⟩ := info_parts str_info
  obtain ⟨A1, c1, A2, c2, A3, c3, rfl, -⟩ := h.ex
  have hB := (Below.refl w.heap.size w).alloc (Nat.le_refl _) (.cells #[.slice A1 t.us.length c1, .slice A2 t.bs.length c2, .slice A3 t.ns.length c3] 26)
  have HX := Blk.new w 26 #[.slice A1 t.us.length c1, .slice A2 t.bs.length c2, .slice A3 t.ns.length c3]
  have HT := h.below hB (Nat.le_refl _)
  replace hB := Lib.hid hB
  replace HX := Lib.hid HX
  replace HT := Lib.hid HT
  clear h
  go_enter Tryd.func14, Tryd.ntmps14
  go_upto_region 1 with (fail)
  generalize w.alloc (.cells #[.slice A1 t.us.length c1, .slice A2 t.bs.length c2, .slice A3 t.ns.length c3] 26) = W at *
  have hXc := Lib.hid (fun W' (h : Below W.heap.size W W') => blk3 (HX.out.below h HX.out.lt))
  have KT := Lib.hid (fun n W' (h : Below W.heap.size W W') hn => specTextOf_any _ t n W' (HT.out.below h (Nat.le_refl _)) hf hn)
  by_cases h1 : 1 ≤ a ∧ a ≤ b
  · have hdb := decide_eq_true h1
    by_cases h2 : 99999 < b
    · have HN := Lib.hid (names_no (t := t) (show spanOk a b = false from decide_eq_false (by omega)))
      go_wp2_with ((go_at_call 31; refine (in_any _ _ _ _).mono ?_; rintro e _ ⟨rfl, rfl⟩))
      go_ret
      exact ⟨_, rfl, by rw [HN.out]; exact owns_empty (Blk.new _ _ _) hB.out.size, hB.out.alloc hB.out.size _⟩
    · by_cases h3 : 200 ≤ b - a
      · have HN := Lib.hid (names_no (t := t) (show spanOk a b = false from decide_eq_false (by omega)))
        go_wp2_with ((go_at_call 31; refine (in_any _ _ _ _).mono ?_; rintro e _ ⟨rfl, rfl⟩))
        go_ret
        exact ⟨_, rfl, by rw [HN.out]; exact owns_empty (Blk.new _ _ _) hB.out.size, hB.out.alloc hB.out.size _⟩
      · have HY := Lib.hid (show spanOk a b = true from decide_eq_true (by omega))
        obtain ⟨L, hL⟩ : ∃ L : Nat, (b + 1 - a).toNat = L := ⟨_, rfl⟩
        have HG := Lib.hid (fun k (hk : k < L) => names_gap (t := t) (a := a) (b := b) (k := k) (by omega))
        have HW := Lib.hid (fun (h : fullTo t a L = true) => names_yes (t := t) (a := a) (b := b) HY.out (by rw [hL]; exact h))
        rw [hL] at HW
        go_wp2_with ((go_at_call 31; refine (in_any _ _ _ _).mono ?_; rintro e _ ⟨rfl, rfl⟩))
        go_loopw [7, 8] (fun s7 s8 wr => ∃ k : Nat, k ≤ L ∧ s8 = .int .i64 (a + k) ∧ fullTo t a k = true ∧ OwnStrs wr W.heap.size s7 (namesTo t a k) ∧ Below W.heap.size W wr) (fun _ s8 _ => L - (intOf s8 - a).toNat)
        case atStart => exact ⟨0, Nat.zero_le _, by simp, rfl, owns_empty (Blk.new _ _ _) (Nat.le_refl _), (Below.refl _ _).alloc (Nat.le_refl _) _⟩
        case round =>
          obtain ⟨k, hk, rfl, hfk, ho, hBr⟩ := hrel
          obtain ⟨x0, x1, x2, -, -, -⟩ := hXc.out _ hBr
          by_cases hlt : k < L
          · have KT1 := Lib.hid (KT.out (a + k) wr hBr (by omega))
            have HG1 := Lib.hid (HG.out k hlt)
            have HF : fullTo t a (k + 1) = (fullTo t a k && decide (textOf t (a + k) ≠ ⟨#[]⟩)) := rfl
            have HN : namesTo t a (k + 1) = namesTo t a k ++ [textOf t (a + k)] := rfl
            have hlen := Lib.hid (namesTo_len t a k)
            rw [hfk, Bool.true_and] at HF
            generalize textOf t (a + k) = tx at *
            generalize namesTo t a k = out at *
            obtain ⟨A5, c5, rfl, -⟩ := ho.strs
            replace ho := Lib.hid ho
            replace hBr := Lib.hid hBr
            replace HF := Lib.hid HF
            replace HN := Lib.hid HN
            have m1 := Lib.hid (show out.length + 1 ≤ maxLen by have := hlen.out; unfold maxLen; omega)
            have m2 := Lib.hid (show (out.length + 1) * 16 ≤ 140737488355328 by have := hlen.out; omega)
            have hlt' : a + (k : Int) ≤ b := by omega
            go_wp2_with (fail)
            refine KT1.out.mono ?_
            rintro e w2 ⟨rfl, b2⟩
            have ho2 := Lib.hid (ho.out.below b2 (Nat.le_refl _))
            have hB2 := Lib.hid (hBr.out.trans (b2.mono hBr.out.size))
            clear b2
            by_cases he : tx = ⟨#[]⟩
            · have hx1 : tx.toList.isEmpty = true := by rw [empty_list]; exact decide_eq_true he
              have hno := Lib.hid (HG1.out he)
              replace he := Lib.hid he
              go_wp2
              go_ret
              exact ⟨_, rfl, by rw [hno.out]; exact owns_empty (Blk.new _ _ _) (by have := hB.out.size; have := hB2.out.size; omega), (hB.out.trans (hB2.out.mono hB.out.size)).alloc (by have := hB.out.size; have := hB2.out.size; omega) _⟩
            · have hx1 : tx.toList.isEmpty = false := by rw [empty_list]; exact decide_eq_false he
              have hF1 := Lib.hid (show fullTo t a (k + 1) = true by rw [HF.out]; exact decide_eq_true he)
              replace he := Lib.hid he
              go_wp2_with (at_builtin; refine wpList_app _ rfl (.tmp 38) (.tmp 40) _ rfl W.heap.size 9 i0 _ 16 Tryd.underlying23 hi hz0 hz1 hz2 rfl (.slice A5 out.length c5) _ _ rfl (World.ownsRow.alloc ho2.out _) (some ⟨w2.heap.size, 0, none⟩) 1 1 [.string tx] rfl (Src.one (Blk.new _ _ _) rfl) m1.out m2.out (by have := hB2.out.size; simp; omega) ?_; intro v6 w6 ho6 hg6 _)
              have hB6 := Lib.hid (below_own (hB2.out.alloc hB2.out.size _) (World.ownsRow.alloc ho2.out _) hg6 (by have := hB2.out.size; simp; omega) (Nat.le_refl _))
              have ho7 := Lib.hid (own_snoc4 ho6)
              clear ho6 hg6
              go_wp2
              go_roundw
              case rel => exact ⟨k + 1, by omega, by go_num, hF1.out, by rw [HN.out]; exact ho7.out, hB6.out⟩
              case measure => simp [intOf]; omega
          · obtain rfl : k = L := by omega
            have hyes := Lib.hid (HW.out hfk)
            have hlt' : ¬ a + (k : Int) ≤ b := by omega
            obtain ⟨A5, c5, rfl, -⟩ := ho.strs
            replace ho := Lib.hid ho
            replace hBr := Lib.hid hBr
            go_wp2
            go_ret
            exact ⟨_, rfl, by rw [hyes.out]; exact ho.out.mono hB.out.size, hB.out.trans (hBr.out.mono hB.out.size)⟩
  · have hdb := decide_eq_false h1
    have HN := Lib.hid (names_no (t := t) (show spanOk a b = false from decide_eq_false (by omega)))
    go_wp2_with ((go_at_call 31; refine (in_any _ _ _ _).mono ?_; rintro e _ ⟨rfl, rfl⟩))
    go_ret
    exact ⟨_, rfl, by rw [HN.out]; exact owns_empty (Blk.new _ _ _) hB.out.size, hB.out.alloc hB.out.size _⟩
end Go.Proofs.YteemgkabhkdeaaaDoor
