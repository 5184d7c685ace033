/-
  The contract of UnsaidOf of the model.
-/
import Derived.Test.YtfcjhelhhefkkaaS4
namespace Go.Proofs.Ytfcjhelhhefkkaa
open Go.RowKit Go.Lib

theorem back_even {a : List UInt8} : ∀ (n : Nat), a.length = 2 * n → ∀ b, putBack (a ++ b) = putBack a ++ putBack b := by
  intro n
  induction n generalizing a with
  | zero =>
    intro h b
    have e : a = [] := List.eq_nil_of_length_eq_zero (by omega)
    rw [e]; rfl
  | succ n ih =>
    intro h b
    match a, h with
    | x :: y :: a, h =>
      have := ih (a := a) (by simp at h; omega) b
      simp [putBack, this, List.append_assoc]
/-- What the first i pairs put back. -/
def backTo (l : List UInt8) (i : Nat) : List UInt8 := putBack (l.take (2 * i))
theorem backTo_zero (l : List UInt8) : backTo l 0 = [] := by simp [backTo, putBack]
theorem backTo_go {l : List UInt8} {i : Nat} (h : 2 * i + 1 < l.length) : backTo l (i + 1) = backTo l i ++ List.replicate (l[2 * i].toNat - 48) l[2 * i + 1] := by
  have e : l.take (2 * (i + 1)) = l.take (2 * i) ++ [l[2 * i], l[2 * i + 1]] := by
    rw [show 2 * (i + 1) = 2 * i + 1 + 1 by omega, List.take_succ_eq_append_getElem h, List.take_succ_eq_append_getElem (by omega), List.append_assoc]
    rfl
  unfold backTo
  rw [e, back_even i (by rw [List.length_take]; omega)]
  simp [putBack]
theorem backTo_end {l : List UInt8} {i : Nat} (h : l.length ≤ 2 * i + 1) : backTo l i = putBack l := by
  unfold backTo
  by_cases hl : l.length ≤ 2 * i
  · rw [List.take_of_length_le hl]
  · have h2 : 2 * i < l.length := by omega
    have : l = l.take (2 * i) ++ [l[2 * i]] := by
      conv => lhs; rw [← List.take_append_drop (2 * i) l, List.drop_eq_getElem_cons h2, List.drop_of_length_le (by omega)]
    conv => rhs; rw [this, back_even i (by rw [List.length_take]; omega)]
    simp [putBack]
theorem backTo_len {l : List UInt8} (h : ∀ b ∈ l, b.toNat ≤ 57) (i : Nat) (hi : 2 * i ≤ l.length) : (backTo l i).length ≤ 9 * i := by
  induction i with
  | zero => rw [backTo_zero]; exact Nat.le_refl _
  | succ i ih =>
    rw [backTo_go (by omega), List.length_append, List.length_replicate]
    have := h l[2 * i] (List.getElem_mem _)
    have := ih (by omega)
    omega
/-- So many more of one byte. -/
def moreOf (o : List UInt8) (b : UInt8) (j : Nat) : ByteArray := strOf (o ++ List.replicate j b)
theorem more_zero (o : List UInt8) (b : UInt8) : moreOf o b 0 = strOf o := by simp [moreOf]
theorem more_go {o : List UInt8} {s : ByteArray} {k : Nat} (h : k < s.size) (j : Nat) : moreOf o s[k] j ++ s.extract k (k + 1) = moreOf o s[k] (j + 1) := tl_inj (by
  have h2 : k < (tl s).length := by rw [tl_len]; exact h
  rw [tl_app, moreOf, moreOf, strOf_tl, strOf_tl, tl_ext, List.drop_eq_getElem_cons h2, show k + 1 - k = 1 by omega, List.replicate_succ']
  simp [tl, ByteArray.getElem_eq_getElem_data])
theorem more_size (o : List UInt8) (b : UInt8) (j : Nat) : (moreOf o b j).size = o.length + j := by rw [moreOf, strOf_size]; simp

set_option maxRecDepth 100000 in
set_option maxHeartbeats 4000000 in
theorem specUnsaidOf_any (s : ByteArray) (w : World) (hs : s.size ≤ 2097152) :
    Calls Try.prog 30 #[.string s] w fun e w' => e = .returned (optV (unsaidL (tl s))) ∧ Below w.heap.size w w' := by
  have hR := specRowOk_any s w hs
  cases hrow : rowL (tl s)
  · have hE := Lib.hid (unsaidL_no hrow)
    rw [hrow] at hR
    replace hrow := Lib.hid hrow
    go_enter Try.func30, Try.ntmps30
    go_wp2_with (fail)
    refine hR.mono ?_
    rintro e _ ⟨rfl, m, rfl⟩
    go_wp2
    go_ret2
    exact ⟨by rw [hE.out]; rfl, below_drewN (Below.refl _ _) m⟩
  · have h60 := row_len hrow
    rw [tl_len] at h60
    have hmod : (s.size : Int).tmod 2 = ((s.size % 2 : Nat) : Int) := by rw [IntWalk.rem_in _ _ (by omega)]; omega
    have hmw : IntKind.i64.wrap ((s.size : Int).tmod 2) = ((s.size % 2 : Nat) : Int) := by rw [hmod]; exact IntWalk.i64_in _ (by omega)
    rw [hrow] at hR
    by_cases hodd : s.size % 2 = 0
    · have hdig := fun k (h : k < s.size) => row_mem hrow (show s[k] ∈ tl s from List.getElem_mem (by rw [tl_len]; exact h))
      have hbl := backTo_len (l := tl s) (fun b hb => (row_mem hrow hb).2)
      rw [tl_len] at hbl
      have hY := Lib.hid (unsaidL_yes hrow)
      have hO := Lib.hid (unsaidL_other (l := tl s))
      replace hdig := Lib.hid hdig
      replace hrow := Lib.hid hrow
      rw [hodd] at hmod hmw
      go_enter Try.func30, Try.ntmps30
      go_wp2_with (fail)
      refine hR.mono ?_
      rintro e _ ⟨rfl, m, rfl⟩
      have hB := Lib.hid (below_drewN (Below.refl w.heap.size w) m)
      generalize w.drewN m = W at *
      go_wp2
      go_loop [4, 5] (fun o k => ∃ i : Nat, 2 * i ≤ s.size ∧ o = .string (strOf (backTo (tl s) i)) ∧ k = .int .i64 ((2 * i : Nat) : Int)) (fun _ k => s.size - (intOf k).toNat)
      case atStart => exact ⟨0, Nat.zero_le _, by rw [backTo_zero]; rfl, rfl⟩
      case round =>
        obtain ⟨i, hi, rfl, rfl⟩ := hrel
        by_cases hlt : 2 * i + 1 < s.size
        · have h2i : 2 * i < s.size := by omega
          have hd1 := hdig.out (2 * i) h2i
          have hd2 := hdig.out (2 * i + 1) hlt
          have hgo := backTo_go (l := tl s) (i := i) (by rw [tl_len]; exact hlt)
          rw [tl_get h2i, tl_get hlt] at hgo
          have hln := hbl i (by omega)
          obtain ⟨T, hT⟩ : ∃ T, T = s[2 * i].toNat - 48 := ⟨_, rfl⟩
          have hT9 : T ≤ 9 := by omega
          have hTi : ((s[2 * i]).toNat : Int) - 48 = (T : Int) := by omega
          have hw8 : IntKind.u8.wrap (((s[2 * i]).toNat : Int) - 48) = (T : Int) := by rw [hTi]; exact IntWalk.u8_in _ (by omega)
          have hw64 : IntKind.i64.wrap (T : Int) = (T : Int) := IntWalk.i64_in _ (by omega)
          rw [← hT] at hgo
          have hz := more_zero (backTo (tl s) i) s[2 * i + 1]
          have hg2 := Lib.hid (fun j => more_go (o := backTo (tl s) i) hlt j)
          have hms := more_size (backTo (tl s) i) s[2 * i + 1]
          have hfin : moreOf (backTo (tl s) i) s[2 * i + 1] T = strOf (backTo (tl s) (i + 1)) := by rw [hgo]; rfl
          replace hfin := Lib.hid hfin
          rw [← hz]
          generalize s[2 * i + 1] = b1 at *
          generalize backTo (tl s) i = o at *
          replace hms := Lib.hid hms
          clear hgo hz hd1 hd2
          replace hT := Lib.hid hT
          go_wp2
          go_loop [4, 6] (fun x y => ∃ j : Nat, j ≤ T ∧ x = .string (moreOf o b1 j) ∧ y = .int .i64 j) (fun _ y => T - (intOf y).toNat)
          case atStart => exact ⟨0, Nat.zero_le _, rfl, rfl⟩
          case round =>
            obtain ⟨j, hj, rfl, rfl⟩ := hrel
            have hk1 : (2 * (i : Int) + 1).toNat = 2 * i + 1 := by omega
            have hk2 : 2 * (i : Int) + 1 < (s.size : Int) := by omega
            by_cases hjt : j < T
            · have hx := hg2.out j
              have hs1 := hms.out j
              generalize moreOf o b1 j = out at *
              have hk5 : (2 * (i : Int) + 2).toNat = 2 * i + 1 + 1 := by omega
              have f1 : 2 * (i : Int) + 1 ≤ (s.size : Int) := by omega
              have f2 : 2 * (i : Int) + 2 ≤ (s.size : Int) := by omega
              have f3 : (0 : Int) ≤ 2 * (i : Int) + 1 := by omega
              have f5 : 2 * (i : Int) + 1 ≤ 2 * (i : Int) + 2 := by omega
              have hcat : ¬ (9223372036854775807 < out.size + (s.extract (2 * i + 1) (2 * i + 1 + 1)).size) := by rw [ByteArray.size_extract]; omega
              replace hx := Lib.hid hx
              go_wp2
              go_round
              case rel => exact ⟨j + 1, by omega, by rw [← hx.out], by go_num⟩
              case measure => simp [intOf]; omega
            · obtain rfl : j = T := by omega
              rw [hfin.out]
              go_wp2
              go_round
              case rel => exact ⟨i + 1, by omega, rfl, by go_num⟩
              case measure => simp [intOf]; omega
        · have hi2 : s.size = 2 * i := by omega
          have hfin : backTo (tl s) i = putBack (tl s) := backTo_end (by rw [tl_len]; omega)
          rw [hfin]
          have hpl : (putBack (tl s)).length ≤ 9 * i := by rw [← hfin]; exact hbl i hi
          generalize putBack (tl s) = p at *
          have KS := fun W => specSaidOf_any (strOf p) W (by rw [strOf_size]; omega)
          rw [strOf_tl] at KS
          clear hfin
          go_wp2_with (fail)
          refine (KS W).mono ?_
          rintro e W2 ⟨rfl, b2⟩
          replace hB := Lib.hid (hB.out.trans (b2.mono hB.out.size))
          clear b2 KS
          by_cases hsd : saidL p = some (tl s)
          · have hE := Lib.hid (hY.out hsd)
            rw [hsd, optV_some, strOf_of]
            have he : (s.toList == s.toList) = true := by rw [str_eq]; exact decide_eq_true rfl
            replace hsd := Lib.hid hsd
            go_wp2
            go_ret2
            exact ⟨by rw [hE.out]; rfl, hB.out⟩
          · have hE := Lib.hid (hO.out hsd)
            cases hq : saidL p with
            | none =>
              rw [optV_none]
              replace hq := Lib.hid hq
              replace hsd := Lib.hid hsd
              go_wp2
              go_ret2
              exact ⟨by rw [hE.out]; rfl, hB.out⟩
            | some x =>
              rw [optV_some]
              have he : ((strOf x).toList == s.toList) = false := by
                rw [str_eq]; exact decide_eq_false fun e => hsd (by rw [hq, ← e, strOf_tl])
              replace hq := Lib.hid hq
              replace hsd := Lib.hid hsd
              generalize strOf x = xs at *
              go_wp2
              go_ret2
              exact ⟨by rw [hE.out]; rfl, hB.out⟩
    · have hE := Lib.hid (unsaid_odd (l := tl s) (by rw [tl_len]; exact hodd))
      replace hrow := Lib.hid hrow
      go_enter Try.func30, Try.ntmps30
      go_wp2_with (fail)
      refine hR.mono ?_
      rintro e _ ⟨rfl, m, rfl⟩
      go_wp2
      go_ret2
      exact ⟨by rw [hE.out]; rfl, below_drewN (Below.refl _ _) m⟩
end Go.Proofs.Ytfcjhelhhefkkaa
