/-
  Contracts of NameOf and GreatestNamed of the model.
-/
import Derived.Test.YteemgkabhkdeaaaDoorN3
namespace Go.Proofs.YteemgkabhkdeaaaDoor
open Go.RowKit

def okN (t : Tg) (n : Int) : Bool := t.ok && decide (1 ≤ n ∧ n ≤ 99999)
def nameOf (t : Tg) (n : Int) : List ByteArray := if okN t n then nameT t n.toNat else []
def namedB (t : Tg) (n : Int) : Bool := decide (0 < (nameOf t n).length)
theorem nameOf_no {t : Tg} {n : Int} (h : okN t n = false) : nameOf t n = [] ∧ namedB t n = false := by
  have e : nameOf t n = [] := by unfold nameOf; rw [h]; rfl
  exact ⟨e, by unfold namedB; rw [e]; rfl⟩
theorem nameOf_yes {t : Tg} {m : Nat} (h : okN t m = true) : nameOf t m = nameT t m := by
  unfold nameOf; rw [h, if_pos rfl]; rfl
def RetStrs2 (w : World) (xs : List ByteArray) (b : Bool) (e : Ending) (w' : World) : Prop := ∃ v, e = .returned (.tuple #[v, .bool b]) ∧ OwnStrs w' w.heap.size v xs ∧ Below w.heap.size w w'
theorem ret_none2 {w w1 : World} {t : Tg} {n : Int} (hb : Below w.heap.size w w1) (h : okN t n = false) : RetStrs2 w (nameOf t n) (namedB t n) (.returned (.tuple #[.slice (some ⟨w1.heap.size, 0, none⟩) 0 0, .bool false])) (w1.alloc (.cells #[] 9)) :=
  ⟨_, by rw [(nameOf_no h).2], by rw [(nameOf_no h).1]; exact owns_empty (Blk.new _ _ _) hb.size, hb.alloc hb.size _⟩

set_option maxRecDepth 100000 in
set_option maxHeartbeats 2000000 in
theorem specNameOf_any (v : Value) (t : Tg) (n : Int) (w : World) (h : Tng w v t) (hf : t.Fine) (_hn : -9223372036854775808 ≤ n ∧ n ≤ 9223372036854775807) :
    Calls Tryd.prog 38 #[v, .int .i64 n] w (RetStrs2 w (nameOf t n) (namedB t n)) := by
  obtain ⟨A1, c1, A2, c2, A3, c3, rfl, -⟩ := h.ex
  have hB := (Below.refl w.heap.size w).alloc (Nat.le_refl _) (.cells #[.slice A1 t.us.length c1, .slice A2 t.bs.length c2, .slice A3 t.ns.length c3] 26)
  have HX := Blk.new w 26 #[.slice A1 t.us.length c1, .slice A2 t.bs.length c2, .slice A3 t.ns.length c3]
  have HT := h.below hB (Nat.le_refl _)
  have K1 := Lib.hid (specTongueOk_any _ t _ HT hf)
  replace hB := Lib.hid hB
  replace HX := Lib.hid HX
  replace HT := Lib.hid HT
  clear h hf
  go_enter Tryd.func38, Tryd.ntmps38
  go_upto_region 1 with (fail)
  generalize w.alloc (.cells #[.slice A1 t.us.length c1, .slice A2 t.bs.length c2, .slice A3 t.ns.length c3] 26) = W at *
  obtain ⟨x0, x1, x2, -, -, -⟩ := blk3 HX.out
  go_wp2_with (fail)
  refine K1.out.mono ?_
  rintro e w1 ⟨rfl, b1⟩
  replace hB := Lib.hid (hB.out.trans (b1.mono hB.out.size))
  replace HX := Lib.hid (HX.out.below b1 HX.out.lt)
  replace HT := Lib.hid (HT.out.below b1 (Nat.le_refl _))
  clear b1 x0 x1 x2 K1
  obtain ⟨x0, x1, x2, -, -, -⟩ := blk3 HX.out
  cases hok : t.ok
  · have hno := Lib.hid (show okN t n = false by unfold okN; rw [hok]; rfl)
    replace hok := Lib.hid hok
    go_wp2
    go_ret2
    exact ret_none2 hB.out hno.out
  · by_cases hd : 1 ≤ n ∧ n ≤ 99999
    · obtain ⟨m, rfl⟩ : ∃ m : Nat, n = m := ⟨n.toNat, by omega⟩
      have hyes := Lib.hid (show okN t m = true by unfold okN; rw [hok, decide_eq_true hd]; rfl)
      have K2 := Lib.hid (specName_any hok m (by omega) (by omega) _ w1 HT.out)
      have hdb := decide_eq_true hd
      replace hok := Lib.hid hok
      replace hd := Lib.hid hd
      go_wp2_with (fail)
      refine (in_any _ _ _ _).mono ?_
      rintro e _ ⟨rfl, rfl⟩
      rw [hdb]
      clear hdb
      go_wp2_with (fail)
      refine K2.out.mono ?_
      rintro e w3 ⟨v3, rfl, o3, b3⟩
      obtain ⟨A, c, rfl, -⟩ := o3.strs
      have HR : RetStrs2 w (nameOf t m) (namedB t m) (.returned (.tuple #[.slice A (nameT t m).length c, .bool (decide (0 < (nameT t m).length))])) w3 :=
        ⟨_, by unfold namedB; rw [nameOf_yes hyes.out], by rw [nameOf_yes hyes.out]; exact o3.mono hB.out.size, hB.out.trans (b3.mono hB.out.size)⟩
      replace HR := Lib.hid HR
      clear o3 b3 x0 x1 x2
      generalize nameT t m = xs at *
      generalize xs.length = L at *
      go_wp2
      go_ret2
      exact HR.out
    · have hno := Lib.hid (show okN t n = false by unfold okN; rw [hok, decide_eq_false hd]; rfl)
      have hdb := decide_eq_false hd
      replace hok := Lib.hid hok
      replace hd := Lib.hid hd
      go_wp2_with (fail)
      refine (in_any _ _ _ _).mono ?_
      rintro e _ ⟨rfl, rfl⟩
      rw [hdb]
      clear hdb
      go_wp2
      go_ret2
      exact ret_none2 hB.out hno.out

def greatest (t : Tg) : Int := if t.ok then greatestN t.us t.bs else -1
theorem greatest_bd (t : Tg) : -1 ≤ greatest t ∧ greatest t ≤ 99999 := by
  unfold greatest
  by_cases ho : t.ok = true
  · rw [if_pos ho]
    have hs := ok_shape ho
    have hu := hs.us
    have hb := hs.bs
    unfold greatestN
    split
    · omega
    · rename_i h1
      have h2 : 2 ≤ t.bs.length := by have := bases_len hb; omega
      have hg := (gr_at h2).1
      have hp := bases_pos hb _ hg.2.1
      have := Int.mul_le_mul_of_nonneg_right hp.1 (show (0 : Int) ≤ t.bs.getD (grAt t.bs) 0 by omega)
      omega
  · rw [if_neg ho]; omega

set_option maxRecDepth 100000 in
set_option maxHeartbeats 2000000 in
theorem specGreatest_any (v : Value) (t : Tg) (w : World) (h : Tng w v t) (hf : t.Fine) :
    Calls Tryd.prog 51 #[v] w fun e w' => e = .returned (.int .i64 (greatest t)) ∧ Below w.heap.size w w' := by
  obtain ⟨A1, c1, A2, c2, A3, c3, rfl, -⟩ := h.ex
  have hB := (Below.refl w.heap.size w).alloc (Nat.le_refl _) (.cells #[.slice A1 t.us.length c1, .slice A2 t.bs.length c2, .slice A3 t.ns.length c3] 26)
  have HX := Blk.new w 26 #[.slice A1 t.us.length c1, .slice A2 t.bs.length c2, .slice A3 t.ns.length c3]
  have HT := h.below hB (Nat.le_refl _)
  have K1 := Lib.hid (specTongueOk_any _ t _ HT hf)
  have hfb := hf.bs
  have hfu := hf.us
  replace hB := Lib.hid hB
  replace HX := Lib.hid HX
  replace HT := Lib.hid HT
  clear h hf
  go_enter Tryd.func51, Tryd.ntmps51
  go_upto_region 1 with (fail)
  generalize w.alloc (.cells #[.slice A1 t.us.length c1, .slice A2 t.bs.length c2, .slice A3 t.ns.length c3] 26) = W at *
  obtain ⟨x0, x1, x2, -, -, -⟩ := blk3 HX.out
  go_wp2_with (fail)
  refine K1.out.mono ?_
  rintro e w1 ⟨rfl, b1⟩
  replace hB := Lib.hid (hB.out.trans (b1.mono hB.out.size))
  replace HX := Lib.hid (HX.out.below b1 HX.out.lt)
  replace HT := Lib.hid (HT.out.below b1 (Nat.le_refl _))
  clear b1 x0 x1 x2 K1
  obtain ⟨x0, x1, x2, -, -, -⟩ := blk3 HX.out
  cases hok : t.ok
  · have hg : greatest t = -1 := by unfold greatest; rw [hok]; rfl
    replace hg := Lib.hid hg
    replace hok := Lib.hid hok
    go_wp2
    go_ret
    exact ⟨ret_int hg.out.symm, hB.out⟩
  · have hs := ok_shape hok
    have hbs := hs.bs
    have hbl := bases_len hbs
    have hg : greatest t = greatestN t.us t.bs := by unfold greatest; rw [hok]; rfl
    by_cases h1 : t.bs.length = 1
    · have h1' : ((t.bs.length : Int) == 1) = true := by rw [beq_iff_eq]; omega
      have hg1 : greatest t = t.us.length := by rw [hg]; unfold greatestN; rw [if_pos h1]
      replace hg1 := Lib.hid hg1
      replace h1 := Lib.hid h1
      clear hg hs hbs
      replace hok := Lib.hid hok
      go_wp2
      go_ret
      exact ⟨ret_int hg1.out.symm, hB.out⟩
    · have h1' : ((t.bs.length : Int) == 1) = false := by rw [beq_eq_false_iff_ne]; omega
      have hl2 : 2 ≤ t.bs.length := by omega
      have hg1 : greatest t = min (t.bs.getD (grAt t.bs) 0 * t.bs.getD (grAt t.bs) 0 - 1) 99999 := by rw [hg]; unfold greatestN; rw [if_neg h1]
      obtain ⟨_, _, _, _, _, _, ev, -, I2, -⟩ := HT.out.ex
      cases ev
      obtain ⟨b, o, rfl, -, hc⟩ := I2.at_ (by omega)
      have hp := bases_pos hbs
      replace hg1 := Lib.hid hg1
      replace hok := Lib.hid hok
      replace hc := Lib.hid hc
      replace hp := Lib.hid hp
      replace hbs := Lib.hid hbs
      clear hg hs I2
      go_wp2
      go_loopw [3] (fun i wr => ∃ k m : Nat, GrTo t.bs k ∧ k < t.bs.length ∧ 1 ≤ k ∧ i = .int .i64 k ∧ wr = w1.drewN m) (fun i _ => t.bs.length - (intOf i).toNat)
      case atStart => exact ⟨1, 0, ⟨Nat.le_refl _, by omega, fun i _ _ => by omega⟩, by omega, Nat.le_refl _, rfl, rfl⟩
      case round =>
        obtain ⟨k, m, hgr, hk, hk1, rfl, rfl⟩ := hrel
        have ck := hc.out k hk
        have px := hp.out k hk
        have q1 := Int.mul_le_mul_of_nonneg_right px.1 (show (0 : Int) ≤ t.bs.getD k 0 by omega)
        have q2 : t.bs.getD k 0 * t.bs.getD k 0 ≤ 999999 * 999999 := by
          have a1 := Int.mul_le_mul_of_nonneg_right px.2 (show (0 : Int) ≤ t.bs.getD k 0 by omega)
          have a2 := Int.mul_le_mul_of_nonneg_left px.2 (show (0 : Int) ≤ 999999 by omega)
          omega
        have hgo : k + 1 < t.bs.length → t.bs.getD (k + 1) 0 ≤ t.bs.getD k 0 * t.bs.getD k 0 → GrTo t.bs (k + 1) := fun hl hle => ⟨by omega, hl, fun i h1 h2 => by
          by_cases e : i = k
          · subst e; exact hle
          · exact hgr.2.2 i h1 (by omega)⟩
        have hend : (k + 1 < t.bs.length → t.bs.getD k 0 * t.bs.getD k 0 < t.bs.getD (k + 1) 0) → greatest t = min (t.bs.getD k 0 * t.bs.getD k 0 - 1) 99999 := fun h => by rw [hg1.out, gr_eq hgr h]
        by_cases hlt : k + 1 < t.bs.length
        · have ck1 := hc.out (k + 1) hlt
          have hlt' : decide ((k : Int) + 1 < (t.bs.length : Int)) = true := decide_eq_true (by omega)
          have hlt2 : (k : Int) + 1 < (t.bs.length : Int) := by omega
          generalize t.bs.getD (k + 1) 0 = y at *
          generalize t.bs.getD k 0 = x at *
          have hw1 : IntKind.i64.wrap (x * x) = x * x := IntWalk.i64_in _ (by omega)
          have hw2 : IntKind.i64.wrap ((k : Int) + 1) = (k : Int) + 1 := IntWalk.i64_in _ (by omega)
          replace hgr := Lib.hid hgr
          by_cases hle : y ≤ x * x
          · have HG := Lib.hid (hgo hlt hle)
            have hd := decide_eq_true hle
            clear hgo hend
            go_wp2
            go_quiet (fail)
            go_wp2
            go_roundw
            case rel => exact ⟨k + 1, m + nq, HG.out, by omega, by omega, by go_num, by simp⟩
            case measure => simp [intOf]; omega
          · have HE := Lib.hid (hend (fun _ => by omega))
            have hd := decide_eq_false hle
            have hw3 : IntKind.i64.wrap (x * x - 1) = x * x - 1 := IntWalk.i64_in _ (by omega)
            clear hgo hend
            go_wp2
            go_quiet (fail)
            go_wp2
            go_quiet (fail)
            go_wp2
            all_goals
              go_ret
              exact ⟨ret_int (by rw [HE.out]; omega), below_drewN hB.out _⟩
        · have HE := Lib.hid (hend (fun h => absurd h hlt))
          have hlt' : decide ((k : Int) + 1 < (t.bs.length : Int)) = false := decide_eq_false (by omega)
          have hlt2 : ¬ (k : Int) + 1 < (t.bs.length : Int) := by omega
          generalize t.bs.getD k 0 = x at *
          have hw1 : IntKind.i64.wrap (x * x) = x * x := IntWalk.i64_in _ (by omega)
          have hw2 : IntKind.i64.wrap ((k : Int) + 1) = (k : Int) + 1 := IntWalk.i64_in _ (by omega)
          have hw3 : IntKind.i64.wrap (x * x - 1) = x * x - 1 := IntWalk.i64_in _ (by omega)
          replace hgr := Lib.hid hgr
          clear hgo hend
          go_wp2
          go_quiet (fail)
          go_wp2
          go_quiet (fail)
          go_wp2
          all_goals
            go_ret
            exact ⟨ret_int (by rw [HE.out]; omega), below_drewN hB.out _⟩
end Go.Proofs.YteemgkabhkdeaaaDoor
