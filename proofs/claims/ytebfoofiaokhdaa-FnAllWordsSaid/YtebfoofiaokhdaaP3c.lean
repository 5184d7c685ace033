/-
  The contract of the program's GreatestNamed.
-/
import Derived.Test.YtebfoofiaokhdaaGP
namespace Go.Proofs.Ytebfoofiaokhdaa
open Go.RowKit

theorem sq_le_div {x y : Int} (hx : 1 ≤ x) : x ≤ y / x ↔ x * x ≤ y := Int.le_ediv_iff_mul_le (by omega)

set_option maxRecDepth 100000 in
set_option maxHeartbeats 1000000 in
theorem implBounding_any (A : Option Addr) (c : Nat) (bs : List Int) (w : World) (hI : Ints w .i64 A bs.length c bs) (hb : basesOk bs = true) (h2 : 2 ≤ bs.length) :
    Calls Try.prog 53 #[.slice A bs.length c] w fun e w' => e = .returned (.int .i64 (bs.getD (grAt bs) 0)) ∧ ∃ m, w' = w.drewN m := by
  have hbl := bases_len hb
  obtain ⟨b, o, rfl, -, hc⟩ := hI.at_ (by omega)
  replace hc := Lib.hid hc
  replace hb := Lib.hid hb
  clear hI
  have hw0 : IntKind.i64.wrap ((bs.length : Int) - 1) = (bs.length : Int) - 1 := IntWalk.i64_in _ (by omega)
  go_enter Try.func53, Try.ntmps53
  go_wp2
  go_loopw [4] (fun i wr => ∃ k m : Nat, GrTo bs k ∧ i = .int .i64 k ∧ wr = w.drewN m) (fun i _ => bs.length - (intOf i).toNat)
  case atStart => exact ⟨1, 0, ⟨Nat.le_refl _, by omega, fun i _ _ => by omega⟩, rfl, rfl⟩
  case round =>
    obtain ⟨k, m, hgr, rfl, rfl⟩ := hrel
    obtain ⟨g1, g2, -⟩ := id hgr
    have ck := hc.out k g2
    have px := bases_pos hb.out k g2
    by_cases hlt : k + 1 < bs.length
    · have ck1 := hc.out (k + 1) hlt
      have py := bases_pos hb.out (k + 1) hlt
      have hlt' : (k : Int) < (bs.length : Int) - 1 := by omega
      have hgo : bs.getD (k + 1) 0 ≤ bs.getD k 0 * bs.getD k 0 → GrTo bs (k + 1) := fun hle => ⟨by omega, hlt, fun i h1 h2 => by
        by_cases e : i = k
        · subst e; exact hle
        · exact hgr.2.2 i h1 (by omega)⟩
      have hend : bs.getD k 0 * bs.getD k 0 < bs.getD (k + 1) 0 → grAt bs = k := fun h => gr_eq hgr (fun _ => h)
      have hwk : IntKind.i64.wrap ((k : Int) + 1) = (k : Int) + 1 := IntWalk.i64_in _ (by omega)
      have hsq := sq_le_div (x := bs.getD k 0) (y := bs.getD (k + 1) 0 - 1) px.1
      have hd0 : 0 ≤ (bs.getD (k + 1) 0 - 1) / bs.getD k 0 := Int.ediv_nonneg (by omega) (by omega)
      have hd1 : (bs.getD (k + 1) 0 - 1) / bs.getD k 0 ≤ bs.getD (k + 1) 0 - 1 := Int.ediv_le_self _ (by omega)
      generalize hz : bs.getD k 0 = z at *
      generalize bs.getD (k + 1) 0 = y at *
      have hw1 : IntKind.i64.wrap (y - 1) = y - 1 := IntWalk.i64_in _ (by omega)
      have hw2 : IntKind.i64.wrap ((y - 1) / z) = (y - 1) / z := IntWalk.i64_in _ (by omega)
      have hw3 : (y - 1).tdiv z = (y - 1) / z := Int.tdiv_eq_ediv_of_nonneg (by omega)
      have hz0 : ¬ z = 0 := by omega
      replace hgr := Lib.hid hgr
      replace hz := Lib.hid hz
      by_cases hle : z ≤ (y - 1) / z
      · have HE := Lib.hid (hend (by have := hsq.1 hle; omega))
        have hd := decide_eq_true hle
        clear hgo hend hsq
        go_wp2
        go_quiet (fail)
        go_wp2
        all_goals
          go_ret
          exact ⟨ret_int (by rw [HE.out, hz.out]), _, rfl⟩
      · have HG := Lib.hid (hgo (by have := fun h => hle (hsq.2 h); omega))
        have hd := decide_eq_false hle
        clear hgo hend hsq
        go_wp2
        go_quiet (fail)
        go_wp2
        all_goals
          go_roundw
          case rel => exact ⟨k + 1, m + nq, HG.out, by go_num, by simp⟩
          case measure => simp [intOf]; omega
    · have hlt' : ¬ (k : Int) < (bs.length : Int) - 1 := by omega
      have HE := Lib.hid (gr_eq hgr (fun h => absurd h hlt))
      have hkk : (k : Int) = (bs.length : Int) - 1 := by omega
      have hkt : ((bs.length : Int) - 1).toNat = k := by omega
      have hk0 : (0 : Int) ≤ (bs.length : Int) - 1 := by omega
      generalize hz : bs.getD k 0 = z at *
      replace hz := Lib.hid hz
      replace hgr := Lib.hid hgr
      go_wp2
      all_goals
        go_ret
        exact ⟨ret_int (by rw [HE.out]; first | exact hz.out.symm | (rw [← hz.out]; exact List.getD_eq_getElem?_getD)), _, rfl⟩

set_option maxRecDepth 100000 in
set_option maxHeartbeats 2000000 in
theorem implGreatest_any (v : Value) (t : Tg) (w : World) (h : Tng w v t) (hf : t.Fine) :
    Calls Try.prog 25 #[v] w fun e w' => e = .returned (.int .i64 (greatest t)) ∧ Below w.heap.size w w' := by
  obtain ⟨A1, c1, A2, c2, A3, c3, rfl, -⟩ := h.ex
  have hB := (Below.refl w.heap.size w).alloc (Nat.le_refl _) (.cells #[.slice A1 t.us.length c1, .slice A2 t.bs.length c2, .slice A3 t.ns.length c3] 26)
  have HX := Blk.new w 26 #[.slice A1 t.us.length c1, .slice A2 t.bs.length c2, .slice A3 t.ns.length c3]
  have HT := h.below hB (Nat.le_refl _)
  have K1 := Lib.hid (implTongueOk_any _ t _ HT hf)
  replace hB := Lib.hid hB
  replace HX := Lib.hid HX
  replace HT := Lib.hid HT
  clear h hf
  go_enter Try.func25, Try.ntmps25
  go_upto_region 1 with (fail)
  generalize w.alloc (.cells #[.slice A1 t.us.length c1, .slice A2 t.bs.length c2, .slice A3 t.ns.length c3] 26) = W at *
  obtain ⟨x0, x1, x2, -, -, -⟩ := blk3 HX.out
  go_wp2_with (fail)
  refine K1.out.mono ?_
  rintro e w1 ⟨rfl, b1⟩
  replace hB := Lib.hid (hB.out.trans (b1.mono hB.out.size))
  replace HX := Lib.hid (HX.out.below b1 HX.out.lt)
  replace HT := Lib.hid (HT.out.below b1 (Nat.le_refl _))
  clear b1 x0 x1 x2 K1
  obtain ⟨x0, x1, x2, -, -, -⟩ := blk3 HX.out
  cases hok : t.ok
  · have hg : greatest t = -1 := by unfold greatest; rw [hok]; rfl
    replace hg := Lib.hid hg
    replace hok := Lib.hid hok
    go_wp2
    go_ret
    exact ⟨ret_int hg.out.symm, hB.out⟩
  · have hs := ok_shape hok
    have hbs := hs.bs
    have hbl := bases_len hbs
    have hg : greatest t = greatestN t.us t.bs := by unfold greatest; rw [hok]; rfl
    by_cases h1 : t.bs.length = 1
    · have h1' : ((t.bs.length : Int) == 1) = true := by rw [beq_iff_eq]; omega
      have hg1 : greatest t = t.us.length := by rw [hg]; unfold greatestN; rw [if_pos h1]
      replace hg1 := Lib.hid hg1
      replace h1 := Lib.hid h1
      clear hg hs hbs
      replace hok := Lib.hid hok
      go_wp2
      go_ret
      exact ⟨ret_int hg1.out.symm, hB.out⟩
    · have h1' : ((t.bs.length : Int) == 1) = false := by rw [beq_eq_false_iff_ne]; omega
      have hl2 : 2 ≤ t.bs.length := by omega
      have hg1 : greatest t = min (t.bs.getD (grAt t.bs) 0 * t.bs.getD (grAt t.bs) 0 - 1) 99999 := by rw [hg]; unfold greatestN; rw [if_neg h1]
      have hp := bases_pos hbs _ (gr_at hl2).1.2.1
      obtain ⟨_, _, _, _, _, _, ev, -, I2, -⟩ := HT.out.ex
      cases ev
      have K2 := Lib.hid (implBounding_any A2 c2 t.bs w1 I2 hbs hl2)
      replace hok := Lib.hid hok
      clear hg hs hbs I2
      generalize t.bs.getD (grAt t.bs) 0 = x at *
      have hsq := sq_le_div (x := x) (y := 99999) hp.1
      have hd0 : 0 ≤ 99999 / x := Int.ediv_nonneg (by omega) (by omega)
      have hd1 : 99999 / x ≤ 99999 := Int.ediv_le_self _ (by omega)
      have m0 : 0 ≤ x * x := Int.mul_nonneg (by omega) (by omega)
      by_cases hle : x ≤ 99999 / x
      · have hle' : ¬ (99999 / x < x) := by omega
        have m1 := hsq.1 hle
        have hg2 : greatest t = x * x - 1 := by rw [hg1]; omega
        replace hg2 := Lib.hid hg2
        clear hg1 hsq
        go_wp2_with (fail)
        refine K2.out.mono ?_
        rintro e w2 ⟨rfl, m2, rfl⟩
        go_wp2
        go_ret
        exact ⟨ret_int hg2.out.symm, below_drewN hB.out _⟩
      · have hle' : 99999 / x < x := by omega
        have m1 := fun h => hle (hsq.2 h)
        have hg2 : greatest t = 99999 := by rw [hg1]; omega
        replace hg2 := Lib.hid hg2
        clear hg1 hsq m1
        go_wp2_with (fail)
        refine K2.out.mono ?_
        rintro e w2 ⟨rfl, m2, rfl⟩
        go_wp2
        go_ret
        exact ⟨ret_int hg2.out.symm, below_drewN hB.out _⟩
end Go.Proofs.Ytebfoofiaokhdaa
