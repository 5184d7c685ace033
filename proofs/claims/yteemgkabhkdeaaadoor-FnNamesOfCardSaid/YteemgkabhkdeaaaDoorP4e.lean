/-
  The contracts of slices.Equal at texts, and of the program's ReadName.
-/
import Derived.Test.YteemgkabhkdeaaaDoorP4d
import Derived.Test.YteemgkabhkdeaaaDoorP3b
import Derived.Test.YteemgkabhkdeaaaDoorTHold
namespace Go.Proofs.YteemgkabhkdeaaaDoor
open Go.RowKit

set_option maxHeartbeats 1000000 in
theorem equalStr_any (A A' : Option Addr) (n c n' c' : Nat) (xs ys : List ByteArray) (w : World) (h : Strs w A n c xs) (h' : Strs w A' n' c' ys) (hn : n ≤ 2097152) (hn' : n' ≤ 2097152) :
    Calls Tryd.prog 41 #[.slice A n c, .slice A' n' c'] w fun e w' => e = .returned (.bool (decide (xs = ys))) ∧ ∃ m, w' = w.drewN m := by
  obtain ⟨rfl, hcap, h⟩ := h
  obtain ⟨rfl, hcap', h'⟩ := h'
  by_cases hl : xs.length = ys.length
  · rw [← hl] at h' hcap' ⊢
    replace hl := Lib.hid hl
    have heq : ((xs.length : Int) != xs.length) = false := by simp
    go_enter Tryd.func41, Tryd.ntmps41
    go_wp2
    go_loopw [13] (fun i wr => ∃ k m : Nat, k ≤ xs.length ∧ i = .int .i64 k ∧ xs.take k = ys.take k ∧ wr = w.drewN m) (fun i _ => xs.length - (intOf i).toNat)
    case atStart => exact ⟨0, 0, Nat.zero_le _, rfl, by simp, rfl⟩
    case round =>
      obtain ⟨k, m, hk, rfl, hu, rfl⟩ := hrel
      by_cases hlt : k < xs.length
      · obtain ⟨b, o, rfl, _, h⟩ := h (by omega)
        obtain ⟨b', o', rfl, _, h'⟩ := h' (by omega)
        have c1 := h k hlt
        have c2 := h' k hlt
        have HU := takeS_go (k := k) xs ys hlt hl.out hu
        have HN : ¬ xs.getD k ByteArray.empty = ys.getD k ByteArray.empty → ¬ xs = ys := fun hn he => hn (by rw [he])
        generalize xs.getD k ByteArray.empty = x1 at *
        generalize ys.getD k ByteArray.empty = x2 at *
        replace HU := Lib.hid HU
        replace HN := Lib.hid HN
        clear h h' hu
        by_cases hx : x1 = x2
        · have hx1 : (x1.toList == x2.toList) = true := by rw [str_eq]; exact decide_eq_true hx
          have hx2 : (x1.toList != x2.toList) = false := by rw [bne, hx1]; rfl
          replace hx := Lib.hid hx
          go_wp2
          go_quiet (fail)
          go_wp2
          go_roundw
          case rel => exact ⟨k+1, m+nq, by omega, by go_num, HU.out hx.out, by simp⟩
          case measure => simp [intOf]; omega
        · have hx1 : (x1.toList == x2.toList) = false := by rw [str_eq]; exact decide_eq_false hx
          have hx2 : (x1.toList != x2.toList) = true := by rw [bne, hx1]; rfl
          go_wp2
          go_quiet (fail)
          go_wp2
          go_ret
          exact ⟨ret_bool (by rw [decide_eq_false (HN.out hx)]), m+nq, by simp⟩
      · have HE := Lib.hid (takeS_end xs ys (by omega) hl.out hu)
        clear h h' hu
        go_wp2
        go_ret
        exact ⟨ret_bool (by rw [decide_eq_true HE.out]), m, rfl⟩
  · have hne : xs ≠ ys := fun e => hl (by rw [e])
    have HN := Lib.hid hne
    have hneq : ((xs.length : Int) != ys.length) = true := by rw [bne_iff_ne]; omega
    clear hne
    go_enter Tryd.func41, Tryd.ntmps41
    go_wp2
    go_ret
    exact ⟨ret_bool (by rw [decide_eq_false HN.out]), 0, rfl⟩


set_option maxRecDepth 100000 in
set_option maxHeartbeats 4000000 in
theorem implReadName_any (v : Value) (t : Tg) (A : Option Addr) (n c : Nat) (l : List ByteArray) (w : World) (h : Tng w v t) (hf : t.Fine) (hl : Strs w A n c l) (hn : n ≤ 2000000) (hsz : ∀ x ∈ l, x.size ≤ 1048576) :
    Calls Tryd.prog 22 #[v, .slice A n c] w fun e w' => e = .returned (.tuple #[.int .i64 (readV t l), .bool (readB t l)]) ∧ Below w.heap.size w w' := by
  obtain ⟨A1, c1, A2, c2, A3, c3, rfl, -⟩ := h.ex
  have hln := hl.len
  have hB := (Below.refl w.heap.size w).alloc (Nat.le_refl _) (.cells #[.slice A1 t.us.length c1, .slice A2 t.bs.length c2, .slice A3 t.ns.length c3] 26)
  have HX := Blk.new w 26 #[.slice A1 t.us.length c1, .slice A2 t.bs.length c2, .slice A3 t.ns.length c3]
  have HT := h.below hB (Nat.le_refl _)
  have HL := hl.below hB (Nat.le_refl _)
  have K1 := Lib.hid (implTongueOk_any _ t _ HT hf)
  have hsz' : ∀ x ∈ l, x.size ≤ maxLen := fun x hx => by have := hsz x hx; unfold maxLen; omega
  replace hB := Lib.hid hB
  replace HX := Lib.hid HX
  replace HT := Lib.hid HT
  replace HL := Lib.hid HL
  replace hsz' := Lib.hid hsz'
  replace hln := Lib.hid hln
  clear h hl hsz
  have hrn : okL t l = false → readB t l = false := fun h => by unfold readB; rw [h]; rfl
  replace hrn := Lib.hid hrn
  go_enter Tryd.func22, Tryd.ntmps22
  go_upto_region 1 with (fail)
  generalize w.alloc (.cells #[.slice A1 t.us.length c1, .slice A2 t.bs.length c2, .slice A3 t.ns.length c3] 26) = W at *
  obtain ⟨x0, x1, x2, -, -, -⟩ := blk3 HX.out
  go_wp2_with (fail)
  refine K1.out.mono ?_
  rintro e w1 ⟨rfl, b1⟩
  replace hB := Lib.hid (hB.out.trans (b1.mono hB.out.size))
  replace HX := Lib.hid (HX.out.below b1 HX.out.lt)
  replace HT := Lib.hid (HT.out.below b1 (Nat.le_refl _))
  replace HL := Lib.hid (HL.out.below b1 (Nat.le_refl _))
  clear b1 x0 x1 x2 K1
  obtain ⟨x0, x1, x2, -, -, -⟩ := blk3 HX.out
  cases hok : t.ok
  · have hno := hrn.out (by unfold okL; rw [hok]; rfl)
    have hv := read_no hno
    replace hno := Lib.hid hno
    replace hv := Lib.hid hv
    replace hok := Lib.hid hok
    go_wp2
    go_ret2
    exact ⟨two_ret hv.out.symm hno.out.symm, hB.out⟩
  · by_cases hd : 1 ≤ n ∧ n ≤ 40
    · obtain ⟨hd1, hd2⟩ := hd
      have t1 : ¬ (n : Int) < 1 := by omega
      have t2 : ¬ (40 : Int) < (n : Int) := by omega
      have K2 := numberRead_any _ t A n c l w1 HT.out hok hf HL.out hd2 hsz'.out
      have HK := Lib.hid (fun (x : Int) (hx : 0 ≤ x ∧ x ≤ 20000000) W' (h : Below w1.heap.size w1 W') => implNameOf_any _ t x W' (HT.out.below h (Nat.le_refl _)) hf (by omega))
      have hnn := fun h => num_no (t := t) (l := l) h
      have hnb := fun (x : Int) (h : numR t l = some x) => numR_bd hok (by rw [hln.out]; exact hd2) h
      have hnr := fun (x : Int) (h : numR t l = some x) => num_read (t := t) (l := l) h (by rw [hln.out]; exact hd2)
      cases hres : numR t l with
      | none =>
        rw [hres] at K2
        have hno := hnn hres
        have hv := read_no hno
        replace hno := Lib.hid hno
        replace hv := Lib.hid hv
        replace hok := Lib.hid hok
        replace K2 := Lib.hid K2
        clear hnn hnb hnr hres
        go_wp2_with (fail)
        refine K2.out.mono ?_
        rintro e w2 ⟨rfl, b2⟩
        simp only [Option.getD_none, Option.isSome_none]
        replace hB := Lib.hid (hB.out.trans (b2.mono hB.out.size))
        clear b2 x0 x1 x2 K2
        go_wp2
        go_ret2
        exact ⟨two_ret hv.out.symm hno.out.symm, hB.out⟩
      | some x =>
        rw [hres] at K2
        have hxb := hnb x hres
        obtain ⟨HR, HV⟩ := hnr x hres
        have hnl := nameOf_len t x
        replace HR := Lib.hid HR
        replace HV := Lib.hid HV
        replace hok := Lib.hid hok
        replace K2 := Lib.hid K2
        clear hnn hnb hnr hres
        go_wp2_with (fail)
        refine K2.out.mono ?_
        rintro e w2 ⟨rfl, b2⟩
        simp only [Option.getD_some, Option.isSome_some]
        have K3 := Lib.hid (HK.out x hxb _ b2)
        replace hB := Lib.hid (hB.out.trans (b2.mono hB.out.size))
        replace HX := Lib.hid (HX.out.below b2 HX.out.lt)
        replace HL := Lib.hid (HL.out.below b2 (Nat.le_refl _))
        clear b2 x0 x1 x2 K2 HK HT
        obtain ⟨x0, x1, x2, -, -, -⟩ := blk3 HX.out
        go_wp2_with (fail)
        refine K3.out.mono ?_
        rintro e w3 ⟨v3, rfl, o3, b3⟩
        obtain ⟨A4, c4, rfl, s3⟩ := o3.strs
        replace hB := Lib.hid (hB.out.trans (b3.mono hB.out.size))
        replace HL := Lib.hid (HL.out.below b3 (Nat.le_refl _))
        have K4 := Lib.hid (equalStr_any A4 A _ c4 n c _ l w3 s3 HL.out (by omega) (by omega))
        clear b3 x0 x1 x2 K3 o3 HX s3
        generalize nameOf t x = ws at *
        generalize namedB t x = nb at *
        cases nb
        · have hr : readB t l = false := by rw [HR.out]; rfl
          have hv := Lib.hid (read_no hr)
          replace hr := Lib.hid hr
          go_wp2
          go_ret2
          exact ⟨two_ret hv.out.symm hr.out.symm, hB.out⟩
        · have hrr : readB t l = decide (ws = l) := by rw [HR.out, Bool.true_and]
          have hvv : decide (ws = l) = false → readV t l = -1 := fun e => read_no (hrr.trans e)
          have hvx : decide (ws = l) = true → readV t l = x := fun e => HV.out (hrr.trans e)
          generalize decide (ws = l) = eq at *
          replace hrr := Lib.hid hrr
          replace hvv := Lib.hid hvv
          replace hvx := Lib.hid hvx
          go_wp2_with (fail)
          refine K4.out.mono ?_
          rintro e w4 ⟨rfl, m4, rfl⟩
          replace hB := Lib.hid (below_drewN hB.out m4)
          cases eq
          · have hv := Lib.hid (hvv.out rfl)
            clear hvv hvx
            go_wp2
            go_ret2
            exact ⟨two_ret hv.out.symm hrr.out.symm, hB.out⟩
          · have hv := Lib.hid (hvx.out rfl)
            clear hvv hvx
            go_wp2
            go_ret2
            exact ⟨two_ret hv.out.symm hrr.out.symm, hB.out⟩
    · have hno := hrn.out (by unfold okL; rw [hln.out, decide_eq_false hd, Bool.and_false])
      have hv := read_no hno
      replace hno := Lib.hid hno
      replace hv := Lib.hid hv
      replace hok := Lib.hid hok
      by_cases h1 : n < 1
      · have t1 : (n : Int) < 1 := by omega
        replace hd := Lib.hid hd
        go_wp2
        go_ret2
        exact ⟨two_ret hv.out.symm hno.out.symm, hB.out⟩
      · have t1 : ¬ (n : Int) < 1 := by omega
        have t2 : (40 : Int) < (n : Int) := by omega
        replace hd := Lib.hid hd
        go_wp2
        go_ret2
        exact ⟨two_ret hv.out.symm hno.out.symm, hB.out⟩
end Go.Proofs.YteemgkabhkdeaaaDoor
