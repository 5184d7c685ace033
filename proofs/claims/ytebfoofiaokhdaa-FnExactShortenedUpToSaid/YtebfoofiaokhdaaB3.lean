/-
  Contracts of the program's choice of the shorter name, and of its TakenFrom and ShorterName.
-/
import Derived.Test.YtebfoofiaokhdaaB2
import Derived.Laws.EntriesVeiled
namespace Go.Proofs.Ytebfoofiaokhdaa
open Go.RowKit

def lessN (n n' : Nat) : Bool := decide (0 < n) && (!decide (0 < n') || decide (n < n'))
theorem lessB_eq (xs ys : List ByteArray) : lessB xs ys = lessN xs.length ys.length := rfl

set_option maxHeartbeats 1000000 in
theorem shorter_any (A A' : Option Addr) (n c n' c' : Nat) (w : World) :
    Calls Try.prog 82 #[.slice A n c, .slice A' n' c'] w fun e w' => e = .returned (.bool (lessN n n')) ∧ w = w' := by
  by_cases h0 : 0 < n
  · have h0' : (0 : Int) < (n : Int) := by omega
    by_cases h1 : 0 < n'
    · have h1' : ((n' : Int) == 0) = false := by rw [beq_eq_false_iff_ne]; omega
      have hr : lessN n n' = decide (n < n') := by unfold lessN; rw [decide_eq_true h0, decide_eq_true h1]; rfl
      by_cases h2 : n < n'
      · have h2' : (n : Int) < (n' : Int) := by omega
        rw [decide_eq_true h2] at hr
        replace hr := Lib.hid hr
        go_enter Try.func82, Try.ntmps82
        go_wp2
        go_ret
        exact ⟨ret_bool hr.out.symm, rfl⟩
      · have h2' : ¬ (n : Int) < (n' : Int) := by omega
        rw [decide_eq_false h2] at hr
        replace hr := Lib.hid hr
        go_enter Try.func82, Try.ntmps82
        go_wp2
        go_ret
        exact ⟨ret_bool hr.out.symm, rfl⟩
    · obtain rfl : n' = 0 := by omega
      have hr : lessN n 0 = true := by unfold lessN; rw [decide_eq_true h0]; rfl
      replace hr := Lib.hid hr
      go_enter Try.func82, Try.ntmps82
      go_wp2
      go_ret
      exact ⟨ret_bool hr.out.symm, rfl⟩
  · obtain rfl : n = 0 := by omega
    have hr : lessN 0 n' = false := rfl
    replace hr := Lib.hid hr
    go_enter Try.func82, Try.ntmps82
    go_wp2
    go_ret
    exact ⟨ret_bool hr.out.symm, rfl⟩

set_option maxHeartbeats 1000000 in
theorem keptOf_any (A A' : Option Addr) (n c n' c' : Nat) (w : World) :
    Calls Try.prog 83 #[.slice A n c, .slice A' n' c', .func (.func 82) #[] #[]] w fun e w' => e = .returned (if lessN n n' then .slice A n c else .slice A' n' c') ∧ w = w' := by
  have K := Lib.hid (shorter_any A A' n c n' c' w)
  generalize lessN n n' = lb at *
  go_enter Try.func83, Try.ntmps83
  go_wp2_with (fail)
  refine K.out.mono ?_
  rintro e _ ⟨rfl, rfl⟩
  clear K
  cases lb
  · go_wp2
    go_ret
    exact ⟨rfl, rfl⟩
  · go_wp2
    go_ret
    exact ⟨rfl, rfl⟩

set_option maxRecDepth 100000 in
set_option maxHeartbeats 4000000 in
theorem shorterName_any (v : Value) (t : Tg) (n : Int) (x : ByteArray) (b : Int) (w : World) (h : Tng w v t) (hf : t.Fine) (ha : askA t n x b = true) :
    Calls Try.prog 66 #[v, .int .i64 n, .string x, .int .i64 b] w (RetStrs w (shortOf t n x b)) := by
  obtain ⟨hfi, hd1, hd2⟩ := askA_parts ha
  have HE : shortOf t n x b = if lessB (takenOf t n x b) (nameOf t n) then takenOf t n x b else nameOf t n := by unfold shortOf; rw [ha, if_pos rfl]
  rw [lessB_eq] at HE
  obtain ⟨A1, c1, A2, c2, A3, c3, rfl, -⟩ := h.ex
  have hB := (Below.refl w.heap.size w).alloc (Nat.le_refl _) (.cells #[.slice A1 t.us.length c1, .slice A2 t.bs.length c2, .slice A3 t.ns.length c3] 26)
  have HX := Blk.new w 26 #[.slice A1 t.us.length c1, .slice A2 t.bs.length c2, .slice A3 t.ns.length c3]
  have HT := h.below hB (Nat.le_refl _)
  have K1 := Lib.hid (implNameOf_any _ t n _ HT hf (by omega))
  have K2' := Lib.hid (fun W' hT => nameByTaking_any (.agg #[.slice A1 t.us.length c1, .slice A2 t.bs.length c2, .slice A3 t.ns.length c3]) t n x b W' hT hf ha)
  replace hB := Lib.hid hB
  replace HX := Lib.hid HX
  replace HT := Lib.hid HT
  replace ha := Lib.hid ha
  replace hfi := Lib.hid hfi
  replace HE := Lib.hid HE
  clear h
  generalize nameOf t n = ns' at *
  generalize namedB t n = nb at *
  generalize takenOf t n x b = ts at *
  go_enter Try.func66, Try.ntmps66
  go_upto_region 1 with (fail)
  generalize w.alloc (.cells #[.slice A1 t.us.length c1, .slice A2 t.bs.length c2, .slice A3 t.ns.length c3] 26) = W at *
  obtain ⟨x0, x1, x2, -, -, -⟩ := blk3 HX.out
  go_wp2_with (fail)
  refine K1.out.mono ?_
  rintro e w1 ⟨v1, rfl, o1, b1⟩
  obtain ⟨A4, c4, rfl, -⟩ := o1.strs
  replace o1 := Lib.hid (o1.mono hB.out.size)
  replace hB := Lib.hid (hB.out.trans (b1.mono hB.out.size))
  replace HX := Lib.hid (HX.out.below b1 HX.out.lt)
  replace HT := Lib.hid (HT.out.below b1 (Nat.le_refl _))
  clear b1 x0 x1 x2 K1
  obtain ⟨x0, x1, x2, -, -, -⟩ := blk3 HX.out
  have K2 := Lib.hid (K2'.out w1 HT.out)
  go_wp2_with (fail)
  refine K2.out.mono ?_
  rintro e w2 ⟨v2, rfl, o2, b2⟩
  obtain ⟨A5, c5, rfl, -⟩ := o2.strs
  replace o2 := Lib.hid (o2.mono hB.out.size)
  replace o1 := Lib.hid (o1.out.below b2 (Nat.le_refl _))
  replace hB := Lib.hid (hB.out.trans (b2.mono hB.out.size))
  have K3 := Lib.hid (keptOf_any A5 A4 ts.length c5 ns'.length c4 w2)
  clear b2 x0 x1 x2 K2 K2' HX HT
  go_wp2_with (fail)
  refine K3.out.mono ?_
  rintro e _ ⟨rfl, rfl⟩
  clear K3
  generalize lessN ts.length ns'.length = lb at *
  cases lb
  · have HR : RetStrs w (shortOf t n x b) (.returned (.slice A4 ns'.length c4)) w2 := ⟨_, rfl, by rw [HE.out]; exact o1.out, hB.out⟩
    replace HR := Lib.hid HR
    clear o1 o2 HE
    rw [if_neg (by decide)]
    go_wp2
    go_ret
    exact HR.out
  · have HR : RetStrs w (shortOf t n x b) (.returned (.slice A5 ts.length c5)) w2 := ⟨_, rfl, by rw [HE.out]; exact o2.out, hB.out⟩
    replace HR := Lib.hid HR
    clear o1 o2 HE
    rw [if_pos rfl]
    go_wp2
    go_ret
    exact HR.out

end Go.Proofs.Ytebfoofiaokhdaa
