/-
  What may be asked with the unit first, of the model.
-/
import Derived.Test.YtbckckicffjccaaMathV
import Derived.Test.YtbckckicffjccaaGB
import Derived.Test.YtbckckicffjccaaC1b
namespace Go.Proofs.Ytbckckicffjccaa
open Go.RowKit

set_option maxRecDepth 100000 in
set_option maxHeartbeats 2000000 in
theorem specFits_any (v : Value) (t : Tg) (x : ByteArray) (w : World) (h : Tng w v t) (hf : t.Fine) (hx : x.size ≤ maxLen) :
    Calls Try.prog 37 #[v, .string x] w fun e w' => e = .returned (.bool (fitsT t x)) ∧ Below w.heap.size w w' := by
  obtain ⟨A1, c1, A2, c2, A3, c3, rfl, -⟩ := h.ex
  have hB := (Below.refl w.heap.size w).alloc (Nat.le_refl _) (.cells #[.slice A1 t.us.length c1, .slice A2 t.bs.length c2, .slice A3 t.ns.length c3] 26)
  have HX := Blk.new w 26 #[.slice A1 t.us.length c1, .slice A2 t.bs.length c2, .slice A3 t.ns.length c3]
  have HT := h.below hB (Nat.le_refl _)
  have K1 := Lib.hid (specTongueOk_any _ t _ HT hf)
  have hfb := hf.bs
  have hff := Lib.hid hf.fits
  have hno := Lib.hid (fun (b : Bool) (hb : b = false) (hh : fitsT t x = true → b = true) => fits_off (t := t) (x := x) hb hh)
  replace hB := Lib.hid hB
  replace HX := Lib.hid HX
  replace HT := Lib.hid HT
  clear h
  go_enter Try.func37, Try.ntmps37
  go_upto_region 1 with (fail)
  generalize w.alloc (.cells #[.slice A1 t.us.length c1, .slice A2 t.bs.length c2, .slice A3 t.ns.length c3] 26) = W at *
  obtain ⟨x0, x1, x2, -, -, -⟩ := blk3 HX.out
  go_wp2_with (fail)
  refine K1.out.mono ?_
  rintro e w1 ⟨rfl, b1⟩
  replace hB := Lib.hid (hB.out.trans (b1.mono hB.out.size))
  replace HX := Lib.hid (HX.out.below b1 HX.out.lt)
  replace HT := Lib.hid (HT.out.below b1 (Nat.le_refl _))
  clear b1 x0 x1 x2 K1
  obtain ⟨x0, x1, x2, -, -, -⟩ := blk3 HX.out
  cases hok : t.ok
  · have hr := Lib.hid (hno.out _ hok fun h => (fits_parts h).1)
    replace hok := Lib.hid hok
    go_wp2
    go_ret
    exact ⟨ret_bool hr.out.symm, hB.out⟩
  · by_cases h2 : 2 ≤ t.bs.length
    · have h2' : ¬ (t.bs.length : Int) < 2 := by omega
      obtain ⟨_, _, _, _, _, _, ev, -, I2, -⟩ := HT.out.ex
      cases ev
      have KN := Lib.hid (specNestedOk_any A2 _ c2 t.bs w1 I2 (by omega) hff.out)
      clear I2
      have hrest := Lib.hid (fun hn => fits_rest (t := t) (x := x) hok h2 hn)
      have hse := Lib.hid (fun hw => stranger_eq (t := t) (x := x) hok hw)
      replace hok := Lib.hid hok
      go_wp2_with (fail)
      refine KN.out.mono ?_
      rintro e _ ⟨rfl, m, rfl⟩
      cases hn : nested t.bs
      · have hr := Lib.hid (hno.out _ hn fun h => (fits_parts h).2.2.1)
        replace hn := Lib.hid hn
        go_wp2
        go_ret
        exact ⟨ret_bool hr.out.symm, below_drewN hB.out _⟩
      · have hrest' := hrest.out hn
        have KW := Lib.hid (specWordOk_any x (w1.drewN m) hx)
        replace hn := Lib.hid hn
        replace hrest' := Lib.hid hrest'
        clear hrest KN
        go_wp2_with (fail)
        refine KW.out.mono ?_
        rintro e _ ⟨rfl, rfl⟩
        clear KW
        cases hw : wordOk x
        · have hr := Lib.hid (hno.out _ hw fun h => (fits_parts h).2.2.2.1)
          replace hw := Lib.hid hw
          go_wp2
          go_ret
          exact ⟨ret_bool hr.out.symm, below_drewN hB.out _⟩
        · have hse' := hse.out hw
          have bd := below_drewN (Below.refl w1.heap.size w1) m
          replace hB := Lib.hid (hB.out.trans (bd.mono hB.out.size))
          replace HX := Lib.hid (HX.out.below bd HX.out.lt)
          replace HT := Lib.hid (HT.out.below bd (Nat.le_refl _))
          replace hw := Lib.hid hw
          clear bd x0 x1 x2 hse
          generalize w1.drewN m = w2 at *
          obtain ⟨x0, x1, x2, -, -, -⟩ := blk3 HX.out
          have KU := Lib.hid (specUnitOf_any _ t x w2 HT.out hf)
          have HR : fitsT t x = (!unitB t x && !baseB t x) := hrest'.out.trans hse'
          generalize unitB t x = ub at *
          generalize unitV t x = uv at *
          replace HR := Lib.hid HR
          clear hse' hrest'
          go_wp2_with (fail)
          refine KU.out.mono ?_
          rintro e w3 ⟨rfl, b3⟩
          replace hB := Lib.hid (hB.out.trans (b3.mono hB.out.size))
          replace HX := Lib.hid (HX.out.below b3 HX.out.lt)
          replace HT := Lib.hid (HT.out.below b3 (Nat.le_refl _))
          clear b3 x0 x1 x2 KU
          obtain ⟨x0, x1, x2, -, -, -⟩ := blk3 HX.out
          have KB := Lib.hid (specBaseOf_any _ t x w3 HT.out hf)
          generalize baseB t x = bb at *
          generalize baseV t x = bv' at *
          go_wp2_with (fail)
          refine KB.out.mono ?_
          rintro e w4 ⟨rfl, b4⟩
          replace hB := Lib.hid (hB.out.trans (b4.mono hB.out.size))
          clear b4 x0 x1 x2 KB
          cases ub <;> cases bb
          all_goals
            go_wp2
            go_ret
            exact ⟨ret_bool HR.out.symm, hB.out⟩
    · have h2' : (t.bs.length : Int) < 2 := by omega
      have hr := Lib.hid (hno.out false rfl fun h => absurd (fits_parts h).2.1 h2)
      replace hok := Lib.hid hok
      replace h2 := Lib.hid h2
      go_wp2
      go_ret
      exact ⟨ret_bool hr.out.symm, hB.out⟩
end Go.Proofs.Ytbckckicffjccaa
