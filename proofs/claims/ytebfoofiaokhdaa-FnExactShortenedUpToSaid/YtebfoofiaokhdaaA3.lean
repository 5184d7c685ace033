/-
  The contract of ShorterName of the model.
-/
import Derived.Test.YtebfoofiaokhdaaA2
namespace Go.Proofs.Ytebfoofiaokhdaa
open Go.RowKit

set_option maxRecDepth 100000 in
set_option maxHeartbeats 8000000 in
theorem specShorterName_any (v : Value) (t : Tg) (n : Int) (x : ByteArray) (b : Int) (w : World) (h : Tng w v t) (hf : t.Fine) (hn : -9223372036854775808 ≤ n ∧ n ≤ 9223372036854775807) (hx : x.size ≤ maxLen) (hbb : -9223372036854775808 ≤ b ∧ b ≤ 9223372036854775807) :
    Calls Try.prog 67 #[v, .int .i64 n, .string x, .int .i64 b] w (RetStrs2 w (shortOf t n x b) (shortB t n x b)) := by
  obtain ⟨A1, c1, A2, c2, A3, c3, rfl, -⟩ := h.ex
  have hB := (Below.refl w.heap.size w).alloc (Nat.le_refl _) (.cells #[.slice A1 t.us.length c1, .slice A2 t.bs.length c2, .slice A3 t.ns.length c3] 26)
  have HX := Blk.new w 26 #[.slice A1 t.us.length c1, .slice A2 t.bs.length c2, .slice A3 t.ns.length c3]
  have HT := h.below hB (Nat.le_refl _)
  have hno := Lib.hid (fun (c : Bool) (hc : c = false) (hh : askA t n x b = true → c = true) => askA_off (t := t) (n := n) (x := x) (b := b) hc hh)
  have hnil := Lib.hid (fun (h : askA t n x b = false) (w1 : World) (hb1 : Below w.heap.size w w1) => shortOf_none2 (w := w) (w1 := w1) hb1 h)
  have hse := fun ho hw => stranger_eq (t := t) (x := x) ho hw
  replace hB := Lib.hid hB
  replace HX := Lib.hid HX
  replace HT := Lib.hid HT
  clear h
  go_enter Try.func67, Try.ntmps67
  go_upto_region 1 with (fail)
  generalize w.alloc (.cells #[.slice A1 t.us.length c1, .slice A2 t.bs.length c2, .slice A3 t.ns.length c3] 26) = W at *
  obtain ⟨x0, x1, x2, -, -, -⟩ := blk3 HX.out
  have KU := Lib.hid (specUnitOf_any _ t x W HT.out hf)
  generalize unitB t x = ub at *
  generalize unitV t x = uv at *
  go_wp2_with (fail)
  refine KU.out.mono ?_
  rintro e w1 ⟨rfl, b1⟩
  clear KU
  replace hB := Lib.hid (hB.out.trans (b1.mono hB.out.size))
  replace HX := Lib.hid (HX.out.below b1 HX.out.lt)
  replace HT := Lib.hid (HT.out.below b1 (Nat.le_refl _))
  clear b1 x0 x1 x2
  obtain ⟨x0, x1, x2, -, -, -⟩ := blk3 HX.out
  have KB := Lib.hid (specBaseOf_any _ t x w1 HT.out hf)
  generalize baseB t x = bb at *
  generalize baseV t x = bv' at *
  go_wp2_with (fail)
  refine KB.out.mono ?_
  rintro e w2 ⟨rfl, b2⟩
  clear KB
  replace hB := Lib.hid (hB.out.trans (b2.mono hB.out.size))
  replace HX := Lib.hid (HX.out.below b2 HX.out.lt)
  replace HT := Lib.hid (HT.out.below b2 (Nat.le_refl _))
  clear b2 x0 x1 x2
  obtain ⟨x0, x1, x2, -, -, -⟩ := blk3 HX.out
  have KT := Lib.hid (specTongueOk_any _ t w2 HT.out hf)
  replace hse := Lib.hid hse
  go_wp2_with (fail)
  refine KT.out.mono ?_
  rintro e w3 ⟨rfl, b3⟩
  clear KT
  replace hB := Lib.hid (hB.out.trans (b3.mono hB.out.size))
  replace HX := Lib.hid (HX.out.below b3 HX.out.lt)
  replace HT := Lib.hid (HT.out.below b3 (Nat.le_refl _))
  clear b3 x0 x1 x2
  obtain ⟨x0, x1, x2, -, -, -⟩ := blk3 HX.out
  cases hok : t.ok
  · have HR := Lib.hid (hnil.out (hno.out _ hok fun h => (fitsA_parts (askA_parts h).1).1) _ hB.out)
    replace hok := Lib.hid hok
    go_wp2
    go_ret2
    exact HR.out
  · have KW := Lib.hid (specWordOk_any x w3 hx)
    go_wp2_with (fail)
    refine KW.out.mono ?_
    rintro e _ ⟨rfl, rfl⟩
    clear KW
    cases hw : wordOk x
    · have HR := Lib.hid (hnil.out (hno.out _ hw fun h => (fitsA_parts (askA_parts h).1).2.1) _ hB.out)
      replace hw := Lib.hid hw
      replace hok := Lib.hid hok
      go_wp2
      go_ret2
      exact HR.out
    · have hse' := hse.out hok hw
      have hst : askA t n x b = true → strangerB t x = true := fun h => by
        have := (fitsA_parts (askA_parts h).1)
        unfold strangerB
        rw [hw, hasB_not.2 this.2.2.1]; rfl
      have hst2 : strangerB t x = true → 0 ≤ b ∧ b ≤ 100 → 1 ≤ n ∧ n ≤ 99999 → askA t n x b = true := fun h1 h2 h3 => by
        unfold askA fitsA fitsW
        rw [hok, h1, decide_eq_true h2, decide_eq_true h3]; rfl
      replace hw := Lib.hid hw
      cases ub
      · cases bb
        · replace hst2 := Lib.hid (hst2 hse')
          clear hse' hst
          by_cases hd : 1 ≤ n ∧ n ≤ 99999
          · have hdb := decide_eq_true hd
            obtain ⟨hd1, hd2⟩ := hd
            go_wp2_with (fail)
            refine (in_any _ _ _ _).mono ?_
            rintro e _ ⟨rfl, rfl⟩
            rw [hdb]
            clear hdb
            by_cases hq : 0 ≤ b ∧ b ≤ 100
            · have hqb := decide_eq_true hq
              obtain ⟨hq1, hq2⟩ := hq
              have ha := hst2.out ⟨hq1, hq2⟩ ⟨hd1, hd2⟩
              go_wp2_with (fail)
              refine (in_any _ _ _ _).mono ?_
              rintro e _ ⟨rfl, rfl⟩
              rw [hqb]
              clear hqb hst2 hno hnil hse
              obtain ⟨m, rfl⟩ : ∃ m : Nat, n = m := ⟨n.toNat, by omega⟩
              have K1 := Lib.hid (specNameOf_any _ t (m : Int) w3 HT.out hf (by omega))
              have K2 := fun W (hT : Tng W (.agg #[.slice A1 t.us.length c1, .slice A2 t.bs.length c2, .slice A3 t.ns.length c3]) t) => specTakenFrom_any _ t (m : Int) x b W hT hf (by omega) hx (by omega)
              have HE : shortOf t m x b = if takenB t m x b && (!namedB t m || decide ((takenOf t m x b).length < (nameOf t m).length)) then takenOf t m x b else nameOf t m := by
                unfold shortOf; rw [ha]; rfl
              have HB1 : shortOf t m x b = nameOf t m → shortB t m x b = namedB t m := fun h => by unfold shortB; rw [h]; rfl
              have HB2 : shortOf t m x b = takenOf t m x b → shortB t m x b = takenB t m x b := fun h => by unfold shortB; rw [h]; rfl
              have hl1 := nameOf_31 t (m : Int)
              have hl2 := taken_len t (m : Int) x b
              replace ha := Lib.hid ha
              replace hok := Lib.hid hok
              generalize nameOf t (m : Int) = ns' at *
              generalize namedB t (m : Int) = nb at *
              generalize takenOf t (m : Int) x b = ts at *
              generalize takenB t (m : Int) x b = tb at *
              replace K2 := Lib.hid K2
              replace HE := Lib.hid HE
              replace HB1 := Lib.hid HB1
              replace HB2 := Lib.hid HB2
              go_wp2_with (fail)
              refine K1.out.mono ?_
              rintro e w4 ⟨v4, rfl, o4, b4⟩
              obtain ⟨A4, c4, rfl, -⟩ := o4.strs
              replace o4 := Lib.hid (o4.mono hB.out.size)
              clear K1
              replace hB := Lib.hid (hB.out.trans (b4.mono hB.out.size))
              replace HX := Lib.hid (HX.out.below b4 HX.out.lt)
              replace HT := Lib.hid (HT.out.below b4 (Nat.le_refl _))
              clear b4 x0 x1 x2
              obtain ⟨x0, x1, x2, -, -, -⟩ := blk3 HX.out
              have K3 := Lib.hid (K2.out w4 HT.out)
              clear K2
              go_wp2_with (fail)
              refine K3.out.mono ?_
              rintro e w5 ⟨v5, rfl, o5, b5⟩
              obtain ⟨A5, c5, rfl, -⟩ := o5.strs
              replace o5 := Lib.hid (o5.mono hB.out.size)
              replace o4 := Lib.hid (o4.out.below b5 (Nat.le_refl _))
              clear K3
              replace hB := Lib.hid (hB.out.trans (b5.mono hB.out.size))
              replace HX := Lib.hid (HX.out.below b5 HX.out.lt)
              replace HT := Lib.hid (HT.out.below b5 (Nat.le_refl _))
              clear b5 x0 x1 x2
              obtain ⟨x0, x1, x2, -, -, -⟩ := blk3 HX.out
              cases tb
              · have h1 : shortOf t m x b = ns' := by rw [HE.out]; rfl
                have HR : RetStrs2 w (shortOf t m x b) (shortB t m x b) (.returned (.tuple #[.slice A4 ns'.length c4, .bool nb])) w5 := ⟨_, by rw [HB1.out h1], by rw [h1]; exact o4.out, hB.out⟩
                replace HR := Lib.hid HR
                clear h1 HE HB1 HB2 o4 o5
                go_wp2
                go_ret2
                exact HR.out
              · cases nb
                · have h1 : shortOf t m x b = ts := by rw [HE.out]; rfl
                  have HR : RetStrs2 w (shortOf t m x b) (shortB t m x b) (.returned (.tuple #[.slice A5 ts.length c5, .bool true])) w5 := ⟨_, by rw [HB2.out h1], by rw [h1]; exact o5.out, hB.out⟩
                  replace HR := Lib.hid HR
                  clear h1 HE HB1 HB2 o4 o5
                  go_wp2
                  go_ret2
                  exact HR.out
                · by_cases hlt : ts.length < ns'.length
                  · have h1 : shortOf t m x b = ts := by rw [HE.out, decide_eq_true hlt]; rfl
                    have HR : RetStrs2 w (shortOf t m x b) (shortB t m x b) (.returned (.tuple #[.slice A5 ts.length c5, .bool true])) w5 := ⟨_, by rw [HB2.out h1], by rw [h1]; exact o5.out, hB.out⟩
                    replace HR := Lib.hid HR
                    have hlt' : decide ((ts.length : Int) < (ns'.length : Int)) = true := decide_eq_true (by omega)
                    clear h1 HE HB1 HB2 o4 o5
                    generalize ts.length = tl at *
                    generalize ns'.length = nl at *
                    have hlt2 : (tl : Int) < (nl : Int) := by omega
                    go_wp2
                    go_ret2
                    exact HR.out
                  · have h1 : shortOf t m x b = ns' := by rw [HE.out, decide_eq_false hlt]; rfl
                    have HR : RetStrs2 w (shortOf t m x b) (shortB t m x b) (.returned (.tuple #[.slice A4 ns'.length c4, .bool true])) w5 := ⟨_, by rw [HB1.out h1], by rw [h1]; exact o4.out, hB.out⟩
                    replace HR := Lib.hid HR
                    have hlt' : decide ((ts.length : Int) < (ns'.length : Int)) = false := decide_eq_false (by omega)
                    clear h1 HE HB1 HB2 o4 o5
                    generalize ts.length = tl at *
                    generalize ns'.length = nl at *
                    have hlt2 : ¬ (tl : Int) < (nl : Int) := by omega
                    go_wp2
                    go_ret2
                    exact HR.out
            · have HR := Lib.hid (hnil.out (hno.out false rfl fun h => absurd (fitsA_parts (askA_parts h).1).2.2.2 hq) _ hB.out)
              have hqb := decide_eq_false hq
              replace hok := Lib.hid hok
              replace hq := Lib.hid hq
              go_wp2_with (fail)
              refine (in_any _ _ _ _).mono ?_
              rintro e _ ⟨rfl, rfl⟩
              rw [hqb]
              clear hqb
              go_wp2
              go_ret2
              exact HR.out
          · have HR := Lib.hid (hnil.out (hno.out false rfl fun h => absurd (askA_parts h).2 hd) _ hB.out)
            have hdb := decide_eq_false hd
            replace hok := Lib.hid hok
            replace hd := Lib.hid hd
            go_wp2_with (fail)
            refine (in_any _ _ _ _).mono ?_
            rintro e _ ⟨rfl, rfl⟩
            rw [hdb]
            clear hdb
            go_wp2
            go_ret2
            exact HR.out
        · have HR := Lib.hid (hnil.out (hno.out _ hse' hst) _ hB.out)
          replace hok := Lib.hid hok
          clear hse' hst hst2
          go_wp2
          go_ret2
          exact HR.out
      · have HR := Lib.hid (hnil.out (hno.out _ hse' hst) _ hB.out)
        replace hok := Lib.hid hok
        clear hse' hst hst2
        go_wp2
        go_ret2
        exact HR.out
end Go.Proofs.Ytebfoofiaokhdaa
