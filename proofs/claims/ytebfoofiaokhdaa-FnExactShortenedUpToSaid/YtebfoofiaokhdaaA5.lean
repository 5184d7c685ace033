/-
  The contract of ShortenedUpTo of the model.
-/
import Derived.Test.YtebfoofiaokhdaaA3
namespace Go.Proofs.Ytebfoofiaokhdaa
open Go.RowKit

theorem short_one_eq {t : Tg} {x : ByteArray} {b : Int} : shortB t 1 x b = fitsA t x b := by
  cases hf : fitsA t x b
  · exact (askA_no (by unfold askA; rw [hf]; rfl)).2.2.2
  · exact short_one hf
theorem count_yes {t : Tg} {x : ByteArray} {b : Int} {j : Nat} (h : cutB t ((j : Int) + 1) x b = true) : countTo t x b (j + 1) = countTo t x b j + 1 := by
  have h' : cutB t ((j + 1 : Nat) : Int) x b = true := h
  rw [countTo, if_pos h']
theorem count_no {t : Tg} {x : ByteArray} {b : Int} {j : Nat} (h : cutB t ((j : Int) + 1) x b = false) : countTo t x b (j + 1) = countTo t x b j := by
  have h' : cutB t ((j + 1 : Nat) : Int) x b = false := h
  rw [countTo, h', if_neg (by decide)]

set_option maxRecDepth 100000 in
set_option maxHeartbeats 8000000 in
theorem specShortened_any (v : Value) (t : Tg) (most : Int) (x : ByteArray) (b : Int) (w : World) (h : Tng w v t) (hf : t.Fine) (hn : -9223372036854775808 ≤ most ∧ most ≤ 9223372036854775807) (hx : x.size ≤ maxLen) (hbb : -9223372036854775808 ≤ b ∧ b ≤ 9223372036854775807) :
    Calls Try.prog 39 #[v, .int .i64 most, .string x, .int .i64 b] w fun e w' => e = .returned (.int .i64 (countA t most x b)) ∧ Below w.heap.size w w' := by
  obtain ⟨A1, c1, A2, c2, A3, c3, rfl, -⟩ := h.ex
  have hB := (Below.refl w.heap.size w).alloc (Nat.le_refl _) (.cells #[.slice A1 t.us.length c1, .slice A2 t.bs.length c2, .slice A3 t.ns.length c3] 26)
  have HX := Blk.new w 26 #[.slice A1 t.us.length c1, .slice A2 t.bs.length c2, .slice A3 t.ns.length c3]
  have HT := h.below hB (Nat.le_refl _)
  have K1 := specShorterName_any _ t 1 x b _ HT hf (by omega) hx hbb
  rw [short_one_eq] at K1
  replace K1 := Lib.hid K1
  have HN : okCA t most x b = false → countA t most x b = -1 := countA_no
  replace HN := Lib.hid HN
  replace hB := Lib.hid hB
  replace HX := Lib.hid HX
  replace HT := Lib.hid HT
  clear h
  go_enter Try.func39, Try.ntmps39
  go_upto_region 1 with (fail)
  generalize w.alloc (.cells #[.slice A1 t.us.length c1, .slice A2 t.bs.length c2, .slice A3 t.ns.length c3] 26) = W at *
  obtain ⟨x0, x1, x2, -, -, -⟩ := blk3 HX.out
  go_wp2_with (fail)
  refine K1.out.mono ?_
  rintro e w1 ⟨v1, rfl, o1, b1⟩
  obtain ⟨A4, c4, rfl, -⟩ := o1.strs
  replace hB := Lib.hid (hB.out.trans (b1.mono hB.out.size))
  replace HX := Lib.hid (HX.out.below b1 HX.out.lt)
  replace HT := Lib.hid (HT.out.below b1 (Nat.le_refl _))
  clear b1 x0 x1 x2 K1 o1
  obtain ⟨x0, x1, x2, -, -, -⟩ := blk3 HX.out
  generalize (shortOf t 1 x b).length = L1 at *
  go_wp2_with (fail)
  refine (in_any _ _ _ _).mono ?_
  rintro e _ ⟨rfl, rfl⟩
  by_cases hd : 1 ≤ most ∧ most ≤ 2000
  · rw [decide_eq_true hd]
    cases hfi : fitsA t x b
    · have hr := Lib.hid (HN.out (by unfold okCA; rw [hfi]; rfl))
      replace hfi := Lib.hid hfi
      go_wp2
      go_ret
      exact ⟨ret_int hr.out.symm, hB.out⟩
    · have hok : okCA t most x b = true := by unfold okCA; rw [hfi, decide_eq_true hd]; rfl
      obtain ⟨hd1, hd2⟩ := hd
      obtain ⟨M, rfl⟩ : ∃ M : Nat, most = M := ⟨most.toNat, by omega⟩
      have hE := Lib.hid (countA_yes hok)
      have hl := Lib.hid (countTo_le t x b)
      have HK := Lib.hid (fun (j : Nat) (hj : j ≤ 2000) W' (hb : Below w1.heap.size w1 W') => specShorterName_any _ t ((j : Int) + 1) x b W' (HT.out.below hb (Nat.le_refl _)) hf (by omega) hx hbb)
      have HK2 := Lib.hid (fun (j : Nat) (hj : j ≤ 2000) W' (hb : Below w1.heap.size w1 W') => specNameOf_any _ t ((j : Int) + 1) W' (HT.out.below hb (Nat.le_refl _)) hf (by omega))
      have HXa := Lib.hid (fun W' (hb : Below w1.heap.size w1 W') => blk3 (HX.out.below hb HX.out.lt))
      have HC := Lib.hid (fun (j : Nat) (hj : j ≤ 2000) => cut_spec (t := t) (n := (j : Int) + 1) (x := x) (b := b) (askA_of hfi (by omega) (by omega)))
      have HLn := Lib.hid (fun (z : Int) => nameOf_31 t z)
      have HLs := Lib.hid (fun (z : Int) => short_len t z x b)
      replace hok := Lib.hid hok
      replace hfi := Lib.hid hfi
      clear HT HX x0 x1 x2 HN
      go_wp2
      go_loopw [11, 12] (fun s11 s12 wr => ∃ j : Nat, j ≤ M ∧ s12 = .int .i64 ((j : Int) + 1) ∧ s11 = .int .i64 (countTo t x b j : Nat) ∧ Below w1.heap.size w1 wr) (fun _ i _ => M + 1 - (intOf i).toNat)
      case atStart => exact ⟨0, Nat.zero_le _, rfl, rfl, Below.refl _ _⟩
      case round =>
        obtain ⟨j, hj, rfl, rfl, hb⟩ := hrel
        by_cases hlt : j < M
        · have hlt' : (j : Int) + 1 ≤ (M : Int) := by omega
          obtain ⟨x0, x1, x2, -, -, -⟩ := HXa.out _ hb
          have K5 := Lib.hid (HK.out j (by omega) _ hb)
          have hc := HC.out j (by omega)
          have hcy := count_yes (t := t) (x := x) (b := b) (j := j)
          have hcn := count_no (t := t) (x := x) (b := b) (j := j)
          have hlj := hl.out j
          have hln := HLn.out ((j : Int) + 1)
          have hls := HLs.out ((j : Int) + 1)
          have K6' := Lib.hid (HK2.out j (by omega))
          generalize countTo t x b j = C at *
          generalize cutB t ((j : Int) + 1) x b = cb at *
          generalize shortOf t ((j : Int) + 1) x b = ss at *
          generalize shortB t ((j : Int) + 1) x b = sb at *
          generalize nameOf t ((j : Int) + 1) = ns' at *
          generalize namedB t ((j : Int) + 1) = nb at *
          replace hb := Lib.hid hb
          replace hc := Lib.hid hc
          replace hcy := Lib.hid hcy
          replace hcn := Lib.hid hcn
          go_wp2_with (fail)
          refine K5.out.mono ?_
          rintro e w5 ⟨v5, rfl, o5, b5⟩
          obtain ⟨A5, c5, rfl, -⟩ := o5.strs
          have hb5 := hb.out.trans (b5.mono hb.out.size)
          have K6 := Lib.hid (K6'.out _ hb5)
          clear K5 o5 b5 x0 x1 x2
          obtain ⟨x0, x1, x2, -, -, -⟩ := HXa.out _ hb5
          replace hb5 := Lib.hid hb5
          go_wp2_with (fail)
          refine K6.out.mono ?_
          rintro e w6 ⟨v6, rfl, o6, b6⟩
          obtain ⟨A6, c6, rfl, -⟩ := o6.strs
          have hb6 := Lib.hid (hb5.out.trans (b6.mono hb5.out.size))
          have kw : IntKind.i64.wrap ((j : Int) + 1 + 1) = (j : Int) + 1 + 1 := IntWalk.i64_in _ (by omega)
          have cw : IntKind.i64.wrap ((C : Int) + 1) = (C : Int) + 1 := IntWalk.i64_in _ (by omega)
          clear K6 K6' o6 b6 x0 x1 x2 hb5
          cases sb
          · have hg := Lib.hid (hcn.out (by rw [← hc.out]; rfl))
            go_wp2
            go_roundw
            case rel => exact ⟨j + 1, by omega, by go_num, by rw [hg.out], hb6.out⟩
            case measure => simp [intOf]; omega
          · cases nb
            · have hg := Lib.hid (hcn.out (by rw [← hc.out]; rfl))
              go_wp2
              go_roundw
              case rel => exact ⟨j + 1, by omega, by go_num, by rw [hg.out], hb6.out⟩
              case measure => simp [intOf]; omega
            · by_cases hlt3 : ss.length < ns'.length
              · have hlt4 : (ss.length : Int) < (ns'.length : Int) := by omega
                have hg := Lib.hid (hcy.out (by rw [← hc.out, decide_eq_true hlt3]; rfl))
                clear hc hcy hcn
                generalize ss.length = sl at *
                generalize ns'.length = nl at *
                go_wp2
                go_roundw
                case rel => exact ⟨j + 1, by omega, by go_num, by rw [hg.out]; rfl, hb6.out⟩
                case measure => simp [intOf]; omega
              · have hlt4 : ¬ (ss.length : Int) < (ns'.length : Int) := by omega
                have hg := Lib.hid (hcn.out (by rw [← hc.out, decide_eq_false hlt3]; rfl))
                clear hc hcy hcn
                generalize ss.length = sl at *
                generalize ns'.length = nl at *
                go_wp2
                go_roundw
                case rel => exact ⟨j + 1, by omega, by go_num, by rw [hg.out], hb6.out⟩
                case measure => simp [intOf]; omega
        · obtain rfl : j = M := by omega
          have hlt' : ¬ (j : Int) + 1 ≤ (j : Int) := by omega
          have hb' := Lib.hid (hB.out.trans (hb.mono hB.out.size))
          go_wp2
          go_ret
          exact ⟨ret_int hE.out.symm, hb'.out⟩
  · rw [decide_eq_false hd]
    have hr := Lib.hid (HN.out (by unfold okCA; rw [decide_eq_false hd, Bool.and_false]))
    replace hd := Lib.hid hd
    go_wp2
    go_ret
    exact ⟨ret_int hr.out.symm, hB.out⟩
end Go.Proofs.Ytebfoofiaokhdaa
