/-
  The contract of the program's ShortenedUpTo.
-/
import Derived.Test.YtebfoofiaokhdaaB3
import Derived.Test.YtebfoofiaokhdaaP3e
import Derived.Deep.RegionHeld3
namespace Go.Proofs.Ytebfoofiaokhdaa
open Go.RowKit

theorem countN_yes {t : Tg} {x : ByteArray} {b : Int} {j : Nat} (h : cutB t ((j : Int) + 1) x b = true) : countTo t x b (j + 1) = countTo t x b j + 1 := by
  have h' : cutB t ((j + 1 : Nat) : Int) x b = true := h
  rw [countTo, if_pos h']
theorem countN_no {t : Tg} {x : ByteArray} {b : Int} {j : Nat} (h : cutB t ((j : Int) + 1) x b = false) : countTo t x b (j + 1) = countTo t x b j := by
  have h' : cutB t ((j + 1 : Nat) : Int) x b = false := h
  rw [countTo, h', if_neg (by decide)]

set_option maxRecDepth 100000 in
set_option maxHeartbeats 8000000 in
theorem implShortened_any (v : Value) (t : Tg) (most : Int) (x : ByteArray) (b : Int) (w : World) (h : Tng w v t) (hf : t.Fine) (hx : x.size ≤ maxLen) :
    Calls Try.prog 38 #[v, .int .i64 most, .string x, .int .i64 b] w fun e w' => e = .returned (.int .i64 (countA t most x b)) ∧ Below w.heap.size w w' := by
  obtain ⟨A1, c1, A2, c2, A3, c3, rfl, -⟩ := h.ex
  have hB := (Below.refl w.heap.size w).alloc (Nat.le_refl _) (.cells #[.slice A1 t.us.length c1, .slice A2 t.bs.length c2, .slice A3 t.ns.length c3] 26)
  have HX := Blk.new w 26 #[.slice A1 t.us.length c1, .slice A2 t.bs.length c2, .slice A3 t.ns.length c3]
  have HT := h.below hB (Nat.le_refl _)
  have K1 := Lib.hid (implTakeable_any _ t x b _ HT hf hx)
  have HN : okCA t most x b = false → countA t most x b = -1 := countA_no
  replace HN := Lib.hid HN
  replace hB := Lib.hid hB
  replace HX := Lib.hid HX
  replace HT := Lib.hid HT
  clear h
  go_enter Try.func38, Try.ntmps38
  go_upto_region 1 with (fail)
  generalize w.alloc (.cells #[.slice A1 t.us.length c1, .slice A2 t.bs.length c2, .slice A3 t.ns.length c3] 26) = W at *
  obtain ⟨x0, x1, x2, -, -, -⟩ := blk3 HX.out
  go_wp2_with (fail)
  refine K1.out.mono ?_
  rintro e w1 ⟨rfl, b1⟩
  replace hB := Lib.hid (hB.out.trans (b1.mono hB.out.size))
  replace HX := Lib.hid (HX.out.below b1 HX.out.lt)
  replace HT := Lib.hid (HT.out.below b1 (Nat.le_refl _))
  clear b1 x0 x1 x2 K1
  obtain ⟨x0, x1, x2, -, -, -⟩ := blk3 HX.out
  cases hfi : fitsA t x b
  · have hr := Lib.hid (HN.out (by unfold okCA; rw [hfi]; rfl))
    replace hfi := Lib.hid hfi
    go_wp2
    go_ret
    exact ⟨ret_int hr.out.symm, hB.out⟩
  · by_cases hd : 1 ≤ most ∧ most ≤ 2000
    · have hok : okCA t most x b = true := by unfold okCA; rw [hfi, decide_eq_true hd]; rfl
      obtain ⟨hd1, hd2⟩ := hd
      obtain ⟨M, rfl⟩ : ∃ M : Nat, most = M := ⟨most.toNat, by omega⟩
      have t1 : ¬ (M : Int) < 1 := by omega
      have t2 : ¬ (2000 : Int) < (M : Int) := by omega
      have hE := Lib.hid (countA_yes hok)
      have hl := Lib.hid (countTo_le t x b)
      have HK := Lib.hid (fun (j : Nat) (hj : j ≤ 2000) W' (hb : Below w1.heap.size w1 W') => shorterName_any _ t ((j : Int) + 1) x b W' (HT.out.below hb (Nat.le_refl _)) hf (askA_of hfi (by omega) (by omega)))
      have HK2 := Lib.hid (fun (j : Nat) (hj : j ≤ 2000) W' (hb : Below w1.heap.size w1 W') => implLongOf_any _ t ((j : Int) + 1) W' (HT.out.below hb (Nat.le_refl _)) hf (by omega))
      have HXa := Lib.hid (fun W' (hb : Below w1.heap.size w1 W') => blk3 (HX.out.below hb HX.out.lt))
      have HC := Lib.hid (fun (j : Nat) => cut_long (t := t) (n := (j : Int) + 1) (x := x) (b := b))
      have HLs := Lib.hid (fun (z : Int) => short_len t z x b)
      have HLo := Lib.hid (fun (z : Int) => longOf_bd t z)
      replace hok := Lib.hid hok
      replace hfi := Lib.hid hfi
      clear HT HX x0 x1 x2 HN
      go_wp2
      go_loopw [9, 10] (fun s9 s10 wr => ∃ j : Nat, j ≤ M ∧ s10 = .int .i64 ((j : Int) + 1) ∧ s9 = .int .i64 (countTo t x b j : Nat) ∧ Below w1.heap.size w1 wr) (fun _ i _ => M + 1 - (intOf i).toNat)
      case atStart => exact ⟨0, Nat.zero_le _, rfl, rfl, Below.refl _ _⟩
      case round =>
        obtain ⟨j, hj, rfl, rfl, hb⟩ := hrel
        by_cases hlt : j < M
        · have hlt' : (j : Int) + 1 ≤ (M : Int) := by omega
          obtain ⟨x0, x1, x2, -, -, -⟩ := HXa.out _ hb
          have KS := Lib.hid (HK.out j (by omega))
          have KL := Lib.hid (HK2.out j (by omega))
          have hc := HC.out j
          have hcy := countN_yes (t := t) (x := x) (b := b) (j := j)
          have hcn := countN_no (t := t) (x := x) (b := b) (j := j)
          have hlj := hl.out j
          have hls := HLs.out ((j : Int) + 1)
          have hlo := HLo.out ((j : Int) + 1)
          generalize countTo t x b j = C at *
          generalize cutB t ((j : Int) + 1) x b = cb at *
          generalize shortOf t ((j : Int) + 1) x b = ss at *
          generalize longOf t ((j : Int) + 1) = lo at *
          have kw : IntKind.i64.wrap ((j : Int) + 1 + 1) = (j : Int) + 1 + 1 := IntWalk.i64_in _ (by omega)
          have cw : IntKind.i64.wrap ((C : Int) + 1) = (C : Int) + 1 := IntWalk.i64_in _ (by omega)
          replace hb := Lib.hid hb
          replace hc := Lib.hid hc
          replace hcy := Lib.hid hcy
          replace hcn := Lib.hid hcn
          obtain ⟨L, hL⟩ : ∃ L, L = ss.length := ⟨_, rfl⟩
          rw [← hL] at hls
          have hc2 := hc.out
          rw [← hL] at hc2
          replace hc2 := Lib.hid hc2
          clear hc
          replace hL := Lib.hid hL
          go_upto_region 7 with (fail)
          go_region_held3 (fun w' => w'.cell? ⟨w.heap.size, 0, none⟩ = some (.slice A1 t.us.length c1) ∧ w'.cell? ⟨w.heap.size, 1, none⟩ = some (.slice A2 t.bs.length c2) ∧ w'.cell? ⟨w.heap.size, 2, none⟩ = some (.slice A3 t.ns.length c3))
            (first | go_keep | exact hS5 | exact hS6)
            (first
              | (have hgd := hbL.out; clear hgd; go_at_call 66; refine (KS.out _ hbL.out).mono ?_; rintro e w6 ⟨v6, rfl, o6, b6'⟩; have hb6 := hbL.out.trans (b6'.mono hbL.out.size); obtain ⟨A6, c6, rfl, -⟩ := o6.strs; rw [← hL.out]; obtain ⟨x0'', x1'', x2'', -, -, -⟩ := HXa.out _ hb6; have hS6 := And.intro x0'' (And.intro x1'' x2''); replace hb6 := Lib.hid hb6; clear b6' o6)
              | (have hgd := hbS.out; clear hgd; go_at_call 20; refine (KL.out _ hbS.out).mono ?_; rintro e w6 ⟨rfl, b6'⟩; have hb6 := hbS.out.trans (b6'.mono hbS.out.size); obtain ⟨x0'', x1'', x2'', -, -, -⟩ := HXa.out _ hb6; have hS6 := And.intro x0'' (And.intro x1'' x2''); replace hb6 := Lib.hid hb6; clear b6')
              | (go_at_call 66; refine (KS.out _ (by first | exact hb.out.drew | exact hb.out)).mono ?_; rintro e w5 ⟨v5, rfl, o5, b5'⟩; have b5 : Below wr.heap.size wr w5 := ⟨b5'.os, b5'.tape, b5'.output, b5'.size, b5'.block⟩; have hbS := hb.out.trans (b5.mono hb.out.size); obtain ⟨A5, c5, rfl, -⟩ := o5.strs; rw [← hL.out]; obtain ⟨x0', x1', x2', -, -, -⟩ := HXa.out _ hbS; have hS5 := And.intro x0' (And.intro x1' x2'); replace hbS := Lib.hid hbS; clear b5' b5 o5)
              | (go_at_call 20; refine (KL.out _ (by first | exact hb.out.drew | exact hb.out)).mono ?_; rintro e w5 ⟨rfl, b5'⟩; have b5 : Below wr.heap.size wr w5 := ⟨b5'.os, b5'.tape, b5'.output, b5'.size, b5'.block⟩; have hbL := hb.out.trans (b5.mono hb.out.size); obtain ⟨x0', x1', x2', -, -, -⟩ := HXa.out _ hbL; have hS5 := And.intro x0' (And.intro x1' x2'); replace hbL := Lib.hid hbL; clear b5' b5))
          all_goals
            clear x0 x1 x2 x0' x1' x2' x0'' x1'' x2'' hS5 hS6 KS KL
            by_cases hlt3 : (L : Int) < lo
            · have hg := Lib.hid (hcy.out (by rw [← hc2.out, decide_eq_true hlt3]))
              go_wp2
              go_roundw
              case rel => exact ⟨j + 1, by omega, by go_num, by rw [hg.out]; rfl, hb6.out⟩
              case measure => simp [intOf]; omega
            · have hg := Lib.hid (hcn.out (by rw [← hc2.out, decide_eq_false hlt3]))
              go_wp2
              go_roundw
              case rel => exact ⟨j + 1, by omega, by go_num, by rw [hg.out], hb6.out⟩
              case measure => simp [intOf]; omega
        · obtain rfl : j = M := by omega
          have hlt' : ¬ (j : Int) + 1 ≤ (j : Int) := by omega
          have hb' := Lib.hid (hB.out.trans (hb.mono hB.out.size))
          go_wp2
          go_ret
          exact ⟨ret_int hE.out.symm, hb'.out⟩
    · have hr := Lib.hid (HN.out (by unfold okCA; rw [decide_eq_false hd, Bool.and_false]))
      replace hfi := Lib.hid hfi
      by_cases h1 : most < 1
      · replace hd := Lib.hid hd
        go_wp2
        go_ret
        exact ⟨ret_int hr.out.symm, hB.out⟩
      · have t2 : 2000 < most := by omega
        replace hd := Lib.hid hd
        go_wp2
        go_ret
        exact ⟨ret_int hr.out.symm, hB.out⟩
end Go.Proofs.Ytebfoofiaokhdaa
