/-
  The contract of the program's reading of words.
-/
import Derived.Test.YteemgkabhkdeaaaDoorP4c
namespace Go.Proofs.YteemgkabhkdeaaaDoor
open Go.RowKit Go.WideMaps Go.Maps

/-- While words are read: the reader at block g, the table at block m. -/
structure RdgSt (w : World) (t : Tg) (u : Value) (g m : Nat) (wr : World) (s : List Int) : Prop where
  rd : Rdr wr g u s
  st : Stepped wr m t (t.us.length + t.ns.length)
  low : Below w.heap.size w wr
theorem RdgSt.below {w wr w' : World} {t : Tg} {u : Value} {g m : Nat} {s : List Int} (h : RdgSt w t u g m wr s) (hb : Below wr.heap.size wr w') : RdgSt w t u g m w' s :=
  ⟨h.rd.below hb h.rd.lt, h.st.kept (row := none) (grown_of_below none hb) (by simp), h.low.trans (hb.mono h.low.size)⟩
theorem RdgSt.turn {w wr w' : World} {t : Tg} {u : Value} {g m : Nat} {s s' : List Int} (h : RdgSt w t u g m wr s) (hg : wr.grownBy w' (some g)) (hr : Rdr w' g u s') (hm : m ≠ g) (hw : w.heap.size ≤ g) : RdgSt w t u g m w' s' :=
  ⟨hr, h.st.kept hg (fun e => hm (Option.some.inj e)), h.low.grown hg h.low.size (fun k e => by cases e; exact hw)⟩

set_option maxRecDepth 100000 in
set_option maxHeartbeats 4000000 in
theorem numberRead_any (v : Value) (t : Tg) (A : Option Addr) (n c : Nat) (l : List ByteArray) (w : World) (h : Tng w v t) (hok : t.ok = true) (hf : t.Fine) (hl : Strs w A n c l) (hn : n ≤ 40) (hsz : ∀ x ∈ l, x.size ≤ maxLen) :
    Calls Tryd.prog 40 #[v, .slice A n c] w fun e w' => e = .returned (.tuple #[.int .i64 ((numR t l).getD (-1)), .bool (numR t l).isSome]) ∧ Below w.heap.size w w' := by
  obtain ⟨A1, c1, A2, c2, A3, c3, rfl, -⟩ := h.ex
  have hln := hl.len
  have hB := (Below.refl w.heap.size w).alloc (Nat.le_refl _) (.cells #[.slice A1 t.us.length c1, .slice A2 t.bs.length c2, .slice A3 t.ns.length c3] 26)
  have HX := Blk.new w 26 #[.slice A1 t.us.length c1, .slice A2 t.bs.length c2, .slice A3 t.ns.length c3]
  have HT := h.below hB (Nat.le_refl _)
  have K1 := stepsOf_any _ t _ HT hok hf
  rw [World.size_alloc] at K1
  have HL := Lib.hid (fun W (hb : Below w.heap.size w W) => hl.below hb (Nat.le_refl _))
  have hA2 : ∀ a o, A2 = some ⟨a, o, none⟩ → a < w.heap.size := fun a o e => by
    obtain ⟨_, _, _, _, _, _, ev, -, I2, -⟩ := h.ex
    cases ev
    obtain ⟨a', o', e', hlt, -⟩ := I2.at_ (bases_len (ok_shape hok).bs).1
    rw [e] at e'
    cases e'
    exact hlt
  replace hA2 := Lib.hid hA2
  have HI := Lib.hid (fun W (hb : Below w.heap.size w W) => h.below hb (Nat.le_refl _))
  replace K1 := Lib.hid K1
  replace hB := Lib.hid hB
  replace HX := Lib.hid HX
  replace hln := Lib.hid hln
  replace hsz := Lib.hid hsz
  replace hf := Lib.hid hf
  clear h hl HT
  go_enter Tryd.func40, Tryd.ntmps40
  go_upto_region 1 with (fail)
  have hsW : (w.alloc (.cells #[.slice A1 t.us.length c1, .slice A2 t.bs.length c2, .slice A3 t.ns.length c3] 26)).heap.size = w.heap.size + 1 := World.size_alloc ..
  generalize w.alloc (.cells #[.slice A1 t.us.length c1, .slice A2 t.bs.length c2, .slice A3 t.ns.length c3] 26) = W at *
  obtain ⟨x0, x1, x2, -, -, -⟩ := blk3 HX.out
  replace hsW := Lib.hid hsW
  go_wp2_with (fail)
  refine K1.out.mono ?_
  rintro e w2 ⟨rfl, st2, b2⟩
  rw [← hsW.out] at b2
  have hB2 := hB.out.trans (b2.mono hB.out.size)
  have hX2 := HX.out.below b2 HX.out.lt
  have hs2 : w.heap.size + 1 < w2.heap.size := by have := st2.lt; omega
  replace st2 := Lib.hid st2
  replace hB2 := Lib.hid hB2
  clear x0 x1 x2 b2 K1 HX hB
  obtain ⟨x0, x1, x2, -, -, -⟩ := blk3 hX2
  clear hX2
  go_upto_region 3 with (fail)
  have hG := Lib.hid (⟨⟨rfl, Blk.new w2 91 _⟩, st2.out.alloc _, hB2.out.alloc hB2.out.size _⟩ : RdgSt w t (.slice A2 t.bs.length c2) w2.heap.size (w.heap.size + 1 + 1) (w2.alloc (.cells #[.slice A2 t.bs.length c2, .int .i64 0, .int .i64 0, .int .i64 0, .int .i64 0, .int .i64 0] 91)) noSums)
  have hmg : w.heap.size + 1 + 1 ≠ w2.heap.size := by have := st2.out.lt; omega
  have hwg : w.heap.size ≤ w2.heap.size := by omega
  clear x0 x1 x2 st2 hB2 hs2
  generalize w2.alloc (.cells #[.slice A2 t.bs.length c2, .int .i64 0, .int .i64 0, .int .i64 0, .int .i64 0, .int .i64 0] 91) = W3 at *
  generalize w2.heap.size = g at *
  generalize hmm : w.heap.size + 1 + 1 = m at *
  replace hmm := Lib.hid hmm
  replace hmg := Lib.hid hmg
  replace hwg := Lib.hid hwg
  go_wp2
  go_loopw [19] (fun i wr => ∃ (k : Nat) (s : List Int), k ≤ n ∧ i = .int .i64 k ∧ readL t (l.take k) noSums = some s ∧ RdgSt w t (.slice A2 t.bs.length c2) g m wr s) (fun i _ => n - (intOf i).toNat)
  case atStart => exact ⟨0, noSums, Nat.zero_le _, rfl, rfl, hG.out⟩
  case round =>
    obtain ⟨k, s, hk, rfl, hrl, hS⟩ := hrel
    clear hG
    have hsok := readL_bd hok l k (by rw [hln.out]; exact hk) s hrl
    by_cases hlt : k < n
    · obtain ⟨b, o, rfl, -, hc⟩ := (HL.out _ hS.low).at_ (by omega)
      have ck := hc k hlt
      have hxs : (l.getD k ByteArray.empty).size ≤ maxLen := by
        have hkl : k < l.length := by rw [hln.out]; exact hlt
        rw [List.getD_eq_getElem?_getD, List.getElem?_eq_getElem hkl]
        exact hsz.out _ (List.getElem_mem hkl)
      have hkey := keyOf_string_mk (P := Tryd.prog) Tryd.underlying9 hxs
      have hsn := readL_snoc t l noSums (k := k) (by rw [hln.out]; exact hlt)
      rw [hrl, Option.bind_some] at hsn
      generalize l.getD k ByteArray.empty = x at *
      have hhas := st_has t x
      replace hkey := Lib.hid hkey
      replace hsn := Lib.hid hsn
      replace hS := Lib.hid hS
      replace hrl := Lib.hid hrl
      replace hsok := Lib.hid hsok
      clear hc
      have hsh := ok_shape hok
      have hul := hsh.us
      have hw1 : wr.heap.size ≤ wr.heap.size := Nat.le_refl _
      have hglt := hS.out.rd.lt
      by_cases hu : place t.us x < t.us.length
      · rw [decide_eq_true hu, Bool.true_or] at hhas
        have hat := st_us hok hu
        have hst : stepOn t s x = some (addOn s ((place t.us x : Int) + 1)) := by unfold stepOn; rw [if_pos hu]
        rw [hst] at hsn
        generalize place t.us x = j at *
        have hWb := (Below.refl wr.heap.size wr).alloc (Nat.le_refl _) (.cells #[.func (.func 71) #[] #[], .int .i64 ((j : Int) + 1)] 94)
        have hS4 := hS.out.below hWb
        have hY := Blk.new wr 94 #[.func (.func 71) #[] #[], .int .i64 ((j : Int) + 1)]
        have KA := addUnit_any g _ s ((j : Int) + 1) _ hS4.rd (by have := hsok.out.bd 0; omega) (by omega)
        replace hS4 := Lib.hid hS4
        replace hY := Lib.hid hY
        replace KA := Lib.hid KA
        replace hhas := Lib.hid hhas
        replace hat := Lib.hid hat
        replace hst := Lib.hid hst
        replace hsn := Lib.hid hsn
        clear hWb hsh
        go_upto_region 7 with (at_lookup; refine wpList_step_yes _ rfl _ _ _ rfl 9 94 keyLaw Tryd.underlying87 (stepZero _) m _ _ rfl hS.out.st _ _ rfl hkey.out _ _ hhas.out hat.out ?_)
        generalize wr.alloc (.cells #[.func (.func 71) #[] #[], .int .i64 ((j : Int) + 1)] 94) = W4 at *
        have y0 := hY.out.cell 0
        have y1 := hY.out.cell 1
        simp only [List.getElem?_toArray, List.getElem?_cons_zero, List.getElem?_cons_succ] at y0 y1
        go_wp2_with (fail)
        refine KA.out.mono ?_
        rintro e w5 ⟨rfl, r5, g5⟩
        have hS5 := hS4.out.turn g5 r5 hmg.out hwg.out
        replace hS5 := Lib.hid hS5
        clear y0 y1 KA hY hS4 r5 g5 hS hat hhas hst
        go_wp2
        go_roundw
        case rel => exact ⟨k+1, _, by omega, by go_num, hsn.out, hS5.out⟩
        case measure => simp [intOf]; omega
      · by_cases hb : place t.ns x < t.ns.length
        · rw [decide_eq_true hb, Bool.or_true] at hhas
          have hat := st_ns hok hb
          have hst : stepOn t s x = takeOn t.bs s (place t.ns x + 1) := by unfold stepOn; rw [if_neg hu, if_pos hb]
          rw [hst] at hsn
          obtain ⟨hp1, hp2⟩ := place_base hok hb
          have hpos := bases_pos hsh.bs _ hp1
          have hbl := (bases_len hsh.bs).2
          generalize place t.ns x = j at *
          have hWb := (Below.refl wr.heap.size wr).alloc (Nat.le_refl _) (.cells #[.func (.func 72) #[] #[], .int .i64 ((j : Int) + 1)] 94)
          have hS4 := hS.out.below hWb
          have hY := Blk.new wr 94 #[.func (.func 72) #[] #[], .int .i64 ((j : Int) + 1)]
          have hI : Ints (wr.alloc (.cells #[.func (.func 72) #[] #[], .int .i64 ((j : Int) + 1)] 94)) .i64 A2 t.bs.length c2 t.bs := by
            obtain ⟨_, _, _, _, _, _, ev, -, I2, -⟩ := (HI.out _ hS4.low).ex
            cases ev
            exact I2
          have KA := takeBase_any g A2 c2 t.bs s k (j + 1) _ hS4.rd hI (fun a o e => by have := hA2.out a o e; have := hwg.out; omega) hsok.out (by omega) (by omega) hp2 hbl hp1 hpos
          rw [show (((j + 1 : Nat)) : Int) = (j : Int) + 1 from rfl] at KA
          replace hS4 := Lib.hid hS4
          replace hY := Lib.hid hY
          replace KA := Lib.hid KA
          replace hhas := Lib.hid hhas
          replace hat := Lib.hid hat
          replace hst := Lib.hid hst
          replace hsn := Lib.hid hsn
          clear hWb hsh hpos hI
          go_upto_region 7 with (at_lookup; refine wpList_step_yes _ rfl _ _ _ rfl 9 94 keyLaw Tryd.underlying87 (stepZero _) m _ _ rfl hS.out.st _ _ rfl hkey.out _ _ hhas.out hat.out ?_)
          generalize wr.alloc (.cells #[.func (.func 72) #[] #[], .int .i64 ((j : Int) + 1)] 94) = W4 at *
          have y0 := hY.out.cell 0
          have y1 := hY.out.cell 1
          simp only [List.getElem?_toArray, List.getElem?_cons_zero, List.getElem?_cons_succ] at y0 y1
          go_wp2_with (fail)
          refine KA.out.mono ?_
          rintro e w5 ⟨g5, hh⟩
          rcases hh with ⟨hn5, rfl⟩ | ⟨s', hs5, rfl, r5⟩
          · have hno : readL t l noSums = none := readL_none t l noSums (k := k + 1) (by rw [hsn.out]; exact hn5)
            have hnr : numR t l = none := by unfold numR; rw [hno]; rfl
            have hB5 := hS4.out.low.grown g5 hS4.out.low.size (fun q e => by cases e; exact hwg.out)
            replace hnr := Lib.hid hnr
            replace hB5 := Lib.hid hB5
            clear y0 y1 KA hY hS4 g5 hS hat hhas hst hno hn5
            go_wp2
            go_ret2
            exact ⟨by rw [hnr.out]; rfl, hB5.out⟩
          · have hS5 := hS4.out.turn g5 r5 hmg.out hwg.out
            have hsn5 := hsn.out.trans hs5
            replace hS5 := Lib.hid hS5
            replace hsn5 := Lib.hid hsn5
            clear y0 y1 KA hY hS4 r5 g5 hS hat hhas hst hs5
            go_wp2
            go_roundw
            case rel => exact ⟨k+1, s', by omega, by go_num, hsn5.out, hS5.out⟩
            case measure => simp [intOf]; omega
        · rw [decide_eq_false hu, decide_eq_false hb] at hhas
          have hno : readL t l noSums = none := readL_none t l noSums (k := k + 1) (by
            rw [hsn.out]
            unfold stepOn
            rw [if_neg hu, if_neg hb])
          have hnr : numR t l = none := by unfold numR; rw [hno]; rfl
          replace hhas := Lib.hid hhas
          replace hnr := Lib.hid hnr
          clear hno
          go_wp2_with (at_lookup; refine wpList_step_no _ rfl _ _ _ rfl 9 94 keyLaw Tryd.underlying87 (stepZero _) m _ _ rfl hS.out.st _ _ rfl hkey.out hhas.out ?_)
          go_ret2
          exact ⟨by rw [hnr.out]; rfl, hS.out.low.alloc hS.out.low.size _⟩
    · obtain rfl : k = n := by omega
      rw [List.take_of_length_le (by rw [hln.out]; exact Nat.le_refl _)] at hrl
      have hnr : numR t l = some (sumTo' s 5) := by unfold numR; rw [hrl]; rfl
      have KS := sumOfAll_any (some ⟨g, 1, none⟩) 5 5 (s.take 5) wr (hS.rd.ints (Nat.le_refl _)) (by omega) (take_bd hsok (by omega) 5)
      rw [sumTo_take] at KS
      replace KS := Lib.hid KS
      replace hnr := Lib.hid hnr
      replace hS := Lib.hid hS
      replace hrl := Lib.hid hrl
      replace hsok := Lib.hid hsok
      generalize sumTo' s 5 = r5 at *
      go_wp2_with (fail)
      refine KS.out.mono ?_
      rintro e w' ⟨rfl, rfl⟩
      go_wp2
      go_ret2
      exact ⟨by rw [hnr.out]; rfl, hS.out.low⟩
end Go.Proofs.YteemgkabhkdeaaaDoor
