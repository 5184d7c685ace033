/-
  The contract of the program's naming in the order in which the unit comes first.
-/
import Derived.Test.YtbckckicffjccaaV3
import Derived.Test.YtbckckicffjccaaGP
namespace Go.Proofs.Ytbckckicffjccaa
open Go.RowKit

/-- The order's block in memory. -/
abbrev orderB (w : World) (q g : Nat) : Prop := Blk w q 59 #[.func (.func 58) #[] #[.pointer (some ⟨g, 0, none⟩)], .func (.func 60) #[] #[.pointer (some ⟨g, 0, none⟩)]]
theorem len_pos {l : List ByteArray} (h : l ≠ []) : decide (0 < l.length) = true := decide_eq_true (by have : l.length ≠ 0 := fun e => h (List.eq_nil_of_length_eq_zero e); omega)
theorem named_len {t : Tg} (hok : t.ok = true) {m : Nat} (h1 : 1 ≤ m) (h2 : m ≤ 99999) : nameOf t m = nameT t m ∧ namedB t m = decide (0 < (nameT t m).length) := by
  have e : nameOf t m = nameT t m := nameOf_yes (okN_of hok h1 h2)
  exact ⟨e, by unfold namedB; rw [e]⟩

set_option maxRecDepth 100000 in
set_option maxHeartbeats 4000000 in
theorem nameBy_any {t : Tg} (hok : t.ok = true) (hl2 : 2 ≤ t.bs.length) (hne : nested t.bs = true) (hf : t.Fine) (n : Nat) (hn1 : 1 ≤ n) (hn2 : n ≤ 99999) (v : Value) (x : ByteArray) (g : Nat) (w : World) (h : Tng w v t) (hg : Blk w g 9 #[.string x]) :
    Calls Try.prog 35 #[v, .int .i64 n, orderV g] w (RetStrs2 w (turnT t x n) (decide (0 < (turnT t x n).length))) := by
  obtain ⟨i0, hi, hz0, hz1, hz2⟩ := info_parts str_info
  have hsh := ok_shape hok
  have hul := hsh.us
  have hbs := hsh.bs
  have hll := low_lt hok hl2 n
  have hb1 := b1_us hok hl2
  have htl := tens_le t n
  have hle := low_le hne (n := n) (by omega)
  have hlu : lowU t n ≤ t.us.length := by omega
  have KP := fun A c W h => partsOf_any hok hl2 hne n hn2 A c W h
  have KN := fun (m : Nat) (h1 : 1 ≤ m) (h2 : m ≤ 99999) W (hT : Tng W v t) => implNameOf_any v t m W hT hf (by omega)
  have HN := fun (m : Nat) (h1 : 1 ≤ m) (h2 : m ≤ 99999) => named_len hok h1 h2
  have HF0 : ¬ isT t n → turnT t x n = nameT t n := fun hh => by unfold turnT; rw [if_neg hh]
  have HF1 : isT t n → noT t n → turnT t x n = [] := fun hh h2 => by unfold turnT; rw [if_pos hh, if_pos h2]
  have HF2 : isT t n → ¬ noT t n → turnT t x n = frontU t n ++ [unitU t n, x] ++ metU t n := fun hh h2 => by unfold turnT; rw [if_pos hh, if_neg h2]
  have HLen := name_len t.us t.bs t.ns hbs
  obtain ⟨A1, c1, A2, c2, A3, c3, rfl, -⟩ := h.ex
  have hB0 := (Below.refl w.heap.size w).alloc (Nat.le_refl _) (.cells #[.slice A1 t.us.length c1, .slice A2 t.bs.length c2, .slice A3 t.ns.length c3] 26)
  have hB := hB0.alloc hB0.size (.cells #[.func (.func 58) #[] #[.pointer (some ⟨g, 0, none⟩)], .func (.func 60) #[] #[.pointer (some ⟨g, 0, none⟩)]] 59)
  have HX := (Blk.new w 26 #[.slice A1 t.us.length c1, .slice A2 t.bs.length c2, .slice A3 t.ns.length c3]).alloc (.cells #[.func (.func 58) #[] #[.pointer (some ⟨g, 0, none⟩)], .func (.func 60) #[] #[.pointer (some ⟨g, 0, none⟩)]] 59)
  have HQ : orderB ((w.alloc (.cells #[.slice A1 t.us.length c1, .slice A2 t.bs.length c2, .slice A3 t.ns.length c3] 26)).alloc (.cells #[.func (.func 58) #[] #[.pointer (some ⟨g, 0, none⟩)], .func (.func 60) #[] #[.pointer (some ⟨g, 0, none⟩)]] 59)) (w.heap.size + 1) g := blk_new_at (w.heap.size + 1) (by simp)
  have HT := h.below hB (Nat.le_refl _)
  have HG := hg.below hB hg.lt
  replace hB := Lib.hid hB
  replace HX := Lib.hid HX
  replace HQ := Lib.hid HQ
  replace HT := Lib.hid HT
  replace HG := Lib.hid HG
  replace hok := Lib.hid hok
  replace hne := Lib.hid hne
  replace hbs := Lib.hid hbs
  replace hb1 := Lib.hid hb1
  replace KP := Lib.hid KP
  replace KN := Lib.hid KN
  replace HN := Lib.hid HN
  replace HF0 := Lib.hid HF0
  replace HF1 := Lib.hid HF1
  replace HF2 := Lib.hid HF2
  replace HLen := Lib.hid HLen
  clear h hsh hB0 hg
  go_enter Try.func35, Try.ntmps35
  go_upto_region 1 with (fail)
  generalize (w.alloc (.cells #[.slice A1 t.us.length c1, .slice A2 t.bs.length c2, .slice A3 t.ns.length c3] 26)).alloc (.cells #[.func (.func 58) #[] #[.pointer (some ⟨g, 0, none⟩)], .func (.func 60) #[] #[.pointer (some ⟨g, 0, none⟩)]] 59) = W at *
  obtain ⟨x0, x1, x2, -, -, -⟩ := blk3 HX.out
  obtain ⟨_, _, _, _, _, _, ev, S1, I2, -⟩ := HT.out.ex
  cases ev
  have KP1 := Lib.hid (KP.out A2 c2 W I2)
  have hS1 := Lib.hid S1.at_
  clear I2 S1
  go_wp2_with (fail)
  refine KP1.out.mono ?_
  rintro e _ ⟨rfl, rfl⟩
  clear KP1 KP
  by_cases hT : isT t n
  · obtain ⟨hT1, hT2⟩ := hT
    obtain ⟨bu, ou, rfl, hbu, hcu⟩ := hS1.out (by omega)
    have cku : W.cell? ⟨bu, ou + (lowU t n - 1), none⟩ = some (.string (unitU t n)) := hcu _ (by omega)
    have HFn := fun h => HF1.out ⟨hT1, hT2⟩ h
    have HFy := fun h => HF2.out ⟨hT1, hT2⟩ h
    have hno1 : tensU t n < n → nameT t (n - tensU t n) = [] → noT t n := fun h1 h2 => .inl ⟨h1, h2⟩
    have hno2 : metU t n = [] → noT t n := fun h => .inr h
    have hnn : (tensU t n < n → nameT t (n - tensU t n) ≠ []) → metU t n ≠ [] → ¬ noT t n := fun h1 h2 h => h.elim (fun h => h1 h.1 h.2) h2
    have hfr1 : tensU t n < n → frontU t n = nameT t (n - tensU t n) := fun h => by unfold frontU; rw [if_pos h]
    have hfr0 : ¬ tensU t n < n → frontU t n = [] := fun h => by unfold frontU; rw [if_neg h]
    have hml : (metU t n).length ≤ 99999 := by have := HLen.out (tensU t n - lowU t n) (by omega); unfold metU nameT; omega
    have hfl : tensU t n < n → (nameT t (n - tensU t n)).length ≤ 99999 := fun h => by have := HLen.out (n - tensU t n) (by omega); unfold nameT; omega
    have KM := fun W hT => KN.out (tensU t n - lowU t n) (by omega) (by omega) W hT
    obtain ⟨em1, em2⟩ := HN.out (tensU t n - lowU t n) (by omega) (by omega)
    rw [em1, em2, show nameT t (tensU t n - lowU t n) = metU t n from rfl] at KM
    have KF := fun (h : tensU t n < n) W hT => KN.out (n - tensU t n) (by omega) (by omega) W hT
    have hfN := fun (h : tensU t n < n) => HN.out (n - tensU t n) (by omega) (by omega)
    have q1 : (((tensU t n - lowU t n : Nat) : Int) == 0) = false := by rw [beq_eq_false_iff_ne]; omega
    have q2 : (((lowU t n : Nat) : Int) == 0) = false := by rw [beq_eq_false_iff_ne]; omega
    replace HFn := Lib.hid HFn
    replace HFy := Lib.hid HFy
    replace hno1 := Lib.hid hno1
    replace hno2 := Lib.hid hno2
    replace hnn := Lib.hid hnn
    replace hfr1 := Lib.hid hfr1
    replace hfr0 := Lib.hid hfr0
    replace KM := Lib.hid KM
    replace KF := Lib.hid KF
    replace hfN := Lib.hid hfN
    replace hfl := Lib.hid hfl
    replace cku := Lib.hid cku
    clear em1 em2 HF0 HF1 HF2 KN HN HLen hcu hS1
    have hF0 : tensU t n < n ↔ 0 < n - tensU t n := by omega
    have hL1 : 1 ≤ lowU t n := by omega
    generalize frontU t n = hd at *
    generalize metU t n = ml at *
    generalize unitU t n = un at *
    generalize nameT t (n - tensU t n) = fr at *
    generalize n - tensU t n = F at *
    generalize tensU t n - lowU t n = M at *
    generalize tensU t n = T at *
    generalize lowU t n = L at *
    have hres : ∀ res, turnT t x n = res → ∀ (v' : Value) W', OwnStrs W' w.heap.size v' res → Below w.heap.size w W' → RetStrs2 w (turnT t x n) (decide (0 < (turnT t x n).length)) (.returned (.tuple #[v', .bool (decide (0 < res.length))])) W' := fun res h v' W' ho hb => ⟨_, by rw [h], by rw [h]; exact ho, hb⟩
    have hnil : noT t n → ∀ W', Below w.heap.size w W' → RetStrs2 w (turnT t x n) (decide (0 < (turnT t x n).length)) (.returned (.tuple #[.slice none 0 0, .bool false])) W' := fun h W' hb => ⟨_, by rw [HFn.out h]; rfl, by rw [HFn.out h]; exact owns_none _ _ _, hb⟩
    replace hres := Lib.hid hres
    replace hnil := Lib.hid hnil
    replace hF0 := Lib.hid hF0
    have KM1 := Lib.hid (KM.out W HT.out)
    go_wp2_with (fail)
    refine KM1.out.mono ?_
    rintro e w2 ⟨v2, rfl, o2, b2⟩
    obtain ⟨A5, c5, rfl, s5⟩ := o2.strs
    replace hB := Lib.hid (hB.out.trans (b2.mono hB.out.size))
    replace HX := Lib.hid (HX.out.below b2 HX.out.lt)
    replace HQ := Lib.hid (HQ.out.below b2 HQ.out.lt)
    replace HG := Lib.hid (HG.out.below b2 HG.out.lt)
    replace HT := Lib.hid (HT.out.below b2 (Nat.le_refl _))
    replace cku := Lib.hid ((b2.cell (p := ⟨bu, ou + (L - 1), none⟩) hbu).trans cku.out)
    replace hbu : bu < w2.heap.size := Nat.lt_of_lt_of_le hbu b2.size
    clear b2 x0 x1 x2 KM1 KM o2 q1 q2
    obtain ⟨x0, x1, x2, -, -, -⟩ := blk3 HX.out
    by_cases hq : ml = []
    · have hl0 : decide (0 < ml.length) = false := by rw [hq]; rfl
      have HR := Lib.hid (hnil.out (hno2.out hq) _ hB.out)
      replace hq := Lib.hid hq
      rw [hl0]
      clear hl0 s5
      go_wp2
      go_ret2
      exact HR.out
    · have hl0 := len_pos hq
      have hnn' := Lib.hid (fun h => hnn.out h hq)
      replace hq := Lib.hid hq
      rw [hl0]
      clear hl0 hnn
      go_upto_region 7 with (fail)
      have y0 : w2.cell? ⟨w.heap.size + 1, 0, none⟩ = some (.func (.func 58) #[] #[.pointer (some ⟨g, 0, none⟩)]) := HQ.out.cell 0
      have ku := cku.out
      have kk1 : (0 : Int) ≤ (L : Int) - 1 := by omega
      have kk2 : (L : Int) - 1 < (t.us.length : Int) := by omega
      have kk3 : ((L : Int) - 1).toNat = L - 1 := by omega
      have kk4 : IntKind.i64.wrap ((L : Int) - 1) = (L : Int) - 1 := IntWalk.i64_in _ (by omega)
      have kk5 : (1 : Int) ≤ (L : Int) := by omega
      go_still_tail 9, (by kernel_rfl)
      change wpList _ _ _ _ _ w2.drew
      have bd := (Below.refl w2.heap.size w2).drew
      replace hB := Lib.hid (hB.out.trans (bd.mono hB.out.size))
      replace HX := Lib.hid (HX.out.below bd HX.out.lt)
      replace HQ := Lib.hid (HQ.out.below bd HQ.out.lt)
      replace HG := Lib.hid (HG.out.below bd HG.out.lt)
      replace HT := Lib.hid (HT.out.below bd (Nat.le_refl _))
      replace s5 := s5.below bd (Nat.le_refl _)
      clear bd x0 x1 x2 y0 ku kk1 kk2 kk3 kk4 kk5 cku hbu
      generalize w2.drew = w3 at *
      have KJ := Lib.hid (join_any x un A5 _ c5 g ml w3 HG.out s5 (by omega))
      clear s5
      go_wp2_with (fail)
      refine KJ.out.mono ?_
      rintro e w4 ⟨v4, rfl, o4, b4⟩
      obtain ⟨A6, c6, rfl, -⟩ := o4.strs
      replace o4 := Lib.hid (o4.mono hB.out.size)
      replace hB := Lib.hid (hB.out.trans (b4.mono hB.out.size))
      replace HX := Lib.hid (HX.out.below b4 HX.out.lt)
      replace HT := Lib.hid (HT.out.below b4 (Nat.le_refl _))
      clear b4 KJ HQ HG
      obtain ⟨x0, x1, x2, -, -, -⟩ := blk3 HX.out
      have hjl : ([un, x] ++ ml).length ≤ 100001 := by simp; omega
      have hj0 : decide (0 < ([un, x] ++ ml).length) = true := len_pos (by simp)
      have hFy0 : T < n → fr ≠ [] → turnT t x n = fr ++ ([un, x] ++ ml) := fun h h2 => by
        rw [HFy.out (hnn'.out fun _ => h2), hfr1.out h]; simp
      have hFy1 : ¬ T < n → turnT t x n = [un, x] ++ ml := fun h => by
        rw [HFy.out (hnn'.out fun h2 => absurd h2 h), hfr0.out h]; simp
      replace hFy0 := Lib.hid hFy0
      replace hFy1 := Lib.hid hFy1
      generalize [un, x] ++ ml = jn at *
      by_cases hgt : T < n
      · have hgt0 : (((F : Nat) : Int) == 0) = false := by rw [beq_eq_false_iff_ne]; have := hF0.out.1 hgt; omega
        obtain ⟨en1, en2⟩ := hfN.out hgt
        have KF1 := KF.out hgt w4 HT.out
        rw [en1, en2] at KF1
        replace KF1 := Lib.hid KF1
        have hfl' := hfl.out hgt
        have hFy2 := Lib.hid (fun h2 => hFy0.out hgt h2)
        have hnoF := Lib.hid (fun h2 => hno1.out hgt h2)
        replace hgt := Lib.hid hgt
        clear en1 en2
        go_wp2_with (fail)
        refine KF1.out.mono ?_
        rintro e w5 ⟨v5, rfl, o5, b5⟩
        obtain ⟨A7, c7, rfl, -⟩ := o5.strs
        replace o5 := Lib.hid (o5.mono hB.out.size)
        replace hB := Lib.hid (hB.out.trans (b5.mono hB.out.size))
        replace o4 := Lib.hid (o4.out.below b5 (Nat.le_refl _))
        clear b5 x0 x1 x2 KF1 KF HX HT
        by_cases hqf : fr = []
        · have hl0 : decide (0 < fr.length) = false := by rw [hqf]; rfl
          have HR := Lib.hid (hnil.out (hnoF.out hqf) _ hB.out)
          replace hqf := Lib.hid hqf
          rw [hl0]
          clear hl0
          go_wp2
          go_ret2
          exact HR.out
        · have hl0 := len_pos hqf
          have hT3 := hFy2.out hqf
          have hp : decide (0 < (fr ++ jn).length) = true := len_pos (by simp [hqf])
          have hres' := hres.out (fr ++ jn) hT3
          rw [hp] at hres'
          replace hres' := Lib.hid hres'
          replace hqf := Lib.hid hqf
          replace hp := Lib.hid hp
          replace hT3 := Lib.hid hT3
          rw [hl0]
          clear hl0
          obtain ⟨_, _, ev, s6⟩ := o4.out.strs
          cases ev
          have HS := Lib.hid s6.src
          have k1 := Lib.hid (show fr.length + jn.length ≤ maxLen by unfold maxLen; omega)
          have k2 := Lib.hid (show (fr.length + jn.length) * 16 ≤ 140737488355328 by omega)
          have k3 := Lib.hid hB.out.size
          clear s6
          go_wp2_with (at_builtin; refine wpList_app _ rfl (.tmp 62) (.tmp 63) _ rfl w.heap.size 9 i0 _ 16 Try.underlying23 hi hz0 hz1 hz2 rfl (.slice A7 fr.length c7) _ _ rfl o5.out A6 jn.length c6 _ rfl HS.out k1.out k2.out k3.out ?_; intro v7 w7 o7 g7 _)
          have hB7 := Lib.hid (below_own hB.out o5.out g7 hB.out.size (Nat.le_refl _))
          have o8 : OwnStrs w7 w.heap.size v7 (fr ++ jn) := by
            unfold OwnStrs
            simpa using o7
          have HR := Lib.hid (hres'.out v7 w7 o8 hB7.out)
          obtain ⟨A8, c8, rfl, -⟩ := o8.strs
          clear g7 o7 o8
          go_wp2
          go_ret2
          exact HR.out
      · have hgt0 : (((F : Nat) : Int) == 0) = true := by
          rw [beq_iff_eq]
          have : ¬ 0 < F := fun h => hgt (hF0.out.2 h)
          omega
        have hres' := hres.out jn (hFy1.out hgt)
        rw [hj0] at hres'
        have HR := Lib.hid (hres' _ _ o4.out hB.out)
        replace hgt := Lib.hid hgt
        clear hres'
        go_wp2
        go_ret2
        exact HR.out
  · have hF := HF0.out hT
    have K := KN.out n hn1 hn2 W HT.out
    obtain ⟨em1, em2⟩ := HN.out n hn1 hn2
    rw [em1, em2] at K
    replace K := Lib.hid K
    have hcase : tensU t n - lowU t n = 0 ∨ (tensU t n - lowU t n ≠ 0 ∧ lowU t n = 0) := by
      by_cases h0 : lowU t n = 0
      · by_cases h1 : tensU t n - lowU t n = 0
        · exact .inl h1
        · exact .inr ⟨h1, h0⟩
      · left
        by_cases h1 : tensU t n = lowU t n
        · omega
        · exact absurd ⟨h0, h1⟩ hT
    have HR : ∀ (e : Ending) W', RetStrs2 W (nameT t n) (decide (0 < (nameT t n).length)) e W' → RetStrs2 w (turnT t x n) (decide (0 < (turnT t x n).length)) e W' := fun e W' ⟨v', he, ho, hb⟩ => ⟨v', by rw [hF]; exact he, by rw [hF]; exact ho.mono hB.out.size, hB.out.trans (hb.mono hB.out.size)⟩
    replace HR := Lib.hid HR
    replace hT := Lib.hid hT
    replace hF := Lib.hid hF
    clear HF0 HF1 HF2 KN HN HLen hS1 em1 em2
    generalize n - tensU t n = F at *
    generalize tensU t n - lowU t n = M at *
    generalize lowU t n = L at *
    rcases hcase with hz | ⟨hz, hz'⟩
    · have q1 : (((M : Nat) : Int) == 0) = true := by rw [beq_iff_eq]; omega
      replace hz := Lib.hid hz
      go_wp2_with (fail)
      refine K.out.mono ?_
      rintro e w2 ⟨v2, rfl, o2, b2⟩
      have HE := Lib.hid (HR.out _ _ ⟨v2, rfl, o2, b2⟩)
      obtain ⟨A5, c5, rfl, -⟩ := o2.strs
      clear o2 b2
      generalize decide (0 < (nameT t n).length) = bb at *
      go_wp2
      go_ret2
      exact HE.out
    · have q1 : (((M : Nat) : Int) == 0) = false := by rw [beq_eq_false_iff_ne]; omega
      have q2 : (((L : Nat) : Int) == 0) = true := by rw [beq_iff_eq]; omega
      replace hz := Lib.hid hz
      replace hz' := Lib.hid hz'
      go_wp2_with (fail)
      refine K.out.mono ?_
      rintro e w2 ⟨v2, rfl, o2, b2⟩
      have HE := Lib.hid (HR.out _ _ ⟨v2, rfl, o2, b2⟩)
      obtain ⟨A5, c5, rfl, -⟩ := o2.strs
      clear o2 b2
      generalize decide (0 < (nameT t n).length) = bb at *
      go_wp2
      go_ret2
      exact HE.out
end Go.Proofs.Ytbckckicffjccaa
