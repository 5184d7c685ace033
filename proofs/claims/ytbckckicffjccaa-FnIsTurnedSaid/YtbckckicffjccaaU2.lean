/-
  The words with the unit first, of the model.
-/
import Derived.Test.YtbckckicffjccaaU1
namespace Go.Proofs.Ytbckckicffjccaa
open Go.RowKit

/-- What is left by the bases from the third one on, so far. -/
def tensTo (t : Tg) (n k : Nat) : Nat := if k ≤ 2 then n else n % bN t 2
theorem tensTo_go {t : Tg} (hn : nested t.bs = true) {n k : Nat} (h2 : 2 ≤ k) (hk : k < t.bs.length) : min (tensTo t n k) (n % bN t k) = tensTo t n (k + 1) := by
  have hd := bN_dvd hn h2 hk
  have h3 : n % bN t 2 ≤ n % bN t k := by rw [← Nat.mod_mod_of_dvd n hd]; exact Nat.mod_le _ _
  have h4 : n % bN t k ≤ n := Nat.mod_le _ _
  unfold tensTo
  rw [if_neg (show ¬ k + 1 ≤ 2 by omega)]
  by_cases e : k = 2
  · subst e; rw [if_pos (Nat.le_refl _)]; omega
  · rw [if_neg (by omega)]; omega
theorem tensTo_end {t : Tg} (h2 : 2 ≤ t.bs.length) {n : Nat} (hn : n ≤ 999999) : tensTo t n t.bs.length = tensU t n := by
  unfold tensTo tensU modT
  by_cases e : 3 ≤ t.bs.length
  · rw [if_neg (by omega), if_pos e]
  · rw [if_pos (by omega), if_neg e, Nat.mod_eq_of_lt (by omega)]
theorem Src.many {w : World} {b : Nat} {t : TypeId} {news : List Value} (h : Blk w b t news.toArray) (h1 : ∀ u ∈ news, u.oneCell' = true) : Src w (some ⟨b, 0, none⟩) news.length news :=
  ⟨rfl, h1, fun _ => ⟨b, 0, rfl, h.lt, fun j v hv => by
    rw [Nat.zero_add, h.cell]
    simpa using hv⟩⟩

theorem Src.two {w : World} {b : Nat} {t : TypeId} {u x : Value} (h : Blk w b t #[u, x]) (h1 : u.oneCell' = true) (h2 : x.oneCell' = true) : Src w (some ⟨b, 0, none⟩) 2 [u, x] :=
  Src.many (news := [u, x]) h (by
    intro y hy
    rcases List.mem_cons.1 hy with rfl | hy
    · exact h1
    · have e : y = x := by simpa using hy
      rw [e]; exact h2)

set_option maxRecDepth 100000 in
set_option maxHeartbeats 4000000 in
theorem specTurn_any {t : Tg} (hok : t.ok = true) (hl2 : 2 ≤ t.bs.length) (hne : nested t.bs = true) (n : Nat) (hn1 : 1 ≤ n) (hn2 : n ≤ 99999) (v : Value) (x : ByteArray) (w : World) (h : Tng w v t) :
    Calls Try.prog 39 #[v, .int .i64 n, .string x] w (RetStrs w (turnT t x n)) := by
  obtain ⟨i0, hi, hz0, hz1, hz2⟩ := info_parts str_info
  have hsh := ok_shape hok
  have hul := hsh.us
  have hbs := hsh.bs
  have hbl := bases_len hbs
  have hb1' := b1_us hok hl2
  have hb1a : bN t 1 ≤ 21 := by omega
  have hlu : lowU t n ≤ t.us.length := by have := low_lt hok hl2 n; omega
  have hb1 := Lib.hid hb1'
  have hi1 := (bN_int hbs (k := 1) (by omega)).1
  have hll := low_lt hok hl2 n
  have hb1b := b1_ge hok hl2
  clear hb1'
  have htl := tens_le t n
  have hle := low_le hne (n := n) (by omega)
  have HG := Lib.hid (fun k h2 hk => tensTo_go (t := t) hne (n := n) (k := k) h2 hk)
  have HE := Lib.hid (tensTo_end hl2 (n := n) (by omega))
  have HP := Lib.hid (fun k (hk : k < t.bs.length) => bN_int hbs (k := k) hk)
  have HBT := Lib.hid (fun hh => tens_big hok hl2 hne (n := n) (by omega) hh)
  have HLen := Lib.hid (name_len t.us t.bs t.ns hbs)
  have KNm := Lib.hid (fun (m : Nat) (h1 : 1 ≤ m) (h2 : m ≤ 99999) => specName_any hok m h1 h2)
  obtain ⟨A1, c1, A2, c2, A3, c3, rfl, -⟩ := h.ex
  have hB := (Below.refl w.heap.size w).alloc (Nat.le_refl _) (.cells #[.slice A1 t.us.length c1, .slice A2 t.bs.length c2, .slice A3 t.ns.length c3] 26)
  have HX := Blk.new w 26 #[.slice A1 t.us.length c1, .slice A2 t.bs.length c2, .slice A3 t.ns.length c3]
  have HT := h.below hB (Nat.le_refl _)
  replace hB := Lib.hid hB
  replace HX := Lib.hid HX
  replace HT := Lib.hid HT
  replace hok := Lib.hid hok
  replace hne := Lib.hid hne
  replace hbs := Lib.hid hbs
  clear h hsh
  go_enter Try.func39, Try.ntmps39
  go_upto_region 1 with (fail)
  generalize w.alloc (.cells #[.slice A1 t.us.length c1, .slice A2 t.bs.length c2, .slice A3 t.ns.length c3] 26) = W at *
  obtain ⟨x0, x1, x2, -, -, -⟩ := blk3 HX.out
  obtain ⟨_, _, _, _, _, _, ev, S1, I2, -⟩ := HT.out.ex
  cases ev
  obtain ⟨b2, o2, rfl, hb2, hc2⟩ := I2.at_ (by omega)
  have ck1 := hc2 1 (by omega)
  rw [← hi1] at ck1
  have HC : Hid (∀ k, k < t.bs.length → W.cell? ⟨b2, o2 + k, none⟩ = some (.int .i64 (bN t k))) := Lib.hid (fun k hk => by rw [hc2 k hk, (HP.out k hk).1])
  have e1 : (n : Int) % (bN t 1 : Int) = ((lowU t n : Nat) : Int) := rfl
  have p1 : (0 : Int) ≤ (n : Int) % (bN t 1 : Int) := by rw [e1]; omega
  have hS1 := Lib.hid S1
  replace e1 := Lib.hid e1
  replace hi1 := Lib.hid hi1
  clear S1 I2 hc2
  go_upto_region 2 with (fail)
  rw [e1.out]
  clear p1
  go_wp2
  go_loop [8, 9] (fun s8 s9 => ∃ k : Nat, 2 ≤ k ∧ k ≤ t.bs.length ∧ s9 = .int .i64 k ∧ s8 = .int .i64 (tensTo t n k : Nat)) (fun _ i => t.bs.length - (intOf i).toNat)
  case atStart => exact ⟨2, Nat.le_refl _, hl2, rfl, rfl⟩
  case round =>
    obtain ⟨k, hk2, hk, rfl, rfl⟩ := hrel
    by_cases hlt : k < t.bs.length
    · have ck := HC.out k hlt
      have hg := HG.out k hk2 hlt
      have hp := (HP.out k hlt).2
      have eK : (n : Int) % (bN t k : Int) = ((n % bN t k : Nat) : Int) := rfl
      have q0 : (0 : Int) ≤ (n : Int) % (bN t k : Int) := by rw [eK]; omega
      have hm : (if (n : Int) % (bN t k : Int) < ((tensTo t n k : Nat) : Int) then (n : Int) % (bN t k : Int) else ((tensTo t n k : Nat) : Int)) = ((tensTo t n (k + 1) : Nat) : Int) := by rw [eK]; split <;> omega
      generalize bN t k = b at *
      generalize tensTo t n k = T at *
      replace hm := Lib.hid hm
      replace hg := Lib.hid hg
      replace eK := Lib.hid eK
      go_wp2
      all_goals
        go_round
        case rel => exact ⟨k + 1, by omega, by omega, by go_num, by rw [hm.out]⟩
        case measure => simp [intOf]; omega
    · obtain rfl : k = t.bs.length := by omega
      rw [HE.out]
      have HF0 : ¬ isT t n → turnT t x n = nameT t n := fun hh => by unfold turnT; rw [if_neg hh]
      have HF1 : isT t n → noT t n → turnT t x n = [] := fun hh h2 => by unfold turnT; rw [if_pos hh, if_pos h2]
      have HF2 : isT t n → ¬ noT t n → turnT t x n = frontU t n ++ [unitU t n, x] ++ metU t n := fun hh h2 => by unfold turnT; rw [if_pos hh, if_neg h2]
      by_cases hT : isT t n
      · obtain ⟨hT1, hT2⟩ := hT
        have hbig := HBT.out ⟨hT1, hT2⟩
        have HFn := fun h => HF1 ⟨hT1, hT2⟩ h
        have HFy := fun h => HF2 ⟨hT1, hT2⟩ h
        obtain ⟨bu, ou, rfl, hbu, hcu⟩ := hS1.out.at_ (by omega)
        have cku : W.cell? ⟨bu, ou + (lowU t n - 1), none⟩ = some (.string (unitU t n)) := hcu _ (by omega)
        have hno1 : tensU t n < n → nameT t (n - tensU t n) = [] → noT t n := fun h1 h2 => .inl ⟨h1, h2⟩
        have hno2 : metU t n = [] → noT t n := fun h => .inr h
        have hnn : (tensU t n < n → nameT t (n - tensU t n) ≠ []) → metU t n ≠ [] → ¬ noT t n := fun h1 h2 h => h.elim (fun h => h1 h.1 h.2) h2
        have hfr1 : tensU t n < n → frontU t n = nameT t (n - tensU t n) := fun h => by unfold frontU; rw [if_pos h]
        have hfr0 : ¬ tensU t n < n → frontU t n = [] := fun h => by unfold frontU; rw [if_neg h]
        have hfl : (frontU t n).length ≤ 99999 := by
          by_cases h : tensU t n < n
          · rw [hfr1 h]; have := HLen.out (n - tensU t n) (by omega); unfold nameT; omega
          · rw [hfr0 h]; exact Nat.zero_le _
        have hml : (metU t n).length ≤ 99999 := by have := HLen.out (tensU t n - lowU t n) (by omega); unfold metU nameT; omega
        have KF := fun (h : tensU t n < n) v' w' (hh : Tng w' v' t) => KNm.out (n - tensU t n) (by omega) (by omega) v' w' hh
        have KM : ∀ v' w', Tng w' v' t → Calls Try.prog 66 #[v', .int .i64 (tensU t n - lowU t n : Nat)] w' (RetStrs w' (metU t n)) := fun v' w' hh => KNm.out (tensU t n - lowU t n) (by omega) (by omega) v' w' hh
        replace HFn := Lib.hid HFn
        replace HFy := Lib.hid HFy
        replace hno1 := Lib.hid hno1
        replace hno2 := Lib.hid hno2
        replace hnn := Lib.hid hnn
        replace hfr1 := Lib.hid hfr1
        replace hfr0 := Lib.hid hfr0
        replace KF := Lib.hid KF
        replace KM := Lib.hid KM
        replace cku := Lib.hid cku
        clear HF0 HF1 HF2 HBT HG HE HC HP HLen KNm hcu hS1
        generalize frontU t n = hd at *
        generalize metU t n = ml at *
        generalize unitU t n = un at *
        generalize tensU t n = T at *
        generalize lowU t n = L at *
        generalize turnT t x n = res at *
        have q1 : ((L : Int) == 0) = false := by rw [beq_eq_false_iff_ne]; omega
        have q2 : ((T : Int) == (L : Int)) = false := by rw [beq_eq_false_iff_ne]; omega
        have q3 : ((T : Int) / (bN t 1 : Int) == 0) = false := by
          rw [beq_eq_false_iff_ne]
          have : (1 : Int) ≤ (T : Int) / (bN t 1 : Int) := by rw [Int.le_ediv_iff_mul_le (by omega)]; omega
          omega
        have q4 : (0 : Int) ≤ (T : Int) / (bN t 1 : Int) := Int.ediv_nonneg (by omega) (by omega)
        have q5 : (T : Int) / (bN t 1 : Int) ≤ 99999 := Int.le_trans (Int.ediv_le_self _ (by omega)) (by omega)
        generalize bN t 1 = b1 at *
        go_upto_region 10 with (fail)
        have hA := (Below.refl W.heap.size W).alloc (Nat.le_refl _) (.cells #[] 9)
        have own0 : OwnStrs (W.alloc (.cells #[] 9)) w.heap.size (.slice (some ⟨W.heap.size, 0, none⟩) 0 0) [] := owns_empty (Blk.new W 9 #[]) hB.out.size
        replace hB := Lib.hid (hB.out.trans (hA.mono hB.out.size))
        replace HX := Lib.hid (HX.out.below hA HX.out.lt)
        replace HT := Lib.hid (HT.out.below hA (Nat.le_refl _))
        replace cku := Lib.hid ((hA.cell (p := ⟨bu, ou + (L - 1), none⟩) hbu).trans cku.out)
        replace hbu : bu < (W.alloc (.cells #[] 9)).heap.size := Nat.lt_of_lt_of_le hbu hA.size
        replace own0 := Lib.hid own0
        clear hA x0 x1 x2 ck1 q1 q2 q3 q4 q5 hb2
        generalize W.alloc (.cells #[] 9) = W9 at *
        generalize W.heap.size = g0 at *
        obtain ⟨x0, x1, x2, -, -, -⟩ := blk3 HX.out
        go_upto_if 57 with (fail)
        go_cut [10] (fun s10 wx => (∃ A c, s10 = .slice A hd.length c ∧ OwnStrs wx w.heap.size (.slice A hd.length c) hd) ∧ Below W9.heap.size W9 wx ∧ (T < n → hd ≠ []))
        case first =>
          by_cases hgt : T < n
          · have hgt' : (T : Int) < (n : Int) := by omega
            have K9 := KF.out hgt _ W9 HT.out
            rw [← hfr1.out hgt, show ((n - T : Nat) : Int) = (n : Int) - T by omega] at K9
            replace K9 := Lib.hid K9
            have w1 : IntKind.i64.wrap ((n : Int) - T) = (n : Int) - T := IntWalk.i64_in _ (by omega)
            have HN := fun h => HFn.out (hno1.out hgt h)
            rw [← hfr1.out hgt] at HN
            replace HN := Lib.hid HN
            go_wp2_with (fail)
            refine K9.out.mono ?_
            rintro e w3 ⟨v3, rfl, o3, b3⟩
            obtain ⟨A4, c4, rfl, -⟩ := o3.strs
            have o4 := Lib.hid (o3.mono hB.out.size)
            have hB4 := Lib.hid (hB.out.trans (b3.mono hB.out.size))
            replace b3 := Lib.hid b3
            by_cases hq : hd = []
            · have hl0 : ((hd.length : Int) == 0) = true := by rw [hq]; rfl
              have hr := HN.out hq
              have HR : RetStrs w res (.returned (.slice A4 hd.length c4)) w3 := ⟨_, rfl, by rw [hr, ← hq]; exact o4.out, hB4.out⟩
              replace HR := Lib.hid HR
              replace hq := Lib.hid hq
              replace hr := Lib.hid hr
              clear o3 o4
              go_wp2
              go_ret
              exact HR.out
            · have hl0 : ((hd.length : Int) == 0) = false := by
                rw [beq_eq_false_iff_ne]
                intro e
                exact hq (List.eq_nil_of_length_eq_zero (by omega))
              replace hq := Lib.hid hq
              clear o3
              go_wp2
              go_meet
              exact ⟨⟨_, _, rfl, o4.out⟩, b3.out, fun _ => hq.out⟩
          · have hgt' : ¬ (T : Int) < (n : Int) := by omega
            have hq : hd = [] := hfr0.out hgt
            replace hq := Lib.hid hq
            go_wp2
            go_meet
            exact ⟨⟨_, _, by rw [hq.out]; rfl, by rw [hq.out]; exact own0.out⟩, Below.refl _ _, fun h => absurd h hgt⟩
        case rest =>
          obtain ⟨⟨A10, c10, rfl, o10⟩, b10, hne10⟩ := hcut
          clear x0 x1 x2 own0
          have hB5 := Lib.hid (hB.out.trans (b10.mono hB.out.size))
          have HX5 := Lib.hid (HX.out.below b10 HX.out.lt)
          have HT5 := Lib.hid (HT.out.below b10 (Nat.le_refl _))
          have cku5 := Lib.hid ((b10.cell (p := ⟨bu, ou + (L - 1), none⟩) hbu).trans cku.out)
          have hbu5 : bu < wc.heap.size := Nat.lt_of_lt_of_le hbu b10.size
          have o5 := Lib.hid o10
          replace hne10 := Lib.hid hne10
          clear b10 o10 hB HX HT cku hbu
          obtain ⟨x0, x1, x2, -, -, -⟩ := blk3 HX5.out
          have KM5 := KM.out _ wc HT5.out
          rw [show ((T - L : Nat) : Int) = (T : Int) - L by omega] at KM5
          replace KM5 := Lib.hid KM5
          have w1 : IntKind.i64.wrap ((T : Int) - L) = (T : Int) - L := IntWalk.i64_in _ (by omega)
          go_wp2_with (fail)
          refine KM5.out.mono ?_
          rintro e W5 ⟨v6, rfl, o6, b6⟩
          obtain ⟨A11, c11, rfl, -⟩ := o6.strs
          have o6' := Lib.hid (o6.mono hB5.out.size)
          have o7 := Lib.hid (o5.out.below b6 (Nat.le_refl _))
          have hB2 := Lib.hid (hB5.out.trans (b6.mono hB5.out.size))
          have HX2 := Lib.hid (HX5.out.below b6 HX5.out.lt)
          have cku2 := Lib.hid ((b6.cell (p := ⟨bu, ou + (L - 1), none⟩) hbu5).trans cku5.out)
          have hbu2 : bu < W5.heap.size := Nat.lt_of_lt_of_le hbu5 b6.size
          clear o6 b6 o5 hB5 HX5 HT5 cku5 hbu5 x0 x1 x2 KM5
          by_cases hq : ml = []
          · have hl0 : ((ml.length : Int) == 0) = true := by rw [hq]; rfl
            have hr := HFn.out (hno2.out hq)
            have HR : RetStrs w res (.returned (.slice A11 ml.length c11)) W5 := ⟨_, rfl, by rw [hr, ← hq]; exact o6'.out, hB2.out⟩
            replace HR := Lib.hid HR
            replace hq := Lib.hid hq
            replace hr := Lib.hid hr
            go_wp2
            go_ret
            exact HR.out
          · have hl0 : ((ml.length : Int) == 0) = false := by
              rw [beq_eq_false_iff_ne]
              intro e
              exact hq (List.eq_nil_of_length_eq_zero (by omega))
            have hr := Lib.hid (HFy.out (hnn.out (fun h => by rw [← hfr1.out h]; exact hne10.out h) hq))
            replace hq := Lib.hid hq
            obtain ⟨_, _, ev6, s6⟩ := o7.out.strs
            cases ev6
            obtain ⟨_, _, ev6, s8⟩ := o6'.out.strs
            cases ev6
            obtain ⟨x0, x1, x2, -, -, -⟩ := blk3 HX2.out
            have hXlt := HX2.out.lt
            have HSrc := Lib.hid (fun W' (hb : Below W5.heap.size W5 W') => (s6.below hb (Nat.le_refl _)).src)
            have HSrm := Lib.hid (fun W' (hb : Below W5.heap.size W5 W') => (s8.below hb (Nat.le_refl _)).src)
            have hXk := Lib.hid (fun W' (hb : Below W5.heap.size W5 W') => blk3 (HX2.out.below hb HX2.out.lt))
            have hnk := Lib.hid (fun W' (hb : Below W5.heap.size W5 W') => (hb.cell (p := ⟨bu, ou + (L - 1), none⟩) hbu2).trans cku2.out)
            have k1 := Lib.hid (show 0 + hd.length ≤ maxLen by unfold maxLen; omega)
            have k2 := Lib.hid (show (0 + hd.length) * 16 ≤ 140737488355328 by omega)
            have k3 := Lib.hid (show 0 + hd.length + 2 ≤ maxLen by unfold maxLen; omega)
            have k4 := Lib.hid (show (0 + hd.length + 2) * 16 ≤ 140737488355328 by omega)
            have k5 := Lib.hid (show 0 + hd.length + 2 + ml.length ≤ maxLen by unfold maxLen; omega)
            have k6 := Lib.hid (show (0 + hd.length + 2 + ml.length) * 16 ≤ 140737488355328 by omega)
            have ckx := cku2.out
            clear s6 s8
            have kk1 : (0 : Int) ≤ (L : Int) - 1 := by omega
            have kk2 : (L : Int) - 1 < (t.us.length : Int) := by omega
            have kk3 : ((L : Int) - 1).toNat = L - 1 := by omega
            have kk4 : IntKind.i64.wrap ((L : Int) - 1) = (L : Int) - 1 := IntWalk.i64_in _ (by omega)
            have kk5 : (1 : Int) ≤ (L : Int) := by omega
            have bA := Lib.hid (((Below.refl W5.heap.size W5).alloc (Nat.le_refl _) (.cells #[] 9)).drew)
            have bB := Lib.hid ((((Below.refl W5.heap.size W5).alloc (Nat.le_refl _) (.cells #[] 9)).alloc (by simp) (.cells #[.string un, .string x] 9)).drew)
            have bC := Lib.hid ((((Below.refl W5.heap.size W5).alloc (Nat.le_refl _) (.cells #[.string un, .string x] 9)).alloc (by simp) (.cells #[] 9)).drew)
            have bk0 : Blk (W5.alloc (.cells #[] 9)) W5.heap.size 9 #[] := Blk.new _ _ _
            have bk1 : Blk (W5.alloc (.cells #[.string un, .string x] 9)) W5.heap.size 9 #[.string un, .string x] := Blk.new _ _ _
            have bkB := Lib.hid ((blk_new_at (w := W5.alloc (.cells #[] 9)) (t := 9) (cs := #[.string un, .string x]) (W5.heap.size + 1) (by simp)).drew)
            have bkC := Lib.hid ((bk1.alloc (.cells #[] 9)).drew)
            have oA := Lib.hid (owns_empty (B := W5.heap.size) bk0.drew (Nat.le_refl _))
            have oB := Lib.hid (owns_empty (B := W5.heap.size) (bk0.alloc (.cells #[.string un, .string x] 9)).drew (Nat.le_refl _))
            have oC := Lib.hid (owns_empty (B := W5.heap.size) ((blk_new_at (w := W5.alloc (.cells #[.string un, .string x] 9)) (t := 9) (cs := #[]) (W5.heap.size + 1) (by simp)).drew) (by omega))
            clear bk0 bk1
            go_upto_region 17 with (fail)
            go_region_held3 (fun w' => (w'.cell? ⟨w.heap.size, 0, none⟩ = some (.slice (some ⟨bu, ou, none⟩) t.us.length c1) ∧ w'.cell? ⟨w.heap.size, 1, none⟩ = some (.slice (some ⟨b2, o2, none⟩) t.bs.length c2) ∧ w'.cell? ⟨w.heap.size, 2, none⟩ = some (.slice A3 t.ns.length c3)) ∧ w'.cell? ⟨bu, ou + (L - 1), none⟩ = some (.string un))
              (first | go_keep | exact hS5 | exact hS6 | exact hS7)
              (first
                | (refine step_app _ (by rfl) (.tmp 76) (.tmp 77) _ (by rfl) W5.heap.size 9 i0 _ 16 Try.underlying23 hi hz0 hz1 hz2 rfl (.slice (some ⟨W5.heap.size, 0, none⟩) 0 0) 0 [] (by rfl) oA.out A10 hd.length c10 _ (by rfl) (HSrc.out _ bA.out) k1.out k2.out bA.out.size ?_; intro v5 w5 ho5 hg5 _; have hB5 := below_own (w := W5) (S := W5.heap.size) bA.out oA.out hg5 bA.out.size (Nat.le_refl _); have hk5 : True := trivial; obtain ⟨x0', x1', x2', -, -, -⟩ := hXk.out _ hB5; have hS5 := And.intro (And.intro x0' (And.intro x1' x2')) (hnk.out _ hB5); replace ho5 := Lib.hid ho5; replace hB5 := Lib.hid hB5; replace hk5 := Lib.hid hk5; clear hg5)
                | (refine step_app _ (by rfl) (.tmp 76) (.tmp 77) _ (by rfl) W5.heap.size 9 i0 _ 16 Try.underlying23 hi hz0 hz1 hz2 rfl (.slice (some ⟨W5.heap.size, 0, none⟩) 0 0) 0 [] (by rfl) oB.out A10 hd.length c10 _ (by rfl) (HSrc.out _ bB.out) k1.out k2.out bB.out.size ?_; intro v5 w5 ho5 hg5 _; have hB5 := below_own (w := W5) (S := W5.heap.size) bB.out oB.out hg5 bB.out.size (Nat.le_refl _); have hk5 : Blk w5 (W5.heap.size + 1) 9 #[.string un, .string x] := bkB.out.grown hg5 (by simp [Value.ownBlock]); obtain ⟨x0', x1', x2', -, -, -⟩ := hXk.out _ hB5; have hS5 := And.intro (And.intro x0' (And.intro x1' x2')) (hnk.out _ hB5); replace ho5 := Lib.hid ho5; replace hB5 := Lib.hid hB5; replace hk5 := Lib.hid hk5; clear hg5)
                | (refine step_app _ (by rfl) (.tmp 76) (.tmp 77) _ (by rfl) W5.heap.size 9 i0 _ 16 Try.underlying23 hi hz0 hz1 hz2 rfl (.slice (some ⟨W5.heap.size + 1, 0, none⟩) 0 0) 0 [] (by rfl) oC.out A10 hd.length c10 _ (by rfl) (HSrc.out _ bC.out) k1.out k2.out bC.out.size ?_; intro v5 w5 ho5 hg5 _; have hB5 := below_own (w := W5) (S := W5.heap.size) bC.out oC.out hg5 bC.out.size (Nat.le_refl _); have hk5 : Blk w5 W5.heap.size 9 #[.string un, .string x] := bkC.out.grown hg5 (by simp [Value.ownBlock]); obtain ⟨x0', x1', x2', -, -, -⟩ := hXk.out _ hB5; have hS5 := And.intro (And.intro x0' (And.intro x1' x2')) (hnk.out _ hB5); replace ho5 := Lib.hid ho5; replace hB5 := Lib.hid hB5; replace hk5 := Lib.hid hk5; clear hg5)
                | (refine step_app _ (by rfl) (.tmp 78) (.tmp 86) _ (by rfl) W5.heap.size 9 i0 _ 16 Try.underlying23 hi hz0 hz1 hz2 rfl v5 _ _ (by rfl) (World.ownsRow.alloc ho5.out _) (some ⟨w5.heap.size, 0, none⟩) 2 2 [.string un, .string x] (by rfl) (Src.two (Blk.new _ _ _) rfl rfl) k3.out k4.out (by have := hB5.out.size; simp; omega) ?_; intro v6 w6 ho6 hg6 _; have hB6 := below_own (w := W5) (S := W5.heap.size) (hB5.out.alloc hB5.out.size _) (World.ownsRow.alloc ho5.out _) hg6 (by have := hB5.out.size; simp; omega) (Nat.le_refl _); obtain ⟨x0', x1', x2', -, -, -⟩ := hXk.out _ hB6; have hS6 := And.intro (And.intro x0' (And.intro x1' x2')) (hnk.out _ hB6); replace ho6 := Lib.hid ho6; replace hB6 := Lib.hid hB6; clear hg6)
                | (refine step_app _ (by rfl) (.tmp 78) (.tmp 86) _ (by rfl) W5.heap.size 9 i0 _ 16 Try.underlying23 hi hz0 hz1 hz2 rfl v5 _ _ (by rfl) ho5.out _ 2 2 [.string un, .string x] (by rfl) (Src.two hk5.out rfl rfl) k3.out k4.out hB5.out.size ?_; intro v6 w6 ho6 hg6 _; have hB6 := below_own (w := W5) (S := W5.heap.size) hB5.out ho5.out hg6 hB5.out.size (Nat.le_refl _); obtain ⟨x0', x1', x2', -, -, -⟩ := hXk.out _ hB6; have hS6 := And.intro (And.intro x0' (And.intro x1' x2')) (hnk.out _ hB6); replace ho6 := Lib.hid ho6; replace hB6 := Lib.hid hB6; clear hg6)
                | (refine step_app _ (by rfl) (.tmp 87) (.tmp 88) _ (by rfl) W5.heap.size 9 i0 _ 16 Try.underlying23 hi hz0 hz1 hz2 rfl v6 _ _ (by rfl) ho6.out A11 ml.length c11 _ (by rfl) (HSrm.out _ hB6.out) k5.out k6.out hB6.out.size ?_; intro v7 w7 ho7 hg7 _; have hB7 := below_own (w := W5) (S := W5.heap.size) hB6.out ho6.out hg7 hB6.out.size (Nat.le_refl _); obtain ⟨x0', x1', x2', -, -, -⟩ := hXk.out _ hB7; have hS7 := And.intro (And.intro x0' (And.intro x1' x2')) (hnk.out _ hB7); replace ho7 := Lib.hid ho7; replace hB7 := Lib.hid hB7; clear hg7))
            all_goals
              have ho9 : OwnStrs w7 W5.heap.size v7 res := by
                have := ho7.out
                rw [hr.out]
                unfold OwnStrs
                have e : (hd ++ [un, x] ++ ml).length = 0 + hd.length + 2 + ml.length := by simp; omega
                rw [e]
                simpa using this
              obtain ⟨A12, c12, rfl, -⟩ := ho9.strs
              have HR : RetStrs w res (.returned (.slice A12 res.length c12)) w7 := ⟨_, rfl, ho9.mono hB2.out.size, hB2.out.trans (hB7.out.mono hB2.out.size)⟩
              replace HR := Lib.hid HR
              clear ho9 ho7 hB7 hr
              go_wp2
              go_ret
              exact HR.out
      · have hF := Lib.hid (HF0 hT)
        have K := Lib.hid (KNm.out n hn1 hn2 _ W HT.out)
        have hcase : lowU t n = 0 ∨ (lowU t n ≠ 0 ∧ tensU t n = lowU t n) := by
          by_cases h0 : lowU t n = 0
          · exact .inl h0
          · exact .inr ⟨h0, by
              by_cases h1 : tensU t n = lowU t n
              · exact h1
              · exact absurd ⟨h0, h1⟩ hT⟩
        replace hT := Lib.hid hT
        clear HF0 HF1 HF2 HBT HG HE HC HP HLen KNm hS1
        generalize tensU t n = T at *
        generalize lowU t n = L at *
        rcases hcase with hz | ⟨hz, hz'⟩
        · have q1 : ((L : Int) == 0) = true := by rw [beq_iff_eq]; omega
          replace hz := Lib.hid hz
          go_wp2_with (fail)
          refine K.out.mono ?_
          rintro e w3 ⟨v3, rfl, o3, b3⟩
          obtain ⟨A4, c4, rfl, -⟩ := o3.strs
          have HR : RetStrs w (turnT t x n) (.returned (.slice A4 (nameT t n).length c4)) w3 := ⟨_, rfl, by rw [hF.out]; exact o3.mono hB.out.size, hB.out.trans (b3.mono hB.out.size)⟩
          replace HR := Lib.hid HR
          clear o3 b3
          go_wp2
          go_ret
          exact HR.out
        · have q1 : ((L : Int) == 0) = false := by rw [beq_eq_false_iff_ne]; omega
          have q2 : ((T : Int) == (L : Int)) = true := by rw [beq_iff_eq]; omega
          replace hz := Lib.hid hz
          replace hz' := Lib.hid hz'
          go_wp2_with (fail)
          refine K.out.mono ?_
          rintro e w3 ⟨v3, rfl, o3, b3⟩
          obtain ⟨A4, c4, rfl, -⟩ := o3.strs
          have HR : RetStrs w (turnT t x n) (.returned (.slice A4 (nameT t n).length c4)) w3 := ⟨_, rfl, by rw [hF.out]; exact o3.mono hB.out.size, hB.out.trans (b3.mono hB.out.size)⟩
          replace HR := Lib.hid HR
          clear o3 b3
          go_wp2
          go_ret
          exact HR.out
end Go.Proofs.Ytbckckicffjccaa
