/-
  FnNameOf holds for every input: the drawn tongue and number are answered by NameOf as by its model; each word is one of the tongue, of a unit it is the unit, and it begins with the name of how often the greatest base is taken and ends with the name of what is left. No condition.
-/
import Derived.Test.YtdbihjabpekooaaRows
import Derived.Test.YtdbihjabpekooaaDrawN
import Derived.Test.YtdbihjabpekooaaImpl3
import Derived.Test.YtdbihjabpekooaaMathG
import Derived.Test.YtdbihjabpekooaaWords
import Derived.Test.YtdbihjabpekooaaSame
import Derived.Deep.RegionHeld3
import Derived.Lib.QuietBelow
namespace Go.Proofs.Ytdbihjabpekooaa.fnNameOf
open Go.ChangeShapes Go.WideShapes Go.ChangeAt Go.RowKit Go.Sort
open Go.ChangeMaps (open_string shut_string)

theorem own : ownKnob Try.prog.godebug = none := by kernel_rfl
theorem laidOut : laidOutB Try.prog = true := by kernel_rfl

/-- What the promise asks of a name. -/
theorem name_facts {t : Tg} {m : Nat} (h : namedB t m = true) :
    (∀ k, k < (nameOf t m).length → (nameOf t m).getD k ByteArray.empty ∈ t.words) ∧
    (topOf t.bs m = 0 → nameOf t m = [t.us.getD (m - 1) ByteArray.empty] ∧ m ≤ t.us.length) ∧
    (topOf t.bs m ≠ 0 → ∃ hd nm tl, nameOf t m = hd ++ [nm] ++ tl ∧ (1 < m / baseN t.bs m → namedB t ((m / baseN t.bs m : Nat) : Int) = true ∧ nameOf t ((m / baseN t.bs m : Nat) : Int) = hd) ∧
      (m % baseN t.bs m ≠ 0 → namedB t ((m % baseN t.bs m : Nat) : Int) = true ∧ nameOf t ((m % baseN t.bs m : Nat) : Int) = tl)) := by
  obtain ⟨ho, hne⟩ := named_ne h
  obtain ⟨hok, h1, h2⟩ := named_ok h
  have hs := ok_shape hok
  have hb := hs.bs
  have e : nameOf t m = nameT t m := nameOf_yes ho
  have hne' : nameN t.us t.bs t.ns m ≠ [] := hne
  rw [e]
  refine ⟨fun k hk => ?_, fun ht => ?_, fun ht => ?_⟩
  · rw [List.getD_eq_getElem?_getD, List.getElem?_eq_getElem hk]
    exact name_mem t.us t.bs t.ns hb hs.ns m (by omega) _ (List.getElem_mem hk)
  · have hu := name_unit (us := t.us) (ns := t.ns) ht
    rw [hu] at hne'
    by_cases hlt : t.us.length < m
    · rw [if_pos hlt] at hne'; exact absurd rfl hne'
    · rw [nameT, hu, if_neg hlt]; exact ⟨rfl, by omega⟩
  · obtain ⟨g1, g2, g3⟩ := name_some hb ht hne'
    obtain ⟨f1, f2, -, -, -⟩ := base_facts hb ht
    obtain ⟨d1, d2, d3, d4⟩ := div_pos' f1 f2
    refine ⟨_, _, _, name_parts hb ht g1 g2 g3, fun hq => ?_, fun hr => ?_⟩
    · exact ⟨named_of hok d1 (by omega) (g2 hq), by rw [nameOf_yes (okN_of hok d1 (by omega)), if_pos hq]⟩
    · have hr1 := Nat.one_le_iff_ne_zero.2 hr
      exact ⟨named_of hok hr1 (by omega) (g3 hr), by rw [nameOf_yes (okN_of hok hr1 (by omega)), if_neg hr]⟩
/-- The greatest base that is at most a number, among the first k. -/
def topV (bs : List Int) (n : Int) : Nat → Int
  | 0 => 1
  | k + 1 => if bs.getD k 0 ≤ n then bs.getD k 0 else topV bs n k
theorem topV_eq {bs : List Int} (hb : basesOk bs = true) {n : Int} (hn : 1 ≤ n) : ∀ k, 1 ≤ k → topV bs n k = bs.getD (topTo bs n k) 0 := by
  intro k
  induction k with
  | zero => intro h; omega
  | succ k ih =>
    intro _
    rw [topV, topTo]
    by_cases h0 : k = 0
    · subst h0
      rw [bases_one hb, if_pos hn, if_neg (fun h => by omega)]
      show (1 : Int) = bs.getD 0 0
      rw [bases_one hb]
    · by_cases hle : bs.getD k 0 ≤ n
      · rw [if_pos hle, if_pos ⟨by omega, hle⟩]
      · rw [if_neg hle, if_neg (fun h => hle h.2)]
        exact ih (by omega)
/-- Is a word among the first j? -/
def hasTo (l : List ByteArray) (x : ByteArray) : Nat → Bool
  | 0 => false
  | j + 1 => hasTo l x j || decide (l.getD j ByteArray.empty = x)
theorem hasTo_at {l : List ByteArray} {x : ByteArray} {i : Nat} (h : l.getD i ByteArray.empty = x) : ∀ j, i < j → hasTo l x j = true := by
  intro j
  induction j with
  | zero => intro h; omega
  | succ j ih =>
    intro hij
    rw [hasTo]
    by_cases e : i = j
    · subst e; rw [decide_eq_true h, Bool.or_true]
    · rw [ih (by omega), Bool.true_or]
theorem hasTo_mem {l : List ByteArray} {x : ByteArray} (h : x ∈ l) : hasTo l x l.length = true := by
  obtain ⟨i, hi, rfl⟩ := List.mem_iff_getElem.1 h
  exact hasTo_at (i := i) (by rw [List.getD_eq_getElem?_getD, List.getElem?_eq_getElem hi]; rfl) _ hi

set_option maxRecDepth 100000 in
set_option maxHeartbeats 8000000 in
theorem walk (w : World) (A : Option Addr) (n c : Nat) (xs : List Int) (h : Ints w .u8 A n c xs) (hwf : ∀ x ∈ xs, (Lit.int .u8 x).wf = true) (hc : c ≤ maxLen) :
    Calls Try.prog 3 #[.slice A n c] w fun e w' => e = .returned (.bool true) ∧ Below w.heap.size w w' := by
  have hn : n ≤ 9223372036854775807 := by have := h.le; unfold maxLen at hc; omega
  by_cases hl : n ≤ 1048576
  · have HD := Lib.hid (drawNameOf_any A n c xs w h hl hwf hc)
    clear h hwf hc
    go_enter Try.func3, Try.ntmps3
    go_wp2_with (fail)
    refine HD.out.mono ?_
    rintro e w1 ⟨v, t, a, rfl, ho, hsm, ha, hb⟩
    obtain ⟨A1, c1, A2, c2, A3, c3, rfl⟩ := ho.shape
    have hf := hsm.fine (by omega)
    have hB := hb.alloc hb.size (.cells #[.slice A1 t.us.length c1, .slice A2 t.bs.length c2, .slice A3 t.ns.length c3] 26)
    have hZ := Blk.new w1 26 #[.slice A1 t.us.length c1, .slice A2 t.bs.length c2, .slice A3 t.ns.length c3]
    have hT := ho.tng.below ((Below.refl _ _).alloc (Nat.le_refl _) (.cells #[.slice A1 t.us.length c1, .slice A2 t.bs.length c2, .slice A3 t.ns.length c3] 26)) (Nat.le_refl _)
    have hfb := hf.bs
    replace hB := Lib.hid hB
    replace hZ := Lib.hid hZ
    replace hT := Lib.hid hT
    replace hf := Lib.hid hf
    clear ho hsm hb HD
    go_upto_region 4 with (fail)
    generalize w1.alloc (.cells #[.slice A1 t.us.length c1, .slice A2 t.bs.length c2, .slice A3 t.ns.length c3] 26) = W at *
    obtain ⟨z0, z1, z2, -, -, -⟩ := blk3 hZ.out
    have K1 := Lib.hid (implNameOf_any _ t a W hT.out hf.out (by omega))
    go_wp2_with (fail)
    refine K1.out.mono ?_
    rintro e w2 ⟨v2, rfl, o2, b2⟩
    obtain ⟨A5, c5, rfl, s5⟩ := o2.strs
    replace hB := Lib.hid (hB.out.trans (b2.mono hB.out.size))
    replace hZ := Lib.hid (hZ.out.below b2 hZ.out.lt)
    replace hT := Lib.hid (hT.out.below b2 (Nat.le_refl _))
    have K2 := Lib.hid (specNameOf_any _ t a w2 hT.out hf.out (by omega))
    replace s5 := Lib.hid s5
    clear b2 z0 z1 z2 K1 o2
    obtain ⟨z0, z1, z2, -, -, -⟩ := blk3 hZ.out
    go_wp2_with (fail)
    refine K2.out.mono ?_
    rintro e w3 ⟨v3, rfl, o3, b3⟩
    obtain ⟨A7, c7, rfl, s7⟩ := o3.strs
    replace hB := Lib.hid (hB.out.trans (b3.mono hB.out.size))
    replace hZ := Lib.hid (hZ.out.below b3 hZ.out.lt)
    replace hT := Lib.hid (hT.out.below b3 (Nat.le_refl _))
    replace s5 := Lib.hid (s5.out.below b3 (Nat.le_refl _))
    have hln := nameOf_len t a
    have hE := sameTexts_any A5 A7 _ c5 _ c7 (nameOf t a) (nameOf t a) w3 s5.out s7 (by omega) (by omega)
    rw [decide_eq_true rfl] at hE
    replace hE := Lib.hid hE
    clear b3 z0 z1 z2 K2 o3 s7
    have hne : (namedB t a != namedB t a) = false := by simp
    go_wp2_with (fail)
    refine hE.out.mono ?_
    rintro e _ ⟨rfl, m0, rfl⟩
    replace hB := Lib.hid (below_drewN hB.out m0)
    replace hZ := Lib.hid (hZ.out.drewN m0)
    replace hT := Lib.hid (hT.out.drewN m0)
    replace s5 := Lib.hid (s5.out.drewN m0)
    clear hE
    generalize w3.drewN m0 = w4 at *
    cases hnb : namedB t a
    · have hx : (nameOf t a).length = 0 := by rw [(text_no hnb).1]; rfl
      rw [hx]
      rw [hnb] at hne
      replace hnb := Lib.hid hnb
      replace hx := Lib.hid hx
      clear hZ hT s5
      go_wp2_with (fail)
      refine (alive_any w4).mono ?_
      rintro e w9 ⟨rfl, b9⟩
      have hB9 := Lib.hid (hB.out.trans (b9.mono hB.out.size))
      clear b9
      go_wp2
      go_ret
      exact ⟨rfl, hB9.out⟩
    · rw [hnb] at hne
      obtain ⟨hok, ha1, ha2⟩ := named_ok hnb
      obtain ⟨m, rfl⟩ : ∃ m : Nat, a = m := ⟨a.toNat, by omega⟩
      have hL1 : 0 < (nameOf t m).length := by unfold namedB at hnb; exact of_decide_eq_true hnb
      obtain ⟨F1, F2, F3⟩ := name_facts hnb
      have hs := ok_shape hok
      have hbl := bases_len hs.bs
      have hul := hs.us
      have hns := hs.ns
      have hwl : t.words.length ≤ 30 := by rw [words_length]; omega
      have hbv := base_facts hs.bs (n := m)
      have htv := topV_eq hs.bs (n := (m : Int)) (by omega) t.bs.length (by omega)
      have hb1 := bases_one hs.bs
      have KW := specWordsOf_any _ t w4 hT.out hf.out
      rw [show wordsOf t = t.words by unfold wordsOf; rw [hok, if_pos rfl]] at KW
      have KI := fun (x : Int) (hx : 0 ≤ x ∧ x ≤ 99999) W' (h : Below w4.heap.size w4 W') => implNameOf_any _ t x W' (hT.out.below h (Nat.le_refl _)) hf.out (by omega)
      generalize nameOf t m = ws at *
      generalize hwL : ws.length = L at *
      have hL0 : ((L : Int) == 0) = false := by rw [beq_eq_false_iff_ne]; omega
      replace KW := Lib.hid KW
      replace KI := Lib.hid KI
      replace F1 := Lib.hid F1
      replace F2 := Lib.hid F2
      replace F3 := Lib.hid F3
      replace hbv := Lib.hid hbv
      replace htv := Lib.hid htv
      replace hb1 := Lib.hid hb1
      replace hnb := Lib.hid hnb
      replace hwL := Lib.hid hwL
      replace hok := Lib.hid hok
      clear hs
      obtain ⟨z0, z1, z2, -, -, -⟩ := blk3 hZ.out
      go_wp2_with (fail)
      refine KW.out.mono ?_
      rintro e w5 ⟨v9, rfl, o9, b9⟩
      obtain ⟨A9, c9, rfl, s9⟩ := o9.strs
      have D := Lib.hid b9
      replace hB := Lib.hid (hB.out.trans (b9.mono hB.out.size))
      replace hZ := Lib.hid (hZ.out.below b9 hZ.out.lt)
      replace hT := Lib.hid (hT.out.below b9 (Nat.le_refl _))
      replace s5 := Lib.hid (s5.out.below b9 (Nat.le_refl _))
      clear b9 z0 z1 z2 KW o9
      obtain ⟨b5, o5, rfl, -, hc5⟩ := s5.out.at_ (by omega)
      replace hc5 := Lib.hid hc5
      have hc9 := Lib.hid s9.at_
      clear s9
      go_wp2
      go_loopw [10] (fun s10 wr => ∃ k m : Nat, k ≤ L ∧ s10 = .int .i64 k ∧ wr = w5.drewN m) (fun s10 _ => L - (intOf s10).toNat)
      case atStart => exact ⟨0, 0, Nat.zero_le _, rfl, rfl⟩
      case round =>
        obtain ⟨k, m1, hk, rfl, rfl⟩ := hrel
        by_cases hlt : k < L
        · have ck := hc5.out k hlt
          have hmem := hasTo_mem (F1.out k hlt)
          generalize ws.getD k ByteArray.empty = x at *
          replace hmem := Lib.hid hmem
          replace ck := Lib.hid ck
          go_wp2
          obtain ⟨wo, hwo⟩ : ∃ wo : World, wo = w5.drewN m1 := ⟨_, rfl⟩
          rw [← hwo]
          replace hwo := Lib.hid hwo
          go_loopw [11, 12] (fun s11 s12 wr => ∃ j m : Nat, j ≤ t.words.length ∧ s12 = .int .i64 j ∧ s11 = .bool (hasTo t.words x j) ∧ wr = w5.drewN m) (fun _ s12 _ => t.words.length - (intOf s12).toNat)
          case atStart => exact ⟨0, m1, Nat.zero_le _, rfl, rfl, hwo.out⟩
          case round =>
            obtain ⟨j, m2, hj, rfl, rfl, rfl⟩ := hrel
            by_cases hjt : j < t.words.length
            · obtain ⟨b9, o9, rfl, -, h9⟩ := hc9.out (by omega)
              have cj := h9 j hjt
              have ck' := ck.out
              have HJ : hasTo t.words x (j + 1) = (hasTo t.words x j || decide (t.words.getD j ByteArray.empty = x)) := rfl
              generalize t.words.getD j ByteArray.empty = y at *
              generalize hasTo t.words x j = hb at *
              clear h9
              cases hb
              · by_cases e : y = x
                · rw [decide_eq_true e] at HJ
                  have he : (y.toList == x.toList) = true := by rw [str_eq]; exact decide_eq_true e
                  replace HJ := Lib.hid HJ
                  replace e := Lib.hid e
                  go_wp2
                  go_quiet (fail)
                  go_wp2
                  go_roundw
                  case rel => exact ⟨j + 1, m2 + nq, by omega, by go_num, by rw [HJ.out]; rfl, by simp⟩
                  case measure => simp [intOf]; omega
                · rw [decide_eq_false e] at HJ
                  have he : (y.toList == x.toList) = false := by rw [str_eq]; exact decide_eq_false e
                  replace HJ := Lib.hid HJ
                  replace e := Lib.hid e
                  go_wp2
                  go_quiet (fail)
                  go_wp2
                  go_roundw
                  case rel => exact ⟨j + 1, m2 + nq, by omega, by go_num, by rw [HJ.out]; rfl, by simp⟩
                  case measure => simp [intOf]; omega
              · rw [Bool.true_or] at HJ
                replace HJ := Lib.hid HJ
                go_wp2
                go_quiet (fail)
                go_wp2
                go_roundw
                case rel => exact ⟨j + 1, m2 + nq, by omega, by go_num, by rw [HJ.out], by simp⟩
                case measure => simp [intOf]; omega
            · obtain rfl : j = t.words.length := by omega
              rw [hmem.out]
              go_wp2
              go_roundw
              case rel => exact ⟨k + 1, m2, by omega, by go_num, rfl⟩
              case measure => simp [intOf]; omega
        · obtain rfl : k = L := by omega
          replace D := Lib.hid (below_drewN D.out m1)
          replace hB := Lib.hid (below_drewN hB.out m1)
          replace hZ := Lib.hid (hZ.out.drewN m1)
          replace hT := Lib.hid (hT.out.drewN m1)
          replace s5 := Lib.hid (s5.out.drewN m1)
          clear hc5 hc9 F1
          generalize w5.drewN m1 = w6 at *
          obtain ⟨z0, z1, z2, -, -, -⟩ := blk3 hZ.out
          obtain ⟨_, _, _, _, _, _, ev, S1, I2, -⟩ := hT.out.ex
          cases ev
          obtain ⟨b2, o2, rfl, -, hc2⟩ := I2.at_ (by omega)
          replace hc2 := Lib.hid hc2
          replace S1 := Lib.hid S1
          clear I2
          go_wp2
          go_loop [13, 14] (fun s13 s14 => ∃ j : Nat, j ≤ t.bs.length ∧ s14 = .int .i64 j ∧ s13 = .int .i64 (topV t.bs m j)) (fun _ s14 => t.bs.length - (intOf s14).toNat)
          case atStart => exact ⟨0, Nat.zero_le _, rfl, rfl⟩
          case round =>
            obtain ⟨j, hj, rfl, rfl⟩ := hrel
            by_cases hjt : j < t.bs.length
            · have cj := hc2.out j hjt
              have HT : topV t.bs m (j + 1) = if t.bs.getD j 0 ≤ (m : Int) then t.bs.getD j 0 else topV t.bs m j := rfl
              generalize t.bs.getD j 0 = y at *
              by_cases hle : y ≤ (m : Int)
              · rw [if_pos hle] at HT
                replace HT := Lib.hid HT
                go_wp2
                go_round
                case rel => exact ⟨j + 1, by omega, by go_num, by rw [HT.out]⟩
                case measure => simp [intOf]; omega
              · rw [if_neg hle] at HT
                replace HT := Lib.hid HT
                go_wp2
                go_round
                case rel => exact ⟨j + 1, by omega, by go_num, by rw [HT.out]⟩
                case measure => simp [intOf]; omega
            · obtain rfl : j = t.bs.length := by omega
              rw [htv.out]
              obtain ⟨b1, o1, rfl, -, hc1⟩ := S1.out.at_ (by omega)
              have hs5 := s5.out
              obtain ⟨_, _, ev, -, hc5⟩ := hs5.at_ (by omega)
              cases ev
              have hwl' := hwL.out
              by_cases ht : topOf t.bs m = 0
              · have hv : t.bs.getD (topTo t.bs m t.bs.length) 0 = 1 := by
                  have e : topTo t.bs m t.bs.length = 0 := ht
                  rw [e]; exact hb1.out
                rw [hv]
                obtain ⟨hws, hmu⟩ := F2.out ht
                have hL : k = 1 := by rw [← hwl', hws]; rfl
                have c0 := hc5 0 (by omega)
                rw [hws] at c0
                simp only [Nat.add_zero] at c0
                have cu := hc1 (m - 1) (by omega)
                have hx0 : [t.us.getD (m - 1) ByteArray.empty].getD 0 ByteArray.empty = t.us.getD (m - 1) ByteArray.empty := rfl
                rw [hx0] at c0
                clear hx0
                generalize t.us.getD (m - 1) ByteArray.empty = x at *
                have hxx : (x.toList == x.toList) = true := by simp
                have hLb : ((k : Int) == 1) = true := by rw [beq_iff_eq]; omega
                have hLp : (0 : Int) < (k : Int) := by omega
                have hLp' : 0 < k := by omega
                have kk1 : (0 : Int) ≤ (m : Int) - 1 := by omega
                have kk2 : (m : Int) - 1 < (t.us.length : Int) := by omega
                have kk3 : ((m : Int) - 1).toNat = m - 1 := by omega
                have kk4 : IntKind.i64.wrap ((m : Int) - 1) = (m : Int) - 1 := IntWalk.i64_in _ (by omega)
                have kk5 : (1 : Int) ≤ (m : Int) := by omega
                replace hL := Lib.hid hL
                replace hws := Lib.hid hws
                replace ht := Lib.hid ht
                clear hv hc1 hc5 hs5 hwl'
                go_upto_region 28 with (fail)
                go_quiet (fail)
                go_wp2
                go_ret
                exact ⟨rfl, below_drewN hB.out _⟩
              · obtain ⟨f1, f2, f3, f4, f5⟩ := hbv.out ht
                have hv : t.bs.getD (topTo t.bs m t.bs.length) 0 = (baseN t.bs m : Int) := f3.symm
                rw [hv]
                obtain ⟨hd, nm, tl, hws, hq, hr⟩ := F3.out ht
                obtain ⟨d1, d2, d3, d4⟩ := div_pos' f1 f2
                have e1 : (m : Int) / (baseN t.bs m : Int) = ((m / baseN t.bs m : Nat) : Int) := rfl
                have e2 : (m : Int) % (baseN t.bs m : Int) = ((m % baseN t.bs m : Nat) : Int) := rfl
                have e3 : (m : Int).tdiv (baseN t.bs m : Int) = ((m / baseN t.bs m : Nat) : Int) := by rw [Int.tdiv_eq_ediv_of_nonneg (by omega)]; rfl
                have e4 : (m : Int).tmod (baseN t.bs m : Int) = ((m % baseN t.bs m : Nat) : Int) := by rw [Int.tmod_eq_emod_of_nonneg (by omega)]; rfl
                clear f3
                generalize m / baseN t.bs m = q at *
                generalize m % baseN t.bs m = r at *
                generalize baseN t.bs m = b at *
                have hLL : k = hd.length + 1 + tl.length := by rw [← hwl', hws]; simp; omega
                have w7' : IntKind.i64.wrap (q : Int) = (q : Int) := IntWalk.i64_in _ (by omega)
                have w8' : IntKind.i64.wrap (r : Int) = (r : Int) := IntWalk.i64_in _ (by omega)
                have hbz : ¬ (b : Int) = 0 := by omega
                have hbz' : ¬ b = 0 := by omega
                have hb1' : ((b : Int) == 1) = false := by rw [beq_eq_false_iff_ne]; omega
                have KQ := fun W' (h : Below w4.heap.size w4 W') => KI.out (q : Int) ⟨by omega, by omega⟩ W' h
                have KR := fun W' (h : Below w4.heap.size w4 W') => KI.out (r : Int) ⟨by omega, by omega⟩ W' h
                generalize hnq : nameOf t (q : Int) = xq at *
                generalize hnr : nameOf t (r : Int) = xr at *
                generalize namedB t (q : Int) = bq at *
                generalize hbr : namedB t (r : Int) = br at *
                have hxr : br = true → 0 < xr.length := fun h => by rw [h] at hbr; unfold namedB at hbr; rw [hnr] at hbr; exact of_decide_eq_true hbr
                have hxl : xq.length ≤ 99999 := by rw [← hnq]; exact nameOf_len t q
                have hxl2 : xr.length ≤ 99999 := by rw [← hnr]; exact nameOf_len t r
                replace KQ := Lib.hid KQ
                replace KR := Lib.hid KR
                replace hq := Lib.hid hq
                replace hr := Lib.hid hr
                replace hws := Lib.hid hws
                replace hLL := Lib.hid hLL
                replace hnq := Lib.hid hnq
                replace hnr := Lib.hid hnr
                replace hbr := Lib.hid hbr
                replace hxr := Lib.hid hxr
                replace ht := Lib.hid ht
                clear hv hc1 hc5 hs5 hwl' KI F2 F3
                have hZc := Lib.hid (fun W' (h : Below w6.heap.size w6 W') => blk3 (hZ.out.below h hZ.out.lt))
                go_upto_region 29 with (fail)
                go_region_held3 (fun w' => w'.cell? ⟨w1.heap.size, 0, none⟩ = some (.slice (some ⟨b1, o1, none⟩) t.us.length c1) ∧ w'.cell? ⟨w1.heap.size, 1, none⟩ = some (.slice (some ⟨b2, o2, none⟩) t.bs.length c2) ∧ w'.cell? ⟨w1.heap.size, 2, none⟩ = some (.slice A3 t.ns.length c3))
                  (first | go_keep | exact hS7)
                  (first
                    | (go_at_call 12; refine (KQ.out _ (by first | exact D.out.drew | exact D.out)).mono ?_; rintro e w7 ⟨v7, rfl, o7, b7'⟩; have b7 : Below w6.heap.size w6 w7 := ⟨b7'.os, b7'.tape, b7'.output, b7'.size, b7'.block⟩; obtain ⟨A7, c7, rfl, s7⟩ := o7.strs; obtain ⟨z0', z1', z2', -, -, -⟩ := hZc.out _ b7; have hS7 := And.intro z0' (And.intro z1' z2'); replace s7 := Lib.hid s7; replace b7 := Lib.hid b7; clear b7' o7))
                all_goals
                  clear hS7 z0 z1 z2
                  have D7 := Lib.hid (D.out.trans (b7.out.mono D.out.size))
                  have hZd := Lib.hid (fun W' (h : Below w7.heap.size w7 W') => hZc.out W' (b7.out.trans (h.mono b7.out.size)))
                  go_upto_region 30 with (fail)
                  go_region_held3 (fun w' => w'.cell? ⟨w1.heap.size, 0, none⟩ = some (.slice (some ⟨b1, o1, none⟩) t.us.length c1) ∧ w'.cell? ⟨w1.heap.size, 1, none⟩ = some (.slice (some ⟨b2, o2, none⟩) t.bs.length c2) ∧ w'.cell? ⟨w1.heap.size, 2, none⟩ = some (.slice A3 t.ns.length c3))
                    (first | go_keep | exact hS8)
                    (first
                      | (go_at_call 12; refine (KR.out _ (by first | exact D7.out.drew | exact D7.out)).mono ?_; rintro e w8 ⟨v8, rfl, o8, b8'⟩; have b8 : Below w7.heap.size w7 w8 := ⟨b8'.os, b8'.tape, b8'.output, b8'.size, b8'.block⟩; obtain ⟨A8, c8, rfl, s8⟩ := o8.strs; obtain ⟨z0'', z1'', z2'', -, -, -⟩ := hZd.out _ b8; have hS8 := And.intro z0'' (And.intro z1'' z2''); replace s8 := Lib.hid s8; replace b8 := Lib.hid b8; clear b8' o8))
                  all_goals
                    have b68 := b7.out.trans (b8.out.mono b7.out.size)
                    have S5 := Lib.hid (s5.out.below b68 (Nat.le_refl _))
                    have S7 := Lib.hid (s7.out.below b8.out (Nat.le_refl _))
                    have B8 := Lib.hid (hB.out.trans (b68.mono hB.out.size))
                    have hle5 := S5.out.le
                    have q0 : (0 : Int) ≤ (m : Int) / (b : Int) := by rw [e1]; omega
                    have q1 : (m : Int) / (b : Int) ≤ 99999 := by rw [e1]; omega
                    have r0 : (0 : Int) ≤ (m : Int) % (b : Int) := by rw [e2]; omega
                    have r1 : (m : Int) % (b : Int) ≤ 99999 := by rw [e2]; omega
                    clear hS8 z0' z1' z2' z0'' z1'' z2'' b68 hZc hZd b7 b8 D D7 KQ KR e3 e4 w7' w8'
                    go_upto_region 31 with (fail)
                    by_cases hq1 : 1 < q
                    · have hqt : (1 : Int) < (m : Int) / (b : Int) := by rw [e1]; omega
                      obtain ⟨hb', hx'⟩ := hq.out hq1
                      subst hb'
                      subst hx'
                      have hkl := hLL.out
                      have hwd := hws.out
                      have htake : ws.take xq.length = xq := by rw [hwd, List.append_assoc, List.take_left]
                      have hlt : ¬ (k : Int) ≤ (xq.length : Int) := by omega
                      have hlt' : xq.length < k := by omega
                      have hqc : (xq.length : Int) ≤ (c5 : Int) := by omega
                      have KS := sameTexts_any (some ⟨b5, o5, none⟩) A7 xq.length c5 xq.length c7 (ws.take xq.length) xq w8 (S5.out.take (by omega)) S7.out (by omega) (by omega)
                      rw [htake, decide_eq_true rfl] at KS
                      replace KS := Lib.hid KS
                      replace hkl := Lib.hid hkl
                      replace hwd := Lib.hid hwd
                      replace htake := Lib.hid htake
                      have E1 := Lib.hid e1
                      have E2 := Lib.hid e2
                      clear e1 e2
                      go_wp2_with (fail)
                      refine KS.out.mono ?_
                      rintro e _ ⟨rfl, my, rfl⟩
                      replace S5 := Lib.hid (S5.out.drewN my)
                      replace s8 := Lib.hid (s8.out.drewN my)
                      replace B8 := Lib.hid (below_drewN B8.out my)
                      have e1 := E1.out
                      have e2 := E2.out
                      clear KS E1 E2 hkl hwd
                      generalize w8.drewN my = w9 at *
                      by_cases hr0 : r = 0
                      · have hrt : ((m : Int) % (b : Int) == 0) = true := by rw [e2, beq_iff_eq]; omega
                        go_wp2
                        go_ret
                        exact ⟨rfl, B8.out⟩
                      · have hrt : ((m : Int) % (b : Int) == 0) = false := by rw [e2, beq_eq_false_iff_ne]; omega
                        obtain ⟨hb', hx'⟩ := hr.out hr0
                        have hxp := hxr.out hb'
                        subst hb'
                        have hkl := hLL.out
                        have hwd := hws.out
                        rw [← hx'] at hkl hwd
                        obtain ⟨d, hdd⟩ : ∃ d : Nat, d = xq.length + 1 := ⟨_, rfl⟩
                        have hdrop : ws.drop d = xr := by
                          have hl : (xq ++ [nm]).length = d := by simp [hdd]
                          rw [hwd, ← hl, List.drop_left]
                        have es : (k : Int) - (xr.length : Int) = (d : Int) := by omega
                        have ew : IntKind.i64.wrap ((k : Int) - (xr.length : Int)) = (d : Int) := by rw [IntWalk.i64_in _ (by omega)]; exact es
                        have hlt : (xr.length : Int) < (k : Int) := by omega
                        have hlt' : xr.length < k := by omega
                        have hdc : (d : Int) ≤ (c5 : Int) := by omega
                        have hdc' : d < c5 := by omega
                        have hdk : (d : Int) ≤ (k : Int) := by omega
                        have hcd : ¬ c5 = d := by omega
                        have en : ((k : Int) - (xr.length : Int)).toNat = d := by omega
                        have KT := sameTexts_any (some ⟨b5, o5 + d, none⟩) A8 (k - d) (c5 - d) xr.length c8 (ws.drop d) xr w9 (S5.out.drop (by omega)) s8.out (by omega) (by omega)
                        rw [hdrop, decide_eq_true rfl] at KT
                        replace KT := Lib.hid KT
                        replace hwd := Lib.hid hwd
                        replace hdrop := Lib.hid hdrop
                        replace hdd := Lib.hid hdd
                        replace hx' := Lib.hid hx'
                        replace hkl := Lib.hid hkl
                        replace hr0 := Lib.hid hr0
                        replace e1 := Lib.hid e1
                        replace e2 := Lib.hid e2
                        go_wp2_with (fail)
                        refine KT.out.mono ?_
                        rintro e _ ⟨rfl, mz, rfl⟩
                        go_wp2
                        go_ret
                        exact ⟨rfl, below_drewN B8.out mz⟩
                    · have hqt : ¬ (1 : Int) < (m : Int) / (b : Int) := by rw [e1]; omega
                      by_cases hr0 : r = 0
                      · have hrt : ((m : Int) % (b : Int) == 0) = true := by rw [e2, beq_iff_eq]; omega
                        go_wp2
                        go_ret
                        exact ⟨rfl, B8.out⟩
                      · have hrt : ((m : Int) % (b : Int) == 0) = false := by rw [e2, beq_eq_false_iff_ne]; omega
                        obtain ⟨hb', hx'⟩ := hr.out hr0
                        have hxp := hxr.out hb'
                        subst hb'
                        have hkl := hLL.out
                        have hwd := hws.out
                        rw [← hx'] at hkl hwd
                        obtain ⟨d, hdd⟩ : ∃ d : Nat, d = hd.length + 1 := ⟨_, rfl⟩
                        have hdrop : ws.drop d = xr := by
                          have hl : (hd ++ [nm]).length = d := by simp [hdd]
                          rw [hwd, ← hl, List.drop_left]
                        have es : (k : Int) - (xr.length : Int) = (d : Int) := by omega
                        have ew : IntKind.i64.wrap ((k : Int) - (xr.length : Int)) = (d : Int) := by rw [IntWalk.i64_in _ (by omega)]; exact es
                        have hlt : (xr.length : Int) < (k : Int) := by omega
                        have hlt' : xr.length < k := by omega
                        have hdc : (d : Int) ≤ (c5 : Int) := by omega
                        have hdc' : d < c5 := by omega
                        have hdk : (d : Int) ≤ (k : Int) := by omega
                        have hcd : ¬ c5 = d := by omega
                        have en : ((k : Int) - (xr.length : Int)).toNat = d := by omega
                        have KT := sameTexts_any (some ⟨b5, o5 + d, none⟩) A8 (k - d) (c5 - d) xr.length c8 (ws.drop d) xr w8 (S5.out.drop (by omega)) s8.out (by omega) (by omega)
                        rw [hdrop, decide_eq_true rfl] at KT
                        replace KT := Lib.hid KT
                        replace hwd := Lib.hid hwd
                        replace hdrop := Lib.hid hdrop
                        replace hdd := Lib.hid hdd
                        replace hx' := Lib.hid hx'
                        replace hkl := Lib.hid hkl
                        replace hr0 := Lib.hid hr0
                        replace e1 := Lib.hid e1
                        replace e2 := Lib.hid e2
                        go_wp2_with (fail)
                        refine KT.out.mono ?_
                        rintro e _ ⟨rfl, mz, rfl⟩
                        go_wp2
                        go_ret
                        exact ⟨rfl, below_drewN B8.out mz⟩
  · have hl' : 1048576 < n := by omega
    go_enter Try.func3, Try.ntmps3
    go_wp2
    go_ret
    exact ⟨rfl, Below.refl _ _⟩

set_option maxRecDepth 100000 in
theorem lifted (os : Os) (started : os.Started) (H : Type) (enc : TypeId × Value → H) :
    ReturnsInHanded {} Try.checked os 3 .any (Rows.fnNameOfSpec.pre6 enc Try.prog Try.f3 Rows.fnNameOfRow.domain false) (Rows.fnNameOfSpec.post enc Try.prog Try.f3 false true false false) := by
  refine returnsInHanded_of_change (C := Try.checked) own started (by kernel_rfl) Try.func3
    (ChangeSpec.witness6 (enc := enc) (C := Try.checked) false ⟨#[], #[.slice none 0 0], []⟩ 8 (by kernel_rfl) (by kernel_rfl) (by kernel_rfl) (by kernel_rfl)) ?_
  intro W base args ds gs before hval0 hW hcnd _
  have hval : ∀ (j : Nat) t v, Try.f3.params[j]? = some t → args[j]? = some v → Value.okWide Try.prog W .any base t v := hval0
  have hW' := hW
  obtain ⟨p, q, hA0, hV, rfl, hfz, hnd⟩ := hW
  have hA : DataW.TrodAll enc Try.prog W 0 (fun _ => true) true Try.f3.params.toList args.toList ds p := hA0
  rw [Try.params3] at hA hval
  obtain ⟨v0, vs0, d0, ds0, p0, q0, hargs, rfl, rfl, h0, r0⟩ := trodAll_cons hA
  obtain ⟨rfl, rfl, rfl⟩ := trodAll_nil r0
  obtain rfl : args = #[v0] := by cases args; simp_all
  obtain ⟨rfl, rfl⟩ := trodVars_none hV
  obtain ⟨a0, len0, cap0, rfl⟩ := okWide_slice Try.underlying22 (hval 0 22 v0 rfl rfl)
  have k0 := h0
  have lt0 : ∀ x ∈ p0, x.block < W.heap.size := by obtain ⟨m, hm⟩ := k0; exact DataW.trod_lt m _ _ _ hm
  obtain ⟨z0, s0, w0, m0⟩ : ∃ zs, Ints W .u8 a0 len0 cap0 zs ∧ (∀ n ∈ zs, (Lit.int .u8 n).wf = true) ∧ cap0 ≤ maxLen := by
    obtain ⟨fuel, hf⟩ := h0
    rcases open_ints Try.underlying22 Try.underlying5 (by kernel_rfl) hf with ⟨hcs, _⟩ | ⟨x, l, c, zs, hcs, _, hl, hm, hz, _, hcell, hwz⟩
    · simp [Value.cells] at hcs
      obtain ⟨rfl, rfl, rfl⟩ := hcs
      exact ⟨[], Ints.none_, by simp, Nat.zero_le _⟩
    · simp [Value.cells] at hcs
      obtain ⟨rfl, rfl, rfl⟩ := hcs
      exact ⟨_, Ints.of_row hl (by simpa using hz) hcell, fun n hn => hwz n (List.mem_of_mem_take hn), hm⟩
  clear hA0 hval0
  refine (walk W a0 len0 cap0 z0 s0 w0 m0).mono fun e W' ⟨he, bel⟩ => ?_
  subst he
  exact ⟨_, rfl, _, _, _, [], _, [], hW', trodAll_mk1 (shut_bool Try.underlying4 _), (trodAll_cons_mk (Below.trod laidOut (by kernel_rfl) (of_decide_eq_true (by kernel_rfl)) k0 bel lt0) trodAll_mk0), rfl, bel.frame _, fun h => by cases h⟩

theorem over : Rows.fnNameOfRow.holds Try.pinned (OpenSpec.ofChange Rows.fnNameOfSpec) :=
  OpenClaim.holds_of_wide 3 Try.f3 rfl rfl rfl rfl rfl rfl rfl ⟨rfl, rfl, rfl, rfl, rfl⟩ rfl rfl rfl rfl rfl (by kernel_rfl) Try.func3 (by kernel_rfl)
    (of_decide_eq_true (by kernel_rfl)) (by unfold Func.isWrapper; first | (rw [if_pos (by decide +kernel)]; kernel_rfl) | (rw [if_neg (by decide +kernel)]; exact ⟨rfl, rfl⟩))
    (fun os started H enc _ => lifted os started H enc)
theorem proved : Rows.FnNameOfSaid := over
end Go.Proofs.Ytdbihjabpekooaa.fnNameOf
