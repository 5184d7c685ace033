/-
  Contracts of the names of numbers, of the model.
-/
import Derived.Test.YteemgkabhkdeaaaDoorMathN
import Derived.Test.YteemgkabhkdeaaaDoorOwnT
namespace Go.Proofs.YteemgkabhkdeaaaDoor
open Go.RowKit

theorem topTo_one (bs : List Int) (n : Int) : topTo bs n 1 = 0 := by simp [topTo]

set_option maxHeartbeats 1000000 in
theorem specTop_any (v : Value) (t : Tg) (n : Int) (w : World) (h : Tng w v t) (hl : 1 ≤ t.bs.length) (hl5 : t.bs.length ≤ 1048576) :
    Calls Tryd.prog 69 #[v, .int .i64 n] w fun e w' => e = .returned (.int .i64 (topOf t.bs n)) ∧ Below w.heap.size w w' := by
  obtain ⟨A1, c1, A2, c2, A3, c3, rfl, -, h2, -⟩ := h.ex
  have hBel := (Below.refl w.heap.size w).alloc (Nat.le_refl _) (.cells #[.slice A1 t.us.length c1, .slice A2 t.bs.length c2, .slice A3 t.ns.length c3] 26)
  have HI := h2.below hBel (Nat.le_refl _)
  have HX := Blk.new w 26 #[.slice A1 t.us.length c1, .slice A2 t.bs.length c2, .slice A3 t.ns.length c3]
  replace hBel := Lib.hid hBel
  replace HX := Lib.hid HX
  replace HI := Lib.hid HI
  clear h h2
  go_enter Tryd.func69, Tryd.ntmps69
  go_upto_region 1 with (fail)
  generalize w.alloc (.cells #[.slice A1 t.us.length c1, .slice A2 t.bs.length c2, .slice A3 t.ns.length c3] 26) = W at *
  obtain ⟨b, o, rfl, -, hc⟩ := HI.out.at_ (by omega)
  obtain ⟨x0, x1, x2, -, -, -⟩ := blk3 HX.out
  replace hc := Lib.hid hc
  clear HX HI
  go_wp2
  go_loop [5, 6] (fun s5 s6 => ∃ k : Nat, 1 ≤ k ∧ k ≤ t.bs.length ∧ s6 = .int .i64 k ∧ s5 = .int .i64 (topTo t.bs n k)) (fun _ i => t.bs.length - (intOf i).toNat)
  case atStart => exact ⟨1, Nat.le_refl _, hl, rfl, by rw [topTo_one]; rfl⟩
  case round =>
    obtain ⟨k, h1, hk, rfl, rfl⟩ := hrel
    by_cases hlt : k < t.bs.length
    · have ck := hc.out k hlt
      have HT : topTo t.bs n (k + 1) = if 1 ≤ k ∧ t.bs.getD k 0 ≤ n then k else topTo t.bs n k := rfl
      generalize t.bs.getD k 0 = x at *
      by_cases hx : x ≤ n
      · rw [if_pos ⟨h1, hx⟩] at HT
        replace HT := Lib.hid HT
        go_wp2
        go_round
        case rel => exact ⟨k + 1, by omega, by omega, by go_num, by rw [HT.out]⟩
        case measure => simp [intOf]; omega
      · rw [if_neg (fun h => hx h.2)] at HT
        replace HT := Lib.hid HT
        go_wp2
        go_round
        case rel => exact ⟨k + 1, by omega, by omega, by go_num, by rw [HT.out]⟩
        case measure => simp [intOf]; omega
    · obtain rfl : k = t.bs.length := by omega
      go_wp2
      go_ret
      exact ⟨rfl, hBel.out⟩

theorem ret_none {w w1 : World} (hb : Below w.heap.size w w1) : RetStrs w [] (.returned (.slice (some ⟨w1.heap.size, 0, none⟩) 0 0)) (w1.alloc (.cells #[] 9)) :=
  ⟨_, rfl, owns_empty (Blk.new _ _ _) hb.size, hb.alloc hb.size _⟩
theorem ret_one {w w1 : World} (hb : Below w.heap.size w w1) (x : ByteArray) : RetStrs w [x] (.returned (.slice (some ⟨w1.heap.size, 0, none⟩) 1 1)) (w1.alloc (.cells #[.string x] 9)) :=
  ⟨_, rfl, owns_blk (xs := [.string x]) (Blk.new _ _ _) rfl hb.size (by unfold maxLen; omega), hb.alloc hb.size _⟩
abbrev nameT (t : Tg) (n : Nat) : List ByteArray := nameN t.us t.bs t.ns n

set_option maxRecDepth 100000 in
set_option maxHeartbeats 4000000 in
theorem specName_any {t : Tg} (hok : t.ok = true) : ∀ n : Nat, 1 ≤ n → n ≤ 99999 → ∀ (v : Value) (w : World), Tng w v t →
    Calls Tryd.prog 52 #[v, .int .i64 n] w (RetStrs w (nameT t n)) := by
  obtain ⟨i0, hi, hz0, hz1, hz2⟩ := info_parts str_info
  intro n
  induction n using Nat.strongRecOn with
  | _ n ih =>
    intro hn1 hn2 v w h
    have hsh := ok_shape hok
    have hul := hsh.us
    have hbs := hsh.bs
    have hbl := bases_len hbs
    have hns := hsh.ns
    have IH := Lib.hid (fun m (h1 : m < n) (h2 : 1 ≤ m) => ih m h1 h2 (by omega))
    have HL := Lib.hid (name_len t.us t.bs t.ns hbs)
    obtain ⟨A1, c1, A2, c2, A3, c3, rfl, -⟩ := h.ex
    have hB := (Below.refl w.heap.size w).alloc (Nat.le_refl _) (.cells #[.slice A1 t.us.length c1, .slice A2 t.bs.length c2, .slice A3 t.ns.length c3] 26)
    have HX := Blk.new w 26 #[.slice A1 t.us.length c1, .slice A2 t.bs.length c2, .slice A3 t.ns.length c3]
    have HT := h.below hB (Nat.le_refl _)
    have K1 := Lib.hid (specTop_any _ t n _ HT (by omega) (by omega))
    replace hB := Lib.hid hB
    replace HX := Lib.hid HX
    replace HT := Lib.hid HT
    replace hbs := Lib.hid hbs
    clear ih h hsh
    go_enter Tryd.func52, Tryd.ntmps52
    go_upto_region 1 with (fail)
    generalize w.alloc (.cells #[.slice A1 t.us.length c1, .slice A2 t.bs.length c2, .slice A3 t.ns.length c3] 26) = W at *
    obtain ⟨x0, x1, x2, -, -, -⟩ := blk3 HX.out
    go_wp2_with (fail)
    refine K1.out.mono ?_
    rintro e w1 ⟨rfl, b1⟩
    replace hB := Lib.hid (hB.out.trans (b1.mono hB.out.size))
    replace HX := Lib.hid (HX.out.below b1 HX.out.lt)
    replace HT := Lib.hid (HT.out.below b1 (Nat.le_refl _))
    clear b1 x0 x1 x2 K1
    obtain ⟨x0, x1, x2, -, -, -⟩ := blk3 HX.out
    obtain ⟨_, _, _, _, _, _, ev, S1, I2, S3⟩ := HT.out.ex
    cases ev
    by_cases ht : topOf t.bs n = 0
    · have hN := name_unit (us := t.us) (ns := t.ns) ht
      rw [ht]
      replace ht := Lib.hid ht
      by_cases hgt : t.us.length < n
      · rw [if_pos hgt] at hN
        have hgt' : (t.us.length : Int) < n := by omega
        replace hN := Lib.hid hN
        clear S1 I2 S3
        go_wp2
        go_ret
        rw [nameT, hN.out]
        exact ret_none hB.out
      · rw [if_neg hgt] at hN
        have hgt' : ¬ (t.us.length : Int) < n := by omega
        obtain ⟨b, o, rfl, -, hc⟩ := S1.at_ (by omega)
        have ck := hc (n - 1) (by omega)
        generalize t.us.getD (n - 1) ByteArray.empty = x at *
        replace hN := Lib.hid hN
        clear S1 I2 S3 hc
        go_wp2
        go_ret
        rw [nameT, hN.out]
        exact ret_one hB.out x
    · obtain ⟨f1, f2, f3, f4, f5⟩ := base_facts hbs.out ht
      have hd' := div_pos' f1 f2
      have N1 := fun h => name_over (us := t.us) (ns := t.ns) hbs.out ht h
      have N2 := fun h => name_nohead (us := t.us) (ns := t.ns) hbs.out ht h
      have N3 := fun h => name_norest (us := t.us) (ns := t.ns) hbs.out ht h
      have N4 := fun h => name_parts (us := t.us) (ns := t.ns) hbs.out ht h
      have e1 : (n : Int) / (baseN t.bs n : Int) = ((n / baseN t.bs n : Nat) : Int) := rfl
      have e2 : (n : Int) % (baseN t.bs n : Int) = ((n % baseN t.bs n : Nat) : Int) := rfl
      obtain ⟨b2, o2, rfl, hb2, hc2⟩ := I2.at_ (by omega)
      have ck2 := hc2 _ f4
      rw [← f3] at ck2
      obtain ⟨b3, o3, rfl, hb3, hc3⟩ := S3.at_ (by omega)
      have ck3 := hc3 (topOf t.bs n - 1) (by omega)
      have hk0 : ((topOf t.bs n : Int) == 0) = false := by rw [beq_eq_false_iff_ne]; omega
      obtain ⟨d1, d2, d3, d4⟩ := hd'
      have L1 := HL.out _ d1
      have L2 : n % baseN t.bs n ≠ 0 → (nameN t.us t.bs t.ns (n % baseN t.bs n)).length ≤ n := fun h0 => by have := HL.out _ (Nat.one_le_iff_ne_zero.2 h0); omega
      have hbn : baseN t.bs n ≤ 99999 := by omega
      generalize hq : n / baseN t.bs n = q at *
      generalize hr : n % baseN t.bs n = r at *
      generalize baseN t.bs n = b at *
      generalize topOf t.bs n = k at *
      generalize t.ns.getD (k - 1) ByteArray.empty = nm at *
      replace N1 := Lib.hid N1
      replace N2 := Lib.hid N2
      replace N3 := Lib.hid N3
      replace N4 := Lib.hid N4
      replace L1 := Lib.hid L1
      replace L2 := Lib.hid L2
      replace e1 := Lib.hid e1
      replace e2 := Lib.hid e2
      replace ht := Lib.hid ht
      replace hq := Lib.hid hq
      replace hr := Lib.hid hr
      replace f3 := Lib.hid f3
      clear hc2 hc3 S1 I2 S3 HL
      have IHq : ∀ (v : Value) (w : World), Tng w v t → Calls Tryd.prog 52 #[v, .int .i64 q] w (RetStrs w (nameN t.us t.bs t.ns q)) := fun v w h => IH.out q d2 d1 v w h
      have IHr : r ≠ 0 → ∀ (v : Value) (w : World), Tng w v t → Calls Tryd.prog 52 #[v, .int .i64 r] w (RetStrs w (nameN t.us t.bs t.ns r)) := fun h0 v w h => IH.out r d3 (Nat.one_le_iff_ne_zero.2 h0) v w h
      replace IHq := Lib.hid IHq
      replace IHr := Lib.hid IHr
      generalize nameN t.us t.bs t.ns q = qs at *
      generalize nameN t.us t.bs t.ns r = rs at *
      clear IH
      go_upto_region 7 with (fail)
      have hA := (Below.refl w1.heap.size w1).alloc (Nat.le_refl _) (.cells #[] 9)
      have own6 := owns_empty (Blk.new w1 9 #[]) hB.out.size
      have hs17 : w1.heap.size < (w1.alloc (.cells #[] 9)).heap.size := by simp
      replace hB := Lib.hid (hB.out.trans (hA.mono hB.out.size))
      replace HX := Lib.hid (HX.out.below hA HX.out.lt)
      replace HT := Lib.hid (HT.out.below hA (Nat.le_refl _))
      replace ck2 := (hA.cell (p := ⟨b2, o2 + k, none⟩) hb2).trans ck2
      replace ck3 := (hA.cell (p := ⟨b3, o3 + (k - 1), none⟩) hb3).trans ck3
      replace hb2 : b2 < (w1.alloc (.cells #[] 9)).heap.size := Nat.lt_of_lt_of_le hb2 hA.size
      replace hb3 : b3 < (w1.alloc (.cells #[] 9)).heap.size := Nat.lt_of_lt_of_le hb3 hA.size
      replace own6 := Lib.hid own6
      clear hA x0 x1 x2
      generalize w1.alloc (.cells #[] 9) = W7 at *
      obtain ⟨x0, x1, x2, -, -, -⟩ := blk3 HX.out
      have q0 : (0 : Int) ≤ (n : Int) / (b : Int) := by rw [e1.out]; omega
      have q1 : (n : Int) / (b : Int) ≤ 99999 := by rw [e1.out]; omega
      go_upto_region 8 with (fail)
      rw [e1.out]
      clear q0 q1
      by_cases hov : b ≤ q
      · have hov' : (b : Int) ≤ (q : Int) := by omega
        have hno := Lib.hid (N1.out hov)
        go_wp2
        go_ret
        rw [nameT, hno.out]
        exact ret_none hB.out
      · have hov' : ¬ (b : Int) ≤ (q : Int) := by omega
        by_cases h1 : 1 < q
        · have h1' : (1 : Int) < (q : Int) := by omega
          have K6 := Lib.hid (IHq.out _ W7 HT.out)
          go_wp2_with (fail)
          refine K6.out.mono ?_
          rintro e W2 ⟨v6, rfl, o6, b6⟩
          obtain ⟨A6, c6, rfl, -⟩ := o6.strs
          by_cases hqs : qs = []
          · have hl0 : qs.length = 0 := by rw [hqs]; rfl
            have o6' : OwnStrs W2 w.heap.size (.slice A6 0 c6) [] := by
              have := o6.mono hB.out.size
              rw [hqs] at this
              exact this
            have hno := Lib.hid (N2.out h1 hqs)
            have hB6 := Lib.hid (hB.out.trans (b6.mono hB.out.size))
            rw [hl0]
            replace o6' := Lib.hid o6'
            replace hqs := Lib.hid hqs
            clear o6 b6 hl0
            go_wp2
            go_ret
            rw [nameT, hno.out]
            exact ⟨_, rfl, o6'.out, hB6.out⟩
          · have hl0 : qs.length ≠ 0 := fun h => hqs (List.eq_nil_of_length_eq_zero h)
            have hl0' : ((qs.length : Int) == 0) = false := by rw [beq_eq_false_iff_ne]; omega
            obtain ⟨hd, hhd⟩ : ∃ hd, hd = qs := ⟨_, rfl⟩
            have hNN : (r ≠ 0 → rs ≠ []) → nameN t.us t.bs t.ns n = hd ++ [nm] ++ (if r = 0 then [] else rs) := fun h => by
              have := N4.out (by omega) (fun _ => hqs) h
              rw [if_pos h1] at this
              rw [this, hhd]
            have hdl : hd.length ≤ 99999 := by rw [hhd]; have := L1.out; omega
            have own6 := Lib.hid (o6.mono hB.out.size)
            have hB2 := Lib.hid (hB.out.trans (b6.mono hB.out.size))
            have HX2 := Lib.hid (HX.out.below b6 HX.out.lt)
            have HT2 := Lib.hid (HT.out.below b6 (Nat.le_refl _))
            replace ck2 := (b6.cell (p := ⟨b2, o2 + k, none⟩) hb2).trans ck2
            replace ck3 := (b6.cell (p := ⟨b3, o3 + (k - 1), none⟩) hb3).trans ck3
            replace hb2 : b2 < W2.heap.size := Nat.lt_of_lt_of_le hb2 b6.size
            replace hb3 : b3 < W2.heap.size := Nat.lt_of_lt_of_le hb3 b6.size
            have hw2 := Lib.hid hB2.out.size
            rw [← hhd] at own6 hl0' ⊢
            replace hNN := Lib.hid hNN
            replace hqs := Lib.hid hqs
            replace hhd := Lib.hid hhd
            clear o6 b6 hl0 x0 x1 x2 hB HX HT
            obtain ⟨_, _, ev6, s6⟩ := own6.out.strs
            cases ev6
            have HX2c := blk3 HX2.out
            obtain ⟨x0, x1, x2, -, -, -⟩ := HX2c
            have hXlt := HX2.out.lt
            have HSrc := Lib.hid (fun W' (hb : Below W2.heap.size W2 W') => (s6.below hb (Nat.le_refl _)).src)
            have hXk := Lib.hid (fun W' (hb : Below W2.heap.size W2 W') => blk3 (HX2.out.below hb HX2.out.lt))
            have hnk := Lib.hid (fun W' (hb : Below W2.heap.size W2 W') => (hb.cell (p := ⟨b3, o3 + (k - 1), none⟩) hb3).trans ck3)
            have k1 := Lib.hid (show 0 + hd.length ≤ maxLen by unfold maxLen; omega)
            have k2 := Lib.hid (show (0 + hd.length) * 16 ≤ 140737488355328 by omega)
            have k3 := Lib.hid (show 0 + hd.length + 1 ≤ maxLen by unfold maxLen; omega)
            have k4 := Lib.hid (show (0 + hd.length + 1) * 16 ≤ 140737488355328 by omega)
            have ck3' := ck3
            clear s6 ck3
            have kk1 : (0 : Int) ≤ (k : Int) - 1 := by omega
            have kk2 : (k : Int) - 1 < (t.ns.length : Int) := by omega
            have kk3 : ((k : Int) - 1).toNat = k - 1 := by omega
            have kk4 : IntKind.i64.wrap ((k : Int) - 1) = (k : Int) - 1 := IntWalk.i64_in _ (by omega)
            have kk5 : (1 : Int) ≤ (k : Int) := by omega
            have bA := Lib.hid (((Below.refl W2.heap.size W2).alloc (Nat.le_refl _) (.cells #[] 9)).drew)
            have bB := Lib.hid ((((Below.refl W2.heap.size W2).alloc (Nat.le_refl _) (.cells #[] 9)).alloc (by simp) (.cells #[.string nm] 9)).drew)
            have bC := Lib.hid ((((Below.refl W2.heap.size W2).alloc (Nat.le_refl _) (.cells #[.string nm] 9)).alloc (by simp) (.cells #[] 9)).drew)
            have bk0 : Blk (W2.alloc (.cells #[] 9)) W2.heap.size 9 #[] := Blk.new _ _ _
            have bk1 : Blk (W2.alloc (.cells #[.string nm] 9)) W2.heap.size 9 #[.string nm] := Blk.new _ _ _
            have bkB := Lib.hid ((blk_new_at (w := W2.alloc (.cells #[] 9)) (t := 9) (cs := #[.string nm]) (W2.heap.size + 1) (by simp)).drew)
            have bkC := Lib.hid ((bk1.alloc (.cells #[] 9)).drew)
            have oA := Lib.hid (owns_empty (B := W2.heap.size) bk0.drew (Nat.le_refl _))
            have oB := Lib.hid (owns_empty (B := W2.heap.size) (bk0.alloc (.cells #[.string nm] 9)).drew (Nat.le_refl _))
            have oC := Lib.hid (owns_empty (B := W2.heap.size) ((blk_new_at (w := W2.alloc (.cells #[.string nm] 9)) (t := 9) (cs := #[]) (W2.heap.size + 1) (by simp)).drew) (by omega))
            clear bk0 bk1
            go_upto_region 14 with (fail)
            go_region_held3 (fun w' => (w'.cell? ⟨w.heap.size, 0, none⟩ = some (.slice A1 t.us.length c1) ∧ w'.cell? ⟨w.heap.size, 1, none⟩ = some (.slice (some ⟨b2, o2, none⟩) t.bs.length c2) ∧ w'.cell? ⟨w.heap.size, 2, none⟩ = some (.slice (some ⟨b3, o3, none⟩) t.ns.length c3)) ∧ w'.cell? ⟨b3, o3 + (k - 1), none⟩ = some (.string nm))
              (first | go_keep | exact hS5 | exact hS6)
              (first
                | (refine step_app _ (by rfl) (.tmp 53) (.tmp 54) _ (by rfl) W2.heap.size 9 i0 _ 16 Tryd.underlying23 hi hz0 hz1 hz2 rfl (.slice (some ⟨W2.heap.size, 0, none⟩) 0 0) 0 [] (by rfl) oA.out A6 _ c6 _ (by rfl) (HSrc.out _ bA.out) k1.out k2.out bA.out.size ?_; intro v5 w5 ho5 hg5 _; have hB5 := below_own (w := W2) (S := W2.heap.size) bA.out oA.out hg5 bA.out.size (Nat.le_refl _); have hk5 : True := trivial; obtain ⟨x0', x1', x2', -, -, -⟩ := hXk.out _ hB5; have hS5 := And.intro (And.intro x0' (And.intro x1' x2')) (hnk.out _ hB5); replace ho5 := Lib.hid ho5; replace hB5 := Lib.hid hB5; replace hk5 := Lib.hid hk5; clear hg5)
                | (refine step_app _ (by rfl) (.tmp 53) (.tmp 54) _ (by rfl) W2.heap.size 9 i0 _ 16 Tryd.underlying23 hi hz0 hz1 hz2 rfl (.slice (some ⟨W2.heap.size, 0, none⟩) 0 0) 0 [] (by rfl) oB.out A6 _ c6 _ (by rfl) (HSrc.out _ bB.out) k1.out k2.out bB.out.size ?_; intro v5 w5 ho5 hg5 _; have hB5 := below_own (w := W2) (S := W2.heap.size) bB.out oB.out hg5 bB.out.size (Nat.le_refl _); have hk5 : Blk w5 (W2.heap.size + 1) 9 #[.string nm] := bkB.out.grown hg5 (by simp [Value.ownBlock]); obtain ⟨x0', x1', x2', -, -, -⟩ := hXk.out _ hB5; have hS5 := And.intro (And.intro x0' (And.intro x1' x2')) (hnk.out _ hB5); replace ho5 := Lib.hid ho5; replace hB5 := Lib.hid hB5; replace hk5 := Lib.hid hk5; clear hg5)
                | (refine step_app _ (by rfl) (.tmp 53) (.tmp 54) _ (by rfl) W2.heap.size 9 i0 _ 16 Tryd.underlying23 hi hz0 hz1 hz2 rfl (.slice (some ⟨W2.heap.size + 1, 0, none⟩) 0 0) 0 [] (by rfl) oC.out A6 _ c6 _ (by rfl) (HSrc.out _ bC.out) k1.out k2.out bC.out.size ?_; intro v5 w5 ho5 hg5 _; have hB5 := below_own (w := W2) (S := W2.heap.size) bC.out oC.out hg5 bC.out.size (Nat.le_refl _); have hk5 : Blk w5 W2.heap.size 9 #[.string nm] := bkC.out.grown hg5 (by simp [Value.ownBlock]); obtain ⟨x0', x1', x2', -, -, -⟩ := hXk.out _ hB5; have hS5 := And.intro (And.intro x0' (And.intro x1' x2')) (hnk.out _ hB5); replace ho5 := Lib.hid ho5; replace hB5 := Lib.hid hB5; replace hk5 := Lib.hid hk5; clear hg5)
                | (refine step_app _ (by rfl) (.tmp 55) (.tmp 62) _ (by rfl) W2.heap.size 9 i0 _ 16 Tryd.underlying23 hi hz0 hz1 hz2 rfl v5 _ _ (by rfl) (World.ownsRow.alloc ho5.out _) (some ⟨w5.heap.size, 0, none⟩) 1 1 [.string nm] (by rfl) (Src.one (Blk.new _ _ _) rfl) k3.out k4.out (by have := hB5.out.size; simp; omega) ?_; intro v6 w6 ho6 hg6 _; have hB6 := below_own (w := W2) (S := W2.heap.size) (hB5.out.alloc hB5.out.size _) (World.ownsRow.alloc ho5.out _) hg6 (by have := hB5.out.size; simp; omega) (Nat.le_refl _); obtain ⟨x0', x1', x2', -, -, -⟩ := hXk.out _ hB6; have hS6 := And.intro (And.intro x0' (And.intro x1' x2')) (hnk.out _ hB6); replace ho6 := Lib.hid ho6; replace hB6 := Lib.hid hB6; clear hg6)
                | (refine step_app _ (by rfl) (.tmp 55) (.tmp 62) _ (by rfl) W2.heap.size 9 i0 _ 16 Tryd.underlying23 hi hz0 hz1 hz2 rfl v5 _ _ (by rfl) ho5.out _ 1 1 [.string nm] (by rfl) (Src.one hk5.out rfl) k3.out k4.out hB5.out.size ?_; intro v6 w6 ho6 hg6 _; have hB6 := below_own (w := W2) (S := W2.heap.size) hB5.out ho5.out hg6 hB5.out.size (Nat.le_refl _); obtain ⟨x0', x1', x2', -, -, -⟩ := hXk.out _ hB6; have hS6 := And.intro (And.intro x0' (And.intro x1' x2')) (hnk.out _ hB6); replace ho6 := Lib.hid ho6; replace hB6 := Lib.hid hB6; clear hg6))
            all_goals
              have ho7 : OwnStrs w6 W2.heap.size v6 (hd ++ [nm]) := by
                have := ho6.out
                unfold OwnStrs
                simpa using this
              have hl7 : (hd ++ [nm]).length = hd.length + 1 := by simp
              have hNN7 := hNN.out
              generalize hd ++ [nm] = hm at *
              obtain ⟨A7, c7, rfl, -⟩ := ho7.strs
              have hB7 := Lib.hid (hB2.out.trans (hB6.out.mono hB2.out.size))
              have HX7 := HX2.out.below hB6.out HX2.out.lt
              have HT7 := Lib.hid (HT2.out.below hB6.out (Nat.le_refl _))
              have ck7 := (hB6.out.cell (p := ⟨b2, o2 + k, none⟩) hb2).trans ck2
              have hs26 := Lib.hid hB6.out.size
              obtain ⟨x0, x1, x2, -, -, -⟩ := blk3 HX7
              clear kk1 kk2 kk3 kk4 kk5
              replace hl7 := Lib.hid hl7
              replace hNN7 := Lib.hid hNN7
              clear hNN
              replace ho7 := Lib.hid ho7
              clear bA bB bC bkB bkC oA oB oC hS5 hS6 ho5 ho6 hB5 hk5 hB6 HX7 HX2 HT2 hB2 HSrc hXk hnk k1 k2 k3 k4 ck3' x0' x1' x2'
              have q0 : (0 : Int) ≤ (n : Int) % (b : Int) := by rw [e2.out]; omega
              have q1 : (n : Int) % (b : Int) ≤ 99999 := by rw [e2.out]; omega
              go_upto_region 16 with (fail)
              rw [e2.out]
              clear q0 q1
              by_cases hr0 : r = 0
              · have hr0' : ((r : Int) == 0) = true := by rw [beq_iff_eq]; omega
                have hNN' := hNN7.out (fun h => absurd hr0 h)
                rw [if_pos hr0, List.append_nil] at hNN'
                replace hNN' := Lib.hid hNN'
                go_wp2
                go_ret
                rw [nameT, hNN'.out]
                exact ⟨_, rfl, ho7.out.mono hw2.out, hB7.out⟩
              · have hr0' : ((r : Int) == 0) = false := by rw [beq_eq_false_iff_ne]; omega
                have K9 := Lib.hid (IHr.out hr0 _ w6 HT7.out)
                have L2' := L2.out hr0
                go_wp2_with (fail)
                refine K9.out.mono ?_
                rintro e w9 ⟨v9, rfl, o9, b9⟩
                obtain ⟨A9, c9, rfl, s9⟩ := o9.strs
                have ho9 := Lib.hid (ho7.out.below b9 (Nat.le_refl _))
                have hB9 := Lib.hid (hB7.out.trans (b9.mono hB7.out.size))
                have hs69 := b9.size
                by_cases hrs : rs = []
                · have hl0 : rs.length = 0 := by rw [hrs]; rfl
                  have o9' : OwnStrs w9 w.heap.size (.slice A9 0 c9) [] := by
                    have := o9.mono hB7.out.size
                    rw [hrs] at this
                    exact this
                  have hno := Lib.hid (N3.out hr0 hrs)
                  rw [hl0]
                  replace o9' := Lib.hid o9'
                  replace hrs := Lib.hid hrs
                  clear o9 s9 ho9 ho7 hl0 b9
                  go_wp2
                  go_ret
                  rw [nameT, hno.out]
                  exact ⟨_, rfl, o9'.out, hB9.out⟩
                · have hl0 : rs.length ≠ 0 := fun h => hrs (List.eq_nil_of_length_eq_zero h)
                  have hl0' : ((rs.length : Int) == 0) = false := by rw [beq_eq_false_iff_ne]; omega
                  have hNN' := hNN7.out (fun _ => hrs)
                  rw [if_neg hr0] at hNN'
                  replace hNN' := Lib.hid hNN'
                  have hs9 := Lib.hid s9.src
                  have m1 := Lib.hid (show hm.length + rs.length ≤ maxLen by rw [hl7.out]; unfold maxLen; omega)
                  have m2 := Lib.hid (show (hm.length + rs.length) * 16 ≤ 140737488355328 by rw [hl7.out]; omega)
                  have m3 := Lib.hid (show W2.heap.size ≤ w9.heap.size by have := hs26.out; omega)
                  replace hrs := Lib.hid hrs
                  clear o9 s9 ho7 b9
                  go_wp2_with (at_builtin; refine wpList_app _ rfl (.tmp 81) (.tmp 82) _ rfl W2.heap.size 9 i0 _ 16 Tryd.underlying23 hi hz0 hz1 hz2 rfl (.slice A7 hm.length c7) _ _ rfl ho9.out A9 rs.length c9 _ rfl hs9.out m1.out m2.out m3.out ?_; intro v10 w10 ho10 hg10 _)
                  have hB10 := Lib.hid (below_own hB9.out ho9.out hg10 hB9.out.size hw2.out)
                  have ho11 : OwnStrs w10 W2.heap.size v10 (hm ++ rs) := by
                    unfold OwnStrs
                    simpa using ho10
                  obtain ⟨A10, c10, rfl, -⟩ := ho11.strs
                  replace ho11 := Lib.hid ho11
                  clear hg10 ho10
                  go_wp2
                  go_ret
                  rw [nameT, hNN'.out]
                  exact ⟨_, rfl, ho11.out.mono hw2.out, hB10.out⟩
        · have h1' : ¬ (1 : Int) < (q : Int) := by omega
          obtain ⟨hd, hhd⟩ : ∃ hd : List ByteArray, hd = [] := ⟨_, rfl⟩
          have hd0 : hd.length = 0 := by rw [hhd]; rfl
          have hdl : hd.length ≤ 99999 := by omega
          have e6 : Value.slice (some ⟨w1.heap.size, 0, none⟩) 0 0 = Value.slice (some ⟨w1.heap.size, 0, none⟩) hd.length 0 := by rw [hd0]
          replace own6 : Hid (OwnStrs W7 w.heap.size (.slice (some ⟨w1.heap.size, 0, none⟩) hd.length 0) hd) := Lib.hid (by rw [hhd]; exact own6.out)
          have hNN : (r ≠ 0 → rs ≠ []) → nameN t.us t.bs t.ns n = hd ++ [nm] ++ (if r = 0 then [] else rs) := fun h => by
            have := N4.out (by omega) (fun h => absurd h h1) h
            rw [if_neg h1] at this
            rw [this, hhd]
          rw [e6]
          have hB2 := hB
          have HX2 := HX
          have HT2 := HT
          have hw2 := Lib.hid hB2.out.size
          replace hNN := Lib.hid hNN
          replace hhd := Lib.hid hhd
          clear e6 hd0 x0 x1 x2 hB HX HT
          obtain ⟨_, _, ev6, s6⟩ := own6.out.strs
          cases ev6
          have HX2c := blk3 HX2.out
          obtain ⟨x0, x1, x2, -, -, -⟩ := HX2c
          have hXlt := HX2.out.lt
          have HSrc := Lib.hid (fun W' (hb : Below W7.heap.size W7 W') => (s6.below hb (Nat.le_refl _)).src)
          have hXk := Lib.hid (fun W' (hb : Below W7.heap.size W7 W') => blk3 (HX2.out.below hb HX2.out.lt))
          have hnk := Lib.hid (fun W' (hb : Below W7.heap.size W7 W') => (hb.cell (p := ⟨b3, o3 + (k - 1), none⟩) hb3).trans ck3)
          have k1 := Lib.hid (show 0 + hd.length ≤ maxLen by unfold maxLen; omega)
          have k2 := Lib.hid (show (0 + hd.length) * 16 ≤ 140737488355328 by omega)
          have k3 := Lib.hid (show 0 + hd.length + 1 ≤ maxLen by unfold maxLen; omega)
          have k4 := Lib.hid (show (0 + hd.length + 1) * 16 ≤ 140737488355328 by omega)
          have ck3' := ck3
          clear s6 ck3
          have kk1 : (0 : Int) ≤ (k : Int) - 1 := by omega
          have kk2 : (k : Int) - 1 < (t.ns.length : Int) := by omega
          have kk3 : ((k : Int) - 1).toNat = k - 1 := by omega
          have kk4 : IntKind.i64.wrap ((k : Int) - 1) = (k : Int) - 1 := IntWalk.i64_in _ (by omega)
          have kk5 : (1 : Int) ≤ (k : Int) := by omega
          have bA := Lib.hid (((Below.refl W7.heap.size W7).alloc (Nat.le_refl _) (.cells #[] 9)).drew)
          have bB := Lib.hid ((((Below.refl W7.heap.size W7).alloc (Nat.le_refl _) (.cells #[] 9)).alloc (by simp) (.cells #[.string nm] 9)).drew)
          have bC := Lib.hid ((((Below.refl W7.heap.size W7).alloc (Nat.le_refl _) (.cells #[.string nm] 9)).alloc (by simp) (.cells #[] 9)).drew)
          have bk0 : Blk (W7.alloc (.cells #[] 9)) W7.heap.size 9 #[] := Blk.new _ _ _
          have bk1 : Blk (W7.alloc (.cells #[.string nm] 9)) W7.heap.size 9 #[.string nm] := Blk.new _ _ _
          have bkB := Lib.hid ((blk_new_at (w := W7.alloc (.cells #[] 9)) (t := 9) (cs := #[.string nm]) (W7.heap.size + 1) (by simp)).drew)
          have bkC := Lib.hid ((bk1.alloc (.cells #[] 9)).drew)
          have oA := Lib.hid (owns_empty (B := W7.heap.size) bk0.drew (Nat.le_refl _))
          have oB := Lib.hid (owns_empty (B := W7.heap.size) (bk0.alloc (.cells #[.string nm] 9)).drew (Nat.le_refl _))
          have oC := Lib.hid (owns_empty (B := W7.heap.size) ((blk_new_at (w := W7.alloc (.cells #[.string nm] 9)) (t := 9) (cs := #[]) (W7.heap.size + 1) (by simp)).drew) (by omega))
          clear bk0 bk1
          go_upto_region 14 with (fail)
          go_region_held3 (fun w' => (w'.cell? ⟨w.heap.size, 0, none⟩ = some (.slice A1 t.us.length c1) ∧ w'.cell? ⟨w.heap.size, 1, none⟩ = some (.slice (some ⟨b2, o2, none⟩) t.bs.length c2) ∧ w'.cell? ⟨w.heap.size, 2, none⟩ = some (.slice (some ⟨b3, o3, none⟩) t.ns.length c3)) ∧ w'.cell? ⟨b3, o3 + (k - 1), none⟩ = some (.string nm))
            (first | go_keep | exact hS5 | exact hS6)
            (first
              | (refine step_app _ (by rfl) (.tmp 53) (.tmp 54) _ (by rfl) W7.heap.size 9 i0 _ 16 Tryd.underlying23 hi hz0 hz1 hz2 rfl (.slice (some ⟨W7.heap.size, 0, none⟩) 0 0) 0 [] (by rfl) oA.out (some ⟨w1.heap.size, 0, none⟩) _ 0 _ (by rfl) (HSrc.out _ bA.out) k1.out k2.out bA.out.size ?_; intro v5 w5 ho5 hg5 _; have hB5 := below_own (w := W7) (S := W7.heap.size) bA.out oA.out hg5 bA.out.size (Nat.le_refl _); have hk5 : True := trivial; obtain ⟨x0', x1', x2', -, -, -⟩ := hXk.out _ hB5; have hS5 := And.intro (And.intro x0' (And.intro x1' x2')) (hnk.out _ hB5); replace ho5 := Lib.hid ho5; replace hB5 := Lib.hid hB5; replace hk5 := Lib.hid hk5; clear hg5)
              | (refine step_app _ (by rfl) (.tmp 53) (.tmp 54) _ (by rfl) W7.heap.size 9 i0 _ 16 Tryd.underlying23 hi hz0 hz1 hz2 rfl (.slice (some ⟨W7.heap.size, 0, none⟩) 0 0) 0 [] (by rfl) oB.out (some ⟨w1.heap.size, 0, none⟩) _ 0 _ (by rfl) (HSrc.out _ bB.out) k1.out k2.out bB.out.size ?_; intro v5 w5 ho5 hg5 _; have hB5 := below_own (w := W7) (S := W7.heap.size) bB.out oB.out hg5 bB.out.size (Nat.le_refl _); have hk5 : Blk w5 (W7.heap.size + 1) 9 #[.string nm] := bkB.out.grown hg5 (by simp [Value.ownBlock]); obtain ⟨x0', x1', x2', -, -, -⟩ := hXk.out _ hB5; have hS5 := And.intro (And.intro x0' (And.intro x1' x2')) (hnk.out _ hB5); replace ho5 := Lib.hid ho5; replace hB5 := Lib.hid hB5; replace hk5 := Lib.hid hk5; clear hg5)
              | (refine step_app _ (by rfl) (.tmp 53) (.tmp 54) _ (by rfl) W7.heap.size 9 i0 _ 16 Tryd.underlying23 hi hz0 hz1 hz2 rfl (.slice (some ⟨W7.heap.size + 1, 0, none⟩) 0 0) 0 [] (by rfl) oC.out (some ⟨w1.heap.size, 0, none⟩) _ 0 _ (by rfl) (HSrc.out _ bC.out) k1.out k2.out bC.out.size ?_; intro v5 w5 ho5 hg5 _; have hB5 := below_own (w := W7) (S := W7.heap.size) bC.out oC.out hg5 bC.out.size (Nat.le_refl _); have hk5 : Blk w5 W7.heap.size 9 #[.string nm] := bkC.out.grown hg5 (by simp [Value.ownBlock]); obtain ⟨x0', x1', x2', -, -, -⟩ := hXk.out _ hB5; have hS5 := And.intro (And.intro x0' (And.intro x1' x2')) (hnk.out _ hB5); replace ho5 := Lib.hid ho5; replace hB5 := Lib.hid hB5; replace hk5 := Lib.hid hk5; clear hg5)
              | (refine step_app _ (by rfl) (.tmp 55) (.tmp 62) _ (by rfl) W7.heap.size 9 i0 _ 16 Tryd.underlying23 hi hz0 hz1 hz2 rfl v5 _ _ (by rfl) (World.ownsRow.alloc ho5.out _) (some ⟨w5.heap.size, 0, none⟩) 1 1 [.string nm] (by rfl) (Src.one (Blk.new _ _ _) rfl) k3.out k4.out (by have := hB5.out.size; simp; omega) ?_; intro v6 w6 ho6 hg6 _; have hB6 := below_own (w := W7) (S := W7.heap.size) (hB5.out.alloc hB5.out.size _) (World.ownsRow.alloc ho5.out _) hg6 (by have := hB5.out.size; simp; omega) (Nat.le_refl _); obtain ⟨x0', x1', x2', -, -, -⟩ := hXk.out _ hB6; have hS6 := And.intro (And.intro x0' (And.intro x1' x2')) (hnk.out _ hB6); replace ho6 := Lib.hid ho6; replace hB6 := Lib.hid hB6; clear hg6)
              | (refine step_app _ (by rfl) (.tmp 55) (.tmp 62) _ (by rfl) W7.heap.size 9 i0 _ 16 Tryd.underlying23 hi hz0 hz1 hz2 rfl v5 _ _ (by rfl) ho5.out _ 1 1 [.string nm] (by rfl) (Src.one hk5.out rfl) k3.out k4.out hB5.out.size ?_; intro v6 w6 ho6 hg6 _; have hB6 := below_own (w := W7) (S := W7.heap.size) hB5.out ho5.out hg6 hB5.out.size (Nat.le_refl _); obtain ⟨x0', x1', x2', -, -, -⟩ := hXk.out _ hB6; have hS6 := And.intro (And.intro x0' (And.intro x1' x2')) (hnk.out _ hB6); replace ho6 := Lib.hid ho6; replace hB6 := Lib.hid hB6; clear hg6))
          all_goals
            have ho7 : OwnStrs w6 W7.heap.size v6 (hd ++ [nm]) := by
              have := ho6.out
              unfold OwnStrs
              simpa using this
            have hl7 : (hd ++ [nm]).length = hd.length + 1 := by simp
            have hNN7 := hNN.out
            generalize hd ++ [nm] = hm at *
            obtain ⟨A7, c7, rfl, -⟩ := ho7.strs
            have hB7 := Lib.hid (hB2.out.trans (hB6.out.mono hB2.out.size))
            have HX7 := HX2.out.below hB6.out HX2.out.lt
            have HT7 := Lib.hid (HT2.out.below hB6.out (Nat.le_refl _))
            have ck7 := (hB6.out.cell (p := ⟨b2, o2 + k, none⟩) hb2).trans ck2
            have hs26 := Lib.hid hB6.out.size
            obtain ⟨x0, x1, x2, -, -, -⟩ := blk3 HX7
            clear kk1 kk2 kk3 kk4 kk5
            replace hl7 := Lib.hid hl7
            replace hNN7 := Lib.hid hNN7
            clear hNN
            replace ho7 := Lib.hid ho7
            clear bA bB bC bkB bkC oA oB oC hS5 hS6 ho5 ho6 hB5 hk5 hB6 HX7 HX2 HT2 hB2 HSrc hXk hnk k1 k2 k3 k4 ck3' x0' x1' x2'
            have q0 : (0 : Int) ≤ (n : Int) % (b : Int) := by rw [e2.out]; omega
            have q1 : (n : Int) % (b : Int) ≤ 99999 := by rw [e2.out]; omega
            go_upto_region 16 with (fail)
            rw [e2.out]
            clear q0 q1
            by_cases hr0 : r = 0
            · have hr0' : ((r : Int) == 0) = true := by rw [beq_iff_eq]; omega
              have hNN' := hNN7.out (fun h => absurd hr0 h)
              rw [if_pos hr0, List.append_nil] at hNN'
              replace hNN' := Lib.hid hNN'
              go_wp2
              go_ret
              rw [nameT, hNN'.out]
              exact ⟨_, rfl, ho7.out.mono hw2.out, hB7.out⟩
            · have hr0' : ((r : Int) == 0) = false := by rw [beq_eq_false_iff_ne]; omega
              have K9 := Lib.hid (IHr.out hr0 _ w6 HT7.out)
              have L2' := L2.out hr0
              go_wp2_with (fail)
              refine K9.out.mono ?_
              rintro e w9 ⟨v9, rfl, o9, b9⟩
              obtain ⟨A9, c9, rfl, s9⟩ := o9.strs
              have ho9 := Lib.hid (ho7.out.below b9 (Nat.le_refl _))
              have hB9 := Lib.hid (hB7.out.trans (b9.mono hB7.out.size))
              have hs69 := b9.size
              by_cases hrs : rs = []
              · have hl0 : rs.length = 0 := by rw [hrs]; rfl
                have o9' : OwnStrs w9 w.heap.size (.slice A9 0 c9) [] := by
                  have := o9.mono hB7.out.size
                  rw [hrs] at this
                  exact this
                have hno := Lib.hid (N3.out hr0 hrs)
                rw [hl0]
                replace o9' := Lib.hid o9'
                replace hrs := Lib.hid hrs
                clear o9 s9 ho9 ho7 hl0 b9
                go_wp2
                go_ret
                rw [nameT, hno.out]
                exact ⟨_, rfl, o9'.out, hB9.out⟩
              · have hl0 : rs.length ≠ 0 := fun h => hrs (List.eq_nil_of_length_eq_zero h)
                have hl0' : ((rs.length : Int) == 0) = false := by rw [beq_eq_false_iff_ne]; omega
                have hNN' := hNN7.out (fun _ => hrs)
                rw [if_neg hr0] at hNN'
                replace hNN' := Lib.hid hNN'
                have hs9 := Lib.hid s9.src
                have m1 := Lib.hid (show hm.length + rs.length ≤ maxLen by rw [hl7.out]; unfold maxLen; omega)
                have m2 := Lib.hid (show (hm.length + rs.length) * 16 ≤ 140737488355328 by rw [hl7.out]; omega)
                have m3 := Lib.hid (show W7.heap.size ≤ w9.heap.size by have := hs26.out; omega)
                replace hrs := Lib.hid hrs
                clear o9 s9 ho7 b9
                go_wp2_with (at_builtin; refine wpList_app _ rfl (.tmp 81) (.tmp 82) _ rfl W7.heap.size 9 i0 _ 16 Tryd.underlying23 hi hz0 hz1 hz2 rfl (.slice A7 hm.length c7) _ _ rfl ho9.out A9 rs.length c9 _ rfl hs9.out m1.out m2.out m3.out ?_; intro v10 w10 ho10 hg10 _)
                have hB10 := Lib.hid (below_own hB9.out ho9.out hg10 hB9.out.size hw2.out)
                have ho11 : OwnStrs w10 W7.heap.size v10 (hm ++ rs) := by
                  unfold OwnStrs
                  simpa using ho10
                obtain ⟨A10, c10, rfl, -⟩ := ho11.strs
                replace ho11 := Lib.hid ho11
                clear hg10 ho10
                go_wp2
                go_ret
                rw [nameT, hNN'.out]
                exact ⟨_, rfl, ho11.out.mono hw2.out, hB10.out⟩
end Go.Proofs.YteemgkabhkdeaaaDoor
