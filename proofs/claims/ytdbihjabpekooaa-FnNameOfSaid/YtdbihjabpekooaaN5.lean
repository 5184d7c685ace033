/-
  Contracts of LongOf and TextOf of the model.
-/
import Derived.Test.YtdbihjabpekooaaN4
namespace Go.Proofs.Ytdbihjabpekooaa
open Go.RowKit

set_option maxRecDepth 100000 in
set_option maxHeartbeats 4000000 in
theorem specLong_any {t : Tg} (hok : t.ok = true) : ∀ n : Nat, 1 ≤ n → n ≤ 99999 → nameT t n ≠ [] → ∀ (v : Value) (w : World), Tng w v t →
    Calls Try.prog 49 #[v, .int .i64 n] w fun e w' => e = .returned (.int .i64 (nameT t n).length) ∧ Below w.heap.size w w' := by
  intro n
  induction n using Nat.strongRecOn with
  | _ n ih =>
    intro hn1 hn2 hne v w h
    have hsh := ok_shape hok
    have hul := hsh.us
    have hbs := hsh.bs
    have hbl := bases_len hbs
    have IH := Lib.hid (fun m (h1 : m < n) (h2 : 1 ≤ m) => ih m h1 h2 (by omega))
    have HL := Lib.hid (name_len t.us t.bs t.ns hbs)
    obtain ⟨A1, c1, A2, c2, A3, c3, rfl, -⟩ := h.ex
    have hB := (Below.refl w.heap.size w).alloc (Nat.le_refl _) (.cells #[.slice A1 t.us.length c1, .slice A2 t.bs.length c2, .slice A3 t.ns.length c3] 26)
    have HX := Blk.new w 26 #[.slice A1 t.us.length c1, .slice A2 t.bs.length c2, .slice A3 t.ns.length c3]
    have HT := h.below hB (Nat.le_refl _)
    have K1 := Lib.hid (specTop_any _ t n _ HT (by omega) (by omega))
    replace hB := Lib.hid hB
    replace HX := Lib.hid HX
    replace HT := Lib.hid HT
    replace hbs := Lib.hid hbs
    clear ih h hsh
    go_enter Try.func49, Try.ntmps49
    go_upto_region 1 with (fail)
    generalize w.alloc (.cells #[.slice A1 t.us.length c1, .slice A2 t.bs.length c2, .slice A3 t.ns.length c3] 26) = W at *
    obtain ⟨x0, x1, x2, -, -, -⟩ := blk3 HX.out
    go_wp2_with (fail)
    refine K1.out.mono ?_
    rintro e w1 ⟨rfl, b1⟩
    replace hB := Lib.hid (hB.out.trans (b1.mono hB.out.size))
    replace HX := Lib.hid (HX.out.below b1 HX.out.lt)
    replace HT := Lib.hid (HT.out.below b1 (Nat.le_refl _))
    clear b1 x0 x1 x2 K1
    obtain ⟨x0, x1, x2, -, -, -⟩ := blk3 HX.out
    by_cases ht : topOf t.bs n = 0
    · have hN := name_unit (us := t.us) (ns := t.ns) ht
      have hl1 : (nameT t n).length = 1 := by
        unfold nameT at hne ⊢
        rw [hN] at hne ⊢
        split
        · rename_i h; rw [if_pos h] at hne; exact absurd rfl hne
        · rfl
      rw [ht]
      replace ht := Lib.hid ht
      replace hne := Lib.hid hne
      replace hl1 := Lib.hid hl1
      clear hN
      go_wp2
      go_ret
      exact ⟨ret_int (by rw [hl1.out]; rfl), hB.out⟩
    · obtain ⟨f1, f2, f3, f4, f5⟩ := base_facts hbs.out ht
      obtain ⟨g1, g2, g3⟩ := name_some (us := t.us) (ns := t.ns) hbs.out ht hne
      have N4 := name_parts (us := t.us) (ns := t.ns) hbs.out ht g1 g2 g3
      obtain ⟨d1, d2, d3, d4⟩ := div_pos' f1 f2
      have L1 := HL.out _ d1
      have L2 : n % baseN t.bs n ≠ 0 → (nameN t.us t.bs t.ns (n % baseN t.bs n)).length ≤ n := fun h0 => by have := HL.out _ (Nat.one_le_iff_ne_zero.2 h0); omega
      have e1 : (n : Int) / (baseN t.bs n : Int) = ((n / baseN t.bs n : Nat) : Int) := rfl
      have e2 : (n : Int) % (baseN t.bs n : Int) = ((n % baseN t.bs n : Nat) : Int) := rfl
      obtain ⟨_, _, _, _, _, _, ev, -, I2, -⟩ := HT.out.ex
      cases ev
      obtain ⟨b2, o2, rfl, hb2, hc2⟩ := I2.at_ (by omega)
      have ck2 := hc2 _ f4
      rw [← f3] at ck2
      have hk0 : ((topOf t.bs n : Int) == 0) = false := by rw [beq_eq_false_iff_ne]; omega
      have IHq : 1 < n / baseN t.bs n → ∀ (v : Value) (w : World), Tng w v t → Calls Try.prog 49 #[v, .int .i64 ((n / baseN t.bs n : Nat) : Int)] w fun e w' => e = .returned (.int .i64 (nameN t.us t.bs t.ns (n / baseN t.bs n)).length) ∧ Below w.heap.size w w' := fun h0 v w h => IH.out _ d2 d1 (g2 h0) v w h
      have IHr : n % baseN t.bs n ≠ 0 → ∀ (v : Value) (w : World), Tng w v t → Calls Try.prog 49 #[v, .int .i64 ((n % baseN t.bs n : Nat) : Int)] w fun e w' => e = .returned (.int .i64 (nameN t.us t.bs t.ns (n % baseN t.bs n)).length) ∧ Below w.heap.size w w' := fun h0 v w h => IH.out _ d3 (Nat.one_le_iff_ne_zero.2 h0) (g3 h0) v w h
      have NL : (nameT t n).length = (if 1 < n / baseN t.bs n then (nameN t.us t.bs t.ns (n / baseN t.bs n)).length else 0) + 1 + (if n % baseN t.bs n = 0 then 0 else (nameN t.us t.bs t.ns (n % baseN t.bs n)).length) := by
        unfold nameT
        rw [N4, List.length_append, List.length_append]
        congr 1
        · congr 1
          split <;> rfl
        · split <;> rfl
      have hbn : baseN t.bs n ≤ 99999 := by omega
      replace f3 := Lib.hid f3
      clear hc2 I2 g1 g2 g3 N4 HL IH
      generalize hq : n / baseN t.bs n = q at *
      generalize hr : n % baseN t.bs n = r at *
      generalize baseN t.bs n = b at *
      generalize topOf t.bs n = k at *
      generalize (nameN t.us t.bs t.ns q).length = lq at *
      generalize (nameN t.us t.bs t.ns r).length = lr at *
      have q0 : (0 : Int) ≤ (n : Int) / (b : Int) := by rw [e1]; omega
      have q1 : (n : Int) / (b : Int) ≤ 99999 := by rw [e1]; omega
      have r0 : (0 : Int) ≤ (n : Int) % (b : Int) := by rw [e2]; omega
      have r1 : (n : Int) % (b : Int) ≤ 99999 := by rw [e2]; omega
      replace IHq := Lib.hid IHq
      replace IHr := Lib.hid IHr
      replace NL := Lib.hid NL
      replace L2 := Lib.hid L2
      replace e1 := Lib.hid e1
      replace e2 := Lib.hid e2
      replace ht := Lib.hid ht
      replace hne := Lib.hid hne
      replace hq := Lib.hid hq
      replace hr := Lib.hid hr
      go_upto_region 6 with (fail)
      rw [e1.out]
      clear q0 q1
      go_upto_if 21 with (fail)
      go_cut [7] (fun s7 wx => s7 = .int .i64 ((if 1 < q then (lq : Int) else 0) + 1) ∧ Below w1.heap.size w1 wx)
      case first =>
        by_cases h1 : 1 < q
        · have h1' : (1 : Int) < (q : Int) := by omega
          have K6 := Lib.hid (IHq.out h1 _ w1 HT.out)
          go_wp2_with (fail)
          refine K6.out.mono ?_
          rintro e w2 ⟨rfl, b2'⟩
          replace b2' := Lib.hid b2'
          go_wp2
          go_meet
          exact ⟨by rw [if_pos h1]; go_num, b2'.out⟩
        · have h1' : ¬ (1 : Int) < (q : Int) := by omega
          go_wp2
          go_meet
          exact ⟨by rw [if_neg h1]; go_num, Below.refl _ _⟩
      case rest =>
        obtain ⟨rfl, bx⟩ := hcut
        have hBc := hB.out.trans (bx.mono hB.out.size)
        have HXc := HX.out.below bx HX.out.lt
        have HTc := HT.out.below bx (Nat.le_refl _)
        have ckc := (bx.cell (p := ⟨b2, o2 + k, none⟩) hb2).trans ck2
        have hb2c : b2 < wc.heap.size := Nat.lt_of_lt_of_le hb2 bx.size
        have hm : (0 : Int) ≤ (if 1 < q then (lq : Int) else 0) + 1 ∧ (if 1 < q then (lq : Int) else 0) + 1 ≤ 100000 := by split <;> omega
        obtain ⟨m0, m1⟩ := hm
        have NL' : ((nameT t n).length : Int) = (if 1 < q then (lq : Int) else 0) + 1 + (if r = 0 then 0 else (lr : Int)) := by
          rw [NL.out]
          split <;> split <;> omega
        generalize (if 1 < q then (lq : Int) else 0) + 1 = mm at *
        replace NL' := Lib.hid NL'
        replace hBc := Lib.hid hBc
        replace HTc := Lib.hid HTc
        clear bx x0 x1 x2 ck2
        obtain ⟨x0, x1, x2, -, -, -⟩ := blk3 HXc
        replace HXc := Lib.hid HXc
        go_upto_region 8 with (fail)
        by_cases hr0 : r = 0
        · have hr0' : ¬ (0 : Int) < (n : Int) % (b : Int) := by rw [e2.out]; omega
          go_wp2
          go_ret
          exact ⟨ret_int (by rw [NL'.out, if_pos hr0]; omega), hBc.out⟩
        · have hr0' : (0 : Int) < (n : Int) % (b : Int) := by rw [e2.out]; omega
          have L2' := L2.out hr0
          have K9 := fun W' (h : Below wc.heap.size wc W') => IHr.out hr0 _ W' (HTc.out.below h (Nat.le_refl _))
          rw [← e2.out] at K9
          replace K9 := Lib.hid K9
          have hw1 : IntKind.i64.wrap (mm + (lr : Int)) = mm + (lr : Int) := IntWalk.i64_in _ (by omega)
          have hw2 : IntKind.i64.wrap ((n : Int) % (b : Int)) = (n : Int) % (b : Int) := IntWalk.i64_in _ (by omega)
          have hw3 : (n : Int).tmod (b : Int) = (n : Int) % (b : Int) := IntWalk.rem_in _ _ (by omega)
          have hw4 : ¬ (b : Int) = 0 := by omega
          have hw5 : ¬ b = 0 := by omega
          have hsc := Lib.hid (fun W' (h : Below wc.heap.size wc W') => blk3 (HXc.out.below h HXc.out.lt))
          go_upto_region 9 with (fail)
          go_region_held3 (fun w' => (w'.cell? ⟨w.heap.size, 0, none⟩ = some (.slice A1 t.us.length c1) ∧ w'.cell? ⟨w.heap.size, 1, none⟩ = some (.slice (some ⟨b2, o2, none⟩) t.bs.length c2) ∧ w'.cell? ⟨w.heap.size, 2, none⟩ = some (.slice A3 t.ns.length c3)) ∧ w'.cell? ⟨b2, o2 + k, none⟩ = some (.int .i64 b))
            (first | go_keep | exact hSd)
            (first
              | (go_at_call 49; refine (K9.out _ (by first | exact (Below.refl _ _).drew | exact Below.refl _ _)).mono ?_; rintro e wd ⟨rfl, bd'⟩; have bd : Below wc.heap.size wc wd := ⟨bd'.os, bd'.tape, bd'.output, bd'.size, bd'.block⟩; obtain ⟨x0', x1', x2', -, -, -⟩ := hsc.out _ bd; have hSd := And.intro (And.intro x0' (And.intro x1' x2')) ((bd.cell (p := ⟨b2, o2 + k, none⟩) hb2c).trans ckc); have hBd := Lib.hid (hBc.out.trans (bd.mono hBc.out.size)); clear bd bd'))
          all_goals
            clear hSd
            go_wp2
            go_ret
            exact ⟨ret_int (by rw [NL'.out, if_neg hr0]), hBd.out⟩

/-- What LongOf answers. -/
def longOf (t : Tg) (n : Int) : Int := if namedB t n then (nameOf t n).length else -1
theorem longOf_bd (t : Tg) (n : Int) : -1 ≤ longOf t n ∧ longOf t n ≤ 99999 := by
  unfold longOf
  split
  · refine ⟨by omega, ?_⟩
    unfold nameOf
    split
    · rename_i h
      unfold okN at h
      rw [Bool.and_eq_true, decide_eq_true_eq] at h
      have := name_len t.us t.bs t.ns (ok_shape h.1).bs n.toNat (by omega)
      unfold nameT
      omega
    · simp
  · omega
theorem named_ne {t : Tg} {n : Int} (h : namedB t n = true) : okN t n = true ∧ nameT t n.toNat ≠ [] := by
  unfold namedB nameOf at h
  cases ho : okN t n
  · rw [ho] at h; simp at h
  · rw [ho, if_pos rfl, decide_eq_true_eq] at h
    exact ⟨rfl, fun e => by rw [e] at h; simp at h⟩

set_option maxRecDepth 100000 in
set_option maxHeartbeats 2000000 in
theorem specLongOf_any (v : Value) (t : Tg) (n : Int) (w : World) (h : Tng w v t) (hf : t.Fine) (hn : -9223372036854775808 ≤ n ∧ n ≤ 9223372036854775807) :
    Calls Try.prog 23 #[v, .int .i64 n] w fun e w' => e = .returned (.int .i64 (longOf t n)) ∧ Below w.heap.size w w' := by
  obtain ⟨A1, c1, A2, c2, A3, c3, rfl, -⟩ := h.ex
  have hB := (Below.refl w.heap.size w).alloc (Nat.le_refl _) (.cells #[.slice A1 t.us.length c1, .slice A2 t.bs.length c2, .slice A3 t.ns.length c3] 26)
  have HX := Blk.new w 26 #[.slice A1 t.us.length c1, .slice A2 t.bs.length c2, .slice A3 t.ns.length c3]
  have HT := h.below hB (Nat.le_refl _)
  have K1 := Lib.hid (specNameOf_any _ t n _ HT hf hn)
  replace hB := Lib.hid hB
  replace HX := Lib.hid HX
  replace HT := Lib.hid HT
  clear h hf
  go_enter Try.func23, Try.ntmps23
  go_upto_region 1 with (fail)
  generalize w.alloc (.cells #[.slice A1 t.us.length c1, .slice A2 t.bs.length c2, .slice A3 t.ns.length c3] 26) = W at *
  obtain ⟨x0, x1, x2, -, -, -⟩ := blk3 HX.out
  go_wp2_with (fail)
  refine K1.out.mono ?_
  rintro e w1 ⟨v1, rfl, o1, b1⟩
  obtain ⟨A, c, rfl, -⟩ := o1.strs
  replace hB := Lib.hid (hB.out.trans (b1.mono hB.out.size))
  replace HX := Lib.hid (HX.out.below b1 HX.out.lt)
  replace HT := Lib.hid (HT.out.below b1 (Nat.le_refl _))
  clear b1 x0 x1 x2 K1 o1
  obtain ⟨x0, x1, x2, -, -, -⟩ := blk3 HX.out
  cases hnb : namedB t n
  · have hg : longOf t n = -1 := by unfold longOf; rw [hnb]; rfl
    replace hg := Lib.hid hg
    replace hnb := Lib.hid hnb
    go_wp2
    go_ret
    exact ⟨ret_int hg.out.symm, hB.out⟩
  · obtain ⟨ho, hne⟩ := named_ne hnb
    have ho' := ho
    unfold okN at ho'
    rw [Bool.and_eq_true, decide_eq_true_eq] at ho'
    obtain ⟨hok, hd⟩ := ho'
    obtain ⟨m, rfl⟩ : ∃ m : Nat, n = m := ⟨n.toNat, by omega⟩
    have hg : longOf t m = (nameT t m).length := by unfold longOf; rw [hnb, if_pos rfl, nameOf_yes ho]
    have K2 := Lib.hid (specLong_any hok m (by omega) (by omega) hne _ w1 HT.out)
    replace hg := Lib.hid hg
    replace hnb := Lib.hid hnb
    replace hne := Lib.hid hne
    replace ho := Lib.hid ho
    replace hok := Lib.hid hok
    replace hd := Lib.hid hd
    go_wp2_with (fail)
    refine K2.out.mono ?_
    rintro e w3 ⟨rfl, b3⟩
    have hB3 := Lib.hid (hB.out.trans (b3.mono hB.out.size))
    clear b3
    go_wp2
    go_ret
    exact ⟨ret_int hg.out.symm, hB3.out⟩
end Go.Proofs.Ytdbihjabpekooaa
