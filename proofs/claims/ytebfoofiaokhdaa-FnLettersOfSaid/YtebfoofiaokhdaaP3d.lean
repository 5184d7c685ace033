/-
  The contract of the closure in the program's longOf: it calls itself, and counts in a captured variable.
-/
import Derived.Test.YtebfoofiaokhdaaGP
import Derived.Laws.EntriesVeiled
namespace Go.Proofs.Ytebfoofiaokhdaa
open Go.RowKit

/-- The memory of the closure: the count, the tongue, the closure itself. -/
structure CntSt (W0 : World) (cs : Array Value) (bw bt bc : Nat) (w : World) (k : Nat) : Prop where
  bel : Below W0.heap.size W0 w
  hw : Blk w bw 3 #[.int .i64 k]
  ht : Blk w bt 26 cs
  hc : Blk w bc 78 #[.func (.func 73) #[] #[.pointer (some ⟨bw, 0, none⟩), .pointer (some ⟨bt, 0, none⟩), .pointer (some ⟨bc, 0, none⟩)]]
section
variable {W0 : World} {cs : Array Value} {bw bt bc : Nat} {w : World} {k : Nat}
theorem CntSt.drewN (h : CntSt W0 cs bw bt bc w k) (m : Nat) : CntSt W0 cs bw bt bc (w.drewN m) k := ⟨below_drewN h.bel m, h.hw.drewN m, h.ht.drewN m, h.hc.drewN m⟩
theorem CntSt.step (h : CntSt W0 cs bw bt bc w k) (hb : W0.heap.size ≤ bw) (h1 : bt ≠ bw) (h2 : bc ≠ bw) : CntSt W0 cs bw bt bc (w.setCell ⟨bw, 0, none⟩ (.int .i64 ((k : Int) + 1))) (k + 1) :=
  ⟨h.bel.setCell (p := ⟨bw, 0, none⟩) hb _, by simpa using h.hw.set_ 0 (.int .i64 ((k : Int) + 1)), h.ht.far (p := ⟨bw, 0, none⟩) h1 _, h.hc.far (p := ⟨bw, 0, none⟩) h2 _⟩
end

set_option maxRecDepth 100000 in
set_option maxHeartbeats 1000000 in
theorem implCount_any {t : Tg} (hok : t.ok = true) {W0 : World} {A1 A2 A3 : Option Addr} {c1 c2 c3 : Nat} (hT : Tng W0 (.agg #[.slice A1 t.us.length c1, .slice A2 t.bs.length c2, .slice A3 t.ns.length c3]) t)
    {bw bt bc : Nat} (g1 : W0.heap.size ≤ bw) (g2 : bt ≠ bw) (g3 : bc ≠ bw) : ∀ n : Nat, 1 ≤ n → n ≤ 99999 → ∀ (w : World) (k : Nat), CntSt W0 #[.slice A1 t.us.length c1, .slice A2 t.bs.length c2, .slice A3 t.ns.length c3] bw bt bc w k → k + n ≤ 1000000 →
    Calls Try.prog 73 #[.int .i64 n, .pointer (some ⟨bw, 0, none⟩), .pointer (some ⟨bt, 0, none⟩), .pointer (some ⟨bc, 0, none⟩)] w fun e w' => e = .returned (.bool (decide (nameT t n ≠ []))) ∧ ∃ k', CntSt W0 #[.slice A1 t.us.length c1, .slice A2 t.bs.length c2, .slice A3 t.ns.length c3] bw bt bc w' k' ∧ k' ≤ k + n ∧ (nameT t n ≠ [] → k' = k + (nameT t n).length) := by
  have hI : Ints W0 .i64 A2 t.bs.length c2 t.bs := by
    obtain ⟨_, _, _, _, _, _, e, -, I2, -⟩ := hT.ex
    cases e
    exact I2
  have hsh := ok_shape hok
  have hul := hsh.us
  have hbs := hsh.bs
  have hbl := bases_len hbs
  have HU := Lib.hid (fun m (h : m ≤ t.us.length) => name_of_unit hok h)
  have HV := Lib.hid (fun m (h : ¬ m ≤ t.us.length) (ht : topOf t.bs m = 0) => name_behind h ht)
  have HI2 := Lib.hid (hI.at_ (by omega))
  have HI := Lib.hid (fun W (h : Below W0.heap.size W0 W) => hI.below h (Nat.le_refl _))
  replace hbs := Lib.hid hbs
  clear hsh hT hI
  intro n
  induction n using Nat.strongRecOn with
  | _ n ih =>
    intro hn1 hn2 w k hS hkn
    have IH := Lib.hid (fun m (h1 : m < n) (h2 : 1 ≤ m) => ih m h1 h2 (by omega))
    clear ih
    have y1 := hS.hw.cell 0
    have y2 := hS.hw.frozen 0
    simp only [List.getElem?_toArray, List.getElem?_cons_zero] at y1
    have hk1 : IntKind.i64.wrap ((k : Int) + 1) = (k : Int) + 1 := IntWalk.i64_in _ (by omega)
    have hS1 := hS.step g1 g2 g3
    replace hS1 := Lib.hid hS1
    clear hS
    go_enter Try.func73, Try.ntmps73
    go_upto_region 2 with (fail)
    generalize w.setCell ⟨bw, 0, none⟩ (.int .i64 ((k : Int) + 1)) = W at *
    obtain ⟨x0, x1, x2, -, -, -⟩ := blk3 hS1.out.ht
    clear y1 y2
    by_cases hu : n ≤ t.us.length
    · have hN := HU.out n hu
      have hu' : (n : Int) ≤ (t.us.length : Int) := by omega
      replace hN := Lib.hid hN
      go_wp2
      go_ret
      rw [hN.out]
      exact ⟨rfl, k + 1, hS1.out, by omega, fun _ => rfl⟩
    · have hu' : ¬ (n : Int) ≤ (t.us.length : Int) := by omega
      have KT := implTaken_any A2 c2 t.bs n W (HI.out W hS1.out.bel) hbs.out hn1 hn2
      by_cases hlt : n / baseN t.bs n < baseN t.bs n
      · have ht : topOf t.bs n ≠ 0 := fun h => by
          rw [base_one hbs.out h, Nat.div_one] at hlt
          omega
        rw [decide_eq_true hlt] at KT
        obtain ⟨f1, f2, f3, f4, f5⟩ := base_facts hbs.out ht
        obtain ⟨d1, d2, d3, d4⟩ := div_pos' f1 f2
        have N2 := fun h => name_nohead (us := t.us) (ns := t.ns) hbs.out ht h
        have N3 := fun h => name_norest (us := t.us) (ns := t.ns) hbs.out ht h
        have N4 := fun h => name_parts (us := t.us) (ns := t.ns) hbs.out ht h
        have e2 : (n : Int) % (baseN t.bs n : Int) = ((n % baseN t.bs n : Nat) : Int) := rfl
        obtain ⟨b2, o2, e3, hb2, hc2⟩ := HI2.out
        subst e3
        have ck2 := hc2 _ f4
        rw [← f3] at ck2
        have hbn : baseN t.bs n ≤ 99999 := by omega
        replace f3 := Lib.hid f3
        clear hc2
        have IHq := fun w k a b => IH.out (n / baseN t.bs n) d2 d1 w k a b
        have IHr := fun h0 w k a b => IH.out (n % baseN t.bs n) d3 (Nat.one_le_iff_ne_zero.2 h0) w k a b
        unfold nameT at IHq IHr
        generalize hq : n / baseN t.bs n = q at *
        generalize hr : n % baseN t.bs n = r at *
        generalize baseN t.bs n = bb at *
        generalize topOf t.bs n = kk at *
        generalize t.ns.getD (kk - 1) ByteArray.empty = nm at *
        generalize nameN t.us t.bs t.ns q = qs at *
        generalize nameN t.us t.bs t.ns r = rs at *
        replace N2 := Lib.hid N2
        replace N3 := Lib.hid N3
        replace N4 := Lib.hid N4
        replace e2 := Lib.hid e2
        replace hq := Lib.hid hq
        replace hr := Lib.hid hr
        replace IHq := Lib.hid IHq
        replace IHr := Lib.hid IHr
        replace KT := Lib.hid KT
        replace ht := Lib.hid ht
        replace hlt := Lib.hid hlt
        clear IH
        go_wp2_with (fail)
        refine KT.out.mono ?_
        rintro e w1 ⟨rfl, m1, rfl⟩
        have hS2 := hS1.out.drewN m1
        replace hS2 := Lib.hid hS2
        clear x0 x1 x2 hS1 KT
        generalize W.drewN m1 = W1 at *
        obtain ⟨x0, x1, x2, -, -, -⟩ := blk3 hS2.out.ht
        obtain ⟨okh, hokh⟩ : ∃ okh : Bool, okh = decide (1 < q → qs ≠ []) := ⟨_, rfl⟩
        obtain ⟨hd, hhd⟩ : ∃ hd : List ByteArray, hd = if 1 < q then qs else [] := ⟨_, rfl⟩
        replace hokh := Lib.hid hokh
        replace hhd := Lib.hid hhd
        go_upto_region 5 with (fail)
        go_cut [36] (fun s36 wx => ∃ k2, s36 = .bool (!okh) ∧ CntSt W0 #[.slice A1 t.us.length c1, .slice (some ⟨b2, o2, none⟩) t.bs.length c2, .slice A3 t.ns.length c3] bw bt bc wx k2 ∧ k2 ≤ k + 1 + q ∧ (okh = true → k2 = k + 1 + hd.length))
        case first =>
          by_cases h1 : 1 < q
          · have h1' : (1 : Int) < (q : Int) := by omega
            have K5 := Lib.hid (IHq.out W1 (k + 1) hS2.out (by omega))
            have y3 := hS2.out.hc.cell 0
            simp only [List.getElem?_toArray, List.getElem?_cons_zero] at y3
            go_wp2_with (fail)
            refine K5.out.mono ?_
            rintro e w2 ⟨rfl, k2, hs2, hk2, hy2⟩
            have ho : decide (qs ≠ []) = okh := by rw [hokh.out]; by_cases h : qs = [] <;> simp [h, h1]
            rw [ho]
            have hy2' : okh = true → k2 = k + 1 + hd.length := fun h => by
              rw [hhd.out, if_pos h1]
              exact hy2 (by rw [← ho] at h; exact of_decide_eq_true h)
            replace hs2 := Lib.hid hs2
            replace hy2' := Lib.hid hy2'
            replace ho := Lib.hid ho
            clear hy2
            go_wp2
            all_goals
              go_meet
              exact ⟨_, rfl, hs2.out, hk2, hy2'.out⟩
          · have h1' : ¬ (1 : Int) < (q : Int) := by omega
            have ho : okh = true := by rw [hokh.out]; simp [h1]
            have hh : hd = [] := by rw [hhd.out, if_neg h1]
            replace ho := Lib.hid ho
            replace hh := Lib.hid hh
            go_wp2
            all_goals
              go_meet
              exact ⟨k + 1, by rw [ho.out]; rfl, hS2.out, by omega, fun _ => by rw [hh.out]; rfl⟩
        case rest =>
          obtain ⟨k2, rfl, hSc, hk2, hyc⟩ := hcut
          by_cases hk1 : okh = true
          · have hy2 := hyc hk1
            have hb1 : 1 < q → qs ≠ [] := of_decide_eq_true (hokh.out.symm.trans hk1)
            have hNN : (r ≠ 0 → rs ≠ []) → nameT t n = hd ++ [nm] ++ (if r = 0 then [] else rs) := fun h => by
              rw [hhd.out]
              exact N4.out hlt.out hb1 h
            have cc2 := (hSc.bel.cell (p := ⟨b2, o2 + kk, none⟩) hb2).trans ck2
            have y3 := hSc.hc.cell 0
            simp only [List.getElem?_toArray, List.getElem?_cons_zero] at y3
            clear x0 x1 x2
            obtain ⟨x0, x1, x2, -, -, -⟩ := blk3 hSc.ht
            have r0 : (0 : Int) ≤ (n : Int) % (bb : Int) := by rw [e2.out]; omega
            have r1 : (n : Int) % (bb : Int) ≤ 99999 := by rw [e2.out]; omega
            have hbz : ¬ (bb : Int) = 0 := by omega
            subst hk1
            replace hSc := Lib.hid hSc
            replace hb1 := Lib.hid hb1
            replace hNN := Lib.hid hNN
            replace hy2 := Lib.hid hy2
            clear hyc
            go_upto_region 8 with (fail)
            rw [e2.out]
            clear r0 r1
            by_cases hr0 : r = 0
            · have hr0' : ((r : Int) == 0) = true := by rw [beq_iff_eq]; omega
              have hN := hNN.out (fun h => absurd hr0 h)
              rw [if_pos hr0, List.append_nil] at hN
              have hne : nameT t n ≠ [] := by rw [hN]; simp
              have hl : (nameT t n).length = hd.length + 1 := by rw [hN]; simp
              replace hN := Lib.hid hN
              replace hne := Lib.hid hne
              replace hl := Lib.hid hl
              go_wp2
              all_goals
                go_ret
                exact ⟨ret_bool (decide_eq_true hne.out).symm, k2, hSc.out, by omega, fun _ => by rw [hl.out, hy2.out]; omega⟩
            · have hr0' : ((r : Int) == 0) = false := by rw [beq_eq_false_iff_ne]; omega
              have K9 := Lib.hid (IHr.out hr0 wc k2 hSc.out (by omega))
              go_wp2_with (fail)
              refine K9.out.mono ?_
              rintro e w9 ⟨rfl, k9, hs9, hk9, hy9⟩
              have hb9 : decide (rs ≠ []) = decide (nameT t n ≠ []) := by
                by_cases hrs : rs = []
                · rw [decide_eq_false (fun h => h hrs), decide_eq_false (fun h => h (N3.out hr0 hrs))]
                · rw [decide_eq_true hrs, decide_eq_true (by rw [hNN.out (fun _ => hrs)]; simp)]
              have hy9' : nameT t n ≠ [] → k9 = k + (nameT t n).length := fun h => by
                have hrs : rs ≠ [] := fun e => h (N3.out hr0 e)
                rw [hy9 hrs, hy2.out, hNN.out (fun _ => hrs), if_neg hr0]
                simp
                omega
              generalize decide (rs ≠ []) = bb9 at *
              replace hb9 := Lib.hid hb9
              replace hy9' := Lib.hid hy9'
              replace hs9 := Lib.hid hs9
              clear hy9
              go_wp2
              all_goals
                go_ret
                exact ⟨ret_bool hb9.out, k9, hs9.out, by omega, hy9'.out⟩
          · have hk0 : okh = false := by simpa using hk1
            have hN : nameT t n = [] := by
              rw [hk0] at hokh
              have h := of_decide_eq_false hokh.out.symm
              have h1 : 1 < q := Classical.byContradiction fun h1 => h fun h2 => absurd h2 h1
              exact N2.out h1 (Classical.byContradiction fun h2 => h fun _ => h2)
            subst hk0
            replace hN := Lib.hid hN
            replace hSc := Lib.hid hSc
            clear hk1 hyc
            go_wp2
            all_goals
              go_ret
              exact ⟨ret_bool (decide_eq_false (fun h => h hN.out)).symm, k2, hSc.out, by omega, fun h => absurd hN.out h⟩
      · have hN : nameT t n = [] := by
          by_cases ht : topOf t.bs n = 0
          · exact HV.out n hu ht
          · exact name_over hbs.out ht (by omega)
        rw [decide_eq_false hlt] at KT
        replace KT := Lib.hid KT
        replace hN := Lib.hid hN
        replace hlt := Lib.hid hlt
        generalize topOf t.bs n = kk at *
        generalize n / baseN t.bs n = q at *
        go_wp2_with (fail)
        refine KT.out.mono ?_
        rintro e w1 ⟨rfl, m1, rfl⟩
        go_wp2
        all_goals
          go_ret
          exact ⟨ret_bool (decide_eq_false (fun h => h hN.out)).symm, k + 1, hS1.out.drewN m1, by omega, fun h => absurd hN.out h⟩
end Go.Proofs.Ytebfoofiaokhdaa
