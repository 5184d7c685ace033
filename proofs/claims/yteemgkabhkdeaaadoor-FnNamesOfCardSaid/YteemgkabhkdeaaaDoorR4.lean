/-
  The contract of the number that words tell, of the model.
-/
import Derived.Test.YteemgkabhkdeaaaDoorMathR
import Derived.Test.YteemgkabhkdeaaaDoorUnitsS
import Derived.Lib.QuietBelow
namespace Go.Proofs.YteemgkabhkdeaaaDoor
open Go.RowKit Go.Sort

theorem bv_cases (t : Tg) (x : ByteArray) : (baseB t x = true ∧ 1 ≤ bv t x ∧ baseV t x = bv t x) ∨ (baseB t x = false ∧ bv t x = 0) := by
  cases h : baseB t x
  · exact .inr ⟨rfl, by unfold bv; rw [h]; rfl⟩
  · have hv : baseV t x = (place t.ns x : Int) + 1 := by unfold baseV; rw [h, if_pos rfl]
    refine .inl ⟨rfl, ?_, ?_⟩ <;> unfold bv <;> rw [h, if_pos rfl, hv] <;> omega
theorem bv_le {t : Tg} {x : ByteArray} (hok : t.ok = true) : bv t x < t.bs.length := by
  have hns := (ok_shape hok).ns
  rcases bv_cases t x with ⟨h, -, hv⟩ | ⟨-, h⟩
  · have hb := h
    unfold baseB at hb
    rw [Bool.and_eq_true, decide_eq_true_eq] at hb
    have : baseV t x = (place t.ns x : Int) + 1 := by unfold baseV; rw [h, if_pos rfl]
    omega
  · omega
theorem scan_le {t : Tg} (hok : t.ok = true) (l : List ByteArray) : ∀ k, (scanTo t l k).1 < t.bs.length := by
  have hb := bases_len (ok_shape hok).bs
  intro k
  induction k with
  | zero => show 0 < _; omega
  | succ k ih =>
    rw [scanTo]
    split
    · exact bv_le hok
    · exact ih
theorem valV_bd {t : Tg} (hok : t.ok = true) : ∀ l : List ByteArray, -1 ≤ valV t l ∧ valV t l ≤ 1000000 := by
  intro l
  have hs := ok_shape hok
  have hu := hs.us
  by_cases hl : l = []
  · rw [hl, valV_nil]; omega
  · by_cases h : (scanTo t l l.length).1 = 0
    · rw [valV_unit hl h]
      split
      · rename_i hb
        have hp := hb.1
        unfold unitB at hp
        rw [Bool.and_eq_true, decide_eq_true_eq] at hp
        unfold unitV
        rw [if_pos hb.1]
        omega
      · omega
    · have hp := bases_pos hs.bs _ (scan_le hok l l.length)
      rw [valV_top hl (top := (scanTo t l l.length).1) (p := (scanTo t l l.length).2) rfl h rfl rfl]
      generalize (if 0 < (scanTo t l l.length).2 then valV t (l.take (scanTo t l l.length).2) else 1) = mm
      generalize valV t (l.drop ((scanTo t l l.length).2 + 1)) = rr
      generalize t.bs.getD (scanTo t l l.length).1 0 = bb at *
      split
      · omega
      · have := Int.mul_nonneg (show 0 ≤ mm by omega) (show (0 : Int) ≤ bb by omega)
        omega

set_option maxRecDepth 100000 in
set_option maxHeartbeats 8000000 in
theorem specValue_any {t : Tg} (hok : t.ok = true) (hf : t.Fine) : ∀ (n : Nat) (l : List ByteArray), l.length = n → n ≤ 1000 → (∀ x ∈ l, x.size ≤ maxLen) → ∀ (v : Value) (A : Option Addr) (c : Nat) (w : World), Tng w v t → Strs w A n c l →
    Calls Tryd.prog 44 #[v, .slice A n c] w fun e w' => e = .returned (.int .i64 (valV t l)) ∧ Below w.heap.size w w' := by
  intro n
  induction n using Nat.strongRecOn with
  | _ n ih =>
    intro l hln hn1 hsz v A c w h hl
    have hs := ok_shape hok
    have hbl := bases_len hs.bs
    have hpos := bases_pos hs.bs
    obtain ⟨A1, c1, A2, c2, A3, c3, rfl, -⟩ := h.ex
    have hB := (Below.refl w.heap.size w).alloc (Nat.le_refl _) (.cells #[.slice A1 t.us.length c1, .slice A2 t.bs.length c2, .slice A3 t.ns.length c3] 26)
    have HX := Blk.new w 26 #[.slice A1 t.us.length c1, .slice A2 t.bs.length c2, .slice A3 t.ns.length c3]
    have HT := h.below hB (Nat.le_refl _)
    have HL := hl.below hB (Nat.le_refl _)
    have hcap := hl.le
    have IH := Lib.hid ih
    replace hB := Lib.hid hB
    replace HX := Lib.hid HX
    replace HT := Lib.hid HT
    replace HL := Lib.hid HL
    replace hpos := Lib.hid hpos
    replace hsz := Lib.hid hsz
    clear ih h hl hs
    by_cases h0 : n = 0
    · subst h0
      have hv : valV t l = 0 := by rw [List.eq_nil_of_length_eq_zero hln, valV_nil]
      replace hv := Lib.hid hv
      go_enter Tryd.func44, Tryd.ntmps44
      go_wp2
      go_ret
      exact ⟨ret_int hv.out.symm, hB.out⟩
    · have hne : l ≠ [] := fun e => h0 (by rw [← hln, e]; rfl)
      have hn0 : ((n : Int) == 0) = false := by rw [beq_eq_false_iff_ne]; omega
      have hscl := Lib.hid (scan_le hok l)
      have hsca := Lib.hid (scanTo_at t l)
      replace hne := Lib.hid hne
      replace hln := Lib.hid hln
      go_enter Tryd.func44, Tryd.ntmps44
      go_upto_region 1 with (fail)
      generalize w.alloc (.cells #[.slice A1 t.us.length c1, .slice A2 t.bs.length c2, .slice A3 t.ns.length c3] 26) = W at *
      obtain ⟨b, o, rfl, hbl2, hc⟩ := HL.out.at_ (by omega)
      replace hc := Lib.hid hc
      go_wp2
      go_loopw [5, 6, 7] (fun s5 s6 s7 wr => ∃ k : Nat, k ≤ n ∧ s7 = .int .i64 k ∧ s5 = .int .i64 (scanTo t l k).1 ∧ ((scanTo t l k).1 ≠ 0 → s6 = .int .i64 (scanTo t l k).2) ∧ (∃ z : Int, s6 = .int .i64 z) ∧ Below W.heap.size W wr) (fun _ _ s7 _ => n - (intOf s7).toNat)
      case atStart => exact ⟨0, Nat.zero_le _, rfl, rfl, fun h => absurd rfl h, ⟨-1, rfl⟩, Below.refl _ _⟩
      case round =>
        obtain ⟨k, hk, rfl, rfl, h6, ⟨z, rfl⟩, bw⟩ := hrel
        have HXr := HX.out.below bw HX.out.lt
        have HTr := HT.out.below bw (Nat.le_refl _)
        obtain ⟨x0, x1, x2, -, -, -⟩ := blk3 HXr
        have hst := hscl.out k
        by_cases hlt : k < n
        · have ck := (bw.cell (p := ⟨b, o + k, none⟩) hbl2).trans (hc.out k hlt)
          have HS : scanTo t l (k + 1) = if (scanTo t l k).1 < bv t (l.getD k ByteArray.empty) then (bv t (l.getD k ByteArray.empty), k) else scanTo t l k := rfl
          have hbc := bv_cases t (l.getD k ByteArray.empty)
          have hbv : bv t (l.getD k ByteArray.empty) < t.bs.length := bv_le hok
          have KB := fun d os => specBaseOf_any _ t (l.getD k ByteArray.empty) (grow (redrawn wr d) os) (HTr.below (below_regrown wr d os) (Nat.le_refl _)) hf
          generalize l.getD k ByteArray.empty = x at *
          generalize bv t x = y at *
          generalize hsk : scanTo t l k = sk at *
          obtain ⟨top, at_⟩ := sk
          have y0 := fun d os => cell_regrown x0 d os
          have y1 := fun d os => cell_regrown x1 d os
          have y2 := fun d os => cell_regrown x2 d os
          have u1 := fun d os => cell_regrown ck d os
          replace bw := Lib.hid bw
          replace hsk := Lib.hid hsk
          clear HXr HTr ck
          rcases hbc with ⟨hb1, hb2, hb3⟩ | ⟨hb1, hb2⟩
          · rw [hb1, hb3] at KB
            replace KB := Lib.hid KB
            replace hb1 := Lib.hid hb1
            replace hb3 := Lib.hid hb3
            go_upto_region 8 with (fail)
            refine wp_region_quiet_below (by kernel_rfl) (by kernel_rfl) ?_
            repeat (go_big_quiet_step (first | (go_at_call 63; exact Calls.regrown_of (KB.out _ _))))
            refine wpQuiet_nil ?_
            intro _ hw'
            obtain ⟨pq, hw''⟩ := hw'
            have bq := below_regrown wr pq.d pq.os
            subst hw''
            clear y0 y1 y2 x0 x1 x2 u1
            have HBq := Lib.hid (bw.out.trans (bq.mono bw.out.size))
            clear bq
            by_cases hlt2 : top < y
            · have hlt3 : (top : Int) < (y : Int) := by omega
              rw [if_pos hlt2] at HS
              replace HS := Lib.hid HS
              replace h6 := Lib.hid h6
              go_wp2
              go_roundw
              case rel => exact ⟨k + 1, by omega, by go_num, by rw [HS.out], fun _ => by rw [HS.out], ⟨_, rfl⟩, HBq.out⟩
              case measure => simp [intOf]; omega
            · have hlt3 : ¬ (top : Int) < (y : Int) := by omega
              rw [if_neg hlt2] at HS
              replace HS := Lib.hid HS
              replace h6 := Lib.hid h6
              go_wp2
              go_roundw
              case rel => exact ⟨k + 1, by omega, by go_num, by rw [HS.out], by rw [HS.out]; exact h6.out, ⟨_, rfl⟩, HBq.out⟩
              case measure => simp [intOf]; omega
          · rw [hb1] at KB
            replace KB := Lib.hid KB
            replace hb1 := Lib.hid hb1
            rw [if_neg (by omega)] at HS
            replace HS := Lib.hid HS
            replace h6 := Lib.hid h6
            generalize baseV t x = bvx at *
            go_upto_region 8 with (fail)
            refine wp_region_quiet_below (by kernel_rfl) (by kernel_rfl) ?_
            repeat (go_big_quiet_step (first | (go_at_call 63; exact Calls.regrown_of (KB.out _ _))))
            refine wpQuiet_nil ?_
            intro _ hw'
            obtain ⟨pq, hw''⟩ := hw'
            have bq := below_regrown wr pq.d pq.os
            subst hw''
            clear y0 y1 y2 x0 x1 x2 u1
            have HBq := Lib.hid (bw.out.trans (bq.mono bw.out.size))
            clear bq
            go_wp2
            go_roundw
            case rel => exact ⟨k + 1, by omega, by go_num, by rw [HS.out], by rw [HS.out]; exact h6.out, ⟨_, rfl⟩, HBq.out⟩
            case measure => simp [intOf]; omega
        · obtain rfl : k = n := by omega
          have hBr := Lib.hid (hB.out.trans (bw.mono hB.out.size))
          have hln' := hln.out
          have HLr := HL.out.below bw (Nat.le_refl _)
          by_cases ht : (scanTo t l k).1 = 0
          · have hv := valV_unit hne.out (by rw [hln']; exact ht)
            rw [hln'] at hv
            rw [ht]
            have ck := (bw.cell (p := ⟨b, o + 0, none⟩) hbl2).trans (hc.out 0 (by omega))
            simp only [Nat.add_zero] at ck
            have KU := fun d os => specUnitOf_any _ t (l.getD 0 ByteArray.empty) (grow (redrawn wr d) os) (HTr.below (below_regrown wr d os) (Nat.le_refl _)) hf
            generalize l.getD 0 ByteArray.empty = x at *
            have y0 := fun d os => cell_regrown x0 d os
            have y1 := fun d os => cell_regrown x1 d os
            have y2 := fun d os => cell_regrown x2 d os
            have u1 := fun d os => cell_regrown ck d os
            have hkp : 0 < k := by omega
            have hkp' : (0 : Int) < (k : Int) := by omega
            replace h6 := Lib.hid h6
            replace ht := Lib.hid ht
            replace hln := Lib.hid hln'
            clear HXr HTr ck hln' HLr bw
            cases hub : unitB t x
            · rw [hub] at KU hv
              rw [if_neg (by simp)] at hv
              replace KU := Lib.hid KU
              replace hv := Lib.hid hv
              replace hub := Lib.hid hub
              generalize unitV t x = uv at *
              go_upto_region 13 with (fail)
              refine wp_region_quiet_below (by kernel_rfl) (by kernel_rfl) ?_
              repeat (go_big_quiet_step (first | (go_at_call 64; exact Calls.regrown_of (KU.out _ _))))
              refine wpQuiet_nil ?_
              intro _ hw'
              obtain ⟨pq, hw''⟩ := hw'
              have bq := below_regrown wr pq.d pq.os
              subst hw''
              clear y0 y1 y2 x0 x1 x2 u1
              have HBq := Lib.hid (hBr.out.trans (bq.mono hBr.out.size))
              clear bq
              go_wp2
              go_ret
              exact ⟨ret_int hv.out.symm, HBq.out⟩
            · rw [hub] at KU hv
              replace KU := Lib.hid KU
              replace hub := Lib.hid hub
              by_cases h1 : k = 1
              · have h1' : ¬ (1 : Int) < (k : Int) := by omega
                rw [if_pos ⟨rfl, h1⟩] at hv
                replace hv := Lib.hid hv
                generalize unitV t x = uv at *
                replace h1 := Lib.hid h1
                go_upto_region 13 with (fail)
                refine wp_region_quiet_below (by kernel_rfl) (by kernel_rfl) ?_
                repeat (go_big_quiet_step (first | (go_at_call 64; exact Calls.regrown_of (KU.out _ _))))
                refine wpQuiet_nil ?_
                intro _ hw'
                obtain ⟨pq, hw''⟩ := hw'
                have bq := below_regrown wr pq.d pq.os
                subst hw''
                clear y0 y1 y2 x0 x1 x2 u1
                have HBq := Lib.hid (hBr.out.trans (bq.mono hBr.out.size))
                clear bq
                go_wp2
                go_ret
                exact ⟨ret_int hv.out.symm, HBq.out⟩
              · have h1' : (1 : Int) < (k : Int) := by omega
                rw [if_neg (fun h => h1 h.2)] at hv
                replace hv := Lib.hid hv
                generalize unitV t x = uv at *
                replace h1 := Lib.hid h1
                go_upto_region 13 with (fail)
                refine wp_region_quiet_below (by kernel_rfl) (by kernel_rfl) ?_
                repeat (go_big_quiet_step (first | (go_at_call 64; exact Calls.regrown_of (KU.out _ _))))
                refine wpQuiet_nil ?_
                intro _ hw'
                obtain ⟨pq, hw''⟩ := hw'
                have bq := below_regrown wr pq.d pq.os
                subst hw''
                clear y0 y1 y2 x0 x1 x2 u1
                have HBq := Lib.hid (hBr.out.trans (bq.mono hBr.out.size))
                clear bq
                go_wp2
                go_ret
                exact ⟨ret_int hv.out.symm, HBq.out⟩
          · have ez := h6 ht
            have hp := hsca.out k ht
            have hvt := fun many rest (hm : many = if 0 < (scanTo t l k).2 then valV t (l.take (scanTo t l k).2) else 1) (hr : rest = valV t (l.drop ((scanTo t l k).2 + 1))) => valV_top (t := t) (l := l) (top := (scanTo t l k).1) (p := (scanTo t l k).2) hne.out (by rw [hln']) ht hm hr
            have hpx := hpos.out _ hst
            have ht0 : (((scanTo t l k).1 : Int) == 0) = false := by rw [beq_eq_false_iff_ne]; omega
            obtain ⟨_, _, _, _, _, _, ev, -, I2, -⟩ := HTr.ex
            cases ev
            obtain ⟨b2, o2, rfl, hb2, hc2⟩ := I2.at_ (by omega)
            have cb := hc2 _ hst
            generalize (scanTo t l k).1 = top at *
            generalize (scanTo t l k).2 = p at *
            generalize t.bs.getD top 0 = bb at *
            cases ez
            have hvb := valV_bd hok
            have ItP : 0 < p → ∀ (W' : World), Tng W' (.agg #[.slice A1 t.us.length c1, .slice (some ⟨b2, o2, none⟩) t.bs.length c2, .slice A3 t.ns.length c3]) t → Strs W' (some ⟨b, o, none⟩) k c l → Calls Tryd.prog 44 #[(.agg #[.slice A1 t.us.length c1, .slice (some ⟨b2, o2, none⟩) t.bs.length c2, .slice A3 t.ns.length c3]), .slice (some ⟨b, o, none⟩) p c] W' fun e w' => e = .returned (.int .i64 (valV t (l.take p))) ∧ Below W'.heap.size W' w' := fun _ W' h1 h2 => IH.out p hp (l.take p) (by rw [List.length_take]; omega) (by omega) (fun x hx => hsz.out x (List.mem_of_mem_take hx)) _ _ _ W' h1 (h2.take (by omega))
            have hmb : -1 ≤ (if 0 < p then valV t (l.take p) else 1) ∧ (if 0 < p then valV t (l.take p) else 1) ≤ 1000000 := by
              split
              · exact hvb _
              · omega
            have hrb := hvb (l.drop (p + 1))
            replace ItP := Lib.hid ItP
            replace hvt := Lib.hid hvt
            replace HLr := Lib.hid HLr
            replace HTr := Lib.hid HTr
            replace HXr := Lib.hid HXr
            replace ht := Lib.hid ht
            replace h6 := Lib.hid h6
            replace hvb := Lib.hid hvb
            clear hc2 I2 hln' bw
            have hXc := Lib.hid (fun W' (h : Below wr.heap.size wr W') => blk3 (HXr.out.below h HXr.out.lt))
            have hcb := Lib.hid (fun W' (h : Below wr.heap.size wr W') => (h.cell (p := ⟨b2, o2 + top, none⟩) hb2).trans cb)
            have pc : (p : Int) ≤ (c : Int) := by omega
            have pc' : p ≤ c := by omega
            clear cb
            go_upto_if 59 with (fail)
            go_cut [12] (fun s12 wx => s12 = .int .i64 (if 0 < p then valV t (l.take p) else 1) ∧ Below wr.heap.size wr wx)
            case first =>
              by_cases h0p : 0 < p
              · have h0p' : (0 : Int) < (p : Int) := by omega
                have KD := Lib.hid (fun d os => ItP.out h0p (grow (redrawn wr d) os) (HTr.out.below (below_regrown wr d os) (Nat.le_refl _)) (HLr.out.below (below_regrown wr d os) (Nat.le_refl _)))
                have y0 := fun d os => cell_regrown x0 d os
                have y1 := fun d os => cell_regrown x1 d os
                have y2 := fun d os => cell_regrown x2 d os
                go_upto_region 19 with (fail)
                refine wp_region_quiet_below (by kernel_rfl) (by kernel_rfl) ?_
                repeat (go_big_quiet_step (first | (go_at_call 44; exact Calls.regrown_of (KD.out _ _))))
                refine wpQuiet_nil ?_
                intro _ hw'
                obtain ⟨pq, hw''⟩ := hw'
                have bq := below_regrown wr pq.d pq.os
                subst hw''
                clear y0 y1 y2 x0 x1 x2
                replace bq := Lib.hid bq
                go_wp2
                go_meet
                exact ⟨by rw [if_pos h0p], bq.out⟩
              · have h0p' : ¬ (0 : Int) < (p : Int) := by omega
                go_wp2
                go_meet
                exact ⟨by rw [if_neg h0p], Below.refl _ _⟩
            case rest =>
              obtain ⟨rfl, bx⟩ := hcut
              have hvt' := fun rest hr => hvt.out _ rest rfl hr
              generalize (if 0 < p then valV t (l.take p) else 1) = many at *
              have hBx := Lib.hid (hBr.out.trans (bx.mono hBr.out.size))
              clear x0 x1 x2
              obtain ⟨x0, x1, x2, -, -, -⟩ := hXc.out _ bx
              have HTx := Lib.hid (HTr.out.below bx (Nat.le_refl _))
              have HLx := Lib.hid (HLr.out.below bx (Nat.le_refl _))
              replace bx := Lib.hid bx
              replace hvt' := Lib.hid hvt'
              have y0 := fun d os => cell_regrown x0 d os
              have y1 := fun d os => cell_regrown x1 d os
              have y2 := fun d os => cell_regrown x2 d os
              have pk : (p : Int) + 1 ≤ (k : Int) := by omega
              have pw : IntKind.i64.wrap ((p : Int) + 1) = (p : Int) + 1 := IntWalk.i64_in _ (by omega)
              have p0 : (0 : Int) ≤ (p : Int) + 1 := by omega
              have pn : ((p : Int) + 1).toNat = p + 1 := by omega
              have pk' : p + 1 ≤ k := by omega
              by_cases hcp : c = p + 1
              · have hd : l.drop (p + 1) = [] := List.drop_eq_nil_of_le (by rw [hln.out]; omega)
                have hkp : k = p + 1 := by omega
                have hv2 := hvt'.out
                rw [hd] at hv2
                replace hvt' := Lib.hid hv2
                have hr2 : -1 ≤ valV t [] ∧ valV t [] ≤ 1000000 := by rw [valV_nil]; omega
                have KD := Lib.hid (fun d os => IH.out 0 (by omega) [] rfl (by omega) (fun x hx => by cases hx) _ (some ⟨b, o, none⟩) 0 (grow (redrawn wc d) os) (HTx.out.below (below_regrown wc d os) (Nat.le_refl _)) ⟨rfl, Nat.le_refl _, fun h => absurd h (by omega)⟩)
                clear hrb hv2
                generalize valV t [] = rest at *
                replace hd := Lib.hid hd
                replace hln := Lib.hid hln.out
                subst hkp
                subst hcp
                go_upto_region 20 with (fail)
                refine wp_region_quiet_below (by kernel_rfl) (by kernel_rfl) ?_
                repeat (go_big_quiet_step (first | (go_at_call 44; exact Calls.regrown_of (KD.out _ _))))
                refine wpQuiet_nil ?_
                intro _ hw'
                obtain ⟨pq, hw''⟩ := hw'
                have bq := below_regrown wc pq.d pq.os
                subst hw''
                clear y0 y1 y2 x0 x1 x2
                have bqx := Lib.hid (bx.out.trans (bq.mono bx.out.size))
                have hBq := Lib.hid (hBx.out.trans (bq.mono hBx.out.size))
                clear bq
                by_cases g1 : many < 0
                · have hv := Lib.hid ((hvt'.out _ rfl).trans (if_pos (.inl g1)))
                  go_wp2
                  go_ret
                  exact ⟨ret_int hv.out.symm, hBq.out⟩
                · by_cases g2 : rest < 0
                  · have hv := Lib.hid ((hvt'.out _ rfl).trans (if_pos (.inr (.inl g2))))
                    go_wp2
                    go_ret
                    exact ⟨ret_int hv.out.symm, hBq.out⟩
                  · by_cases g3 : 99999 < many
                    · have hv := Lib.hid ((hvt'.out _ rfl).trans (if_pos (.inr (.inr g3))))
                      go_wp2
                      go_ret
                      exact ⟨ret_int hv.out.symm, hBq.out⟩
                    · have hv := Lib.hid ((hvt'.out _ rfl).trans (if_neg (by omega)))
                      have j1 := Int.mul_nonneg (show 0 ≤ many by omega) (show (0 : Int) ≤ bb by omega)
                      have j2 : many * bb ≤ 99999 * 999999 := by
                        have a1 := Int.mul_le_mul_of_nonneg_right (show many ≤ 99999 by omega) (show (0 : Int) ≤ bb by omega)
                        have a2 := Int.mul_le_mul_of_nonneg_left hpx.2 (show (0 : Int) ≤ 99999 by omega)
                        omega
                      have cbx := hcb.out _ bqx.out
                      have hXx := hXc.out _ bqx.out
                      obtain ⟨x0, x1, x2, -, -, -⟩ := hXx
                      go_wp2
                      all_goals
                        go_ret
                        exact ⟨ret_int (by rw [hv.out]; omega), hBq.out⟩
              · have hcp' : ¬ p + 1 = c := fun e => hcp e.symm
                have KD := Lib.hid (fun d os => IH.out (k - (p + 1)) (by omega) (l.drop (p + 1)) (by rw [List.length_drop, hln.out]) (by omega) (fun x hx => hsz.out x (List.mem_of_mem_drop hx)) _ (some ⟨b, o + (p + 1), none⟩) (c - (p + 1)) (grow (redrawn wc d) os) (HTx.out.below (below_regrown wc d os) (Nat.le_refl _)) ((HLx.out.drop (by omega)).below (below_regrown wc d os) (Nat.le_refl _)))
                generalize valV t (l.drop (p + 1)) = rest at *
                go_upto_region 20 with (fail)
                refine wp_region_quiet_below (by kernel_rfl) (by kernel_rfl) ?_
                repeat (go_big_quiet_step (first | (go_at_call 44; exact Calls.regrown_of (KD.out _ _))))
                refine wpQuiet_nil ?_
                intro _ hw'
                obtain ⟨pq, hw''⟩ := hw'
                have bq := below_regrown wc pq.d pq.os
                subst hw''
                clear y0 y1 y2 x0 x1 x2
                have bqx := Lib.hid (bx.out.trans (bq.mono bx.out.size))
                have hBq := Lib.hid (hBx.out.trans (bq.mono hBx.out.size))
                clear bq
                by_cases g1 : many < 0
                · have hv := Lib.hid ((hvt'.out _ rfl).trans (if_pos (.inl g1)))
                  go_wp2
                  go_ret
                  exact ⟨ret_int hv.out.symm, hBq.out⟩
                · by_cases g2 : rest < 0
                  · have hv := Lib.hid ((hvt'.out _ rfl).trans (if_pos (.inr (.inl g2))))
                    go_wp2
                    go_ret
                    exact ⟨ret_int hv.out.symm, hBq.out⟩
                  · by_cases g3 : 99999 < many
                    · have hv := Lib.hid ((hvt'.out _ rfl).trans (if_pos (.inr (.inr g3))))
                      go_wp2
                      go_ret
                      exact ⟨ret_int hv.out.symm, hBq.out⟩
                    · have hv := Lib.hid ((hvt'.out _ rfl).trans (if_neg (by omega)))
                      have j1 := Int.mul_nonneg (show 0 ≤ many by omega) (show (0 : Int) ≤ bb by omega)
                      have j2 : many * bb ≤ 99999 * 999999 := by
                        have a1 := Int.mul_le_mul_of_nonneg_right (show many ≤ 99999 by omega) (show (0 : Int) ≤ bb by omega)
                        have a2 := Int.mul_le_mul_of_nonneg_left hpx.2 (show (0 : Int) ≤ 99999 by omega)
                        omega
                      have cbx := hcb.out _ bqx.out
                      have hXx := hXc.out _ bqx.out
                      obtain ⟨x0, x1, x2, -, -, -⟩ := hXx
                      go_wp2
                      all_goals
                        go_ret
                        exact ⟨ret_int (by rw [hv.out]; omega), hBq.out⟩
end Go.Proofs.YteemgkabhkdeaaaDoor
