/-
  The contract of ReadShorter of the model.
-/
import Derived.Test.YtpbinajjlambfaaA3
import Derived.Test.YtpbinajjlambfaaGN
import Derived.Lib.QuietBelow
namespace Go.Proofs.Ytpbinajjlambfaa
open Go.RowKit Go.Sort

/-- The place of the word among the first k words; -1 if it is not there. -/
def idxK (l : List ByteArray) (x : ByteArray) (k : Nat) : Int := if place l x < k then (place l x : Int) else -1
theorem idxK_zero (l : List ByteArray) (x : ByteArray) : idxK l x 0 = -1 := by unfold idxK; rw [if_neg (by omega)]
theorem idxK_steps {l : List ByteArray} {x : ByteArray} {k : Nat} (hk : k < l.length) :
    (l.getD k ByteArray.empty = x → idxK l x k < 0 → idxK l x (k + 1) = k) ∧ (l.getD k ByteArray.empty = x → ¬ idxK l x k < 0 → idxK l x (k + 1) = idxK l x k) ∧ (¬ l.getD k ByteArray.empty = x → idxK l x (k + 1) = idxK l x k) := by
  unfold idxK
  by_cases h : place l x < k
  · rw [if_pos h, if_pos (by omega)]
    exact ⟨fun _ h => by omega, fun _ _ => rfl, fun _ => rfl⟩
  · rw [if_neg h]
    refine ⟨fun e _ => ?_, fun _ h => absurd (by omega) h, fun e => ?_⟩
    · have hp : place l x = k := place_eq hk (fun i hi e' => h (by
        rcases Nat.lt_trichotomy (place l x) i with h1 | h1 | h1
        · omega
        · omega
        · have hm : i < l.length := by omega
          have := place_at (ws := l) (x := x) (place_mem.2 (by rw [← e']; exact getD_in hm))
          have hle : place l x ≤ i := by
            unfold place
            by_cases hq : l.findIdx (fun y => decide (y = x)) ≤ i
            · exact hq
            · exfalso
              have := List.not_of_lt_findIdx (p := fun y => decide (y = x)) (xs := l) (i := i) (by omega)
              rw [List.getD_eq_getElem?_getD, List.getElem?_eq_getElem hm] at e'
              simp only [Option.getD_some] at e'
              simp [e'] at this
          omega)) e
      rw [hp, if_pos (by omega)]
    · by_cases h2 : place l x < k + 1
      · exfalso
        have hp : place l x = k := by omega
        have := place_at (ws := l) (x := x) (by omega)
        rw [hp] at this
        exact e this
      · rw [if_neg h2]
theorem valS_yes {t : Tg} {l : List ByteArray} {x : ByteArray} (h : place l x < l.length) :
    (valV t (l.take (place l x)) < 0 ∨ valV t (l.drop (place l x + 1)) < 0 → valS t l x = -1) ∧ (¬ (valV t (l.take (place l x)) < 0 ∨ valV t (l.drop (place l x + 1)) < 0) → valS t l x = valV t (l.drop (place l x + 1)) - valV t (l.take (place l x))) := by
  unfold valS
  rw [if_pos h]
  exact ⟨fun hh => if_pos hh, fun hh => if_neg hh⟩
theorem valS_nope {t : Tg} {l : List ByteArray} {x : ByteArray} (h : ¬ place l x < l.length) : valS t l x = valV t l := by
  unfold valS; rw [if_neg h]
theorem readS_minus {t : Tg} {l : List ByteArray} {x : ByteArray} {b : Int} (h : valS t l x = -1) : readSB t l x b = false := by
  cases hr : readSB t l x b
  · rfl
  · obtain ⟨e, y1, -, -, -⟩ := readS_yes hr
    have := (askA_parts (short_form y1).1).2
    omega

set_option maxRecDepth 100000 in
set_option maxHeartbeats 8000000 in
theorem specReadShorter_any (v : Value) (t : Tg) (A : Option Addr) (n c : Nat) (l : List ByteArray) (x : ByteArray) (b : Int) (w : World) (h : Tng w v t) (hf : t.Fine) (hl : Strs w A n c l) (hn : n ≤ 2000000) (hsz : ∀ y ∈ l, y.size ≤ maxLen) (hx : x.size ≤ maxLen) (hbb : -9223372036854775808 ≤ b ∧ b ≤ 9223372036854775807) :
    Calls Try.prog 23 #[v, .slice A n c, .string x, .int .i64 b] w fun e w' => e = .returned (.tuple #[.int .i64 (readSV t l x b), .bool (readSB t l x b)]) ∧ Below w.heap.size w w' := by
  obtain ⟨A1, c1, A2, c2, A3, c3, rfl, -⟩ := h.ex
  have hln := hl.len
  have hle := hl.le
  have hB := (Below.refl w.heap.size w).alloc (Nat.le_refl _) (.cells #[.slice A1 t.us.length c1, .slice A2 t.bs.length c2, .slice A3 t.ns.length c3] 26)
  have HX := Blk.new w 26 #[.slice A1 t.us.length c1, .slice A2 t.bs.length c2, .slice A3 t.ns.length c3]
  have HT := h.below hB (Nat.le_refl _)
  have HL := hl.below hB (Nat.le_refl _)
  have K1 := Lib.hid (specTongueOk_any _ t _ HT hf)
  have HN : okL t l = false → readSB t l x b = false := fun h => by unfold readSB; rw [h]; rfl
  replace HN := Lib.hid HN
  replace hB := Lib.hid hB
  replace HX := Lib.hid HX
  replace HT := Lib.hid HT
  replace HL := Lib.hid HL
  replace hsz := Lib.hid hsz
  replace hln := Lib.hid hln
  clear h hl
  go_enter Try.func23, Try.ntmps23
  go_upto_region 1 with (fail)
  generalize w.alloc (.cells #[.slice A1 t.us.length c1, .slice A2 t.bs.length c2, .slice A3 t.ns.length c3] 26) = W at *
  obtain ⟨x0, x1, x2, -, -, -⟩ := blk3 HX.out
  go_wp2_with (fail)
  refine K1.out.mono ?_
  rintro e w1 ⟨rfl, b1⟩
  replace hB := Lib.hid (hB.out.trans (b1.mono hB.out.size))
  replace HX := Lib.hid (HX.out.below b1 HX.out.lt)
  replace HT := Lib.hid (HT.out.below b1 (Nat.le_refl _))
  replace HL := Lib.hid (HL.out.below b1 (Nat.le_refl _))
  clear b1 x0 x1 x2 K1
  obtain ⟨x0, x1, x2, -, -, -⟩ := blk3 HX.out
  cases hok : t.ok
  · have hno := HN.out (by unfold okL; rw [hok]; rfl)
    have hv := readS_no hno
    replace hno := Lib.hid hno
    replace hv := Lib.hid hv
    replace hok := Lib.hid hok
    go_wp2
    go_ret2
    exact ⟨two_ret hv.out.symm hno.out.symm, hB.out⟩
  · by_cases hd : 1 ≤ n ∧ n ≤ 40
    · obtain ⟨hd1, hd2⟩ := hd
      have hdb : decide ((1 : Int) ≤ (n : Int) ∧ (n : Int) ≤ 40) = true := decide_eq_true (by omega)
      have hokl : okL t l = true := by unfold okL; rw [hok, hln.out, decide_eq_true ⟨hd1, hd2⟩]; rfl
      have HKV := Lib.hid (fun (ys : List ByteArray) (hy : ys.length ≤ 40) (hz : ∀ y ∈ ys, y.size ≤ maxLen) A c W (hT : Tng W (.agg #[.slice A1 t.us.length c1, .slice A2 t.bs.length c2, .slice A3 t.ns.length c3]) t) (hS : Strs W A ys.length c ys) => specValue_any hok hf ys.length ys rfl (by omega) hz _ A c W hT hS)
      have HKS := Lib.hid (fun (z : Int) (hz : -1000000 ≤ z ∧ z ≤ 1000000) W (hT : Tng W (.agg #[.slice A1 t.us.length c1, .slice A2 t.bs.length c2, .slice A3 t.ns.length c3]) t) => specShorterName_any _ t z x b W hT hf (by omega) hx hbb)
      have HVB := Lib.hid (valV_bd hok)
      have hvsb := valS_bd (x := x) hok l
      have HSL := short_len t (valS t l x) x b
      have HR : readSB t l x b = (shortB t (valS t l x) x b && decide (shortOf t (valS t l x) x b = l)) := by unfold readSB; rw [hokl, Bool.true_and]
      have HV : readSB t l x b = true → readSV t l x b = valS t l x := fun h => (readS_yes h).1
      have HV0 : readSB t l x b = false → readSV t l x b = -1 := readS_no
      have HM := readS_minus (t := t) (l := l) (x := x) (b := b)
      have HP := fun (k : Nat) (hk : k < l.length) => idxK_steps (x := x) hk
      have HZ := idxK_zero l x
      have HI : idxK l x n = if place l x < l.length then (place l x : Int) else -1 := by unfold idxK; rw [hln.out]
      have HY := valS_yes (t := t) (l := l) (x := x)
      have HO := valS_nope (t := t) (l := l) (x := x)
      replace HR := Lib.hid HR
      replace HV := Lib.hid HV
      replace HV0 := Lib.hid HV0
      replace HM := Lib.hid HM
      replace HP := Lib.hid HP
      replace HZ := Lib.hid HZ
      replace HI := Lib.hid HI
      replace HY := Lib.hid HY
      replace HO := Lib.hid HO
      replace hok := Lib.hid hok
      replace hokl := Lib.hid hokl
      clear HN
      go_wp2_with (fail)
      refine (in_any _ _ _ _).mono ?_
      rintro e _ ⟨rfl, rfl⟩
      rw [hdb]
      clear hdb
      go_wp2
      go_loop [10, 11] (fun s10 s11 => ∃ k : Nat, k ≤ n ∧ s11 = .int .i64 k ∧ s10 = .int .i64 (idxK l x k)) (fun _ i => n - (intOf i).toNat)
      case atStart => exact ⟨0, Nat.zero_le _, rfl, by rw [HZ.out]⟩
      case round =>
        obtain ⟨k, hk, rfl, rfl⟩ := hrel
        by_cases hlt : k < n
        · obtain ⟨bl, o, rfl, -, hc⟩ := HL.out.at_ (by omega)
          have ck := hc k hlt
          obtain ⟨p1, p2, p3⟩ := HP.out k (by rw [hln.out]; exact hlt)
          generalize l.getD k ByteArray.empty = y at *
          generalize idxK l x k = d at *
          clear hc
          by_cases e : y = x
          · have he : (y.toList == x.toList) = true := by rw [str_eq]; exact decide_eq_true e
            by_cases h0 : d < 0
            · have hg := Lib.hid (p1 e (by omega))
              clear p1 p2 p3
              replace e := Lib.hid e
              go_wp2
              go_round
              case rel => exact ⟨k + 1, by omega, by go_num, by rw [hg.out]⟩
              case measure => simp [intOf]; omega
            · have hg := Lib.hid (p2 e (by omega))
              clear p1 p2 p3
              replace e := Lib.hid e
              go_wp2
              go_round
              case rel => exact ⟨k + 1, by omega, by go_num, by rw [hg.out]⟩
              case measure => simp [intOf]; omega
          · have he : (y.toList == x.toList) = false := by rw [str_eq]; exact decide_eq_false e
            have hg := Lib.hid (p3 e)
            clear p1 p2 p3
            replace e := Lib.hid e
            go_wp2
            go_round
            case rel => exact ⟨k + 1, by omega, by go_num, by rw [hg.out]⟩
            case measure => simp [intOf]; omega
        · obtain rfl : k = n := by omega
          have KV := HKV.out l (by rw [hln.out]; exact hd2) hsz.out A c w1 HT.out (by rw [hln.out]; exact HL.out)
          rw [hln.out] at KV
          replace KV := Lib.hid KV
          obtain ⟨d, hd⟩ : ∃ d, d = idxK l x k := ⟨_, rfl⟩
          rw [← hd]
          rw [HI.out] at hd
          have hdb : -1 ≤ d := by rw [hd]; split <;> omega
          replace hd := Lib.hid hd
          go_wp2_with (fail)
          refine KV.out.mono ?_
          rintro e w2 ⟨rfl, b2⟩
          replace hB := Lib.hid (hB.out.trans (b2.mono hB.out.size))
          replace HX := Lib.hid (HX.out.below b2 HX.out.lt)
          replace HT := Lib.hid (HT.out.below b2 (Nat.le_refl _))
          replace HL := Lib.hid (HL.out.below b2 (Nat.le_refl _))
          clear b2 x0 x1 x2 KV HP HZ HI
          obtain ⟨x0, x1, x2, -, -, -⟩ := blk3 HX.out
          obtain ⟨vs, hvs⟩ : ∃ z, z = valS t l x := ⟨_, rfl⟩
          rw [← hvs] at hvsb
          replace hvs := Lib.hid hvs
          go_upto_if 48 with (fail)
          go_cut [12] (fun s12 wx => s12 = .int .i64 vs ∧ Below w2.heap.size w2 wx)
          case first =>
            by_cases hp : place l x < l.length
            · obtain ⟨y1, y2⟩ := HY.out hp
              have hdp : d = (place l x : Int) := by rw [hd.out, if_pos hp]
              rw [← hvs.out] at y1 y2
              have hpl := hln.out
              clear HY HO hd
              generalize place l x = p at *
              subst hdp
              have hpk : p < k := by omega
              have q1 := HVB.out (l.take p)
              have q2 := HVB.out (l.drop (p + 1))
              have KT := fun W' hT hS => HKV.out (l.take p) (by rw [List.length_take]; omega) (fun y hy => hsz.out y (List.mem_of_mem_take hy)) A c W' hT hS
              have hlt : (l.take p).length = p := by rw [List.length_take]; omega
              rw [hlt] at KT
              obtain ⟨bl, o, rfl, -, -⟩ := HL.out.at_ (by omega)
              have KD := Lib.hid (fun d os => KT (grow (redrawn w2 d) os) (HT.out.below (below_regrown w2 d os) (Nat.le_refl _)) ((HL.out.take (m := p) (by omega)).below (below_regrown w2 d os) (Nat.le_refl _)))
              have pc : (p : Int) ≤ (c : Int) := by omega
              have pc' : p ≤ c := by omega
              have y0' := fun d os => cell_regrown x0 d os
              have y1' := fun d os => cell_regrown x1 d os
              have y2' := fun d os => cell_regrown x2 d os
              generalize valV t (l.take p) = lv at *
              replace y1 := Lib.hid y1
              replace y2 := Lib.hid y2
              replace hpl := Lib.hid hpl
              clear KT hlt
              go_upto_region 11 with (fail)
              go_cut [13] (fun s13 wx => s13 = .int .i64 lv ∧ Below w2.heap.size w2 wx)
              case first =>
                refine wp_region_quiet_below (by kernel_rfl) (by kernel_rfl) ?_
                repeat (go_big_quiet_step (first | (go_at_call 56; exact Calls.regrown_of (KD.out _ _))))
                refine wpQuiet_nil ?_
                intro _ hw'
                obtain ⟨pq, hw''⟩ := hw'
                have bq := Lib.hid (below_regrown w2 pq.d pq.os)
                subst hw''
                clear y0' y1' y2' x0 x1 x2
                go_wp2
                go_meet
                exact ⟨rfl, bq.out⟩
              case rest =>
                obtain ⟨rfl, bx⟩ := hcut
                have HTx := Lib.hid (HT.out.below bx (Nat.le_refl _))
                have HLx := Lib.hid (HL.out.below bx (Nat.le_refl _))
                have HXx := Lib.hid (HX.out.below bx HX.out.lt)
                clear x0 x1 x2 y0' y1' y2' KD
                obtain ⟨x0, x1, x2, -, -, -⟩ := blk3 HXx.out
                have y0' := fun d os => cell_regrown x0 d os
                have y1' := fun d os => cell_regrown x1 d os
                have y2' := fun d os => cell_regrown x2 d os
                have hBx := Lib.hid (hB.out.trans (bx.mono hB.out.size))
                replace bx := Lib.hid bx
                have pk : (p : Int) + 1 ≤ (k : Int) := by omega
                have pw : IntKind.i64.wrap ((p : Int) + 1) = (p : Int) + 1 := IntWalk.i64_in _ (by omega)
                have p0 : (0 : Int) ≤ (p : Int) + 1 := by omega
                have pn : ((p : Int) + 1).toNat = p + 1 := by omega
                have pk' : p + 1 ≤ k := by omega
                obtain ⟨rv, hrv⟩ : ∃ z, z = valV t (l.drop (p + 1)) := ⟨_, rfl⟩
                have y1 := y1.out
                have y2 := y2.out
                rw [← hrv] at y1 y2 q2
                replace y1 := Lib.hid y1
                replace y2 := Lib.hid y2
                replace hrv := Lib.hid hrv
                go_upto_region 12 with (fail)
                go_cut [14] (fun s14 wx => s14 = .int .i64 rv ∧ Below wc.heap.size wc wx)
                case first =>
                  by_cases hcp : c = p + 1
                  · have hdn : l.drop (p + 1) = [] := List.drop_eq_nil_of_le (by rw [hpl.out]; omega)
                    have hkp : k = p + 1 := by omega
                    have KD := fun d os => HKV.out [] (by simp) (fun x hx => by cases hx) (some ⟨bl, o, none⟩) 0 (grow (redrawn wc d) os) (HTx.out.below (below_regrown wc d os) (Nat.le_refl _)) ⟨rfl, Nat.le_refl _, fun h => absurd h (by simp)⟩
                    have hr2 := hrv.out
                    rw [hdn] at hr2
                    rw [← hr2] at KD
                    replace KD := Lib.hid KD
                    replace hdn := Lib.hid hdn
                    replace hr2 := Lib.hid hr2
                    replace hpl := Lib.hid hpl.out
                    clear hle
                    subst hkp
                    subst hcp
                    refine wp_region_quiet_below (by kernel_rfl) (by kernel_rfl) ?_
                    repeat (go_big_quiet_step (first | (go_at_call 56; exact Calls.regrown_of (KD.out _ _))))
                    refine wpQuiet_nil ?_
                    intro _ hw'
                    obtain ⟨pq, hw''⟩ := hw'
                    have bq := Lib.hid (below_regrown wc pq.d pq.os)
                    subst hw''
                    clear y0' y1' y2' x0 x1 x2
                    go_wp2
                    go_meet
                    exact ⟨rfl, bq.out⟩
                  · have hcp' : ¬ p + 1 = c := fun e => hcp e.symm
                    have hld : (l.drop (p + 1)).length = k - (p + 1) := by rw [List.length_drop, hpl.out]
                    have hdr := HLx.out.drop (m := p + 1) pk'
                    have KD := fun d os => HKV.out (l.drop (p + 1)) (by rw [hld]; omega) (fun x hx => hsz.out x (List.mem_of_mem_drop hx)) (some ⟨bl, o + (p + 1), none⟩) (c - (p + 1)) (grow (redrawn wc d) os) (HTx.out.below (below_regrown wc d os) (Nat.le_refl _)) (by rw [hld]; exact hdr.below (below_regrown wc d os) (Nat.le_refl _))
                    rw [hld, ← hrv.out] at KD
                    replace KD := Lib.hid KD
                    replace hld := Lib.hid hld
                    clear hdr
                    refine wp_region_quiet_below (by kernel_rfl) (by kernel_rfl) ?_
                    repeat (go_big_quiet_step (first | (go_at_call 56; exact Calls.regrown_of (KD.out _ _))))
                    refine wpQuiet_nil ?_
                    intro _ hw'
                    obtain ⟨pq, hw''⟩ := hw'
                    have bq := Lib.hid (below_regrown wc pq.d pq.os)
                    subst hw''
                    clear y0' y1' y2' x0 x1 x2
                    go_wp2
                    go_meet
                    exact ⟨rfl, bq.out⟩
                case rest =>
                  obtain ⟨rfl, by2⟩ := hcut
                  have hB2 := Lib.hid (hBx.out.trans (by2.mono hBx.out.size))
                  have hb2' := Lib.hid (bx.out.trans (by2.mono bx.out.size))
                  clear y0' y1' y2' x0 x1 x2
                  by_cases g1 : lv < 0
                  · have hm := HM.out (by rw [← hvs.out]; exact y1.out (.inl g1))
                    have hv := HV0.out hm
                    replace hm := Lib.hid hm
                    replace hv := Lib.hid hv
                    go_wp2
                    go_ret2
                    exact ⟨two_ret hv.out.symm hm.out.symm, hB2.out⟩
                  · by_cases g2 : rv < 0
                    · have hm := HM.out (by rw [← hvs.out]; exact y1.out (.inr g2))
                      have hv := HV0.out hm
                      replace hm := Lib.hid hm
                      replace hv := Lib.hid hv
                      go_wp2
                      go_ret2
                      exact ⟨two_ret hv.out.symm hm.out.symm, hB2.out⟩
                    · have hs := Lib.hid (y2.out (fun h => h.elim g1 g2))
                      have w9 : IntKind.i64.wrap (rv - lv) = rv - lv := IntWalk.i64_in _ (by omega)
                      go_wp2
                      go_meet
                      exact ⟨by rw [hs.out], hb2'.out⟩
            · have ho := HO.out hp
              have hdp : d = -1 := by rw [hd.out, if_neg hp]
              replace hp := Lib.hid hp
              have ho' := Lib.hid (hvs.out.trans ho)
              clear HY HO hd ho
              subst hdp
              go_wp2
              go_meet
              exact ⟨by rw [ho'.out], Below.refl _ _⟩
          case rest =>
            obtain ⟨rfl, bx⟩ := hcut
            have hBw := Lib.hid (hB.out.trans (bx.mono hB.out.size))
            have HXw := Lib.hid (HX.out.below bx HX.out.lt)
            have HTw := Lib.hid (HT.out.below bx (Nat.le_refl _))
            have HLw := Lib.hid (HL.out.below bx (Nat.le_refl _))
            clear bx x0 x1 x2 HY HO HM hd hB HX HT HL
            obtain ⟨x0, x1, x2, -, -, -⟩ := blk3 HXw.out
            have KT := Lib.hid (HKS.out vs hvsb wc HTw.out)
            have HSL := HSL
            have HR := HR.out
            have HV := HV.out
            rw [← hvs.out] at HSL HR HV
            replace HR := Lib.hid HR
            replace HV := Lib.hid HV
            go_wp2_with (fail)
            refine KT.out.mono ?_
            rintro e w3 ⟨v3, rfl, o3, b3⟩
            obtain ⟨A3', c3', rfl, s3⟩ := o3.strs
            replace hBw := Lib.hid (hBw.out.trans (b3.mono hBw.out.size))
            replace HLw := Lib.hid (HLw.out.below b3 (Nat.le_refl _))
            replace s3 := Lib.hid s3
            clear b3 x0 x1 x2 KT o3 HXw HTw HKS
            generalize shortOf t vs x b = ws at *
            generalize hnb : shortB t vs x b = nb at *
            generalize hwl : ws.length = L at *
            cases nb
            · have hr : readSB t l x b = false := by rw [HR.out]; rfl
              have hv := Lib.hid (HV0.out hr)
              replace hr := Lib.hid hr
              go_wp2
              go_ret2
              exact ⟨two_ret hv.out.symm hr.out.symm, hBw.out⟩
            · by_cases hLn : L = k
              · have hbe : ((L : Int) != (k : Int)) = false := by rw [bne_eq_false_iff_eq]; omega
                obtain ⟨bl, o, rfl, -, hc⟩ := HLw.out.at_ (by omega)
                obtain ⟨b', o', rfl, -, hc'⟩ := s3.out.at_ (by omega)
                have hwl' : ws.length = l.length := by rw [hwl, hln.out, hLn]
                have hwn : ws.length = k := by omega
                replace hLn := Lib.hid hLn
                replace hwl := Lib.hid hwl
                replace hwl' := Lib.hid hwl'
                replace hwn := Lib.hid hwn
                replace hc := Lib.hid hc
                replace hc' := Lib.hid hc'
                go_wp2
                go_loopw [17] (fun i wr => ∃ j m : Nat, j ≤ k ∧ i = .int .i64 j ∧ ws.take j = l.take j ∧ wr = w3.drewN m) (fun i _ => k - (intOf i).toNat)
                case atStart => exact ⟨0, 0, Nat.zero_le _, rfl, by simp, rfl⟩
                case round =>
                  obtain ⟨j, m, hj, rfl, hu, rfl⟩ := hrel
                  by_cases hjl : j < k
                  · have d1 := hc'.out j (by rw [hLn.out]; exact hjl)
                    have d2 := hc.out j hjl
                    have HU := takeS_go (k := j) ws l (by rw [hwn.out]; exact hjl) hwl'.out hu
                    have HNE : ¬ ws.getD j ByteArray.empty = l.getD j ByteArray.empty → ¬ ws = l := fun hn he => hn (by rw [he])
                    have hkL : j < L := by rw [hLn.out]; exact hjl
                    generalize ws.getD j ByteArray.empty = p at *
                    generalize l.getD j ByteArray.empty = q at *
                    replace HU := Lib.hid HU
                    replace HNE := Lib.hid HNE
                    clear hu
                    by_cases hx' : p = q
                    · have hx1 : (p.toList == q.toList) = true := by rw [str_eq]; exact decide_eq_true hx'
                      have hx2 : (p.toList != q.toList) = false := by rw [bne, hx1]; rfl
                      replace hx' := Lib.hid hx'
                      go_wp2
                      go_quiet (fail)
                      go_wp2
                      go_roundw
                      case rel => exact ⟨j + 1, m + nq, by omega, by go_num, HU.out hx'.out, by simp⟩
                      case measure => simp [intOf]; omega
                    · have hx1 : (p.toList == q.toList) = false := by rw [str_eq]; exact decide_eq_false hx'
                      have hx2 : (p.toList != q.toList) = true := by rw [bne, hx1]; rfl
                      have hr : readSB t l x b = false := by rw [HR.out, decide_eq_false (HNE.out hx')]; rfl
                      have hv := Lib.hid (HV0.out hr)
                      replace hr := Lib.hid hr
                      replace hx' := Lib.hid hx'
                      go_wp2
                      go_quiet (fail)
                      go_wp2
                      go_ret2
                      exact ⟨two_ret hv.out.symm hr.out.symm, below_drewN (below_drewN hBw.out _) _⟩
                  · have he := takeS_end ws l (by rw [hwn.out]; omega) hwl'.out hu
                    have hr : readSB t l x b = true := by rw [HR.out, decide_eq_true he]; rfl
                    have hv := Lib.hid (HV.out hr)
                    replace hr := Lib.hid hr
                    replace he := Lib.hid he
                    clear hu
                    go_wp2
                    go_ret2
                    exact ⟨two_ret hv.out.symm hr.out.symm, below_drewN hBw.out _⟩
              · have hbe : ((L : Int) != (k : Int)) = true := by rw [bne_iff_ne]; omega
                have hr : readSB t l x b = false := by rw [HR.out, decide_eq_false (fun e => hLn (by rw [← hwl, e, hln.out]))]; rfl
                have hv := Lib.hid (HV0.out hr)
                replace hr := Lib.hid hr
                replace hLn := Lib.hid hLn
                go_wp2
                go_ret2
                exact ⟨two_ret hv.out.symm hr.out.symm, hBw.out⟩
    · have hdb : decide ((1 : Int) ≤ (n : Int) ∧ (n : Int) ≤ 40) = false := decide_eq_false (by omega)
      have hno := HN.out (by unfold okL; rw [hln.out, decide_eq_false hd, Bool.and_false])
      have hv := readS_no hno
      replace hno := Lib.hid hno
      replace hv := Lib.hid hv
      replace hok := Lib.hid hok
      replace hd := Lib.hid hd
      clear HN
      go_wp2_with (fail)
      refine (in_any _ _ _ _).mono ?_
      rintro e _ ⟨rfl, rfl⟩
      rw [hdb]
      go_wp2
      go_ret2
      exact ⟨two_ret hv.out.symm hno.out.symm, hB.out⟩
end Go.Proofs.Ytpbinajjlambfaa
