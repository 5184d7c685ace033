/-
  The contract of the program's ReadShorter.
-/
import Derived.Test.YtpbinajjlambfaaB3
import Derived.Test.YtpbinajjlambfaaGP
import Derived.Lib.QuietBelow
namespace Go.Proofs.Ytpbinajjlambfaa
open Go.RowKit Go.Sort

theorem ap_yes {t : Tg} {l : List ByteArray} {x : ByteArray} (h : place l x < l.length) : apV t l x = readV t (l.drop (place l x + 1)) - readV t (l.take (place l x)) ∧ apB t l x = (readB t (l.take (place l x)) && readB t (l.drop (place l x + 1))) := by
  unfold apV apB; rw [if_pos h, if_pos h]; exact ⟨rfl, rfl⟩
theorem ap_nope {t : Tg} {l : List ByteArray} {x : ByteArray} (h : ¬ place l x < l.length) : apV t l x = readV t l ∧ apB t l x = readB t l := by
  unfold apV apB; rw [if_neg h, if_neg h]; exact ⟨rfl, rfl⟩

set_option maxRecDepth 100000 in
set_option maxHeartbeats 4000000 in
theorem implApart_any (v : Value) (t : Tg) (A : Option Addr) (n c : Nat) (l : List ByteArray) (x : ByteArray) (w : World) (h : Tng w v t) (hf : t.Fine) (hl : Strs w A n c l) (hn : n ≤ 40) (hsz : ∀ y ∈ l, y.size ≤ 1048576) :
    Calls Try.prog 55 #[v, .slice A n c, .string x] w fun e w' => e = .returned (.tuple #[.int .i64 (apV t l x), .bool (apB t l x)]) ∧ Below w.heap.size w w' := by
  obtain ⟨A1, c1, A2, c2, A3, c3, rfl, -⟩ := h.ex
  have hln := hl.len
  have hle := hl.le
  have hB := (Below.refl w.heap.size w).alloc (Nat.le_refl _) (.cells #[.slice A1 t.us.length c1, .slice A2 t.bs.length c2, .slice A3 t.ns.length c3] 26)
  have HX := Blk.new w 26 #[.slice A1 t.us.length c1, .slice A2 t.bs.length c2, .slice A3 t.ns.length c3]
  have HT := h.below hB (Nat.le_refl _)
  have HL := hl.below hB (Nat.le_refl _)
  have K1 := index_any A n c l x _ HL (by omega)
  have HKR := Lib.hid (fun (ys : List ByteArray) (hy : ys.length ≤ 40) (hz : ∀ y ∈ ys, y.size ≤ 1048576) A c W (hT : Tng W (.agg #[.slice A1 t.us.length c1, .slice A2 t.bs.length c2, .slice A3 t.ns.length c3]) t) (hS : Strs W A ys.length c ys) => implReadName_any _ t A _ c ys W hT hf hS (by omega) hz)
  replace hB := Lib.hid hB
  replace HX := Lib.hid HX
  replace HT := Lib.hid HT
  replace HL := Lib.hid HL
  replace hsz := Lib.hid hsz
  clear h hl
  by_cases hp : place l x < l.length
  · obtain ⟨ev, eb⟩ := ap_yes (t := t) hp
    have hv : idxV l x = place l x := by unfold idxV; rw [if_pos hp]
    rw [hv] at K1
    generalize place l x = p at *
    have hpn : p < n := by omega
    have q1 := readV_bd t (l.take p)
    have q2 := readV_bd t (l.drop (p + 1))
    obtain ⟨av, hav⟩ : ∃ z, apV t l x = z := ⟨_, rfl⟩
    obtain ⟨ab, hab⟩ : ∃ z, apB t l x = z := ⟨_, rfl⟩
    replace K1 := Lib.hid K1
    replace ev := Lib.hid ev
    replace eb := Lib.hid eb
    replace hv := Lib.hid hv
    replace hav := Lib.hid hav
    replace hab := Lib.hid hab
    obtain ⟨bl, o, rfl, -, -⟩ := HL.out.at_ (by omega)
    have hln' := hln
    replace hln := Lib.hid hln
    go_enter Try.func55, Try.ntmps55
    go_upto_region 1 with (fail)
    generalize w.alloc (.cells #[.slice A1 t.us.length c1, .slice A2 t.bs.length c2, .slice A3 t.ns.length c3] 26) = W at *
    obtain ⟨x0, x1, x2, -, -, -⟩ := blk3 HX.out
    go_wp2_with (fail)
    refine K1.out.mono ?_
    rintro e _ ⟨rfl, rfl⟩
    clear K1
    have hlt : (l.take p).length = p := by rw [List.length_take]; omega
    have KT := fun W' hT hS => HKR.out (l.take p) (by omega) (fun y hy => hsz.out y (List.mem_of_mem_take hy)) (some ⟨bl, o, none⟩) c W' hT hS
    rw [hlt] at KT
    have KD := Lib.hid (fun d os => KT (grow (redrawn W d) os) (HT.out.below (below_regrown W d os) (Nat.le_refl _)) ((HL.out.take (m := p) (by omega)).below (below_regrown W d os) (Nat.le_refl _)))
    have pc : (p : Int) ≤ (c : Int) := by omega
    have pc' : p ≤ c := by omega
    have p00 : ¬ (p : Int) < 0 := by omega
    have y0' := fun d os => cell_regrown x0 d os
    have y1' := fun d os => cell_regrown x1 d os
    have y2' := fun d os => cell_regrown x2 d os
    obtain ⟨lv, hlv⟩ : ∃ z, readV t (l.take p) = z := ⟨_, rfl⟩
    obtain ⟨lb, hlb⟩ : ∃ z, readB t (l.take p) = z := ⟨_, rfl⟩
    have ev := ev.out
    have eb := eb.out
    rw [hlv] at ev q1
    rw [hlb] at eb
    rw [hlv, hlb] at KD
    replace ev := Lib.hid ev
    replace eb := Lib.hid eb
    clear KT hlt hln' hlv hlb
    go_upto_region 4 with (fail)
    go_cut [9, 10] (fun s9 s10 wx => (s9 = .int .i64 lv ∧ s10 = .bool lb) ∧ Below W.heap.size W wx)
    case first =>
      refine wp_region_quiet_below (by kernel_rfl) (by kernel_rfl) ?_
      repeat (go_big_quiet_step (first | (go_at_call 16; exact Calls.regrown_of (KD.out _ _))))
      refine wpQuiet_nil ?_
      intro _ hw'
      obtain ⟨pq, hw''⟩ := hw'
      have bq := Lib.hid (below_regrown W pq.d pq.os)
      subst hw''
      clear y0' y1' y2' x0 x1 x2
      go_wp2
      go_meet
      exact ⟨⟨rfl, rfl⟩, bq.out⟩
    case rest =>
      obtain ⟨⟨rfl, rfl⟩, bx⟩ := hcut
      have HTx := Lib.hid (HT.out.below bx (Nat.le_refl _))
      have HLx := Lib.hid (HL.out.below bx (Nat.le_refl _))
      have HXx := Lib.hid (HX.out.below bx HX.out.lt)
      clear x0 x1 x2 y0' y1' y2' KD
      obtain ⟨x0, x1, x2, -, -, -⟩ := blk3 HXx.out
      have y0' := fun d os => cell_regrown x0 d os
      have y1' := fun d os => cell_regrown x1 d os
      have y2' := fun d os => cell_regrown x2 d os
      have hBx := Lib.hid (hB.out.trans (bx.mono hB.out.size))
      clear bx
      have pk : (p : Int) + 1 ≤ (n : Int) := by omega
      have pw : IntKind.i64.wrap ((p : Int) + 1) = (p : Int) + 1 := IntWalk.i64_in _ (by omega)
      have p0 : (0 : Int) ≤ (p : Int) + 1 := by omega
      have pn : ((p : Int) + 1).toNat = p + 1 := by omega
      have pk' : p + 1 ≤ n := by omega
      obtain ⟨rv, hrv⟩ : ∃ z, z = readV t (l.drop (p + 1)) := ⟨_, rfl⟩
      obtain ⟨rb, hrb⟩ : ∃ z, z = readB t (l.drop (p + 1)) := ⟨_, rfl⟩
      have ev := ev.out
      have eb := eb.out
      rw [← hrv] at ev q2
      rw [← hrb] at eb
      replace ev := Lib.hid ev
      replace eb := Lib.hid eb
      replace hrv := Lib.hid hrv
      replace hrb := Lib.hid hrb
      go_upto_region 5 with (fail)
      go_cut [11, 12] (fun s11 s12 wx => (s11 = .int .i64 rv ∧ s12 = .bool rb) ∧ Below wc.heap.size wc wx)
      case first =>
        by_cases hcp : c = p + 1
        · have hdn : l.drop (p + 1) = [] := List.drop_eq_nil_of_le (by rw [hln.out]; omega)
          have hkp : n = p + 1 := by omega
          have KD := fun d os => HKR.out [] (by simp) (fun x hx => by cases hx) (some ⟨bl, o, none⟩) 0 (grow (redrawn wc d) os) (HTx.out.below (below_regrown wc d os) (Nat.le_refl _)) ⟨rfl, Nat.le_refl _, fun h => absurd h (by simp)⟩
          have hr2 := hrv.out
          have hr3 := hrb.out
          rw [hdn] at hr2 hr3
          rw [← hr2, ← hr3] at KD
          replace KD := Lib.hid KD
          replace hdn := Lib.hid hdn
          replace hr2 := Lib.hid hr2
          replace hr3 := Lib.hid hr3
          clear hle
          subst hkp
          subst hcp
          refine wp_region_quiet_below (by kernel_rfl) (by kernel_rfl) ?_
          repeat (go_big_quiet_step (first | (go_at_call 16; exact Calls.regrown_of (KD.out _ _))))
          refine wpQuiet_nil ?_
          intro _ hw'
          obtain ⟨pq, hw''⟩ := hw'
          have bq := Lib.hid (below_regrown wc pq.d pq.os)
          subst hw''
          clear y0' y1' y2' x0 x1 x2
          go_wp2
          go_meet
          exact ⟨⟨rfl, rfl⟩, bq.out⟩
        · have hcp' : ¬ p + 1 = c := fun e => hcp e.symm
          have hld : (l.drop (p + 1)).length = n - (p + 1) := by rw [List.length_drop, hln.out]
          have hdr := HLx.out.drop (m := p + 1) pk'
          have KD := fun d os => HKR.out (l.drop (p + 1)) (by rw [hld]; omega) (fun x hx => hsz.out x (List.mem_of_mem_drop hx)) (some ⟨bl, o + (p + 1), none⟩) (c - (p + 1)) (grow (redrawn wc d) os) (HTx.out.below (below_regrown wc d os) (Nat.le_refl _)) (by rw [hld]; exact hdr.below (below_regrown wc d os) (Nat.le_refl _))
          rw [hld, ← hrv.out, ← hrb.out] at KD
          replace KD := Lib.hid KD
          replace hld := Lib.hid hld
          clear hdr
          refine wp_region_quiet_below (by kernel_rfl) (by kernel_rfl) ?_
          repeat (go_big_quiet_step (first | (go_at_call 16; exact Calls.regrown_of (KD.out _ _))))
          refine wpQuiet_nil ?_
          intro _ hw'
          obtain ⟨pq, hw''⟩ := hw'
          have bq := Lib.hid (below_regrown wc pq.d pq.os)
          subst hw''
          clear y0' y1' y2' x0 x1 x2
          go_wp2
          go_meet
          exact ⟨⟨rfl, rfl⟩, bq.out⟩
      case rest =>
        obtain ⟨⟨rfl, rfl⟩, by2⟩ := hcut
        have hB2 := Lib.hid (hBx.out.trans (by2.mono hBx.out.size))
        have w9 : IntKind.i64.wrap (rv - lv) = rv - lv := IntWalk.i64_in _ (by omega)
        have e1 := Lib.hid (hav.out.symm.trans ev.out)
        have e2 := Lib.hid (hab.out.symm.trans eb.out)
        clear y0' y1' y2' x0 x1 x2 by2
        cases lb <;> cases rb
        all_goals
          go_wp2
          go_ret2
          exact ⟨two_ret (hav.out.trans e1.out).symm (hab.out.trans e2.out).symm, hB2.out⟩
  · obtain ⟨ev, eb⟩ := ap_nope (t := t) hp
    have hv : idxV l x = -1 := by unfold idxV; rw [if_neg hp]
    rw [hv] at K1
    replace K1 := Lib.hid K1
    replace ev := Lib.hid ev
    replace eb := Lib.hid eb
    replace hv := Lib.hid hv
    replace hp := Lib.hid hp
    go_enter Try.func55, Try.ntmps55
    go_upto_region 1 with (fail)
    generalize w.alloc (.cells #[.slice A1 t.us.length c1, .slice A2 t.bs.length c2, .slice A3 t.ns.length c3] 26) = W at *
    obtain ⟨x0, x1, x2, -, -, -⟩ := blk3 HX.out
    have KR := HKR.out l (by omega) hsz.out A c W HT.out (by rw [hln]; exact HL.out)
    rw [hln] at KR
    replace KR := Lib.hid KR
    replace hln := Lib.hid hln
    obtain ⟨rv, hrv⟩ : ∃ z, readV t l = z := ⟨_, rfl⟩
    obtain ⟨rb, hrb⟩ : ∃ z, readB t l = z := ⟨_, rfl⟩
    rw [hrv, hrb] at KR
    replace hrv := Lib.hid hrv
    replace hrb := Lib.hid hrb
    go_wp2_with (fail)
    refine K1.out.mono ?_
    rintro e _ ⟨rfl, rfl⟩
    clear K1
    go_wp2_with (fail)
    refine KR.out.mono ?_
    rintro e w3 ⟨rfl, b3⟩
    have hB2 := Lib.hid (hB.out.trans (b3.mono hB.out.size))
    clear b3 KR x0 x1 x2
    go_wp2
    go_ret2
    exact ⟨two_ret (ev.out.trans hrv.out).symm (eb.out.trans hrb.out).symm, hB2.out⟩

set_option maxRecDepth 100000 in
set_option maxHeartbeats 4000000 in
theorem implReadShorter_any (v : Value) (t : Tg) (A : Option Addr) (n c : Nat) (l : List ByteArray) (x : ByteArray) (b : Int) (w : World) (h : Tng w v t) (hf : t.Fine) (hl : Strs w A n c l) (hn : n ≤ 2000000) (hsz : ∀ y ∈ l, y.size ≤ 1048576) (hx : x.size ≤ maxLen) :
    Calls Try.prog 22 #[v, .slice A n c, .string x, .int .i64 b] w fun e w' => e = .returned (.tuple #[.int .i64 (readSV t l x b), .bool (readSB t l x b)]) ∧ Below w.heap.size w w' := by
  obtain ⟨A1, c1, A2, c2, A3, c3, rfl, -⟩ := h.ex
  have hln := hl.len
  have hB := (Below.refl w.heap.size w).alloc (Nat.le_refl _) (.cells #[.slice A1 t.us.length c1, .slice A2 t.bs.length c2, .slice A3 t.ns.length c3] 26)
  have HX := Blk.new w 26 #[.slice A1 t.us.length c1, .slice A2 t.bs.length c2, .slice A3 t.ns.length c3]
  have HT := h.below hB (Nat.le_refl _)
  have HL := hl.below hB (Nat.le_refl _)
  have K1 := Lib.hid (implTakeable_any _ t x b _ HT hf hx)
  have hfo := Lib.hid (fun (h : readSB t l x b = true) => readSB_fits h)
  have hoff : ∀ p : Prop, (readSB t l x b = true → p) → ¬ p → readSB t l x b = false := fun p h1 h2 => by
    cases hr : readSB t l x b
    · rfl
    · exact absurd (h1 hr) h2
  replace hoff := Lib.hid hoff
  replace hB := Lib.hid hB
  replace HX := Lib.hid HX
  replace HT := Lib.hid HT
  replace HL := Lib.hid HL
  replace hsz := Lib.hid hsz
  replace hln := Lib.hid hln
  clear h hl
  go_enter Try.func22, Try.ntmps22
  go_upto_region 1 with (fail)
  generalize w.alloc (.cells #[.slice A1 t.us.length c1, .slice A2 t.bs.length c2, .slice A3 t.ns.length c3] 26) = W at *
  obtain ⟨x0, x1, x2, -, -, -⟩ := blk3 HX.out
  go_wp2_with (fail)
  refine K1.out.mono ?_
  rintro e w1 ⟨rfl, b1⟩
  replace hB := Lib.hid (hB.out.trans (b1.mono hB.out.size))
  replace HX := Lib.hid (HX.out.below b1 HX.out.lt)
  replace HT := Lib.hid (HT.out.below b1 (Nat.le_refl _))
  replace HL := Lib.hid (HL.out.below b1 (Nat.le_refl _))
  clear b1 x0 x1 x2 K1
  obtain ⟨x0, x1, x2, -, -, -⟩ := blk3 HX.out
  cases hfi : fitsA t x b
  · have hno := hoff.out _ (fun h => (hfo.out h).1) (by rw [hfi]; decide)
    have hv := readS_no hno
    replace hno := Lib.hid hno
    replace hv := Lib.hid hv
    replace hfi := Lib.hid hfi
    go_wp2
    go_ret2
    exact ⟨two_ret hv.out.symm hno.out.symm, hB.out⟩
  · have hok := (fitsA_parts hfi).1
    by_cases hd : 1 ≤ n ∧ n ≤ 40
    · obtain ⟨hd1, hd2⟩ := hd
      have t1 : ¬ (n : Int) < 1 := by omega
      have t2 : ¬ (40 : Int) < (n : Int) := by omega
      have hokl : okL t l = true := by unfold okL; rw [hok, hln.out, decide_eq_true ⟨hd1, hd2⟩]; rfl
      obtain ⟨HR, HV⟩ := readA (x := x) (b := b) hokl
      have HV0 := fun h => readS_no (t := t) (l := l) (x := x) (b := b) h
      have KA := Lib.hid (implApart_any _ t A n c l x w1 HT.out hf HL.out hd2 hsz.out)
      have hab := apV_bd t l x
      have KS := Lib.hid (fun (z : Int) (hz : -100000 ≤ z ∧ z ≤ 100000) W' (hT : Tng W' (.agg #[.slice A1 t.us.length c1, .slice A2 t.bs.length c2, .slice A3 t.ns.length c3]) t) => implShorterName_any _ t z x b W' hT hf (by omega) hx)
      generalize apV t l x = av at *
      generalize apB t l x = ab at *
      have hsl := short_len t av x b
      replace HR := Lib.hid HR
      replace HV := Lib.hid HV
      replace HV0 := Lib.hid HV0
      replace hokl := Lib.hid hokl
      replace hfi := Lib.hid hfi
      replace hok := Lib.hid hok
      clear hfo hoff
      go_wp2_with (fail)
      refine KA.out.mono ?_
      rintro e w2 ⟨rfl, b2⟩
      replace hB := Lib.hid (hB.out.trans (b2.mono hB.out.size))
      replace HX := Lib.hid (HX.out.below b2 HX.out.lt)
      replace HT := Lib.hid (HT.out.below b2 (Nat.le_refl _))
      replace HL := Lib.hid (HL.out.below b2 (Nat.le_refl _))
      clear b2 x0 x1 x2 KA
      obtain ⟨x0, x1, x2, -, -, -⟩ := blk3 HX.out
      cases ab
      · have hr : readSB t l x b = false := by rw [HR.out]; rfl
        have hv := Lib.hid (HV0.out hr)
        replace hr := Lib.hid hr
        go_wp2
        go_ret2
        exact ⟨two_ret hv.out.symm hr.out.symm, hB.out⟩
      · have KS1 := Lib.hid (KS.out av hab w2 HT.out)
        have HR' : readSB t l x b = decide (shortOf t av x b = l) := by rw [HR.out, Bool.true_and]
        have hv1 : decide (shortOf t av x b = l) = true → readSV t l x b = av := fun h => HV.out (by rw [HR', h])
        have hv0 : decide (shortOf t av x b = l) = false → readSV t l x b = -1 := fun h => HV0.out (by rw [HR', h])
        replace HR' := Lib.hid HR'
        replace hv1 := Lib.hid hv1
        replace hv0 := Lib.hid hv0
        clear HR HV HV0 KS
        go_wp2_with (fail)
        refine KS1.out.mono ?_
        rintro e w4 ⟨v4, rfl, o4, b4⟩
        obtain ⟨A5, c5, rfl, s5⟩ := o4.strs
        replace hB := Lib.hid (hB.out.trans (b4.mono hB.out.size))
        replace HL := Lib.hid (HL.out.below b4 (Nat.le_refl _))
        have KE := Lib.hid (equalStr_any A5 A _ c5 n c _ l w4 s5 HL.out (by omega) (by omega))
        clear b4 o4 s5 x0 x1 x2 KS1 HX HT
        generalize shortOf t av x b = ws at *
        generalize shortB t av x b = wb at *
        generalize ws.length = wl at *
        generalize decide (ws = l) = eq at *
        go_wp2_with (fail)
        refine KE.out.mono ?_
        rintro e w5 ⟨rfl, m5, rfl⟩
        replace hB := Lib.hid (below_drewN hB.out m5)
        cases eq
        · have hv := Lib.hid (hv0.out rfl)
          clear hv0 hv1
          go_wp2
          go_ret2
          exact ⟨two_ret hv.out.symm HR'.out.symm, hB.out⟩
        · have hv := Lib.hid (hv1.out rfl)
          clear hv0 hv1
          go_wp2
          go_ret2
          exact ⟨two_ret hv.out.symm HR'.out.symm, hB.out⟩
    · have hno := hoff.out _ (fun h => (hfo.out h).2) (by unfold okL; rw [hln.out, decide_eq_false hd, Bool.and_false]; decide)
      have hv := readS_no hno
      replace hno := Lib.hid hno
      replace hv := Lib.hid hv
      replace hfi := Lib.hid hfi
      replace hok := Lib.hid hok
      by_cases h1 : n < 1
      · have t1 : (n : Int) < 1 := by omega
        replace hd := Lib.hid hd
        go_wp2
        go_ret2
        exact ⟨two_ret hv.out.symm hno.out.symm, hB.out⟩
      · have t1 : ¬ (n : Int) < 1 := by omega
        have t2 : (40 : Int) < (n : Int) := by omega
        replace hd := Lib.hid hd
        go_wp2
        go_ret2
        exact ⟨two_ret hv.out.symm hno.out.symm, hB.out⟩
end Go.Proofs.Ytpbinajjlambfaa
