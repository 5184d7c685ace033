/-
  The contracts of the program's TurnedName, ReadTurned and IsTurned.
-/
import Derived.Test.YtbckckicffjccaaV4
import Derived.Test.YtbckckicffjccaaGP
import Derived.Deep.RegionHeld3
namespace Go.Proofs.Ytbckckicffjccaa
open Go.RowKit

theorem plainI_mem {x : ByteArray} {l : List ByteArray} : (∀ y ∈ plainI x l, y ∈ l) ∧ (plainI x l).length ≤ l.length := by
  unfold plainI
  split
  · refine ⟨fun y hy => ?_, by simp; omega⟩
    rcases List.mem_append.1 hy with hy | hy
    · rcases List.mem_append.1 hy with hy | hy
      · exact List.mem_of_mem_take hy
      · exact List.mem_of_mem_drop hy
    · exact List.mem_of_mem_take (List.mem_of_mem_drop hy)
  · exact ⟨fun y hy => hy, Nat.le_refl _⟩

set_option maxRecDepth 100000 in
set_option maxHeartbeats 4000000 in
theorem readBy_any (v : Value) (t : Tg) (A : Option Addr) (n c g : Nat) (l : List ByteArray) (x : ByteArray) (w : World) (hk : okLT t l x = true) (h : Tng w v t) (hf : t.Fine) (hl : Strs w A n c l) (hcm : c ≤ maxLen) (hsz : ∀ y ∈ l, y.size ≤ 1048576) (hg : Blk w g 9 #[.string x]) :
    Calls Try.prog 44 #[v, .slice A n c, orderV g] w fun e w' => e = .returned (.tuple #[.int .i64 (readUV t l x), .bool (readUB t l x)]) ∧ Below w.heap.size w w' := by
  have hkk := hk
  unfold okLT at hkk
  simp only [Bool.and_eq_true, decide_eq_true_eq] at hkk
  obtain ⟨hfi, hl1, hl40⟩ := hkk
  obtain ⟨hok, hl2, hne, -, -⟩ := fits_parts hfi
  have hln := hl.len
  obtain ⟨HR, HV⟩ := readI hk
  have HV0 := fun h => readU_no (t := t) (l := l) (x := x) h
  obtain ⟨hpm, hpl⟩ := plainI_mem (x := x) (l := l)
  have hyes := fun h => named_ok (read_yes (t := t) (l := plainI x l) h).2.1
  have HTn := fun (m : Nat) h1 h2 => turned_nat (t := t) (x := x) (n := m) hfi h1 h2
  have KB := fun (m : Nat) h1 h2 v' g' W hT hG => nameBy_any hok hl2 hne hf m h1 h2 v' x g' W hT hG
  obtain ⟨A1, c1, A2, c2, A3, c3, rfl, -⟩ := h.ex
  have hB0 := (Below.refl w.heap.size w).alloc (Nat.le_refl _) (.cells #[.slice A1 t.us.length c1, .slice A2 t.bs.length c2, .slice A3 t.ns.length c3] 26)
  have hB := hB0.alloc hB0.size (.cells #[.func (.func 58) #[] #[.pointer (some ⟨g, 0, none⟩)], .func (.func 60) #[] #[.pointer (some ⟨g, 0, none⟩)]] 59)
  have HX := (Blk.new w 26 #[.slice A1 t.us.length c1, .slice A2 t.bs.length c2, .slice A3 t.ns.length c3]).alloc (.cells #[.func (.func 58) #[] #[.pointer (some ⟨g, 0, none⟩)], .func (.func 60) #[] #[.pointer (some ⟨g, 0, none⟩)]] 59)
  have HQ : orderB ((w.alloc (.cells #[.slice A1 t.us.length c1, .slice A2 t.bs.length c2, .slice A3 t.ns.length c3] 26)).alloc (.cells #[.func (.func 58) #[] #[.pointer (some ⟨g, 0, none⟩)], .func (.func 60) #[] #[.pointer (some ⟨g, 0, none⟩)]] 59)) (w.heap.size + 1) g := blk_new_at (w.heap.size + 1) (by simp)
  have HT := h.below hB (Nat.le_refl _)
  have HL := hl.below hB (Nat.le_refl _)
  have HG := hg.below hB hg.lt
  replace hB := Lib.hid hB
  replace HX := Lib.hid HX
  replace HQ := Lib.hid HQ
  replace HT := Lib.hid HT
  replace HL := Lib.hid HL
  replace HG := Lib.hid HG
  replace hok := Lib.hid hok
  replace hne := Lib.hid hne
  replace hfi := Lib.hid hfi
  replace hk := Lib.hid hk
  replace HR := Lib.hid HR
  replace HV := Lib.hid HV
  replace HV0 := Lib.hid HV0
  replace hyes := Lib.hid hyes
  replace HTn := Lib.hid HTn
  replace KB := Lib.hid KB
  have hpz := Lib.hid (fun y (hy : y ∈ plainI x l) => hsz y (hpm y hy))
  have hn40 : n ≤ 40 := by omega
  replace hln := Lib.hid hln
  clear h hl hB0 hg hsz hpm
  go_enter Try.func44, Try.ntmps44
  go_upto_region 1 with (fail)
  generalize (w.alloc (.cells #[.slice A1 t.us.length c1, .slice A2 t.bs.length c2, .slice A3 t.ns.length c3] 26)).alloc (.cells #[.func (.func 58) #[] #[.pointer (some ⟨g, 0, none⟩)], .func (.func 60) #[] #[.pointer (some ⟨g, 0, none⟩)]] 59) = W at *
  obtain ⟨x0, x1, x2, -, -, -⟩ := blk3 HX.out
  have y1 : W.cell? ⟨w.heap.size + 1, 1, none⟩ = some (.func (.func 60) #[] #[.pointer (some ⟨g, 0, none⟩)]) := HQ.out.cell 1
  have hXk := Lib.hid (fun W' (hb : Below W.heap.size W W') => blk3 (HX.out.below hb HX.out.lt))
  have hQk := Lib.hid (fun W' (hb : Below W.heap.size W W') => (HQ.out.below hb HQ.out.lt).cell 1)
  have KP := Lib.hid (fun W' (hb : Below W.heap.size W W') => plain_any x A n c g l W' (HG.out.below hb HG.out.lt) (HL.out.below hb (Nat.le_refl _)) (by omega) hcm)
  have KR := Lib.hid (fun W' A' c' (hb : Below W.heap.size W W') (s' : Strs W' A' (plainI x l).length c' (plainI x l)) => implReadName_any _ t A' _ c' (plainI x l) W' (HT.out.below hb (Nat.le_refl _)) hf s' (by omega) hpz.out)
  have hrb := readV_bd t (plainI x l)
  generalize readV t (plainI x l) = rv at *
  generalize readB t (plainI x l) = rb at *
  generalize plainI x l = pI at *
  replace hcm := Lib.hid hcm
  go_region_held3 (fun w' => (w'.cell? ⟨w.heap.size, 0, none⟩ = some (.slice A1 t.us.length c1) ∧ w'.cell? ⟨w.heap.size, 1, none⟩ = some (.slice A2 t.bs.length c2) ∧ w'.cell? ⟨w.heap.size, 2, none⟩ = some (.slice A3 t.ns.length c3)) ∧ w'.cell? ⟨w.heap.size + 1, 1, none⟩ = some (.func (.func 60) #[] #[.pointer (some ⟨g, 0, none⟩)]))
    (first | go_keep | exact hS2 | exact hS3)
    (first
      | (go_at_call 60; refine (KP.out _ (by first | exact (Below.refl _ _).drew | exact Below.refl _ _)).mono ?_; rintro e w2 ⟨A4, c4, rfl, s4, b2'⟩; have b2 : Below W.heap.size W w2 := ⟨b2'.os, b2'.tape, b2'.output, b2'.size, b2'.block⟩; obtain ⟨x0', x1', x2', -, -, -⟩ := hXk.out _ b2; have y1' := hQk.out _ b2; have hS2 := And.intro (And.intro x0' (And.intro x1' x2')) y1'; have KR2 := Lib.hid (KR.out _ _ _ b2 s4); replace b2 := Lib.hid b2; clear b2' s4)
      | (go_at_call 68; refine KR2.out.mono ?_; rintro e w3 ⟨rfl, b3'⟩; have b3 := b2.out.trans (b3'.mono b2.out.size); obtain ⟨x0'', x1'', x2'', -, -, -⟩ := hXk.out _ b3; have y1'' := hQk.out _ b3; have hS3 := And.intro (And.intro x0'' (And.intro x1'' x2'')) y1''; replace b3 := Lib.hid b3; clear b3'))
  all_goals
    replace hB := Lib.hid (hB.out.trans (b3.out.mono hB.out.size))
    replace HX := Lib.hid (HX.out.below b3.out HX.out.lt)
    replace HQ := Lib.hid (HQ.out.below b3.out HQ.out.lt)
    replace HG := Lib.hid (HG.out.below b3.out HG.out.lt)
    replace HT := Lib.hid (HT.out.below b3.out (Nat.le_refl _))
    replace HL := Lib.hid (HL.out.below b3.out (Nat.le_refl _))
    clear hS2 hS3 b2 b3 hXk hQk KP KR KR2 hpz x0 x1 x2 y1 x0' x1' x2' y1' x0'' x1'' x2'' y1''
    obtain ⟨x0, x1, x2, -, -, -⟩ := blk3 HX.out
    cases rb
    · have hr : readUB t l x = false := by rw [HR.out]; rfl
      have hv := Lib.hid (HV0.out hr)
      replace hr := Lib.hid hr
      go_wp2
      go_ret2
      exact ⟨two_ret hv.out.symm hr.out.symm, hB.out⟩
    · obtain ⟨-, r1, r2⟩ := hyes.out rfl
      obtain ⟨m, rfl⟩ : ∃ m : Nat, rv = m := ⟨rv.toNat, by omega⟩
      have hm := HTn.out m (by omega) (by omega)
      have y0 : w3.cell? ⟨w.heap.size + 1, 0, none⟩ = some (.func (.func 58) #[] #[.pointer (some ⟨g, 0, none⟩)]) := HQ.out.cell 0
      have y1 : w3.cell? ⟨w.heap.size + 1, 1, none⟩ = some (.func (.func 60) #[] #[.pointer (some ⟨g, 0, none⟩)]) := HQ.out.cell 1
      have KB1 := Lib.hid (KB.out m (by omega) (by omega) _ g w3 HT.out HG.out)
      have HR' : readUB t l x = decide (turnT t x m = l) := by rw [HR.out, hm, Bool.true_and]
      have hlen := turned_len t m x
      rw [hm] at hlen
      have hv1 : decide (turnT t x m = l) = true → readUV t l x = m := fun h => HV.out (by rw [HR', h])
      have hv0 : decide (turnT t x m = l) = false → readUV t l x = -1 := fun h => HV0.out (by rw [HR', h])
      replace HR' := Lib.hid HR'
      replace hv1 := Lib.hid hv1
      replace hv0 := Lib.hid hv0
      replace hm := Lib.hid hm
      clear HR HV HV0 HTn KB hyes
      go_wp2_with (fail)
      refine KB1.out.mono ?_
      rintro e w4 ⟨v4, rfl, o4, b4⟩
      obtain ⟨A5, c5, rfl, s5⟩ := o4.strs
      replace hB := Lib.hid (hB.out.trans (b4.mono hB.out.size))
      replace HL := Lib.hid (HL.out.below b4 (Nat.le_refl _))
      have KE := Lib.hid (equalStr_any A5 A _ c5 n c _ l w4 s5 HL.out (by omega) (by omega))
      clear b4 o4 s5 x0 x1 x2 y0 y1 KB1 HX HQ HG HT
      generalize turnT t x m = ws at *
      generalize decide (0 < ws.length) = wb at *
      generalize ws.length = wl at *
      generalize decide (ws = l) = eq at *
      go_wp2_with (fail)
      refine KE.out.mono ?_
      rintro e w5 ⟨rfl, m5, rfl⟩
      replace hB := Lib.hid (below_drewN hB.out m5)
      cases eq
      · have hv := Lib.hid (hv0.out rfl)
        clear hv0 hv1
        go_wp2
        go_ret2
        exact ⟨two_ret hv.out.symm HR'.out.symm, hB.out⟩
      · have hv := Lib.hid (hv1.out rfl)
        clear hv0 hv1
        go_wp2
        go_ret2
        exact ⟨two_ret hv.out.symm HR'.out.symm, hB.out⟩

set_option maxRecDepth 100000 in
set_option maxHeartbeats 4000000 in
theorem implTurnedName_any (v : Value) (t : Tg) (n : Int) (x : ByteArray) (w : World) (h : Tng w v t) (hf : t.Fine) (hn : -9223372036854775808 ≤ n ∧ n ≤ 9223372036854775807) (hx : x.size ≤ maxLen) :
    Calls Try.prog 10 #[v, .int .i64 n, .string x] w (RetStrs2 w (turnedOf t n x) (turnedB t n x)) := by
  obtain ⟨A1, c1, A2, c2, A3, c3, rfl, -⟩ := h.ex
  have hB := (Below.refl w.heap.size w).alloc (Nat.le_refl _) (.cells #[.slice A1 t.us.length c1, .slice A2 t.bs.length c2, .slice A3 t.ns.length c3] 26)
  have HX := Blk.new w 26 #[.slice A1 t.us.length c1, .slice A2 t.bs.length c2, .slice A3 t.ns.length c3]
  have HT := h.below hB (Nat.le_refl _)
  have K1 := Lib.hid (implTurnable_any _ t x _ HT hf hx)
  have hnil : askT t n x = false → ∀ W', Below w.heap.size w W' → RetStrs2 w (turnedOf t n x) (turnedB t n x) (.returned (.tuple #[.slice none 0 0, .bool false])) W' := fun h W' hb => ⟨_, by rw [(ask_no h).2.1], by rw [(ask_no h).1]; exact owns_none _ _ _, hb⟩
  replace hnil := Lib.hid hnil
  replace hB := Lib.hid hB
  replace HX := Lib.hid HX
  replace HT := Lib.hid HT
  clear h
  go_enter Try.func10, Try.ntmps10
  go_upto_region 1 with (fail)
  generalize w.alloc (.cells #[.slice A1 t.us.length c1, .slice A2 t.bs.length c2, .slice A3 t.ns.length c3] 26) = W at *
  obtain ⟨x0, x1, x2, -, -, -⟩ := blk3 HX.out
  go_wp2_with (fail)
  refine K1.out.mono ?_
  rintro e w1 ⟨rfl, b1⟩
  replace hB := Lib.hid (hB.out.trans (b1.mono hB.out.size))
  replace HX := Lib.hid (HX.out.below b1 HX.out.lt)
  replace HT := Lib.hid (HT.out.below b1 (Nat.le_refl _))
  clear b1 x0 x1 x2 K1
  obtain ⟨x0, x1, x2, -, -, -⟩ := blk3 HX.out
  cases hfi : fitsT t x
  · have HR := Lib.hid (hnil.out (ask_of hfi rfl) _ hB.out)
    replace hfi := Lib.hid hfi
    go_wp2
    go_ret2
    exact HR.out
  · have KA := Lib.hid (implAskable_any _ t n w1 HT.out hf hn)
    obtain ⟨hok, hl2, hne, -, -⟩ := fits_parts hfi
    have hokn : okN t n = decide (1 ≤ n ∧ n ≤ 99999) := by unfold okN; rw [hok, Bool.true_and]
    have hask : askT t n x = okN t n := by rw [hokn]; exact ask_of hfi rfl
    replace hokn := Lib.hid hokn
    replace hask := Lib.hid hask
    replace hfi := Lib.hid hfi
    replace hok := Lib.hid hok
    replace hne := Lib.hid hne
    go_wp2_with (fail)
    refine KA.out.mono ?_
    rintro e w2 ⟨rfl, b2⟩
    replace hB := Lib.hid (hB.out.trans (b2.mono hB.out.size))
    replace HX := Lib.hid (HX.out.below b2 HX.out.lt)
    replace HT := Lib.hid (HT.out.below b2 (Nat.le_refl _))
    clear b2 x0 x1 x2 KA
    obtain ⟨x0, x1, x2, -, -, -⟩ := blk3 HX.out
    cases hkn : okN t n
    · have HR := Lib.hid (hnil.out (hask.out.trans hkn) _ hB.out)
      replace hkn := Lib.hid hkn
      go_wp2
      go_ret2
      exact HR.out
    · have hd := hokn.out.symm.trans hkn
      rw [decide_eq_true_eq] at hd
      obtain ⟨hd1, hd2⟩ := hd
      obtain ⟨m, rfl⟩ : ∃ m : Nat, n = m := ⟨n.toNat, by omega⟩
      have ha := hask.out.trans hkn
      have e1 := ask_yes ha
      have HE : ∀ e W', RetStrs2 w (turnT t x m) (decide (0 < (turnT t x m).length)) e W' → RetStrs2 w (turnedOf t m x) (turnedB t m x) e W' := fun e W' h => by unfold turnedB; rw [e1]; exact h
      replace HE := Lib.hid HE
      replace ha := Lib.hid ha
      replace e1 := Lib.hid e1
      replace hkn := Lib.hid hkn
      go_upto_region 3 with (fail)
      have hXk := Lib.hid (fun W' (hb : Below w2.heap.size w2 W') => blk3 (HX.out.below hb HX.out.lt))
      have KB := Lib.hid (fun W' g (hb : Below w2.heap.size w2 W') hg => nameBy_any hok.out hl2 hne.out hf m (by omega) (by omega) _ x g W' (HT.out.below hb (Nat.le_refl _)) hg)
      go_region_held3 (fun w' => w'.cell? ⟨w.heap.size, 0, none⟩ = some (.slice A1 t.us.length c1) ∧ w'.cell? ⟨w.heap.size, 1, none⟩ = some (.slice A2 t.bs.length c2) ∧ w'.cell? ⟨w.heap.size, 2, none⟩ = some (.slice A3 t.ns.length c3))
        (first | go_keep | exact hS2 | exact hS3)
        (first
          | (go_at_call 36; refine (unitFirst_any x _).mono ?_; rintro e w4 ⟨g, rfl, hg, b4'⟩; have b4 : Below w2.heap.size w2 w4 := ⟨b4'.os, b4'.tape, b4'.output, b4'.size, b4'.block⟩; obtain ⟨x0', x1', x2', -, -, -⟩ := hXk.out _ b4; have hS2 := And.intro x0' (And.intro x1' x2'); have KB2 := Lib.hid (KB.out _ _ b4 hg); replace b4 := Lib.hid b4; clear b4' hg)
          | (go_at_call 35; refine KB2.out.mono ?_; rintro e w5 ⟨v5, rfl, o5, b5⟩; obtain ⟨x0'', x1'', x2'', -, -, -⟩ := hXk.out _ (b4.out.trans (b5.mono b4.out.size)); have hS3 := And.intro x0'' (And.intro x1'' x2''); replace o5 := Lib.hid o5; replace b5 := Lib.hid b5))
      all_goals
        have hB5 := hB.out.trans (b4.out.mono hB.out.size)
        have HR := Lib.hid (HE.out _ _ ⟨v5, rfl, o5.out.mono hB5.size, hB5.trans (b5.out.mono hB5.size)⟩)
        obtain ⟨A4, c4, rfl, -⟩ := o5.out.strs
        clear o5 b5 KB KB2 b4 hS2 hS3 x0 x1 x2 x0' x1' x2' x0'' x1'' x2'' hXk hB5
        generalize decide (0 < (turnT t x m).length) = bb at *
        go_wp2
        go_ret2
        exact HR.out

set_option maxRecDepth 100000 in
set_option maxHeartbeats 4000000 in
theorem implReadTurned_any (v : Value) (t : Tg) (A : Option Addr) (n c : Nat) (l : List ByteArray) (x : ByteArray) (w : World) (h : Tng w v t) (hf : t.Fine) (hl : Strs w A n c l) (hn : n ≤ 2000000) (hcm : c ≤ maxLen) (hsz : ∀ y ∈ l, y.size ≤ 1048576) (hx : x.size ≤ maxLen) :
    Calls Try.prog 17 #[v, .slice A n c, .string x] w fun e w' => e = .returned (.tuple #[.int .i64 (readUV t l x), .bool (readUB t l x)]) ∧ Below w.heap.size w w' := by
  obtain ⟨A1, c1, A2, c2, A3, c3, rfl, -⟩ := h.ex
  have hln := hl.len
  have hB := (Below.refl w.heap.size w).alloc (Nat.le_refl _) (.cells #[.slice A1 t.us.length c1, .slice A2 t.bs.length c2, .slice A3 t.ns.length c3] 26)
  have HX := Blk.new w 26 #[.slice A1 t.us.length c1, .slice A2 t.bs.length c2, .slice A3 t.ns.length c3]
  have HT := h.below hB (Nat.le_refl _)
  have HL := hl.below hB (Nat.le_refl _)
  have K1 := Lib.hid (implTurnable_any _ t x _ HT hf hx)
  have hrn : okLT t l x = false → readUB t l x = false := fun h => by unfold readUB; rw [h]; rfl
  replace hrn := Lib.hid hrn
  replace hB := Lib.hid hB
  replace HX := Lib.hid HX
  replace HT := Lib.hid HT
  replace HL := Lib.hid HL
  replace hsz := Lib.hid hsz
  replace hln := Lib.hid hln
  replace hcm := Lib.hid hcm
  clear h hl
  go_enter Try.func17, Try.ntmps17
  go_upto_region 1 with (fail)
  generalize w.alloc (.cells #[.slice A1 t.us.length c1, .slice A2 t.bs.length c2, .slice A3 t.ns.length c3] 26) = W at *
  obtain ⟨x0, x1, x2, -, -, -⟩ := blk3 HX.out
  go_wp2_with (fail)
  refine K1.out.mono ?_
  rintro e w1 ⟨rfl, b1⟩
  replace hB := Lib.hid (hB.out.trans (b1.mono hB.out.size))
  replace HX := Lib.hid (HX.out.below b1 HX.out.lt)
  replace HT := Lib.hid (HT.out.below b1 (Nat.le_refl _))
  replace HL := Lib.hid (HL.out.below b1 (Nat.le_refl _))
  clear b1 x0 x1 x2 K1
  obtain ⟨x0, x1, x2, -, -, -⟩ := blk3 HX.out
  cases hfi : fitsT t x
  · have hno := hrn.out (by unfold okLT; rw [hfi]; rfl)
    have hv := readU_no hno
    replace hno := Lib.hid hno
    replace hv := Lib.hid hv
    replace hfi := Lib.hid hfi
    go_wp2
    go_ret2
    exact ⟨two_ret hv.out.symm hno.out.symm, hB.out⟩
  · by_cases hd : 1 ≤ n ∧ n ≤ 40
    · obtain ⟨hd1, hd2⟩ := hd
      have t1 : ¬ (n : Int) < 1 := by omega
      have t2 : ¬ (40 : Int) < (n : Int) := by omega
      have hk : okLT t l x = true := by unfold okLT; rw [hfi, hln.out, decide_eq_true ⟨hd1, hd2⟩]; rfl
      replace hk := Lib.hid hk
      replace hfi := Lib.hid hfi
      clear hrn
      go_upto_region 3 with (fail)
      obtain ⟨ruv, eruv⟩ : ∃ z, readUV t l x = z := ⟨_, rfl⟩
      obtain ⟨rub, erub⟩ : ∃ z, readUB t l x = z := ⟨_, rfl⟩
      have hXk := Lib.hid (fun W' (hb : Below w1.heap.size w1 W') => blk3 (HX.out.below hb HX.out.lt))
      have KB := fun W' g (hb : Below w1.heap.size w1 W') hg => readBy_any _ t A n c g l x W' hk.out (HT.out.below hb (Nat.le_refl _)) hf (HL.out.below hb (Nat.le_refl _)) hcm.out hsz.out hg
      simp only [eruv, erub] at KB
      replace KB := Lib.hid KB
      replace eruv := Lib.hid eruv
      replace erub := Lib.hid erub
      go_region_held3 (fun w' => w'.cell? ⟨w.heap.size, 0, none⟩ = some (.slice A1 t.us.length c1) ∧ w'.cell? ⟨w.heap.size, 1, none⟩ = some (.slice A2 t.bs.length c2) ∧ w'.cell? ⟨w.heap.size, 2, none⟩ = some (.slice A3 t.ns.length c3))
        (first | go_keep | exact hS2 | exact hS3)
        (first
          | (go_at_call 36; refine (unitFirst_any x _).mono ?_; rintro e w4 ⟨g, rfl, hg, b4'⟩; have b4 : Below w1.heap.size w1 w4 := ⟨b4'.os, b4'.tape, b4'.output, b4'.size, b4'.block⟩; obtain ⟨x0', x1', x2', -, -, -⟩ := hXk.out _ b4; have hS2 := And.intro x0' (And.intro x1' x2'); have KB2 := Lib.hid (KB.out _ _ b4 hg); replace b4 := Lib.hid b4; clear b4' hg)
          | (go_at_call 44; refine KB2.out.mono ?_; rintro e w5 ⟨rfl, b5⟩; have hb5 := b4.out.trans (b5.mono b4.out.size); obtain ⟨x0'', x1'', x2'', -, -, -⟩ := hXk.out _ hb5; have hS3 := And.intro x0'' (And.intro x1'' x2''); replace hb5 := Lib.hid hb5; clear b5))
      all_goals
        have hB5 := Lib.hid (hB.out.trans (hb5.out.mono hB.out.size))
        clear KB KB2 b4 hb5 hS2 hS3 x0 x1 x2 x0' x1' x2' x0'' x1'' x2'' hXk
        go_wp2
        go_ret2
        exact ⟨two_ret eruv.out.symm erub.out.symm, hB5.out⟩
    · have hno := hrn.out (by unfold okLT; rw [hln.out, decide_eq_false hd, Bool.and_false])
      have hv := readU_no hno
      replace hno := Lib.hid hno
      replace hv := Lib.hid hv
      replace hfi := Lib.hid hfi
      by_cases h1 : n < 1
      · have t1 : (n : Int) < 1 := by omega
        replace hd := Lib.hid hd
        go_wp2
        go_ret2
        exact ⟨two_ret hv.out.symm hno.out.symm, hB.out⟩
      · have t1 : ¬ (n : Int) < 1 := by omega
        have t2 : (40 : Int) < (n : Int) := by omega
        replace hd := Lib.hid hd
        go_wp2
        go_ret2
        exact ⟨two_ret hv.out.symm hno.out.symm, hB.out⟩

set_option maxRecDepth 100000 in
set_option maxHeartbeats 2000000 in
theorem implIsTurned_any (v : Value) (t : Tg) (n : Int) (x : ByteArray) (w : World) (h : Tng w v t) (hf : t.Fine) (hn : -9223372036854775808 ≤ n ∧ n ≤ 9223372036854775807) (hx : x.size ≤ maxLen) :
    Calls Try.prog 15 #[v, .int .i64 n, .string x] w fun e w' => e = .returned (.bool (isTurnedB t n x)) ∧ Below w.heap.size w w' := by
  obtain ⟨A1, c1, A2, c2, A3, c3, rfl, -⟩ := h.ex
  have hB := (Below.refl w.heap.size w).alloc (Nat.le_refl _) (.cells #[.slice A1 t.us.length c1, .slice A2 t.bs.length c2, .slice A3 t.ns.length c3] 26)
  have HX := Blk.new w 26 #[.slice A1 t.us.length c1, .slice A2 t.bs.length c2, .slice A3 t.ns.length c3]
  have HT := h.below hB (Nat.le_refl _)
  have K1 := Lib.hid (implTurnedName_any _ t n x _ HT hf hn hx)
  have hlen := turned_len t n x
  have HI : isTurnedB t n x = hasB (turnedOf t n x) x := rfl
  replace hB := Lib.hid hB
  replace HX := Lib.hid HX
  replace HI := Lib.hid HI
  clear h hf HT
  go_enter Try.func15, Try.ntmps15
  go_upto_region 1 with (fail)
  generalize w.alloc (.cells #[.slice A1 t.us.length c1, .slice A2 t.bs.length c2, .slice A3 t.ns.length c3] 26) = W at *
  obtain ⟨x0, x1, x2, -, -, -⟩ := blk3 HX.out
  go_wp2_with (fail)
  refine K1.out.mono ?_
  rintro e w1 ⟨v1, rfl, o1, b1⟩
  obtain ⟨A4, c4, rfl, s4⟩ := o1.strs
  replace hB := Lib.hid (hB.out.trans (b1.mono hB.out.size))
  have KC := contains_any A4 _ c4 (turnedOf t n x) x w1 s4 (by omega)
  obtain ⟨ib, eib⟩ : ∃ z, isTurnedB t n x = z := ⟨_, rfl⟩
  rw [← HI.out, eib] at KC
  replace KC := Lib.hid KC
  replace eib := Lib.hid eib
  clear b1 x0 x1 x2 K1 o1 s4 HX
  generalize turnedOf t n x = l at *
  generalize turnedB t n x = tb at *
  generalize l.length = L at *
  go_wp2_with (fail)
  refine KC.out.mono ?_
  rintro e _ ⟨rfl, rfl⟩
  clear KC
  go_wp2
  go_ret
  exact ⟨ret_bool eib.out.symm, hB.out⟩
end Go.Proofs.Ytbckckicffjccaa
