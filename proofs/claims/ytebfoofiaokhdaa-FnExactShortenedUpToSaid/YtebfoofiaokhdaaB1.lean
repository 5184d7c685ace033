/-
  Contracts of what the program asks before it takes away, and of what lacks to the nearest multiple.
-/
import Derived.Test.YtebfoofiaokhdaaV1
import Derived.Test.YtebfoofiaokhdaaMathA
namespace Go.Proofs.Ytebfoofiaokhdaa
open Go.RowKit

theorem fitsA_off {t : Tg} {x : ByteArray} {b : Int} {c : Bool} (hc : c = false) (h : fitsA t x b = true → c = true) : fitsA t x b = false := by
  cases ha : fitsA t x b
  · rfl
  · rw [h ha] at hc; cases hc

set_option maxRecDepth 100000 in
set_option maxHeartbeats 2000000 in
theorem implTakeable_any (v : Value) (t : Tg) (x : ByteArray) (b : Int) (w : World) (h : Tng w v t) (hf : t.Fine) (hx : x.size ≤ maxLen) :
    Calls Try.prog 65 #[v, .string x, .int .i64 b] w fun e w' => e = .returned (.bool (fitsA t x b)) ∧ Below w.heap.size w w' := by
  obtain ⟨A1, c1, A2, c2, A3, c3, rfl, -⟩ := h.ex
  have hB := (Below.refl w.heap.size w).alloc (Nat.le_refl _) (.cells #[.slice A1 t.us.length c1, .slice A2 t.bs.length c2, .slice A3 t.ns.length c3] 26)
  have HX := Blk.new w 26 #[.slice A1 t.us.length c1, .slice A2 t.bs.length c2, .slice A3 t.ns.length c3]
  have HT := h.below hB (Nat.le_refl _)
  have K1 := Lib.hid (implTongueOk_any _ t _ HT hf)
  have hno := Lib.hid (fun (c : Bool) (hc : c = false) (hh : fitsA t x b = true → c = true) => fitsA_off (t := t) (x := x) (b := b) hc hh)
  replace hB := Lib.hid hB
  replace HX := Lib.hid HX
  replace HT := Lib.hid HT
  clear h
  go_enter Try.func65, Try.ntmps65
  go_upto_region 1 with (fail)
  generalize w.alloc (.cells #[.slice A1 t.us.length c1, .slice A2 t.bs.length c2, .slice A3 t.ns.length c3] 26) = W at *
  obtain ⟨x0, x1, x2, -, -, -⟩ := blk3 HX.out
  go_wp2_with (fail)
  refine K1.out.mono ?_
  rintro e w1 ⟨rfl, b1⟩
  replace hB := Lib.hid (hB.out.trans (b1.mono hB.out.size))
  replace HX := Lib.hid (HX.out.below b1 HX.out.lt)
  replace HT := Lib.hid (HT.out.below b1 (Nat.le_refl _))
  clear b1 x0 x1 x2 K1
  obtain ⟨x0, x1, x2, -, -, -⟩ := blk3 HX.out
  cases hok : t.ok
  · have hr := Lib.hid (hno.out _ hok fun h => (fitsA_parts h).1)
    replace hok := Lib.hid hok
    go_wp2
    go_ret
    exact ⟨ret_bool hr.out.symm, hB.out⟩
  · have hws : wordsOf t = t.words := by unfold wordsOf; rw [hok]; rfl
    have KS := implStranger_any _ t x w1 HT.out hf hx
    rw [hws] at KS
    have HS : strangerB t x = (wordOk x && !hasB t.words x) := rfl
    rw [← HS] at KS
    have HF : fitsA t x b = (strangerB t x && decide (0 ≤ b ∧ b ≤ 100)) := by unfold fitsA fitsW; rw [hok, Bool.true_and]
    replace KS := Lib.hid KS
    replace HF := Lib.hid HF
    replace hok := Lib.hid hok
    clear HS hws hno
    generalize strangerB t x = sb at *
    go_wp2_with (fail)
    refine KS.out.mono ?_
    rintro e w2 ⟨rfl, b2⟩
    replace hB := Lib.hid (hB.out.trans (b2.mono hB.out.size))
    clear b2 KS x0 x1 x2
    cases sb
    · have hr := Lib.hid HF.out
      go_wp2
      go_ret
      exact ⟨ret_bool hr.out.symm, hB.out⟩
    · by_cases h0 : 0 ≤ b
      · have h0' : decide (0 ≤ b) = true := decide_eq_true h0
        by_cases h1 : b ≤ 100
        · have h1' : decide (b ≤ 100) = true := decide_eq_true h1
          have hr : fitsA t x b = true := by rw [HF.out, decide_eq_true ⟨h0, h1⟩]; rfl
          replace hr := Lib.hid hr
          go_wp2
          go_ret
          exact ⟨ret_bool hr.out.symm, hB.out⟩
        · have h1' : decide (b ≤ 100) = false := decide_eq_false h1
          have hr : fitsA t x b = false := by rw [HF.out, decide_eq_false (fun h => h1 h.2)]; rfl
          replace hr := Lib.hid hr
          go_wp2
          go_ret
          exact ⟨ret_bool hr.out.symm, hB.out⟩
      · have h0' : decide (0 ≤ b) = false := decide_eq_false h0
        have hr : fitsA t x b = false := by rw [HF.out, decide_eq_false (fun h => h0 h.1)]; rfl
        replace hr := Lib.hid hr
        go_wp2
        go_ret
        exact ⟨ret_bool hr.out.symm, hB.out⟩

theorem at_next {w : World} {b o k : Nat} {v : Value} (h : w.cell? ⟨b, o + (k + 1), none⟩ = some v) : w.cell? ⟨b, o + 1 + k, none⟩ = some v := by
  rw [show o + 1 + k = o + (k + 1) by omega]; exact h

set_option maxRecDepth 100000 in
set_option maxHeartbeats 2000000 in
theorem implLeast_any {t : Tg} (hb : basesOk t.bs = true) (n : Nat) (hn2 : n ≤ 99999) (A : Option Addr) (c : Nat) (w : World) (h : Ints w .i64 A t.bs.length c t.bs) :
    Calls Try.prog 91 #[.slice A t.bs.length c, .int .i64 n] w fun e w' => e = .returned (.int .i64 (capTo t n t.bs.length : Nat)) ∧ w = w' := by
  have hbl := bases_len hb
  have HP := Lib.hid (fun k (hk : k < t.bs.length) => bN_int hb (k := k) hk)
  have HU := Lib.hid (fun k (hk : k < t.bs.length) => bases_pos hb k hk)
  have HG := Lib.hid (fun k h1 => cap_step (t := t) (n := n) (k := k) h1)
  have HL := Lib.hid (fun k (hk : k < t.bs.length) => lack_bd hb n hk)
  obtain ⟨b, o, rfl, -, hc⟩ := h.at_ (by omega)
  have hcap := h.le
  have HC : Hid (∀ k, k < t.bs.length → w.cell? ⟨b, o + k, none⟩ = some (.int .i64 (bN t k))) := Lib.hid (fun k hk => by rw [hc k hk, (HP.out k hk).1])
  replace hb := Lib.hid hb
  clear h hc
  by_cases hc1 : c = 1
  · subst hc1
    have hl1 : t.bs.length = 1 := by omega
    have hr : (101 : Int) = (capTo t n t.bs.length : Nat) := by rw [hl1]; rfl
    replace hr := Lib.hid hr
    generalize t.bs.length = L at *
    subst hl1
    go_enter Try.func91, Try.ntmps91
    go_wp2
    refine wp_loop_rounds 1 ?_
    rw [rounds_succ]
    go_wp2
    go_ret
    exact ⟨ret_int hr.out, rfl⟩
  · go_enter Try.func91, Try.ntmps91
    go_wp2
    go_loop [5, 11] (fun s5 s11 => ∃ k : Nat, k + 1 ≤ t.bs.length ∧ s11 = .int .i64 k ∧ s5 = .int .i64 (capTo t n (k + 1) : Nat)) (fun _ i => t.bs.length - (intOf i).toNat)
    case atStart => exact ⟨0, by omega, rfl, rfl⟩
    case round =>
      obtain ⟨k, hk, rfl, rfl⟩ := hrel
      by_cases hlt : k + 1 < t.bs.length
      · have ck := at_next (HC.out (k + 1) hlt)
        have hp := (HP.out (k + 1) hlt).2
        have hpu := HU.out (k + 1) hlt
        have hbu : bN t (k + 1) ≤ 999999 := by have := (HP.out (k + 1) hlt).1; omega
        have hg := HG.out (k + 1) (by omega)
        have hlk := HL.out (k + 1) hlt
        have hlu : lackB t n (k + 1) = bN t (k + 1) - n % bN t (k + 1) := rfl
        have eK : (n : Int) % (bN t (k + 1) : Int) = ((n % bN t (k + 1) : Nat) : Int) := rfl
        have hml := Nat.mod_lt n (show 0 < bN t (k + 1) by omega)
        have q0 : (0 : Int) ≤ (n : Int) % (bN t (k + 1) : Int) := by rw [eK]; omega
        have q1 : (n : Int) % (bN t (k + 1) : Int) < (bN t (k + 1) : Int) := by rw [eK]; omega
        have v1 : (bN t (k + 1) : Int) - (n : Int) % (bN t (k + 1) : Int) = ((lackB t n (k + 1) : Nat) : Int) := by rw [eK]; omega
        have w1 : IntKind.i64.wrap ((bN t (k + 1) : Int) - (n : Int) % (bN t (k + 1) : Int)) = (bN t (k + 1) : Int) - (n : Int) % (bN t (k + 1) : Int) := IntWalk.i64_in _ (by omega)
        have hm : (if (bN t (k + 1) : Int) - (n : Int) % (bN t (k + 1) : Int) < ((capTo t n (k + 1) : Nat) : Int) then (bN t (k + 1) : Int) - (n : Int) % (bN t (k + 1) : Int) else ((capTo t n (k + 1) : Nat) : Int)) = ((capTo t n (k + 1 + 1) : Nat) : Int) := by
          rw [v1]; split <;> omega
        clear hpu hlu hlk
        generalize capTo t n (k + 1) = C at *
        generalize lackB t n (k + 1) = L at *
        generalize bN t (k + 1) = B at *
        replace hm := Lib.hid hm
        replace hg := Lib.hid hg
        replace v1 := Lib.hid v1
        replace eK := Lib.hid eK
        go_wp2
        all_goals
          go_round
          case rel => exact ⟨k + 1, by omega, by go_num, by rw [hm.out]⟩
          case measure => simp [intOf]; omega
      · have hr : capTo t n (k + 1) = capTo t n t.bs.length := by rw [show k + 1 = t.bs.length by omega]
        have hr2 := Lib.hid (show ((capTo t n (k + 1) : Nat) : Int) = (capTo t n t.bs.length : Nat) by rw [hr])
        clear hr
        go_wp2
        go_ret
        exact ⟨ret_int hr2.out, rfl⟩
end Go.Proofs.Ytebfoofiaokhdaa
