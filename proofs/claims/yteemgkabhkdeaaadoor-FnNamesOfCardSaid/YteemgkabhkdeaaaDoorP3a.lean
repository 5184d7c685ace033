/-
  Contracts of the program's names: the base that is taken, and what may be asked.
-/
import Derived.Test.YteemgkabhkdeaaaDoorN4
namespace Go.Proofs.YteemgkabhkdeaaaDoor
open Go.RowKit

theorem base_one {bs : List Int} (hb : basesOk bs = true) {n : Nat} (h : topOf bs n = 0) : baseN bs n = 1 := by
  unfold baseN; rw [h, bases_one hb]; rfl
theorem base_cast {bs : List Int} (hb : basesOk bs = true) {n : Nat} : (baseN bs n : Int) = bs.getD (topOf bs n) 0 ∧ topOf bs n < bs.length ∧ 1 ≤ baseN bs n := by
  by_cases h : topOf bs n = 0
  · rw [base_one hb h, h, bases_one hb]
    have := bases_len hb
    exact ⟨rfl, by omega, Nat.le_refl _⟩
  · obtain ⟨h1, _, h3, h4, _⟩ := base_facts hb h
    exact ⟨h3, h4, by omega⟩

set_option maxRecDepth 100000 in
set_option maxHeartbeats 1000000 in
theorem implTaken_any (A : Option Addr) (c : Nat) (bs : List Int) (n : Nat) (w : World) (hI : Ints w .i64 A bs.length c bs) (hb : basesOk bs = true) (hn : 1 ≤ n) (hn2 : n ≤ 99999) :
    Calls Tryd.prog 65 #[.slice A bs.length c, .int .i64 n] w fun e w' => e = .returned (.tuple #[.int .i64 (topOf bs n), .int .i64 ((n / baseN bs n : Nat) : Int), .bool (decide (n / baseN bs n < baseN bs n))]) ∧ ∃ m, w' = w.drewN m := by
  have hbl := bases_len hb
  obtain ⟨b, o, rfl, -, hc⟩ := hI.at_ (by omega)
  replace hc := Lib.hid hc
  replace hb := Lib.hid hb
  clear hI
  have hw0 : IntKind.i64.wrap ((bs.length : Int) - 1) = (bs.length : Int) - 1 := IntWalk.i64_in _ (by omega)
  go_enter Tryd.func65, Tryd.ntmps65
  go_wp2
  go_loop [7] (fun s7 => ∃ k : Nat, k < bs.length ∧ s7 = .int .i64 k ∧ ∀ i, k < i → i < bs.length → (n : Int) < bs.getD i 0) (fun i => (intOf i).toNat)
  case atStart => exact ⟨bs.length - 1, by omega, by rw [Int.natCast_sub (by omega)]; rfl, fun i h1 h2 => by omega⟩
  case round =>
    obtain ⟨k, hk, rfl, hab⟩ := hrel
    have ck := hc.out k hk
    have px := bases_pos hb.out k hk
    replace hab := Lib.hid hab
    by_cases hx : (n : Int) < bs.getD k 0
    · have hk0 : k ≠ 0 := by
        rintro rfl
        rw [bases_one hb.out] at hx
        omega
      have hw1 : IntKind.i64.wrap ((k : Int) - 1) = (k : Int) - 1 := IntWalk.i64_in _ (by omega)
      have HR : ∀ i, k - 1 < i → i < bs.length → (n : Int) < bs.getD i 0 := fun i h1 h2 => by
        by_cases e : i = k
        · subst e; exact hx
        · exact hab.out i (by omega) h2
      replace HR := Lib.hid HR
      generalize bs.getD k 0 = x at *
      go_wp2
      go_round
      case rel => exact ⟨k - 1, by omega, by rw [Int.natCast_sub (by omega)]; rfl, HR.out⟩
      case measure => simp [intOf]; omega
    · have ht : topOf bs n = k := by
        by_cases hk0 : k = 0
        · subst hk0; exact topOf_zero fun i h1 h2 => hab.out i h1 h2
        · exact topOf_eq (by omega) hk (by omega) (fun i h1 h2 => hab.out i h1 h2)
      obtain ⟨f3, -, f1⟩ := base_cast hb.out (n := n)
      rw [ht] at f3
      have e1 : (n : Int) / (baseN bs n : Int) = ((n / baseN bs n : Nat) : Int) := rfl
      have d1 : n / baseN bs n ≤ n := Nat.div_le_self _ _
      rw [f3] at e1
      have hlt : (((n / baseN bs n : Nat) : Int) < bs.getD k 0) ↔ n / baseN bs n < baseN bs n := by rw [← f3]; omega
      generalize hq : n / baseN bs n = q at *
      generalize hy : baseN bs n = y at *
      replace hq := Lib.hid hq
      replace hy := Lib.hid hy
      generalize bs.getD k 0 = x at *
      have q0 : (0 : Int) ≤ (n : Int) / x := by rw [e1]; omega
      have q1 : (n : Int) / x ≤ 99999 := by rw [e1]; omega
      replace ht := Lib.hid ht
      replace e1 := Lib.hid e1
      go_upto_region 5 with (fail)
      rw [e1.out]
      clear q0 q1
      by_cases hl : q < y
      · have hl' : (q : Int) < x := hlt.2 hl
        have hd : decide ((q : Int) < x) = true := decide_eq_true hl'
        have hd2 : decide (q < y) = true := decide_eq_true hl
        replace hlt := Lib.hid hlt
        replace hd2 := Lib.hid hd2
        go_wp2
        go_quiet (fail)
        go_wp2
        all_goals
          go_ret3
          exact ⟨by rw [ht.out, hy.out, hq.out, hd2.out]; rfl, _, rfl⟩
      · have hl' : ¬ (q : Int) < x := fun h => hl (hlt.1 h)
        have hd : decide ((q : Int) < x) = false := decide_eq_false hl'
        have hd2 : decide (q < y) = false := decide_eq_false hl
        replace hlt := Lib.hid hlt
        replace hd2 := Lib.hid hd2
        go_wp2
        go_quiet (fail)
        go_wp2
        all_goals
          go_ret3
          exact ⟨by rw [ht.out, hy.out, hq.out, hd2.out]; rfl, _, rfl⟩

set_option maxRecDepth 100000 in
set_option maxHeartbeats 2000000 in
theorem implAskable_any (v : Value) (t : Tg) (n : Int) (w : World) (h : Tng w v t) (hf : t.Fine) (hn : -9223372036854775808 ≤ n ∧ n ≤ 9223372036854775807) :
    Calls Tryd.prog 45 #[v, .int .i64 n] w fun e w' => e = .returned (.bool (okN t n)) ∧ Below w.heap.size w w' := by
  obtain ⟨A1, c1, A2, c2, A3, c3, rfl, -⟩ := h.ex
  have hB := (Below.refl w.heap.size w).alloc (Nat.le_refl _) (.cells #[.slice A1 t.us.length c1, .slice A2 t.bs.length c2, .slice A3 t.ns.length c3] 26)
  have HX := Blk.new w 26 #[.slice A1 t.us.length c1, .slice A2 t.bs.length c2, .slice A3 t.ns.length c3]
  have HT := h.below hB (Nat.le_refl _)
  have K1 := Lib.hid (implTongueOk_any _ t _ HT hf)
  replace hB := Lib.hid hB
  replace HX := Lib.hid HX
  clear h hf HT
  go_enter Tryd.func45, Tryd.ntmps45
  go_upto_region 1 with (fail)
  generalize w.alloc (.cells #[.slice A1 t.us.length c1, .slice A2 t.bs.length c2, .slice A3 t.ns.length c3] 26) = W at *
  obtain ⟨x0, x1, x2, -, -, -⟩ := blk3 HX.out
  cases hok : t.ok
  · rw [hok] at K1
    have hno : okN t n = false := by unfold okN; rw [hok]; rfl
    replace hno := Lib.hid hno
    go_wp2_with (fail)
    refine K1.out.mono ?_
    rintro e w1 ⟨rfl, b1⟩
    have hB1 := Lib.hid (hB.out.trans (b1.mono hB.out.size))
    clear b1
    go_wp2
    go_ret
    exact ⟨ret_bool (by rw [hno.out]; try (exact decide_eq_false (by omega))), hB1.out⟩
  · rw [hok] at K1
    have hyes : okN t n = decide (1 ≤ n ∧ n ≤ 99999) := by unfold okN; rw [hok]; rfl
    replace hyes := Lib.hid hyes
    clear hok
    by_cases h1 : 1 ≤ n
    · by_cases h2 : n ≤ 99999
      · have hno := Lib.hid (hyes.out.trans (decide_eq_true (And.intro h1 h2)))
        go_wp2_with (fail)
        refine K1.out.mono ?_
        rintro e w1 ⟨rfl, b1⟩
        have hB1 := Lib.hid (hB.out.trans (b1.mono hB.out.size))
        clear b1
        go_wp2
        go_ret
        exact ⟨ret_bool (by rw [hno.out]; try (exact decide_eq_false (by omega))), hB1.out⟩
      · have hno := Lib.hid (hyes.out.trans (decide_eq_false (fun h => h2 h.2)))
        go_wp2_with (fail)
        refine K1.out.mono ?_
        rintro e w1 ⟨rfl, b1⟩
        have hB1 := Lib.hid (hB.out.trans (b1.mono hB.out.size))
        clear b1
        go_wp2
        go_ret
        exact ⟨ret_bool (by rw [hno.out]; try (exact decide_eq_false (by omega))), hB1.out⟩
    · have hno := Lib.hid (hyes.out.trans (decide_eq_false (fun h => h1 h.1)))
      go_wp2_with (fail)
      refine K1.out.mono ?_
      rintro e w1 ⟨rfl, b1⟩
      have hB1 := Lib.hid (hB.out.trans (b1.mono hB.out.size))
      clear b1
      go_wp2
      go_ret
      exact ⟨ret_bool (by rw [hno.out]; try (exact decide_eq_false (by omega))), hB1.out⟩
end Go.Proofs.YteemgkabhkdeaaaDoor
