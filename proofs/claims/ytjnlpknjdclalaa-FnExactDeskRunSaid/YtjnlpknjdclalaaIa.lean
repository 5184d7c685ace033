/-
  Contracts of hasName and DeskOk of the program.
-/
import Derived.Test.YtjnlpknjdclalaaDkM
import Derived.Test.YtjnlpknjdclalaaGP
namespace Go.Proofs.Ytjnlpknjdclalaa
open Go.RowKit

set_option maxRecDepth 100000 in
set_option maxHeartbeats 2000000 in
theorem hasName_any (v : Value) (t : Tg) (n : Int) (w : World) (h : Tng w v t) (hf : t.Fine) (hn : -9223372036854775808 ≤ n ∧ n ≤ 9223372036854775807) :
    Calls Try.prog 36 #[v, .int .i64 n] w fun e w' => e = .returned (.bool (namedB t n)) ∧ Below w.heap.size w w' := by
  obtain ⟨A1, c1, A2, c2, A3, c3, rfl, -⟩ := h.ex
  have hB := (Below.refl w.heap.size w).alloc (Nat.le_refl _) (.cells #[.slice A1 t.us.length c1, .slice A2 t.bs.length c2, .slice A3 t.ns.length c3] 26)
  have HX := Blk.new w 26 #[.slice A1 t.us.length c1, .slice A2 t.bs.length c2, .slice A3 t.ns.length c3]
  have K1 := implNameOf_any _ t n _ (h.below hB (Nat.le_refl _)) hf hn
  generalize namedB t n = nb at *
  generalize nameOf t n = xs at *
  replace K1 := Lib.hid K1
  replace hB := Lib.hid hB
  replace HX := Lib.hid HX
  clear h hf
  go_enter Try.func36, Try.ntmps36
  go_upto_region 1 with (fail)
  generalize w.alloc (.cells #[.slice A1 t.us.length c1, .slice A2 t.bs.length c2, .slice A3 t.ns.length c3] 26) = W at *
  obtain ⟨x0, x1, x2, -, -, -⟩ := blk3 HX.out
  go_wp2_with (fail)
  refine K1.out.mono ?_
  rintro e w1 ⟨v1, rfl, -, b1⟩
  replace hB := Lib.hid (hB.out.trans (b1.mono hB.out.size))
  clear b1 x0 x1 x2 K1 HX
  go_wp2
  go_ret
  exact ⟨rfl, hB.out⟩

theorem fits_at {xs : List Int} (h : Fits xs) (k : Nat) : -9223372036854775808 ≤ xs.getD k 0 ∧ xs.getD k 0 ≤ 9223372036854775807 := by
  have := h k; omega
theorem ok_no_now {d : Dk} (h : namedB d.t d.now = false) : dkOk d = false := by unfold dkOk; rw [h]; rfl
theorem ok_no_long {d : Dk} (h : ¬ d.past.length ≤ 8) : dkOk d = false := by unfold dkOk; rw [decide_eq_false h]; simp
theorem ok_no_past {d : Dk} {k : Nat} (hk : k < d.past.length) (h : namedB d.t (d.past.getD k 0) = false) : dkOk d = false := by
  cases hb : dkOk d
  · rfl
  · have := ((dkOk_iff d).1 hb).2.1 _ (getD_mem hk)
    rw [h] at this; cases this
theorem ok_all {d : Dk} (h1 : namedB d.t d.now = true) (h2 : d.past.length ≤ 8) (h3 : ∀ j, j < d.past.length → namedB d.t (d.past.getD j 0) = true) : dkOk d = true :=
  (dkOk_iff d).2 ⟨h1, fun x hx => by
    obtain ⟨j, hj, rfl⟩ := List.mem_iff_getElem.1 hx
    have := h3 j hj
    simpa [List.getD_eq_getElem?_getD, hj] using this, h2⟩

set_option maxRecDepth 100000 in
set_option maxHeartbeats 2000000 in
theorem implDeskOk_any (v : Value) (d : Dk) (w : World) (h : Dsk w v d) (hf : d.Fine) :
    Calls Try.prog 13 #[v] w fun e w' => e = .returned (.bool (dkOk d)) ∧ Below w.heap.size w w' := by
  obtain ⟨A1, c1, A2, c2, A3, c3, A5, c5, rfl, h1, h2, h3, h5⟩ := h.ex
  have hB := (Below.refl w.heap.size w).alloc (Nat.le_refl _) (.cells #[.slice A1 d.t.us.length c1, .slice A2 d.t.bs.length c2, .slice A3 d.t.ns.length c3, .int .i64 d.now, .slice A5 d.past.length c5] 28)
  have HX := Blk.new w 28 #[.slice A1 d.t.us.length c1, .slice A2 d.t.bs.length c2, .slice A3 d.t.ns.length c3, .int .i64 d.now, .slice A5 d.past.length c5]
  have HT : Tng (w.alloc (.cells #[.slice A1 d.t.us.length c1, .slice A2 d.t.bs.length c2, .slice A3 d.t.ns.length c3, .int .i64 d.now, .slice A5 d.past.length c5] 28)) (.agg #[.slice A1 d.t.us.length c1, .slice A2 d.t.bs.length c2, .slice A3 d.t.ns.length c3]) d.t := ⟨A1, c1, A2, c2, A3, c3, rfl, h1.below hB (Nat.le_refl _), h2.below hB (Nat.le_refl _), h3.below hB (Nat.le_refl _)⟩
  have H5 := h5.below hB (Nat.le_refl _)
  have hn1 := Lib.hid (ok_no_now (d := d))
  have hn2 := Lib.hid (ok_no_long (d := d))
  have hn3 := Lib.hid (fun k => ok_no_past (d := d) (k := k))
  have hyes := Lib.hid (ok_all (d := d))
  have hfa := Lib.hid (fits_at hf.fits)
  have hnow := Lib.hid hf.now
  have hft := Lib.hid hf.t
  have hpl := hf.past
  replace hB := Lib.hid hB
  replace HX := Lib.hid HX
  replace HT := Lib.hid HT
  replace H5 := Lib.hid H5
  clear h h1 h2 h3 h5 hf
  go_enter Try.func13, Try.ntmps13
  go_upto_region 1 with (fail)
  generalize w.alloc (.cells #[.slice A1 d.t.us.length c1, .slice A2 d.t.bs.length c2, .slice A3 d.t.ns.length c3, .int .i64 d.now, .slice A5 d.past.length c5] 28) = W at *
  have hXc := Lib.hid (fun W' (b : Below W.heap.size W W') => (blk5 (HX.out.below b HX.out.lt)).1)
  have hN := Lib.hid (fun n (hn : -9223372036854775808 ≤ n ∧ n ≤ 9223372036854775807) W' (b : Below W.heap.size W W') => hasName_any _ d.t n W' (HT.out.below b (Nat.le_refl _)) hft.out hn)
  have D := Lib.hid (Below.refl W.heap.size W)
  obtain ⟨x0, x1, x2, x3, x4⟩ := hXc.out _ D.out
  have K1 := Lib.hid (hN.out _ hnow.out _ D.out)
  go_wp2_with (fail)
  refine K1.out.mono ?_
  rintro e w1 ⟨rfl, b1⟩
  replace D := Lib.hid (D.out.trans (b1.mono D.out.size))
  clear b1 x0 x1 x2 x3 x4 K1
  obtain ⟨x0, x1, x2, x3, x4⟩ := hXc.out _ D.out
  cases hnb : namedB d.t d.now
  · have hg := Lib.hid (hn1.out hnb)
    clear hn1 hn2 hn3 hyes
    go_wp2
    go_ret
    exact ⟨ret_bool hg.out.symm, hB.out.trans (D.out.mono hB.out.size)⟩
  · replace hnb := Lib.hid hnb
    by_cases hl : d.past.length ≤ 8
    · have hg1 : ¬ (8 < (d.past.length : Int)) := by omega
      have hg2 : decide (8 < (d.past.length : Int)) = false := decide_eq_false hg1
      go_wp2
      go_loopw [20] (fun i wr => ∃ k : Nat, k ≤ d.past.length ∧ i = .int .i64 k ∧ (∀ j, j < k → namedB d.t (d.past.getD j 0) = true) ∧ Below W.heap.size W wr) (fun i _ => d.past.length - (intOf i).toNat)
      case atStart => exact ⟨0, Nat.zero_le _, rfl, fun j hj => absurd hj (by omega), D.out⟩
      case round =>
        obtain ⟨k, hk, rfl, hj, hD⟩ := hrel
        clear x0 x1 x2 x3 x4 D
        by_cases hlt : k < d.past.length
        · obtain ⟨b, o, rfl, hbo, hc⟩ := H5.out.at_ (by omega)
          have ck := (hD.cell (p := ⟨b, o + k, none⟩) hbo).trans (hc k hlt)
          obtain ⟨x0, x1, x2, x3, x4⟩ := hXc.out _ hD
          have K2 := Lib.hid (hN.out _ (hfa.out k) _ hD)
          have hno := Lib.hid (hn3.out k hlt)
          have HJ : namedB d.t (d.past.getD k 0) = true → ∀ j, j < k + 1 → namedB d.t (d.past.getD j 0) = true := fun hx j hjk => by
            by_cases e : j = k
            · subst e; exact hx
            · exact hj j (by omega)
          generalize d.past.getD k 0 = y at *
          generalize namedB d.t y = nb at *
          replace HJ := Lib.hid HJ
          replace hD := Lib.hid hD
          clear hc hj hn1 hn2 hn3 hyes
          go_wp2_with (fail)
          refine K2.out.mono ?_
          rintro e w2 ⟨rfl, b2⟩
          replace hD := Lib.hid (hD.out.trans (b2.mono hD.out.size))
          clear b2 x0 x1 x2 x3 x4 K2 ck
          cases nb
          · have hg := Lib.hid (hno.out (by simp))
            go_wp2
            go_ret
            exact ⟨ret_bool hg.out.symm, hB.out.trans (hD.out.mono hB.out.size)⟩
          · go_wp2
            go_roundw
            case rel => exact ⟨k + 1, by omega, by go_num, HJ.out (by simp), hD.out⟩
            case measure => simp [intOf]; omega
        · obtain rfl : k = d.past.length := by omega
          have hg := Lib.hid (hyes.out hnb.out hl hj)
          replace hD := Lib.hid hD
          clear hj hn1 hn2 hn3 hyes
          go_wp2
          go_ret
          exact ⟨ret_bool hg.out.symm, hB.out.trans (hD.out.mono hB.out.size)⟩
    · have hg1 : 8 < (d.past.length : Int) := by omega
      have hg2 : decide (8 < (d.past.length : Int)) = true := decide_eq_true hg1
      have hg := Lib.hid (hn2.out hl)
      clear hn1 hn2 hn3 hyes
      go_wp2
      go_ret
      exact ⟨ret_bool hg.out.symm, hB.out.trans (D.out.mono hB.out.size)⟩
end Go.Proofs.Ytjnlpknjdclalaa
