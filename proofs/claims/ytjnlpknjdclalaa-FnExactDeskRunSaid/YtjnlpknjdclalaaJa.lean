/-
  The contract of DeskOk of the model.
-/
import Derived.Test.YtjnlpknjdclalaaDkM
import Derived.Test.YtjnlpknjdclalaaGN
import Derived.StillTailTactics
namespace Go.Proofs.Ytjnlpknjdclalaa
open Go.RowKit

theorem fits_at' {xs : List Int} (h : Fits xs) (k : Nat) : -9223372036854775808 ≤ xs.getD k 0 ∧ xs.getD k 0 ≤ 9223372036854775807 := by
  have := h k; omega
theorem sok_no_now {d : Dk} (h : namedB d.t d.now = false) : dkOk d = false := by unfold dkOk; rw [h]; rfl
theorem sok_no_long {d : Dk} (h : ¬ d.past.length ≤ 8) : dkOk d = false := by unfold dkOk; rw [decide_eq_false h]; simp
theorem sok_no_past {d : Dk} {k : Nat} (hk : k < d.past.length) (h : namedB d.t (d.past.getD k 0) = false) : dkOk d = false := by
  cases hb : dkOk d
  · rfl
  · have := ((dkOk_iff d).1 hb).2.1 _ (getD_mem hk)
    rw [h] at this; cases this
theorem sok_all {d : Dk} (h1 : namedB d.t d.now = true) (h2 : d.past.length ≤ 8) (h3 : ∀ j, j < d.past.length → namedB d.t (d.past.getD j 0) = true) : dkOk d = true :=
  (dkOk_iff d).2 ⟨h1, fun x hx => by
    obtain ⟨j, hj, rfl⟩ := List.mem_iff_getElem.1 hx
    have := h3 j hj
    simpa [List.getD_eq_getElem?_getD, hj] using this, h2⟩

set_option maxRecDepth 100000 in
set_option maxHeartbeats 2000000 in
theorem specDeskOk_any (v : Value) (d : Dk) (w : World) (h : Dsk w v d) (hf : d.Fine) :
    Calls Try.prog 10 #[v] w fun e w' => e = .returned (.bool (dkOk d)) ∧ Below w.heap.size w w' := by
  obtain ⟨A1, c1, A2, c2, A3, c3, A5, c5, rfl, h1, h2, h3, h5⟩ := h.ex
  have hB := (Below.refl w.heap.size w).alloc (Nat.le_refl _) (.cells #[.slice A1 d.t.us.length c1, .slice A2 d.t.bs.length c2, .slice A3 d.t.ns.length c3, .int .i64 d.now, .slice A5 d.past.length c5] 28)
  have HX := Blk.new w 28 #[.slice A1 d.t.us.length c1, .slice A2 d.t.bs.length c2, .slice A3 d.t.ns.length c3, .int .i64 d.now, .slice A5 d.past.length c5]
  have HT : Tng (w.alloc (.cells #[.slice A1 d.t.us.length c1, .slice A2 d.t.bs.length c2, .slice A3 d.t.ns.length c3, .int .i64 d.now, .slice A5 d.past.length c5] 28)) (.agg #[.slice A1 d.t.us.length c1, .slice A2 d.t.bs.length c2, .slice A3 d.t.ns.length c3]) d.t := ⟨A1, c1, A2, c2, A3, c3, rfl, h1.below hB (Nat.le_refl _), h2.below hB (Nat.le_refl _), h3.below hB (Nat.le_refl _)⟩
  have H5 := h5.below hB (Nat.le_refl _)
  have hn1 := Lib.hid (sok_no_now (d := d))
  have hn2 := Lib.hid (sok_no_long (d := d))
  have hn3 := Lib.hid (fun k => sok_no_past (d := d) (k := k))
  have hyes := Lib.hid (sok_all (d := d))
  have hfa := Lib.hid (fits_at' hf.fits)
  have hnow := Lib.hid hf.now
  have hft := Lib.hid hf.t
  have hpl := hf.past
  replace hB := Lib.hid hB
  replace HX := Lib.hid HX
  replace HT := Lib.hid HT
  replace H5 := Lib.hid H5
  clear h h1 h2 h3 h5 hf
  go_enter Try.func10, Try.ntmps10
  go_upto_region 1 with (fail)
  generalize w.alloc (.cells #[.slice A1 d.t.us.length c1, .slice A2 d.t.bs.length c2, .slice A3 d.t.ns.length c3, .int .i64 d.now, .slice A5 d.past.length c5] 28) = W at *
  have hXc := Lib.hid (fun W' (b : Below W.heap.size W W') => (blk5 (HX.out.below b HX.out.lt)).1)
  have hN := Lib.hid (fun n (hn : -9223372036854775808 ≤ n ∧ n ≤ 9223372036854775807) W' (b : Below W.heap.size W W') => specNameOf_any _ d.t n W' (HT.out.below b (Nat.le_refl _)) hft.out hn)
  obtain ⟨x0, x1, x2, x3, x4⟩ := hXc.out _ (Below.refl W.heap.size W)
  go_wp2
  go_loopw [3] (fun i wr => ∃ k : Nat, k ≤ d.past.length ∧ i = .int .i64 k ∧ (∀ j, j < k → namedB d.t (d.past.getD j 0) = true) ∧ Below W.heap.size W wr) (fun i _ => d.past.length - (intOf i).toNat)
  case atStart => exact ⟨0, Nat.zero_le _, rfl, fun j hj => absurd hj (by omega), Below.refl _ _⟩
  case round =>
    obtain ⟨k, hk, rfl, hj, hD⟩ := hrel
    clear x0 x1 x2 x3 x4
    obtain ⟨x0, x1, x2, x3, x4⟩ := hXc.out _ hD
    by_cases hlt : k < d.past.length
    · obtain ⟨b, o, rfl, hbo, hc⟩ := H5.out.at_ (by omega)
      have ck := (hD.cell (p := ⟨b, o + k, none⟩) hbo).trans (hc k hlt)
      have hD' := hD.drew
      have hno := Lib.hid (hn3.out k hlt)
      have HJ : namedB d.t (d.past.getD k 0) = true → ∀ j, j < k + 1 → namedB d.t (d.past.getD j 0) = true := fun hx j hjk => by
        by_cases e : j = k
        · subst e; exact hx
        · exact hj j (by omega)
      have hfk := Lib.hid (hfa.out k)
      generalize d.past.getD k 0 = y at *
      have K2 := Lib.hid (hN.out _ hfk.out)
      generalize namedB d.t y = nb at *
      generalize nameOf d.t y = xs at *
      replace HJ := Lib.hid HJ
      replace hD := Lib.hid hD
      clear hc hj hn1 hn2 hn3 hyes hD'
      go_upto_region 4 with (fail)
      go_region_held3 (fun w' => (w'.cell? ⟨w.heap.size, 0, none⟩ = some (.slice A1 d.t.us.length c1) ∧ w'.cell? ⟨w.heap.size, 1, none⟩ = some (.slice A2 d.t.bs.length c2) ∧ w'.cell? ⟨w.heap.size, 2, none⟩ = some (.slice A3 d.t.ns.length c3) ∧ w'.cell? ⟨w.heap.size, 4, none⟩ = some (.slice (some ⟨b, o, none⟩) d.past.length c5)) ∧ w'.cell? ⟨b, o + k, none⟩ = some (.int .i64 y)) (first | go_keep | exact hS2)
        (first
          | (go_at_call 34; refine (K2.out _ (by first | exact hD.out.drew | exact hD.out)).mono ?_; rintro e w2 ⟨v2, rfl, -, b2'⟩; have b2 : Below wr.heap.size wr w2 := ⟨b2'.os, b2'.tape, b2'.output, b2'.size, b2'.block⟩; obtain ⟨y0, y1, y2, y3, y4⟩ := hXc.out _ (hD.out.trans (b2.mono hD.out.size)); have hS2 := And.intro (And.intro y0 (And.intro y1 (And.intro y2 y4))) ((b2.cell (p := ⟨b, o + k, none⟩) (Nat.lt_of_lt_of_le hbo hD.out.size)).trans ck); have hD2 := Lib.hid (hD.out.trans (b2.mono hD.out.size)); clear b2 b2' y0 y1 y2 y3 y4))
      all_goals
       clear x0 x1 x2 x3 x4 K2 ck hS2 hD
       have hD := Lib.hid hD2.out
       clear hD2
       cases nb
       · have hg := Lib.hid (hno.out (by simp))
         go_wp2
         go_ret
         exact ⟨ret_bool hg.out.symm, hB.out.trans (hD.out.mono hB.out.size)⟩
       · go_wp2
         go_roundw
         case rel => exact ⟨k + 1, by omega, by go_num, HJ.out (by simp), hD.out⟩
         case measure => simp [intOf]; omega
    · obtain rfl : k = d.past.length := by omega
      have K1 := Lib.hid (hN.out _ hnow.out _ hD)
      replace hyes := Lib.hid (fun h1 h2 => hyes.out h1 h2 hj)
      replace hD := Lib.hid hD
      clear hj hn3
      generalize namedB d.t d.now = nb at *
      generalize nameOf d.t d.now = xs at *
      go_wp2_with (fail)
      refine K1.out.mono ?_
      rintro e w2 ⟨v2, rfl, -, b2⟩
      replace hD := Lib.hid (hD.out.trans (b2.mono hD.out.size))
      clear b2 x0 x1 x2 x3 x4 K1
      obtain ⟨x0, x1, x2, x3, x4⟩ := hXc.out _ hD.out
      cases nb
      · have hg := Lib.hid (hn1.out (by simp))
        clear hn1 hn2 hyes
        go_wp2
        go_ret
        exact ⟨ret_bool hg.out.symm, hB.out.trans (hD.out.mono hB.out.size)⟩
      · by_cases hl : d.past.length ≤ 8
        · have hg := Lib.hid (hyes.out (by simp) hl)
          have hg1 : (d.past.length : Int) ≤ 8 := by omega
          have hg2 : decide ((d.past.length : Int) ≤ 8) = true := decide_eq_true hg1
          clear hn1 hn2 hyes
          go_wp2
          go_ret
          exact ⟨ret_bool hg.out.symm, hB.out.trans (hD.out.mono hB.out.size)⟩
        · have hg := Lib.hid (hn2.out hl)
          have hg1 : ¬ ((d.past.length : Int) ≤ 8) := by omega
          have hg2 : decide ((d.past.length : Int) ≤ 8) = false := decide_eq_false hg1
          clear hn1 hn2 hyes
          go_wp2
          go_ret
          exact ⟨ret_bool hg.out.symm, hB.out.trans (hD.out.mono hB.out.size)⟩
end Go.Proofs.Ytjnlpknjdclalaa
