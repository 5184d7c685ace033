/-
  Contracts of numberBy, putBack and putInstead of the program.
-/
import Derived.Test.YtjnlpknjdclalaaIa
import Derived.Test.YtjnlpknjdclalaaDkL
import Derived.Test.YtjnlpknjdclalaaM1
namespace Go.Proofs.Ytjnlpknjdclalaa
open Go.RowKit

/-- What a deed makes of a number, to the program: the number itself where it makes none. -/
def madeP (d : Dk) (a : Dd) : Int :=
  if a.kind = 3 ∧ a.n = 0 then lettersOf d.t d.now
  else if 1 ≤ a.n ∧ a.n ≤ 99999 then (if a.kind = 0 then a.n else if a.kind = 1 then d.now + a.n else if a.kind = 2 then d.now - a.n else d.now)
  else d.now
theorem put_made (d : Dk) (a : Dd) : putD d (madeP d a) = putD d (madeOf d a) := by
  unfold madeP madeOf
  by_cases h1 : a.kind = 3 ∧ a.n = 0
  · rw [if_pos h1, if_pos h1]
  · rw [if_neg h1, if_neg h1]
    by_cases h2 : 1 ≤ a.n ∧ a.n ≤ 99999
    · rw [if_pos h2, if_pos h2]
      by_cases k0 : a.kind = 0
      · rw [if_pos k0, if_pos k0]
      · rw [if_neg k0, if_neg k0]
        by_cases k1 : a.kind = 1
        · rw [if_pos k1, if_pos k1]
        · rw [if_neg k1, if_neg k1]
          by_cases k2 : a.kind = 2
          · rw [if_pos k2, if_pos k2]
          · rw [if_neg k2, if_neg k2, put_zero, put_now]
    · rw [if_neg h2, if_neg h2, put_zero, put_now]
theorem madeP_bd (d : Dk) (a : Dd) (h : 1 ≤ d.now ∧ d.now ≤ 99999) : -200000 ≤ madeP d a ∧ madeP d a ≤ 200000 := by
  have h2 := letters_bd d.t d.now
  unfold madeP
  split
  · omega
  · split
    · split
      · omega
      · split
        · omega
        · split <;> omega
    · omega

set_option maxRecDepth 100000 in
set_option maxHeartbeats 2000000 in
theorem numberBy_any (v : Value) (d : Dk) (a : Dd) (w : World) (h : Dsk w v d) (hf : d.Fine) (hnow : 1 ≤ d.now ∧ d.now ≤ 99999) :
    Calls Try.prog 44 #[v, .agg #[.int .i64 a.kind, .int .i64 a.n]] w fun e w' => e = .returned (.int .i64 (madeP d a)) ∧ Below w.heap.size w w' := by
  obtain ⟨A1, c1, A2, c2, A3, c3, A5, c5, rfl, h1, h2, h3, h5⟩ := h.ex
  obtain ⟨kd, n⟩ := a
  dsimp only
  have hB := ((Below.refl w.heap.size w).alloc (Nat.le_refl _) (.cells #[.slice A1 d.t.us.length c1, .slice A2 d.t.bs.length c2, .slice A3 d.t.ns.length c3, .int .i64 d.now, .slice A5 d.past.length c5] 28)).alloc (by simp) (.cells #[.int .i64 kd, .int .i64 n] 47)
  have HX := (Blk.new w 28 #[.slice A1 d.t.us.length c1, .slice A2 d.t.bs.length c2, .slice A3 d.t.ns.length c3, .int .i64 d.now, .slice A5 d.past.length c5]).alloc (.cells #[.int .i64 kd, .int .i64 n] 47)
  have HY : Blk ((w.alloc (.cells #[.slice A1 d.t.us.length c1, .slice A2 d.t.bs.length c2, .slice A3 d.t.ns.length c3, .int .i64 d.now, .slice A5 d.past.length c5] 28)).alloc (.cells #[.int .i64 kd, .int .i64 n] 47)) (w.heap.size + 1) 47 #[.int .i64 kd, .int .i64 n] := blk_new_at _ (by simp)
  have HT : Tng ((w.alloc (.cells #[.slice A1 d.t.us.length c1, .slice A2 d.t.bs.length c2, .slice A3 d.t.ns.length c3, .int .i64 d.now, .slice A5 d.past.length c5] 28)).alloc (.cells #[.int .i64 kd, .int .i64 n] 47)) (.agg #[.slice A1 d.t.us.length c1, .slice A2 d.t.bs.length c2, .slice A3 d.t.ns.length c3]) d.t := ⟨A1, c1, A2, c2, A3, c3, rfl, h1.below hB (Nat.le_refl _), h2.below hB (Nat.le_refl _), h3.below hB (Nat.le_refl _)⟩
  have K := Lib.hid (implLettersOf_any _ d.t d.now _ HT hf.t (by omega))
  have hw1 : 1 ≤ n ∧ n ≤ 99999 → IntKind.i64.wrap (d.now + n) = d.now + n := fun h => IntWalk.i64_in _ (by omega)
  have hw2 : 1 ≤ n ∧ n ≤ 99999 → IntKind.i64.wrap (d.now - n) = d.now - n := fun h => IntWalk.i64_in _ (by omega)
  have HM : Hid (∀ m, m = madeP d ⟨kd, n⟩ → Ending.returned (.int .i64 m) = .returned (.int .i64 (madeP d ⟨kd, n⟩))) := fun m h => by rw [h]
  have M1 : Hid (kd = 3 ∧ n = 0 → madeP d ⟨kd, n⟩ = lettersOf d.t d.now) := fun h => if_pos h
  have M2 : Hid (¬ (kd = 3 ∧ n = 0) → ¬ (1 ≤ n ∧ n ≤ 99999) → madeP d ⟨kd, n⟩ = d.now) := fun h1 h2 => (if_neg h1).trans (if_neg h2)
  have M3 : Hid (¬ (kd = 3 ∧ n = 0) → 1 ≤ n ∧ n ≤ 99999 → madeP d ⟨kd, n⟩ = if kd = 0 then n else if kd = 1 then d.now + n else if kd = 2 then d.now - n else d.now) := fun h1 h2 => (if_neg h1).trans (if_pos h2)
  generalize madeP d ⟨kd, n⟩ = mp at *
  replace hB := Lib.hid hB
  replace HX := Lib.hid HX
  replace HY := Lib.hid HY
  clear h h1 h2 h3 h5 hf HT
  go_enter Try.func44, Try.ntmps44
  go_upto_region 1 with (fail)
  generalize (w.alloc (.cells #[.slice A1 d.t.us.length c1, .slice A2 d.t.bs.length c2, .slice A3 d.t.ns.length c3, .int .i64 d.now, .slice A5 d.past.length c5] 28)).alloc (.cells #[.int .i64 kd, .int .i64 n] 47) = W at *
  obtain ⟨x0, x1, x2, x3, x4⟩ := (blk5 HX.out).1
  have y0 : W.cell? ⟨w.heap.size + 1, 0, none⟩ = some (.int .i64 kd) := HY.out.cell 0
  have y1 : W.cell? ⟨w.heap.size + 1, 1, none⟩ = some (.int .i64 n) := HY.out.cell 1
  by_cases hk : kd = 3 ∧ n = 0
  · obtain ⟨rfl, rfl⟩ := hk
    have hm := M1.out ⟨rfl, rfl⟩
    replace hm := Lib.hid hm
    clear M1 M2 M3
    generalize lettersOf d.t d.now = lt at *
    go_wp2_with (fail)
    refine K.out.mono ?_
    rintro e w1 ⟨rfl, b1⟩
    have hE := Lib.hid (hB.out.trans (b1.mono hB.out.size))
    clear b1 x0 x1 x2 x3 x4 y0 y1 K
    go_wp2
    go_ret
    exact ⟨HM.out _ hm.out.symm, hE.out⟩
  · have hk1 : (kd == 3 && n == 0) = false := by
      rw [Bool.and_eq_false_iff]
      rcases Classical.em (kd = 3) with e | e
      · right; simpa using fun e2 => hk ⟨e, e2⟩
      · left; simpa using e
    have hk2 : decide (kd = 3 ∧ n = 0) = false := decide_eq_false hk
    have hk3 : kd = 3 → ¬ n = 0 := fun e e2 => hk ⟨e, e2⟩
    by_cases hn : 1 ≤ n ∧ n ≤ 99999
    · obtain ⟨n1, n2⟩ := hn
      have hm := Lib.hid (M3.out hk ⟨n1, n2⟩)
      have g1 : ¬ n < 1 := by omega
      have g2 : ¬ 99999 < n := by omega
      replace hw1 := hw1 ⟨n1, n2⟩
      replace hw2 := hw2 ⟨n1, n2⟩
      clear M1 M2 M3 K
      by_cases k0 : kd = 0
      · subst k0
        have hm' := Lib.hid (hm.out.trans (if_pos rfl))
        clear hm
        go_wp2
        all_goals
          go_ret
          exact ⟨HM.out _ hm'.out.symm, hB.out⟩
      · by_cases k1 : kd = 1
        · subst k1
          have hm' := Lib.hid (hm.out.trans ((if_neg (by decide)).trans (if_pos rfl)))
          clear hm
          go_wp2
          all_goals
            go_ret
            exact ⟨HM.out _ hm'.out.symm, hB.out⟩
        · by_cases k2 : kd = 2
          · subst k2
            have hm' := Lib.hid (hm.out.trans ((if_neg (by decide)).trans ((if_neg (by decide)).trans (if_pos rfl))))
            clear hm
            go_wp2
            all_goals
              go_ret
              exact ⟨HM.out _ hm'.out.symm, hB.out⟩
          · have hm' := Lib.hid (hm.out.trans ((if_neg k0).trans ((if_neg k1).trans (if_neg k2))))
            have q0 : (kd == 0) = false := by simpa using k0
            have q1 : (kd == 1) = false := by simpa using k1
            have q2 : (kd == 2) = false := by simpa using k2
            clear hm
            go_wp2
            all_goals
              go_ret
              exact ⟨HM.out _ hm'.out.symm, hB.out⟩
    · have hm := Lib.hid (M2.out hk hn)
      clear M1 M2 M3 K hw1 hw2
      by_cases g1 : n < 1
      · go_wp2
        all_goals
          go_ret
          exact ⟨HM.out _ hm.out.symm, hB.out⟩
      · have g2 : 99999 < n := by omega
        go_wp2
        all_goals
          go_ret
          exact ⟨HM.out _ hm.out.symm, hB.out⟩
end Go.Proofs.Ytjnlpknjdclalaa
