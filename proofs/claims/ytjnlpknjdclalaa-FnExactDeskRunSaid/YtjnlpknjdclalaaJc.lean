/-
  Contracts of DeskNew, l12Made and DeskDo of the model.
-/
import Derived.Test.YtjnlpknjdclalaaJa
import Derived.Test.YtjnlpknjdclalaaJb
import Derived.Test.YtjnlpknjdclalaaL1
namespace Go.Proofs.Ytjnlpknjdclalaa
open Go.RowKit

set_option maxRecDepth 100000 in
set_option maxHeartbeats 4000000 in
theorem specDeskNew_any (v : Value) (t : Tg) (n : Int) (w : World) (h : Tng w v t) (hf : t.Fine) (hn : -9223372036854775808 ≤ n ∧ n ≤ 9223372036854775807) :
    Calls Try.prog 52 #[v, .int .i64 n] w (RetMB w (dkNew t n) (namedB t n)) := by
  obtain ⟨A1, c1, A2, c2, A3, c3, rfl, -⟩ := h.ex
  have hB := ((Below.refl w.heap.size w).alloc (Nat.le_refl _) (.cells #[.slice A1 t.us.length c1, .slice A2 t.bs.length c2, .slice A3 t.ns.length c3] 26)).alloc (by simp) (.cells #[.slice none 0 0, .slice none 0 0, .slice none 0 0, .int .i64 0, .slice none 0 0] 28)
  have HX := (Blk.new w 26 #[.slice A1 t.us.length c1, .slice A2 t.bs.length c2, .slice A3 t.ns.length c3]).alloc (.cells #[.slice none 0 0, .slice none 0 0, .slice none 0 0, .int .i64 0, .slice none 0 0] 28)
  have HZ : Blk ((w.alloc (.cells #[.slice A1 t.us.length c1, .slice A2 t.bs.length c2, .slice A3 t.ns.length c3] 26)).alloc (.cells #[.slice none 0 0, .slice none 0 0, .slice none 0 0, .int .i64 0, .slice none 0 0] 28)) (w.heap.size + 1) 28 #[.slice none 0 0, .slice none 0 0, .slice none 0 0, .int .i64 0, .slice none 0 0] := blk_new_at _ (by simp)
  have HT := h.below hB (Nat.le_refl _)
  have K1 := Lib.hid (specNameOf_any _ t n _ HT hf hn)
  have hnew : namedB t n = true → dkNew t n = ⟨t, n, []⟩ := fun e => (dk_new_ok e).1
  have hno : namedB t n = false → dkNew t n = noDk := dk_new_no
  generalize namedB t n = nb at *
  generalize nameOf t n = xs at *
  generalize dkNew t n = dn at *
  replace hnew := Lib.hid hnew
  replace hno := Lib.hid hno
  replace hf := Lib.hid hf
  replace hB := Lib.hid hB
  replace HX := Lib.hid HX
  replace HZ := Lib.hid HZ
  replace HT := Lib.hid HT
  clear h
  go_enter Try.func52, Try.ntmps52
  go_upto_region 1 with (fail)
  generalize (w.alloc (.cells #[.slice A1 t.us.length c1, .slice A2 t.bs.length c2, .slice A3 t.ns.length c3] 26)).alloc (.cells #[.slice none 0 0, .slice none 0 0, .slice none 0 0, .int .i64 0, .slice none 0 0] 28) = W at *
  obtain ⟨x0, x1, x2, -, -, -⟩ := blk3 HX.out
  go_wp2_with (fail)
  refine K1.out.mono ?_
  rintro e w1 ⟨v1, rfl, -, b1⟩
  have hB1 := Lib.hid (hB.out.trans (b1.mono hB.out.size))
  have HX1 := HX.out.below b1 HX.out.lt
  have HZ1 := HZ.out.below b1 HZ.out.lt
  have HT1 := HT.out.below b1 (Nat.le_refl _)
  clear x0 x1 x2 K1 b1 HX HZ HT hB
  obtain ⟨x0, x1, x2, -, -, -⟩ := blk3 HX1
  obtain ⟨⟨z0, z1, z2, z3, z4⟩, ⟨e0, e1, e2, e3, e4⟩⟩ := blk5 HZ1
  cases nb
  · have hg := Lib.hid (hno.out rfl)
    have HF := fun u0 u1 u2 u3 u4 => own_md5 (u0 := u0) (u1 := u1) (u2 := u2) (u3 := u3) (u4 := u4) (own_mdNo w1 w.heap.size) HZ1
    have HG := fun u0 u1 u2 u3 u4 => below_dk5 (u0 := u0) (u1 := u1) (u2 := u2) (u3 := u3) (u4 := u4) (g := w.heap.size + 1) hB1.out (by omega)
    replace HF := Lib.hid HF
    replace HG := Lib.hid HG
    clear HX1 HZ1 HT1 hnew hno
    go_wp2
    refine bodyPost_ret (v := .tuple #[.agg #[.slice none 0 0, .slice none 0 0, .slice none 0 0, .int .i64 0, .slice none 0 0], .bool false]) (by simp [results, Try.results52, go_sem, z0, z1, z2, z3, z4]) rfl ?_
    rw [hg.out]
    exact ⟨_, rfl, HF.out _ _ _ _ _, HG.out _ _ _ _ _⟩
  · have hg := Lib.hid (hnew.out rfl)
    have K2 := Lib.hid (specTongue_any _ t w1 HT1 hf.out)
    have hs1 := HZ1.lt
    replace HZ1 := Lib.hid HZ1
    clear HX1 HT1 hnew hno z0 z1 z2 z3 z4 e0 e1 e2 e3 e4
    go_wp2_with (go_at_call 59; refine K2.out.mono ?_; rintro e w2 ⟨v2, rfl, o2, b2⟩; obtain ⟨X1, k1, X2, k2, X3, k3, rfl⟩ := o2.shape; refine Hid.out ?_)
    have HZ2 := HZ1.out.below b2 HZ1.out.lt
    obtain ⟨⟨z0, z1, z2, z3, z4⟩, ⟨e0, e1, e2, e3, e4⟩⟩ := blk5 HZ2
    have hB2 := hB1.out.trans (b2.mono hB1.out.size)
    have HM : MDk w2 w.heap.size (.agg #[.slice X1 t.us.length k1, .slice X2 t.bs.length k2, .slice X3 t.ns.length k3, .int .i64 n, .slice none 0 0]) ⟨t, n, []⟩ := ⟨_, _, _, _, rfl, o2.mono hB1.out.size, OwnI.tail (owns_none _ _ _)⟩
    have HF := fun u0 u1 u2 u3 u4 => own_md5 (u0 := u0) (u1 := u1) (u2 := u2) (u3 := u3) (u4 := u4) HM HZ2
    have HG := fun u0 u1 u2 u3 u4 => below_dk5 (u0 := u0) (u1 := u1) (u2 := u2) (u3 := u3) (u4 := u4) (g := w.heap.size + 1) hB2 (by omega)
    replace HF := Lib.hid HF
    replace HG := Lib.hid HG
    clear x0 x1 x2 o2 b2 HM HZ2 HZ1 hB2 hB1 K2
    refine Lib.hid ?_
    go_wp2
    refine bodyPost_ret (v := .tuple #[.agg #[.slice X1 t.us.length k1, .slice X2 t.bs.length k2, .slice X3 t.ns.length k3, .int .i64 n, .slice none 0 0], .bool true]) (by simp [results, Try.results52, go_sem, z0, z1, z2, z3, z4]) rfl ?_
    rw [hg.out]
    exact ⟨_, rfl, HF.out _ _ _ _ _, HG.out _ _ _ _ _⟩

set_option maxRecDepth 100000 in
set_option maxHeartbeats 4000000 in
theorem specMade_any (v : Value) (d : Dk) (a : Dd) (w : World) (h : Dsk w v d) (hf : d.Fine) (hnow : 1 ≤ d.now ∧ d.now ≤ 99999) :
    Calls Try.prog 39 #[v, .agg #[.int .i64 a.kind, .int .i64 a.n]] w fun e w' => e = .returned (.int .i64 (madeOf d a)) ∧ Below w.heap.size w w' := by
  obtain ⟨A1, c1, A2, c2, A3, c3, A5, c5, rfl, h1, h2, h3, h5⟩ := h.ex
  obtain ⟨kd, n⟩ := a
  dsimp only
  have hB := ((Below.refl w.heap.size w).alloc (Nat.le_refl _) (.cells #[.slice A1 d.t.us.length c1, .slice A2 d.t.bs.length c2, .slice A3 d.t.ns.length c3, .int .i64 d.now, .slice A5 d.past.length c5] 28)).alloc (by simp) (.cells #[.int .i64 kd, .int .i64 n] 47)
  have HX := (Blk.new w 28 #[.slice A1 d.t.us.length c1, .slice A2 d.t.bs.length c2, .slice A3 d.t.ns.length c3, .int .i64 d.now, .slice A5 d.past.length c5]).alloc (.cells #[.int .i64 kd, .int .i64 n] 47)
  have HY : Blk ((w.alloc (.cells #[.slice A1 d.t.us.length c1, .slice A2 d.t.bs.length c2, .slice A3 d.t.ns.length c3, .int .i64 d.now, .slice A5 d.past.length c5] 28)).alloc (.cells #[.int .i64 kd, .int .i64 n] 47)) (w.heap.size + 1) 47 #[.int .i64 kd, .int .i64 n] := blk_new_at _ (by simp)
  have HT : Tng ((w.alloc (.cells #[.slice A1 d.t.us.length c1, .slice A2 d.t.bs.length c2, .slice A3 d.t.ns.length c3, .int .i64 d.now, .slice A5 d.past.length c5] 28)).alloc (.cells #[.int .i64 kd, .int .i64 n] 47)) (.agg #[.slice A1 d.t.us.length c1, .slice A2 d.t.bs.length c2, .slice A3 d.t.ns.length c3]) d.t := ⟨A1, c1, A2, c2, A3, c3, rfl, h1.below hB (Nat.le_refl _), h2.below hB (Nat.le_refl _), h3.below hB (Nat.le_refl _)⟩
  have K := Lib.hid (specLettersOf_any _ d.t d.now _ HT hf.t (by omega))
  have hw1 : 1 ≤ n ∧ n ≤ 99999 → IntKind.i64.wrap (d.now + n) = d.now + n := fun h => IntWalk.i64_in _ (by omega)
  have hw2 : 1 ≤ n ∧ n ≤ 99999 → IntKind.i64.wrap (d.now - n) = d.now - n := fun h => IntWalk.i64_in _ (by omega)
  have KI := Lib.hid (fun W => in_any n 1 99999 W)
  have HM : Hid (∀ m, m = madeOf d ⟨kd, n⟩ → Ending.returned (.int .i64 m) = .returned (.int .i64 (madeOf d ⟨kd, n⟩))) := fun m h => by rw [h]
  have M1 : Hid (kd = 3 ∧ n = 0 → madeOf d ⟨kd, n⟩ = lettersOf d.t d.now) := fun h => if_pos h
  have M2 : Hid (¬ (kd = 3 ∧ n = 0) → ¬ (1 ≤ n ∧ n ≤ 99999) → madeOf d ⟨kd, n⟩ = 0) := fun h1 h2 => (if_neg h1).trans (if_neg h2)
  have M3 : Hid (¬ (kd = 3 ∧ n = 0) → 1 ≤ n ∧ n ≤ 99999 → madeOf d ⟨kd, n⟩ = if kd = 0 then n else if kd = 1 then d.now + n else if kd = 2 then d.now - n else 0) := fun h1 h2 => (if_neg h1).trans (if_pos h2)
  generalize madeOf d ⟨kd, n⟩ = mp at *
  replace hB := Lib.hid hB
  replace HX := Lib.hid HX
  replace HY := Lib.hid HY
  clear h h1 h2 h3 h5 hf HT
  go_enter Try.func39, Try.ntmps39
  go_upto_region 1 with (fail)
  generalize (w.alloc (.cells #[.slice A1 d.t.us.length c1, .slice A2 d.t.bs.length c2, .slice A3 d.t.ns.length c3, .int .i64 d.now, .slice A5 d.past.length c5] 28)).alloc (.cells #[.int .i64 kd, .int .i64 n] 47) = W at *
  obtain ⟨x0, x1, x2, x3, x4⟩ := (blk5 HX.out).1
  have y0 : W.cell? ⟨w.heap.size + 1, 0, none⟩ = some (.int .i64 kd) := HY.out.cell 0
  have y1 : W.cell? ⟨w.heap.size + 1, 1, none⟩ = some (.int .i64 n) := HY.out.cell 1
  by_cases hk : kd = 3 ∧ n = 0
  · obtain ⟨rfl, rfl⟩ := hk
    have hm := M1.out ⟨rfl, rfl⟩
    replace hm := Lib.hid hm
    clear M1 M2 M3 KI
    generalize lettersOf d.t d.now = lt at *
    go_wp2_with (fail)
    refine K.out.mono ?_
    rintro e w1 ⟨rfl, b1⟩
    have hE := Lib.hid (hB.out.trans (b1.mono hB.out.size))
    clear b1 x0 x1 x2 x3 x4 y0 y1 K
    go_wp2
    go_ret
    exact ⟨HM.out _ hm.out.symm, hE.out⟩
  · have hk3 : kd = 3 → ¬ n = 0 := fun e e2 => hk ⟨e, e2⟩
    by_cases hn : 1 ≤ n ∧ n ≤ 99999
    · obtain ⟨n1, n2⟩ := hn
      have hm := Lib.hid (M3.out hk ⟨n1, n2⟩)
      have KI2 := KI.out
      rw [decide_eq_true (show (1 : Int) ≤ n ∧ n ≤ 99999 from ⟨n1, n2⟩)] at KI2
      replace KI2 := Lib.hid KI2
      replace hw1 := hw1 ⟨n1, n2⟩
      replace hw2 := hw2 ⟨n1, n2⟩
      clear M1 M2 M3 K KI
      by_cases k0 : kd = 0
      · subst k0
        have hm' := Lib.hid (hm.out.trans (if_pos rfl))
        clear hm
        go_wp2_with (go_at_call 62; refine (KI2.out _).mono ?_; rintro e w' ⟨rfl, rfl⟩)
        all_goals
          go_ret
          exact ⟨HM.out _ hm'.out.symm, hB.out⟩
      · by_cases k1 : kd = 1
        · subst k1
          have hm' := Lib.hid (hm.out.trans ((if_neg (by decide)).trans (if_pos rfl)))
          clear hm
          go_wp2_with (go_at_call 62; refine (KI2.out _).mono ?_; rintro e w' ⟨rfl, rfl⟩)
          all_goals
            go_ret
            exact ⟨HM.out _ hm'.out.symm, hB.out⟩
        · by_cases k2 : kd = 2
          · subst k2
            have hm' := Lib.hid (hm.out.trans ((if_neg (by decide)).trans ((if_neg (by decide)).trans (if_pos rfl))))
            clear hm
            go_wp2_with (go_at_call 62; refine (KI2.out _).mono ?_; rintro e w' ⟨rfl, rfl⟩)
            all_goals
              go_ret
              exact ⟨HM.out _ hm'.out.symm, hB.out⟩
          · have hm' := Lib.hid (hm.out.trans ((if_neg k0).trans ((if_neg k1).trans (if_neg k2))))
            have q0 : (kd == 0) = false := by simpa using k0
            have q1 : (kd == 1) = false := by simpa using k1
            have q2 : (kd == 2) = false := by simpa using k2
            clear hm
            go_wp2
            all_goals
              go_ret
              exact ⟨HM.out _ hm'.out.symm, hB.out⟩
    · have hm := Lib.hid (M2.out hk hn)
      have KI2 := KI.out
      rw [decide_eq_false hn] at KI2
      replace KI2 := Lib.hid KI2
      clear M1 M2 M3 K hw1 hw2 KI
      by_cases k0 : kd = 0
      · subst k0
        go_wp2_with (go_at_call 62; refine (KI2.out _).mono ?_; rintro e w' ⟨rfl, rfl⟩)
        all_goals
          go_ret
          exact ⟨HM.out _ hm.out.symm, hB.out⟩
      · by_cases k1 : kd = 1
        · subst k1
          go_wp2_with (go_at_call 62; refine (KI2.out _).mono ?_; rintro e w' ⟨rfl, rfl⟩)
          all_goals
            go_ret
            exact ⟨HM.out _ hm.out.symm, hB.out⟩
        · by_cases k2 : kd = 2
          · subst k2
            go_wp2_with (go_at_call 62; refine (KI2.out _).mono ?_; rintro e w' ⟨rfl, rfl⟩)
            all_goals
              go_ret
              exact ⟨HM.out _ hm.out.symm, hB.out⟩
          · have q0 : (kd == 0) = false := by simpa using k0
            have q1 : (kd == 1) = false := by simpa using k1
            have q2 : (kd == 2) = false := by simpa using k2
            go_wp2
            all_goals
              go_ret
              exact ⟨HM.out _ hm.out.symm, hB.out⟩
end Go.Proofs.Ytjnlpknjdclalaa
