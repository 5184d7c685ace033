/-
  FnDeskDo holds for every input: the drawn deed is done to the drawn desk as the model does it. No condition.
-/
import Derived.Test.YtgkhhabfaacchaaRows
import Derived.Test.YtgkhhabfaacchaaDrawKd
import Derived.Test.YtgkhhabfaacchaaDTell
import Derived.Test.YtgkhhabfaacchaaIe
import Derived.Test.YtgkhhabfaacchaaM1
import Derived.Lib.QuietBelow
namespace Go.Proofs.Ytgkhhabfaacchaa.fnDeskDo
open Go.ChangeShapes Go.WideShapes Go.ChangeAt Go.RowKit Go.Sort
open Go.ChangeMaps (open_string shut_string)

theorem own : ownKnob Try.prog.godebug = none := by kernel_rfl
theorem laidOut : laidOutB Try.prog = true := by kernel_rfl
theorem doFine {d : Dk} (h : d.Fine) (a : Dd) : (dkDo d a).1.Fine := by
  cases hok : dkOk d
  · rw [do_no hok]; exact noDk_fine
  · obtain ⟨h1, h2, h3⟩ := (dkOk_iff _).1 (do_ok (a := a) hok).1
    have ht := (do_ok (a := a) hok).2
    have hb := named_bd h1
    exact ⟨by rw [ht]; exact h.t, by omega, by omega, Fits.of_small fun x hx => by have := named_bd (h2 x hx); omega⟩
/-- A desk in a box. -/
structure BX (W : World) (q : Nat) (cs : Array Value) (d : Dk) : Prop where
  k : Blk W q 28 cs
  o : Dsk W (.agg cs) d
section
variable {W W' : World} {q : Nat} {cs : Array Value} {d : Dk}
theorem BX.step (h : BX W q cs d) (hb : Below W.heap.size W W') : BX W' q cs d := ⟨h.k.below hb h.k.lt, h.o.below hb (Nat.le_refl _)⟩
theorem BX.new (o : Dsk W (.agg cs) d) : BX (W.alloc (.cells cs 28)) W.heap.size cs d := ⟨Blk.new _ _ _, o.below ((Below.refl _ _).alloc (Nat.le_refl _) _) (Nat.le_refl _)⟩
end

set_option maxRecDepth 100000 in
set_option maxHeartbeats 8000000 in
theorem walk (w : World) (A : Option Addr) (n c : Nat) (xs : List Int) (h : Ints w .u8 A n c xs) (hwf : ∀ x ∈ xs, (Lit.int .u8 x).wf = true) (hc : c ≤ maxLen) :
    Calls Try.prog 5 #[.slice A n c] w fun e w' => e = .returned (.bool true) ∧ Below w.heap.size w w' := by
  have hn : n ≤ 9223372036854775807 := by have := h.le; unfold maxLen at hc; omega
  by_cases hl : n ≤ 1048576
  · have HD := Lib.hid (drawDeskDo_any A n c xs w h hl hwf hc)
    clear h hwf hc
    go_enter Try.func5, Try.ntmps5
    go_wp2_with (fail)
    refine HD.out.mono ?_
    rintro e w1 ⟨v, d, k, m, rfl, ho, hsm, ⟨hk, hm⟩, hb⟩
    obtain ⟨A1, c1, A2, c2, A3, c3, A5, c5, rfl, -⟩ := ho.dsk.ex
    have hf := Lib.hid hsm.fine
    have hln := Lib.hid hsm.len
    have hba := (Below.refl w1.heap.size w1).alloc (Nat.le_refl _) (.cells #[.slice A1 d.t.us.length c1, .slice A2 d.t.bs.length c2, .slice A3 d.t.ns.length c3, .int .i64 d.now, .slice A5 d.past.length c5] 28)
    have hbb := hba.alloc (by simp) (.cells #[.int .i64 k, .int .i64 m] 42)
    have BD := Lib.hid ((BX.new ho.dsk).step ((Below.refl _ _).alloc (Nat.le_refl _) (.cells #[.int .i64 k, .int .i64 m] 42)))
    have kY : Hid (Blk ((w1.alloc (.cells #[.slice A1 d.t.us.length c1, .slice A2 d.t.bs.length c2, .slice A3 d.t.ns.length c3, .int .i64 d.now, .slice A5 d.past.length c5] 28)).alloc (.cells #[.int .i64 k, .int .i64 m] 42)) (w1.heap.size + 1) 42 #[.int .i64 k, .int .i64 m]) := blk_new_at _ (by simp)
    have HB := Lib.hid (hb.trans (hbb.mono hb.size))
    clear ho hsm hb hba hbb HD
    go_upto_region 4 with (fail)
    generalize (w1.alloc (.cells #[.slice A1 d.t.us.length c1, .slice A2 d.t.bs.length c2, .slice A3 d.t.ns.length c3, .int .i64 d.now, .slice A5 d.past.length c5] 28)).alloc (.cells #[.int .i64 k, .int .i64 m] 42) = W at *
    generalize w1.heap.size = qd at *
    have K1 := Lib.hid (implDeskDo_any _ d ⟨k, m⟩ W BD.out.o hf.out)
    have K2 := Lib.hid (fun W' (o : Dsk W' (.agg #[.slice A1 d.t.us.length c1, .slice A2 d.t.bs.length c2, .slice A3 d.t.ns.length c3, .int .i64 d.now, .slice A5 d.past.length c5]) d) => specDeskDo_any _ d ⟨k, m⟩ W' o hf.out)
    have huf : Hid (dkDo d ⟨k, m⟩).1.Fine := Lib.hid (doFine hf.out _)
    have hsame := Lib.hid (do_same (d := d) (a := ⟨k, m⟩))
    have hyes := Lib.hid (do_yes_ok (d := d) (a := ⟨k, m⟩))
    have hno := Lib.hid (do_no (d := d) (a := ⟨k, m⟩))
    have hok := Lib.hid (do_ok (d := d) (a := ⟨k, m⟩))
    have hund := Lib.hid (do_undone (d := d) (a := ⟨k, m⟩))
    have hlet := Lib.hid (letters_kind (d := d) (a := ⟨k, m⟩))
    obtain ⟨u, hu⟩ : ∃ u, (dkDo d ⟨k, m⟩).1 = u := ⟨_, rfl⟩
    obtain ⟨rb, hrb⟩ : ∃ rb, (dkDo d ⟨k, m⟩).2 = rb := ⟨_, rfl⟩
    rw [hu, hrb] at K1 hund
    rw [hu] at huf hsame hok hlet
    rw [hrb] at hsame hyes hlet
    simp only [hu, hrb] at K2
    replace hu := Lib.hid hu
    replace hrb := Lib.hid hrb
    have hne : (rb != rb) = false := by simp
    obtain ⟨x0, x1, x2, x3, x4⟩ := (blk5 BD.out.k).1
    have y0 : W.cell? ⟨qd + 1, 0, none⟩ = some (.int .i64 k) := kY.out.cell 0
    have y1 : W.cell? ⟨qd + 1, 1, none⟩ = some (.int .i64 m) := kY.out.cell 1
    go_wp2_with (go_at_call 23; refine K1.out.mono ?_; rintro e w2 ⟨v2, rfl, o2, b2⟩; obtain ⟨X1, k1, X2, k2, X3, k3, X5, k5, rfl, -⟩ := o2.dsk.ex; refine Hid.out ?_)
    have hA2 := (Below.refl w2.heap.size w2).alloc (Nat.le_refl _) (.cells #[.slice X1 u.t.us.length k1, .slice X2 u.t.bs.length k2, .slice X3 u.t.ns.length k3, .int .i64 u.now, .slice X5 u.past.length k5] 28)
    have c2 := b2.trans (hA2.mono b2.size)
    replace BD := Lib.hid (BD.out.step c2)
    replace kY := Lib.hid (kY.out.below c2 kY.out.lt)
    replace HB := Lib.hid (HB.out.trans (c2.mono HB.out.size))
    have BU := Lib.hid (BX.new o2.dsk)
    clear hA2 c2 b2 o2 x0 x1 x2 x3 x4 y0 y1
    refine Lib.hid ?_
    go_upto_region 5 with (fail)
    generalize w2.alloc (.cells #[.slice X1 u.t.us.length k1, .slice X2 u.t.bs.length k2, .slice X3 u.t.ns.length k3, .int .i64 u.now, .slice X5 u.past.length k5] 28) = W3 at *
    generalize w2.heap.size = qu at *
    obtain ⟨x0, x1, x2, x3, x4⟩ := (blk5 BD.out.k).1
    have y0 : W3.cell? ⟨qd + 1, 0, none⟩ = some (.int .i64 k) := kY.out.cell 0
    have y1 : W3.cell? ⟨qd + 1, 1, none⟩ = some (.int .i64 m) := kY.out.cell 1
    have K3 := Lib.hid (K2.out W3 BD.out.o)
    go_wp2_with (go_at_call 24; refine K3.out.mono ?_; rintro e w4 ⟨v4, rfl, o4, -, b4⟩; obtain ⟨Y1, j1, Y2, j2, Y3, j3, Y5, j5, rfl, -⟩ := o4.dsk.ex; refine Hid.out ?_)
    clear K1 K2 K3
    have hA4 := (Below.refl w4.heap.size w4).alloc (Nat.le_refl _) (.cells #[.slice Y1 u.t.us.length j1, .slice Y2 u.t.bs.length j2, .slice Y3 u.t.ns.length j3, .int .i64 u.now, .slice Y5 u.past.length j5] 28)
    have c4 := b4.trans (hA4.mono b4.size)
    replace BD := Lib.hid (BD.out.step c4)
    replace BU := Lib.hid (BU.out.step c4)
    replace kY := Lib.hid (kY.out.below c4 kY.out.lt)
    replace HB := Lib.hid (HB.out.trans (c4.mono HB.out.size))
    have BG := Lib.hid (BX.new o4.dsk)
    clear hA4 c4 b4 o4 x0 x1 x2 x3 x4 y0 y1
    refine Lib.hid ?_
    go_upto_region 6 with (fail)
    generalize w4.alloc (.cells #[.slice Y1 u.t.us.length j1, .slice Y2 u.t.bs.length j2, .slice Y3 u.t.ns.length j3, .int .i64 u.now, .slice Y5 u.past.length j5] 28) = W5 at *
    generalize w4.heap.size = qg at *
    obtain ⟨x0, x1, x2, x3, x4⟩ := (blk5 BU.out.k).1
    obtain ⟨z0, z1, z2, z3, z4⟩ := (blk5 BG.out.k).1
    have K4 := Lib.hid (sameDesk_same _ _ u W5 BU.out.o BG.out.o huf.out)
    go_wp2_with (fail)
    refine K4.out.mono ?_
    rintro e w6 ⟨rfl, b6⟩
    replace BD := Lib.hid (BD.out.step b6)
    replace BU := Lib.hid (BU.out.step b6)
    replace kY := Lib.hid (kY.out.below b6 kY.out.lt)
    replace HB := Lib.hid (HB.out.trans (b6.mono HB.out.size))
    clear b6 x0 x1 x2 x3 x4 z0 z1 z2 z3 z4 K4 BG
    cases rb
    · obtain ⟨x0, x1, x2, x3, x4⟩ := (blk5 BU.out.k).1
      obtain ⟨z0, z1, z2, z3, z4⟩ := (blk5 BD.out.k).1
      cases hdk : dkOk d
      · have K5 := Lib.hid (sameDesk_tell _ _ u d w6 BU.out.o BD.out.o huf.out hf.out)
        go_wp2_with (fail)
        refine K5.out.mono ?_
        rintro e w7 ⟨qb, rfl, b7⟩
        replace BD := Lib.hid (BD.out.step b7)
        replace HB := Lib.hid (HB.out.trans (b7.mono HB.out.size))
        clear b7 x0 x1 x2 x3 x4 z0 z1 z2 z3 z4 K5 kY BU
        obtain ⟨z0, z1, z2, z3, z4⟩ := (blk5 BD.out.k).1
        have K6 := implDeskOk_any _ d w7 BD.out.o hf.out
        rw [hdk] at K6
        replace K6 := Lib.hid K6
        replace hdk := Lib.hid hdk
        cases qb
        · go_wp2_with (fail)
          refine K6.out.mono ?_
          rintro e w8 ⟨rfl, b8⟩
          replace HB := Lib.hid (HB.out.trans (b8.mono HB.out.size))
          clear b8 z0 z1 z2 z3 z4 K6 BD
          go_wp2_with (fail)
          refine (alive_any _).mono ?_
          rintro e w9 ⟨rfl, b9⟩
          replace HB := Lib.hid (HB.out.trans (b9.mono HB.out.size))
          clear b9
          go_wp2
          go_ret
          exact ⟨rfl, HB.out⟩
        · go_wp2_with (fail)
          refine (alive_any _).mono ?_
          rintro e w9 ⟨rfl, b9⟩
          replace HB := Lib.hid (HB.out.trans (b9.mono HB.out.size))
          clear b9
          go_wp2
          go_ret
          exact ⟨rfl, HB.out⟩
      · have hs := hsame.out hdk rfl
        have BU2 : Dsk w6 (.agg #[.slice X1 u.t.us.length k1, .slice X2 u.t.bs.length k2, .slice X3 u.t.ns.length k3, .int .i64 u.now, .slice X5 u.past.length k5]) d := by have hh := BU.out.o; rw [hs] at hh ⊢; exact hh
        have K5 := Lib.hid (sameDesk_same _ _ d w6 BU2 BD.out.o hf.out)
        replace hs := Lib.hid hs
        replace hdk := Lib.hid hdk
        clear BU2
        go_wp2_with (fail)
        refine K5.out.mono ?_
        rintro e w7 ⟨rfl, b7⟩
        replace HB := Lib.hid (HB.out.trans (b7.mono HB.out.size))
        clear b7 x0 x1 x2 x3 x4 z0 z1 z2 z3 z4 K5 kY BU BD
        go_wp2_with (fail)
        refine (alive_any _).mono ?_
        rintro e w9 ⟨rfl, b9⟩
        replace HB := Lib.hid (HB.out.trans (b9.mono HB.out.size))
        clear b9
        go_wp2
        go_ret
        exact ⟨rfl, HB.out⟩
    · have hdk := hyes.out rfl
      obtain ⟨huo, hut⟩ := hok.out hdk
      have K5 := Lib.hid (implDeskDo_any _ u ⟨4, 0⟩ w6 BU.out.o huf.out)
      have hbf : Hid (dkDo u ⟨4, 0⟩).1.Fine := Lib.hid (doFine huf.out _)
      replace hdk := Lib.hid hdk
      replace huo := Lib.hid huo
      replace hut := Lib.hid hut
      obtain ⟨bk, hbk⟩ : ∃ bk, (dkDo u ⟨4, 0⟩).1 = bk := ⟨_, rfl⟩
      obtain ⟨bb, hbb⟩ : ∃ bb, (dkDo u ⟨4, 0⟩).2 = bb := ⟨_, rfl⟩
      rw [hbk, hbb] at K5
      rw [hbk] at hbf
      replace hbk := Lib.hid hbk
      replace hbb := Lib.hid hbb
      obtain ⟨x0, x1, x2, x3, x4⟩ := (blk5 BU.out.k).1
      go_wp2_with (go_at_call 23; refine K5.out.mono ?_; rintro e w8 ⟨v8, rfl, o8, b8⟩; obtain ⟨Y1, j1, Y2, j2, Y3, j3, Y5, j5, rfl, -⟩ := o8.dsk.ex; refine Hid.out ?_)
      have hA8 := (Below.refl w8.heap.size w8).alloc (Nat.le_refl _) (.cells #[.slice Y1 bk.t.us.length j1, .slice Y2 bk.t.bs.length j2, .slice Y3 bk.t.ns.length j3, .int .i64 bk.now, .slice Y5 bk.past.length j5] 28)
      have c8 := b8.trans (hA8.mono b8.size)
      replace BD := Lib.hid (BD.out.step c8)
      replace BU := Lib.hid (BU.out.step c8)
      replace kY := Lib.hid (kY.out.below c8 kY.out.lt)
      replace HB := Lib.hid (HB.out.trans (c8.mono HB.out.size))
      have BK := Lib.hid (BX.new o8.dsk)
      clear hA8 c8 b8 o8 x0 x1 x2 x3 x4 K5
      refine Lib.hid ?_
      go_upto_region 11 with (fail)
      generalize w8.alloc (.cells #[.slice Y1 bk.t.us.length j1, .slice Y2 bk.t.bs.length j2, .slice Y3 bk.t.ns.length j3, .int .i64 bk.now, .slice Y5 bk.past.length j5] 28) = W9 at *
      generalize w8.heap.size = qb at *
      have TX : Tng W9 (.agg #[.slice X1 u.t.us.length k1, .slice X2 u.t.bs.length k2, .slice X3 u.t.ns.length k3]) d.t := by
        obtain ⟨B1, e1, B2, e2, B3, e3, B5, e5, ee, h1, h2, h3, -⟩ := BU.out.o.ex
        cases ee
        have hh := (⟨_, _, _, _, _, _, rfl, h1, h2, h3⟩ : Tng W9 (.agg #[.slice X1 u.t.us.length k1, .slice X2 u.t.bs.length k2, .slice X3 u.t.ns.length k3]) u.t)
        rw [hut.out] at hh ⊢
        exact hh
      have TD : Tng W9 (.agg #[.slice A1 d.t.us.length c1, .slice A2 d.t.bs.length c2, .slice A3 d.t.ns.length c3]) d.t := dsk_tng BD.out.o
      have KO : ∀ dd os, Calls Try.prog 12 #[.agg #[.slice X1 u.t.us.length k1, .slice X2 u.t.bs.length k2, .slice X3 u.t.ns.length k3, .int .i64 u.now, .slice X5 u.past.length k5]] (grow (redrawn W9 dd) os) (fun e w' => e = .returned (.bool true) ∧ Below (grow (redrawn W9 dd) os).heap.size (grow (redrawn W9 dd) os) w') := fun dd os => by have hh := implDeskOk_any _ u (grow (redrawn W9 dd) os) (BU.out.o.below (below_regrown W9 dd os) (Nat.le_refl _)) huf.out; rw [huo.out] at hh; exact hh
      have KT := fun dd os => sameTongue_same _ _ d.t (grow (redrawn W9 dd) os) (TX.below (below_regrown W9 dd os) (Nat.le_refl _)) (TD.below (below_regrown W9 dd os) (Nat.le_refl _)) hf.out.t
      have KL := fun dd os => implLettersOf_any _ d.t d.now (grow (redrawn W9 dd) os) (TD.below (below_regrown W9 dd os) (Nat.le_refl _)) hf.out.t hf.out.now
      obtain ⟨x0', x1', x2', x3', x4'⟩ := (blk5 BU.out.k).1
      obtain ⟨z0', z1', z2', z3', z4'⟩ := (blk5 BD.out.k).1
      obtain ⟨q0', q1', q2', q3', q4'⟩ := (blk5 BK.out.k).1
      have y0' : W9.cell? ⟨qd + 1, 0, none⟩ = some (.int .i64 k) := kY.out.cell 0
      have x0 := fun dd os => cell_regrown x0' dd os
      have x1 := fun dd os => cell_regrown x1' dd os
      have x2 := fun dd os => cell_regrown x2' dd os
      have x3 := fun dd os => cell_regrown x3' dd os
      have x4 := fun dd os => cell_regrown x4' dd os
      have z0 := fun dd os => cell_regrown z0' dd os
      have z1 := fun dd os => cell_regrown z1' dd os
      have z2 := fun dd os => cell_regrown z2' dd os
      have z3 := fun dd os => cell_regrown z3' dd os
      have z4 := fun dd os => cell_regrown z4' dd os
      have q0 := fun dd os => cell_regrown q0' dd os
      have q1 := fun dd os => cell_regrown q1' dd os
      have q2 := fun dd os => cell_regrown q2' dd os
      have q3 := fun dd os => cell_regrown q3' dd os
      have q4 := fun dd os => cell_regrown q4' dd os
      have y0 := fun dd os => cell_regrown y0' dd os
      replace KO := Lib.hid KO
      replace KT := Lib.hid KT
      replace KL := Lib.hid KL
      clear TX TD x0' x1' x2' x3' x4' z0' z1' z2' z3' z4' q0' q1' q2' q3' q4' y0'
      by_cases h4 : k = 4
      · subst h4
        have h4b : ((4 : Int) == 4) = true := rfl
        have h3b : ((4 : Int) != 3) = true := rfl
        refine wp_region_quiet_below (by kernel_rfl) (by kernel_rfl) ?_
        repeat (go_big_quiet_step (first | (go_at_call 12; exact Calls.regrown_of (KO.out _ _)) | (go_at_call 21; exact Calls.regrown_of (KT.out _ _))))
        refine wpQuiet_nil ?_
        intro _ hw'
        obtain ⟨pq, hw''⟩ := hw'
        have HBq := HB.out.trans ((below_regrown W9 pq.d pq.os).mono HB.out.size)
        subst hw''
        replace HBq := Lib.hid HBq
        clear x0 x1 x2 x3 x4 z0 z1 z2 z3 z4 q0 q1 q2 q3 q4 y0
        go_wp2
        go_ret
        exact ⟨rfl, HBq.out⟩
      · have h4b : (k == 4) = false := by rw [beq_eq_false_iff_ne]; exact h4
        by_cases h8 : 8 ≤ d.past.length
        · have hd : decide ((8 : Int) ≤ (d.past.length : Int)) = true := decide_eq_true (by omega)
          replace h8 := Lib.hid h8
          by_cases h3 : k = 3
          · have hq : (u.now == lettersOf d.t d.now) = true := by rw [hlet.out trivial h3]; simp
            subst h3
            have h3b : ((3 : Int) != 3) = false := rfl
            clear h4
            refine wp_region_quiet_below (by kernel_rfl) (by kernel_rfl) ?_
            repeat (go_big_quiet_step (first | (go_at_call 12; exact Calls.regrown_of (KO.out _ _)) | (go_at_call 21; exact Calls.regrown_of (KT.out _ _)) | (go_at_call 25; exact Calls.regrown_of (KL.out _ _))))
            refine wpQuiet_nil ?_
            intro _ hw'
            obtain ⟨pq, hw''⟩ := hw'
            have HBq := HB.out.trans ((below_regrown W9 pq.d pq.os).mono HB.out.size)
            subst hw''
            replace HBq := Lib.hid HBq
            clear x0 x1 x2 x3 x4 z0 z1 z2 z3 z4 q0 q1 q2 q3 q4 y0
            go_wp2
            go_ret
            exact ⟨rfl, HBq.out⟩
          · have h3b : (k != 3) = true := by simpa using h3
            replace h3 := Lib.hid h3
            replace h4 := Lib.hid h4
            refine wp_region_quiet_below (by kernel_rfl) (by kernel_rfl) ?_
            repeat (go_big_quiet_step (first | (go_at_call 12; exact Calls.regrown_of (KO.out _ _)) | (go_at_call 21; exact Calls.regrown_of (KT.out _ _))))
            refine wpQuiet_nil ?_
            intro _ hw'
            obtain ⟨pq, hw''⟩ := hw'
            have HBq := HB.out.trans ((below_regrown W9 pq.d pq.os).mono HB.out.size)
            subst hw''
            replace HBq := Lib.hid HBq
            clear x0 x1 x2 x3 x4 z0 z1 z2 z3 z4 q0 q1 q2 q3 q4 y0
            go_wp2
            go_ret
            exact ⟨rfl, HBq.out⟩
        · have hd : decide ((8 : Int) ≤ (d.past.length : Int)) = false := decide_eq_false (by omega)
          have hun := hund.out trivial h4 (by omega)
          have hb1 : bb = true := by rw [← hbb.out, hun]
          have hb2 : bk = d := by rw [← hbk.out, hun]
          have DK : Dsk W9 (.agg #[.slice Y1 bk.t.us.length j1, .slice Y2 bk.t.bs.length j2, .slice Y3 bk.t.ns.length j3, .int .i64 bk.now, .slice Y5 bk.past.length j5]) d := by have hh := BK.out.o; rw [hb2] at hh ⊢; exact hh
          have KS := Lib.hid (fun dd os => sameDesk_same _ _ d (grow (redrawn W9 dd) os) (DK.below (below_regrown W9 dd os) (Nat.le_refl _)) (BD.out.o.below (below_regrown W9 dd os) (Nat.le_refl _)) hf.out)
          subst hb1
          replace hb2 := Lib.hid hb2
          replace h8 := Lib.hid h8
          clear DK hun
          by_cases h3 : k = 3
          · have hq : (u.now == lettersOf d.t d.now) = true := by rw [hlet.out trivial h3]; simp
            subst h3
            have h3b : ((3 : Int) != 3) = false := rfl
            clear h4
            refine wp_region_quiet_below (by kernel_rfl) (by kernel_rfl) ?_
            repeat (go_big_quiet_step (first | (go_at_call 12; exact Calls.regrown_of (KO.out _ _)) | (go_at_call 21; exact Calls.regrown_of (KT.out _ _)) | (go_at_call 18; exact Calls.regrown_of (KS.out _ _)) | (go_at_call 25; exact Calls.regrown_of (KL.out _ _))))
            refine wpQuiet_nil ?_
            intro _ hw'
            obtain ⟨pq, hw''⟩ := hw'
            have HBq := HB.out.trans ((below_regrown W9 pq.d pq.os).mono HB.out.size)
            subst hw''
            replace HBq := Lib.hid HBq
            clear x0 x1 x2 x3 x4 z0 z1 z2 z3 z4 q0 q1 q2 q3 q4 y0
            go_wp2
            go_ret
            exact ⟨rfl, HBq.out⟩
          · have h3b : (k != 3) = true := by simpa using h3
            replace h3 := Lib.hid h3
            replace h4 := Lib.hid h4
            refine wp_region_quiet_below (by kernel_rfl) (by kernel_rfl) ?_
            repeat (go_big_quiet_step (first | (go_at_call 12; exact Calls.regrown_of (KO.out _ _)) | (go_at_call 21; exact Calls.regrown_of (KT.out _ _)) | (go_at_call 18; exact Calls.regrown_of (KS.out _ _))))
            refine wpQuiet_nil ?_
            intro _ hw'
            obtain ⟨pq, hw''⟩ := hw'
            have HBq := HB.out.trans ((below_regrown W9 pq.d pq.os).mono HB.out.size)
            subst hw''
            replace HBq := Lib.hid HBq
            clear x0 x1 x2 x3 x4 z0 z1 z2 z3 z4 q0 q1 q2 q3 q4 y0
            go_wp2
            go_ret
            exact ⟨rfl, HBq.out⟩
  · have t1 : (1048576 : Int) < (n : Int) := by omega
    go_enter Try.func5, Try.ntmps5
    go_wp2
    go_ret
    exact ⟨rfl, Below.refl _ _⟩

set_option maxRecDepth 100000 in
theorem lifted (os : Os) (started : os.Started) (H : Type) (enc : TypeId × Value → H) :
    ReturnsInHanded {} Try.checked os 5 .any (Rows.fnDeskDoSpec.pre6 enc Try.prog Try.f5 Rows.fnDeskDoRow.domain false) (Rows.fnDeskDoSpec.post enc Try.prog Try.f5 false true false false) := by
  refine returnsInHanded_of_change (C := Try.checked) own started (by kernel_rfl) Try.func5
    (ChangeSpec.witness6 (enc := enc) (C := Try.checked) false ⟨#[], #[.slice none 0 0], []⟩ 8 (by kernel_rfl) (by kernel_rfl) (by kernel_rfl) (by kernel_rfl)) ?_
  intro W base args ds gs before hval0 hW hcnd _
  have hval : ∀ (j : Nat) t v, Try.f5.params[j]? = some t → args[j]? = some v → Value.okWide Try.prog W .any base t v := hval0
  have hW' := hW
  obtain ⟨p, q, hA0, hV, rfl, hfz, hnd⟩ := hW
  have hA : DataW.TrodAll enc Try.prog W 0 (fun _ => true) true Try.f5.params.toList args.toList ds p := hA0
  rw [Try.params5] at hA hval
  obtain ⟨v0, vs0, d0, ds0, p0, q0, hargs, rfl, rfl, h0, r0⟩ := trodAll_cons hA
  obtain ⟨rfl, rfl, rfl⟩ := trodAll_nil r0
  obtain rfl : args = #[v0] := by cases args; simp_all
  obtain ⟨rfl, rfl⟩ := trodVars_none hV
  obtain ⟨a0, len0, cap0, rfl⟩ := okWide_slice Try.underlying22 (hval 0 22 v0 rfl rfl)
  have k0 := h0
  have lt0 : ∀ x ∈ p0, x.block < W.heap.size := by obtain ⟨m, hm⟩ := k0; exact DataW.trod_lt m _ _ _ hm
  obtain ⟨z0, s0, w0, m0⟩ : ∃ zs, Ints W .u8 a0 len0 cap0 zs ∧ (∀ n ∈ zs, (Lit.int .u8 n).wf = true) ∧ cap0 ≤ maxLen := by
    obtain ⟨fuel, hf⟩ := h0
    rcases open_ints Try.underlying22 Try.underlying5 (by kernel_rfl) hf with ⟨hcs, _⟩ | ⟨x, l, c, zs, hcs, _, hl, hm, hz, _, hcell, hwz⟩
    · simp [Value.cells] at hcs
      obtain ⟨rfl, rfl, rfl⟩ := hcs
      exact ⟨[], Ints.none_, by simp, Nat.zero_le _⟩
    · simp [Value.cells] at hcs
      obtain ⟨rfl, rfl, rfl⟩ := hcs
      exact ⟨_, Ints.of_row hl (by simpa using hz) hcell, fun n hn => hwz n (List.mem_of_mem_take hn), hm⟩
  clear hA0 hval0
  refine (walk W a0 len0 cap0 z0 s0 w0 m0).mono fun e W' ⟨he, bel⟩ => ?_
  subst he
  exact ⟨_, rfl, _, _, _, [], _, [], hW', trodAll_mk1 (shut_bool Try.underlying4 _), (trodAll_cons_mk (Below.trod laidOut (by kernel_rfl) (of_decide_eq_true (by kernel_rfl)) k0 bel lt0) trodAll_mk0), rfl, bel.frame _, fun h => by cases h⟩

theorem over : Rows.fnDeskDoRow.holds Try.pinned (OpenSpec.ofChange Rows.fnDeskDoSpec) :=
  OpenClaim.holds_of_wide 5 Try.f5 rfl rfl rfl rfl rfl rfl rfl ⟨rfl, rfl, rfl, rfl, rfl⟩ rfl rfl rfl rfl rfl (by kernel_rfl) Try.func5 (by kernel_rfl)
    (of_decide_eq_true (by kernel_rfl)) (by unfold Func.isWrapper; first | (rw [if_pos (by decide +kernel)]; kernel_rfl) | (rw [if_neg (by decide +kernel)]; exact ⟨rfl, rfl⟩))
    (fun os started H enc _ => lifted os started H enc)
theorem proved : Rows.FnDeskDoSaid := over
end Go.Proofs.Ytgkhhabfaacchaa.fnDeskDo
