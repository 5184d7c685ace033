/-
  The draw of DeskDo.
-/
import Derived.Test.YtgkhhabfaacchaaDrawKo
namespace Go.Proofs.Ytgkhhabfaacchaa
open Go.RowKit

def DrawnDo (w : World) (e : Ending) (w' : World) : Prop := ∃ v d k n, e = .returned (.tuple #[v, .agg #[.int .i64 k, .int .i64 n]]) ∧ MDk w' w.heap.size v d ∧ SmallD d ∧ ((0 ≤ k ∧ k ≤ 9) ∧ (-1 ≤ n ∧ n ≤ 1000000)) ∧ Below w.heap.size w w'
set_option maxRecDepth 100000 in
set_option maxHeartbeats 4000000 in
theorem drawDeskDo_any (A : Option Addr) (n c : Nat) (xs : List Int) (w : World) (h : Ints w .u8 A n c xs) (hn : n ≤ 1048576) (hwf : ∀ x ∈ xs, (Lit.int .u8 x).wf = true) (hc : c ≤ maxLen) :
    Calls Try.prog 22 #[.slice A n c] w (DrawnDo w) := by
  have hB0 : Below w.heap.size w ((w.alloc (.cells #[.slice none 0 0, .slice none 0 0, .slice none 0 0, .int .i64 0, .slice none 0 0] 28)).alloc (.cells #[.int .i64 0, .int .i64 0] 42)) := ((Below.refl _ _).alloc (Nat.le_refl _) _).alloc (by simp) _
  have HO := Lib.hid (open_any A n c xs ((w.alloc (.cells #[.slice none 0 0, .slice none 0 0, .slice none 0 0, .int .i64 0, .slice none 0 0] 28)).alloc (.cells #[.int .i64 0, .int .i64 0] 42)) (h.below hB0 (Nat.le_refl _)) hn hwf hc)
  have HB0 := Lib.hid hB0
  have HX := Lib.hid ((Blk.new w 28 #[.slice none 0 0, .slice none 0 0, .slice none 0 0, .int .i64 0, .slice none 0 0]).alloc (.cells #[.int .i64 0, .int .i64 0] 42))
  have HY : Hid (Blk ((w.alloc (.cells #[.slice none 0 0, .slice none 0 0, .slice none 0 0, .int .i64 0, .slice none 0 0] 28)).alloc (.cells #[.int .i64 0, .int .i64 0] 42)) (w.heap.size + 1) 42 #[.int .i64 0, .int .i64 0]) := blk_new_at _ (by simp)
  clear h hwf hc hB0
  go_enter Try.func22, Try.ntmps22
  go_wp2_with (fail)
  refine HO.out.mono ?_
  rintro e w1 ⟨rfl, hr, hb, -⟩
  have hX1 := Lib.hid (HX.out.below hb (by first | (simp; done) | (simp; omega)))
  have hY1 := Lib.hid (HY.out.below hb (by simp))
  have hB1 := Lib.hid (HB0.out.trans (hb.mono (by simp; omega)))
  have hs1 := hb.size
  simp only [World.size_alloc] at hs1
  try simp only [World.size_alloc] at hr
  clear hb HO
  go_wp2_with (fail)
  refine (desk_any _ 0 12 w1 hr (by omega) (by omega) (by omega)).mono ?_
  rintro e w2 ⟨v, d, q, rfl, ho, hsm, hr2, hq, hg⟩
  obtain ⟨A1, c1, A2, c2, A3, c3, A5, c5, rfl, -⟩ := ho.dsk.ex
  have hX2 := hX1.out.grown hg (by intro e; injection e with e; omega)
  have hY2 := hY1.out.grown hg (by intro e; injection e with e; omega)
  have hB2 := below_read hB1.out hg (by omega) (by first | omega | (simp; omega))
  have hA := (Below.refl w2.heap.size w2).alloc (Nat.le_refl _) (.cells #[.slice A1 d.t.us.length c1, .slice A2 d.t.bs.length c2, .slice A3 d.t.ns.length c3, .int .i64 d.now, .slice A5 d.past.length c5] 28)
  have HM := Lib.hid (ho.below hA (Nat.le_refl _))
  have HR := Lib.hid (hr2.alloc' (.cells #[.slice A1 d.t.us.length c1, .slice A2 d.t.bs.length c2, .slice A3 d.t.ns.length c3, .int .i64 d.now, .slice A5 d.past.length c5] 28))
  have kX := Lib.hid (hX2.alloc (.cells #[.slice A1 d.t.us.length c1, .slice A2 d.t.bs.length c2, .slice A3 d.t.ns.length c3, .int .i64 d.now, .slice A5 d.past.length c5] 28))
  have kY := Lib.hid (hY2.alloc (.cells #[.slice A1 d.t.us.length c1, .slice A2 d.t.bs.length c2, .slice A3 d.t.ns.length c3, .int .i64 d.now, .slice A5 d.past.length c5] 28))
  have kQ := Lib.hid (Blk.new w2 28 #[.slice A1 d.t.us.length c1, .slice A2 d.t.bs.length c2, .slice A3 d.t.ns.length c3, .int .i64 d.now, .slice A5 d.past.length c5])
  have hB := Lib.hid (hB2.trans (hA.mono hB2.size))
  have hs2 : w.heap.size + 1 + 1 < w2.heap.size := hr2.lt
  replace hsm := Lib.hid hsm
  have hgl := hr.lt
  clear hr hr2 hg ho hX2 hY2 hB2 hX1 hY1 hB1 HX HY HB0 hA
  go_upto_region 3 with (fail)
  generalize w2.alloc (.cells #[.slice A1 d.t.us.length c1, .slice A2 d.t.bs.length c2, .slice A3 d.t.ns.length c3, .int .i64 d.now, .slice A5 d.past.length c5] 28) = W at *
  generalize w2.heap.size = qb at *
  generalize hgg : w.heap.size + 1 + 1 = g at *
  obtain ⟨⟨y0, y1, y2, y3, y4⟩, -⟩ := blk5 kQ.out
  have HD : ∀ W2, Below W.heap.size W W2 → Calls Try.prog 55 #[.pointer (some ⟨g, 0, none⟩)] W2 (fun e V => ∃ k n, e = .returned (.agg #[.int .i64 k, .int .i64 n]) ∧ (0 ≤ k ∧ k ≤ 9) ∧ (-1 ≤ n ∧ n ≤ 1000000) ∧ Blk V w.heap.size 28 #[.slice none 0 0, .slice none 0 0, .slice none 0 0, .int .i64 0, .slice none 0 0] ∧ Blk V (w.heap.size + 1) 42 #[.int .i64 0, .int .i64 0] ∧ Blk V qb 28 #[.slice A1 d.t.us.length c1, .slice A2 d.t.bs.length c2, .slice A3 d.t.ns.length c3, .int .i64 d.now, .slice A5 d.past.length c5] ∧ MDk V w1.heap.size (.agg #[.slice A1 d.t.us.length c1, .slice A2 d.t.bs.length c2, .slice A3 d.t.ns.length c3, .int .i64 d.now, .slice A5 d.past.length c5]) d ∧ Below w.heap.size w V) := by
    intro W2 b2
    refine (deed_any g q W2 (HR.out.below b2 (Nat.le_refl _)) (by omega)).mono ?_
    rintro e V ⟨k, n, r, rfl, hk, hn, -, -, hg⟩
    exact ⟨k, n, rfl, hk, hn, (kX.out.below b2 kX.out.lt).grown hg (by simp; omega), (kY.out.below b2 kY.out.lt).grown hg (by simp; omega), (kQ.out.below b2 kQ.out.lt).grown hg (by simp; omega), (HM.out.below b2 (Nat.le_refl _)).keptG hg (by omega), below_read (hB.out.trans (b2.mono hB.out.size)) hg (by have := b2.size; have := kX.out.lt; omega) (by omega)⟩
  replace HD := Lib.hid HD
  clear HR HM kX kY hB
  go_region_with (go_at_call 55; refine (HD.out _ (by first | exact Below.refl _ _ | exact (Below.refl _ _).drew)).mono ?_; rintro e V ⟨k, m, rfl, hk, hm, hX3, hY3, hQ3, hM3, hB3⟩; obtain ⟨⟨z0, z1, z2, z3, z4⟩, ⟨f0, f1, f2, f3, f4⟩⟩ := blk5 hX3; obtain ⟨⟨q0, q1, q2, q3, q4⟩, -⟩ := blk5 hQ3; have r0 := hY3.cell 0; have r1 := hY3.cell 1; have g0 := hY3.frozen 0; have g1 := hY3.frozen 1; replace hX3 := Lib.hid hX3; replace hY3 := Lib.hid hY3; replace hM3 := Lib.hid hM3; replace hB3 := Lib.hid hB3; clear hQ3; go_simp)
  all_goals
    have hM4 : ∀ u0 u1 u2 u3 u4 u5 u6, MDk (((((((V.setCell ⟨w.heap.size, 0, none⟩ u0).setCell ⟨w.heap.size, 1, none⟩ u1).setCell ⟨w.heap.size, 2, none⟩ u2).setCell ⟨w.heap.size, 3, none⟩ u3).setCell ⟨w.heap.size, 4, none⟩ u4).setCell ⟨w.heap.size + 1, 0, none⟩ u5).setCell ⟨w.heap.size + 1, 1, none⟩ u6) w1.heap.size (.agg #[.slice A1 d.t.us.length c1, .slice A2 d.t.bs.length c2, .slice A3 d.t.ns.length c3, .int .i64 d.now, .slice A5 d.past.length c5]) d := fun u0 u1 u2 u3 u4 u5 u6 =>
      (((own_md5 (u0 := u0) (u1 := u1) (u2 := u2) (u3 := u3) (u4 := u4) hM3.out hX3.out)).keptG (grown_setCell _ _ 0 u5) (by omega)).keptG (grown_setCell _ _ 1 u6) (by omega)
    have hB4 : ∀ u0 u1 u2 u3 u4 u5 u6, Below w.heap.size w (((((((V.setCell ⟨w.heap.size, 0, none⟩ u0).setCell ⟨w.heap.size, 1, none⟩ u1).setCell ⟨w.heap.size, 2, none⟩ u2).setCell ⟨w.heap.size, 3, none⟩ u3).setCell ⟨w.heap.size, 4, none⟩ u4).setCell ⟨w.heap.size + 1, 0, none⟩ u5).setCell ⟨w.heap.size + 1, 1, none⟩ u6) := fun u0 u1 u2 u3 u4 u5 u6 =>
      ((below_dk5 (u0 := u0) (u1 := u1) (u2 := u2) (u3 := u3) (u4 := u4) hB3.out (Nat.le_refl _)).setCell (p := ⟨w.heap.size + 1, 0, none⟩) (by show w.heap.size ≤ w.heap.size + 1; omega) u5).setCell (p := ⟨w.heap.size + 1, 1, none⟩) (by show w.heap.size ≤ w.heap.size + 1; omega) u6
    replace hM4 := Lib.hid hM4
    replace hB4 := Lib.hid hB4
    clear hX3 hY3 hM3 hB3
    have r0' : V.cell? ⟨w.heap.size + 1, 0, none⟩ = some (.int .i64 0) := r0
    have r1' : V.cell? ⟨w.heap.size + 1, 1, none⟩ = some (.int .i64 0) := r1
    go_wp2
    refine bodyPost_ret (v := .tuple #[.agg #[.slice A1 d.t.us.length c1, .slice A2 d.t.bs.length c2, .slice A3 d.t.ns.length c3, .int .i64 d.now, .slice A5 d.past.length c5], .agg #[.int .i64 k, .int .i64 m]]) (by simp [results, Try.results22, go_sem, z0, z1, z2, z3, z4, r0', r1']) rfl ?_
    exact ⟨_, d, k, m, rfl, (hM4.out _ _ _ _ _ _ _).mono (by omega), hsm.out, ⟨hk, hm⟩, hB4.out _ _ _ _ _ _ _⟩
end Go.Proofs.Ytgkhhabfaacchaa
