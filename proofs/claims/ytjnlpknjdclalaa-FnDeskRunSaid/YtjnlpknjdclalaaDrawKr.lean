/-
  The draw of DeskRun.
-/
import Derived.Test.YtjnlpknjdclalaaDrawDk
import Derived.Test.YtjnlpknjdclalaaDrawDs
namespace Go.Proofs.Ytjnlpknjdclalaa
open Go.RowKit

/-- A desk and deeds are drawn. -/
def DrawnRun (w : World) (e : Ending) (w' : World) : Prop := ∃ v d A c qs, e = .returned (.tuple #[v, .slice A qs.length c]) ∧ MDk w' w.heap.size v d ∧ SmallD d ∧ DeedsAre w' A qs.length c qs ∧ qs.length ≤ 41 ∧ Below w.heap.size w w'
theorem own_of_blk {w : World} {B g n : Nat} {q : List Dd} (hb : Blk w g 47 (ddCells q).toArray) (hg : B ≤ g) (hn : q.length = n) (hm : n ≤ maxLen) : w.ownsRow B 47 2 (.slice (some ⟨g, 0, none⟩) n n) n (ddCells q) := by
  refine ⟨by rw [ddCells_len, hn], .inr ⟨g, n, _, rfl, hg, hb, Nat.le_refl _, hm, by simp [ddCells_len, hn], ?_⟩⟩
  rw [List.take_of_length_le (by simp [ddCells_len, hn])]
theorem made41 : madeCells (Value.agg #[.int .i64 0, .int .i64 0]).cells (41 * 2) = (ddCells (List.replicate 41 ⟨0, 0⟩)).toArray := by kernel_rfl
/-- What is known once the desk is drawn. -/
structure KRS (w : World) (g B q : Nat) (qb : Nat) (CS : Array Value) (v : Value) (d : Dk) (W : World) : Prop where
  rd : Rd W g q
  own : MDk W B v d
  kX : Blk W w.heap.size 28 #[.slice none 0 0, .slice none 0 0, .slice none 0 0, .int .i64 0, .slice none 0 0]
  kQ : Blk W qb 28 CS
  low : Below w.heap.size w W
  g0 : w.heap.size < g
  gq : g < qb
  gB : g < B
  wB : w.heap.size ≤ B
section
variable {w W W' : World} {g B q q' qb : Nat} {CS : Array Value} {v : Value} {d : Dk}
theorem KRS.below (h : KRS w g B q qb CS v d W) (hb : Below W.heap.size W W') : KRS w g B q qb CS v d W' :=
  ⟨h.rd.below hb (Nat.le_refl _), h.own.below hb (Nat.le_refl _), h.kX.below hb h.kX.lt, h.kQ.below hb h.kQ.lt, h.low.trans (hb.mono h.low.size), h.g0, h.gq, h.gB, h.wB⟩
end

/-- The same behind the deeds' draw. -/
structure KRB (w : World) (B qb : Nat) (CS : Array Value) (v : Value) (d : Dk) (v2 : Value) (qs : List Dd) (W : World) : Prop where
  own : MDk W B v d
  kX : Blk W w.heap.size 28 #[.slice none 0 0, .slice none 0 0, .slice none 0 0, .int .i64 0, .slice none 0 0]
  kQ : Blk W qb 28 CS
  low : Below w.heap.size w W
  dd : OwnDds W w.heap.size v2 qs

set_option maxRecDepth 100000 in
set_option maxHeartbeats 4000000 in
theorem drawDeskRun_any (A : Option Addr) (n c : Nat) (xs : List Int) (w : World) (h : Ints w .u8 A n c xs) (hn : n ≤ 1048576) (hwf : ∀ x ∈ xs, (Lit.int .u8 x).wf = true) (hc : c ≤ maxLen) :
    Calls Try.prog 6 #[.slice A n c] w (DrawnRun w) := by
  obtain ⟨i0, hi, hz0, hz1, hz2⟩ := info_parts dd_info
  have hB0 : Below w.heap.size w (w.alloc (.cells #[.slice none 0 0, .slice none 0 0, .slice none 0 0, .int .i64 0, .slice none 0 0] 28)) := (Below.refl _ _).alloc (Nat.le_refl _) _
  have HO := Lib.hid (open_any A n c xs (w.alloc (.cells #[.slice none 0 0, .slice none 0 0, .slice none 0 0, .int .i64 0, .slice none 0 0] 28)) (h.below hB0 (Nat.le_refl _)) hn hwf hc)
  have HB0 := Lib.hid hB0
  have HX := Lib.hid (Blk.new w 28 #[.slice none 0 0, .slice none 0 0, .slice none 0 0, .int .i64 0, .slice none 0 0])
  clear h hwf hc hB0
  go_enter Try.func6, Try.ntmps6
  go_wp2_with (fail)
  refine HO.out.mono ?_
  rintro e w1 ⟨rfl, hr, hb, -⟩
  have hX1 := Lib.hid (HX.out.below hb (by simp))
  have hB1 := Lib.hid (HB0.out.trans (hb.mono (by simp)))
  have hs1 := hb.size
  simp only [World.size_alloc] at hs1
  rw [World.size_alloc] at hr
  clear hb HO
  go_wp2_with (fail)
  refine (desk_any _ 0 12 w1 hr (by omega) (by omega) (by omega)).mono ?_
  rintro e w2 ⟨v, d, q, rfl, ho, hsm, hr2, hq, hg⟩
  obtain ⟨A1, c1, A2, c2, A3, c3, A5, c5, rfl, -⟩ := ho.dsk.ex
  have hX2 : Blk w2 w.heap.size 28 #[.slice none 0 0, .slice none 0 0, .slice none 0 0, .int .i64 0, .slice none 0 0] := hX1.out.grown hg (by simp)
  have hB2 := below_read hB1.out hg (by omega) (by simp)
  have hA := (Below.refl w2.heap.size w2).alloc (Nat.le_refl _) (.cells #[.slice A1 d.t.us.length c1, .slice A2 d.t.bs.length c2, .slice A3 d.t.ns.length c3, .int .i64 d.now, .slice A5 d.past.length c5] 28)
  have hs2 : w.heap.size + 1 < w2.heap.size := hr2.lt
  have hs3 : w.heap.size + 1 < w1.heap.size := hr.lt
  have S : KRS w (w.heap.size + 1) w1.heap.size q w2.heap.size #[.slice A1 d.t.us.length c1, .slice A2 d.t.bs.length c2, .slice A3 d.t.ns.length c3, .int .i64 d.now, .slice A5 d.past.length c5] (.agg #[.slice A1 d.t.us.length c1, .slice A2 d.t.bs.length c2, .slice A3 d.t.ns.length c3, .int .i64 d.now, .slice A5 d.past.length c5]) d (w2.alloc (.cells #[.slice A1 d.t.us.length c1, .slice A2 d.t.bs.length c2, .slice A3 d.t.ns.length c3, .int .i64 d.now, .slice A5 d.past.length c5] 28)) :=
    ⟨hr2.alloc' _, ho.below hA (Nat.le_refl _), hX2.alloc _, Blk.new w2 _ _, hB2.trans (hA.mono hB2.size), by omega, by omega, by omega, by omega⟩
  replace S := Lib.hid S
  replace hsm := Lib.hid hsm
  clear hr hr2 hg ho hX2 hB2 hX1 hB1 HX HB0 hA
  go_upto_region 3 with (fail)
  generalize w2.alloc (.cells #[.slice A1 d.t.us.length c1, .slice A2 d.t.bs.length c2, .slice A3 d.t.ns.length c3, .int .i64 d.now, .slice A5 d.past.length c5] 28) = W at *
  generalize w2.heap.size = qb at *
  generalize w.heap.size + 1 = g at *
  go_wp2_with (fail)
  refine (odd_any g q 30 _ S.out.rd (by omega) (by omega) (by omega)).mono ?_
  rintro e V ⟨tb, q1, rfl, hq1, hr1, hg1, -⟩
  have hg0 := S.out.g0
  have hgq := S.out.gq
  have hzW := S.out.low.size
  have S1 : KRS w g w1.heap.size q1 qb #[.slice A1 d.t.us.length c1, .slice A2 d.t.bs.length c2, .slice A3 d.t.ns.length c3, .int .i64 d.now, .slice A5 d.past.length c5] (.agg #[.slice A1 d.t.us.length c1, .slice A2 d.t.bs.length c2, .slice A3 d.t.ns.length c3, .int .i64 d.now, .slice A5 d.past.length c5]) d V :=
    ⟨hr1, S.out.own.keptG hg1 S.out.gB, S.out.kX.grown hg1 (by simp; omega), S.out.kQ.grown hg1 (by simp; omega), below_read S.out.low hg1 hzW (by omega), hg0, hgq, S.out.gB, S.out.wB⟩
  replace S := Lib.hid S1
  clear hr1 hg1 S1
  obtain ⟨⟨y0, y1, y2, y3, y4⟩, -⟩ := blk5 S.out.kQ
  obtain ⟨⟨z0, z1, z2, z3, z4⟩, ⟨f0, f1, f2, f3, f4⟩⟩ := blk5 S.out.kX
  have hwB := S.out.wB
  cases tb
  · have HD : ∀ W2, Below V.heap.size V W2 → Calls Try.prog 29 #[.pointer (some ⟨g, 0, none⟩)] W2 (fun e V2 => ∃ A c qs, e = .returned (.slice A qs.length c) ∧ qs.length ≤ 5 ∧ KRB w w1.heap.size qb #[.slice A1 d.t.us.length c1, .slice A2 d.t.bs.length c2, .slice A3 d.t.ns.length c3, .int .i64 d.now, .slice A5 d.past.length c5] (.agg #[.slice A1 d.t.us.length c1, .slice A2 d.t.bs.length c2, .slice A3 d.t.ns.length c3, .int .i64 d.now, .slice A5 d.past.length c5]) d (.slice A qs.length c) qs V2) := by
      intro W2 b2
      have S2 := S.out.below b2
      refine (deeds_any g q1 W2 S2.rd (by omega)).mono ?_
      rintro e V2 ⟨v2, qs, r, rfl, hqs, hl, -, -, -, hg2⟩
      obtain ⟨A, c, rfl, -⟩ := hqs.deeds
      exact ⟨A, c, qs, rfl, hl, ⟨S2.own.keptG hg2 S2.gB, S2.kX.grown hg2 (by simp; omega), S2.kQ.grown hg2 (by simp; omega), below_read S2.low hg2 S2.low.size (by omega), hqs.mono S2.low.size⟩⟩
    replace HD := Lib.hid HD
    clear S
    go_upto_region 5 with (fail)
    go_region_with (go_at_call 29; refine (HD.out _ (by first | exact Below.refl _ _ | exact (Below.refl _ _).drew)).mono ?_; rintro e V2 ⟨A, c, qs, rfl, hl, hK⟩; obtain ⟨⟨z0, z1, z2, z3, z4⟩, ⟨f0, f1, f2, f3, f4⟩⟩ := blk5 hK.kX; obtain ⟨⟨q0, q1, q2, q3, q4⟩, -⟩ := blk5 hK.kQ; replace hK := Lib.hid hK; go_simp)
    all_goals
      have hl1 : DrawnRun w (.returned (.tuple #[.agg #[.slice A1 d.t.us.length c1, .slice A2 d.t.bs.length c2, .slice A3 d.t.ns.length c3, .int .i64 d.now, .slice A5 d.past.length c5], .slice A qs.length c])) ((((((V2.setCell ⟨w.heap.size, 0, none⟩ (.slice A1 d.t.us.length c1)).setCell ⟨w.heap.size, 1, none⟩ (.slice A2 d.t.bs.length c2)).setCell ⟨w.heap.size, 2, none⟩ (.slice A3 d.t.ns.length c3)).setCell ⟨w.heap.size, 3, none⟩ (.int .i64 d.now)).setCell ⟨w.heap.size, 4, none⟩ (.slice A5 d.past.length c5))) := by
        obtain ⟨A', c', e, hd⟩ := (hK.out.dd.setD5 (u0 := .slice A1 d.t.us.length c1) (u1 := .slice A2 d.t.bs.length c2) (u2 := .slice A3 d.t.ns.length c3) (u3 := .int .i64 d.now) (u4 := .slice A5 d.past.length c5) hK.out.kX).deeds
        simp only [Value.slice.injEq, true_and] at e
        obtain ⟨rfl, rfl⟩ := e
        exact ⟨_, d, A, c, qs, rfl, (own_md5 hK.out.own hK.out.kX).mono hwB, hsm.out, hd, by omega, below_dk5 hK.out.low (Nat.le_refl _)⟩
      have hb1 : Blk ((((((V2.setCell ⟨w.heap.size, 0, none⟩ (.slice A1 d.t.us.length c1)).setCell ⟨w.heap.size, 1, none⟩ (.slice A2 d.t.bs.length c2)).setCell ⟨w.heap.size, 2, none⟩ (.slice A3 d.t.ns.length c3)).setCell ⟨w.heap.size, 3, none⟩ (.int .i64 d.now)).setCell ⟨w.heap.size, 4, none⟩ (.slice A5 d.past.length c5))) w.heap.size 28 #[.slice A1 d.t.us.length c1, .slice A2 d.t.bs.length c2, .slice A3 d.t.ns.length c3, .int .i64 d.now, .slice A5 d.past.length c5] := hK.out.kX.set5 (.slice A1 d.t.us.length c1) (.slice A2 d.t.bs.length c2) (.slice A3 d.t.ns.length c3) (.int .i64 d.now) (.slice A5 d.past.length c5)
      replace hl1 := Lib.hid hl1
      replace hb1 := Lib.hid hb1
      clear hK z0 z1 z2 z3 z4 f0 f1 f2 f3 f4 q0 q1 q2 q3 q4
      generalize (((((V2.setCell ⟨w.heap.size, 0, none⟩ (.slice A1 d.t.us.length c1)).setCell ⟨w.heap.size, 1, none⟩ (.slice A2 d.t.bs.length c2)).setCell ⟨w.heap.size, 2, none⟩ (.slice A3 d.t.ns.length c3)).setCell ⟨w.heap.size, 3, none⟩ (.int .i64 d.now)).setCell ⟨w.heap.size, 4, none⟩ (.slice A5 d.past.length c5)) = WW at *
      obtain ⟨⟨z0, z1, z2, z3, z4⟩, -⟩ := blk5 hb1.out
      go_wp2
      refine bodyPost_ret (v := .tuple #[.agg #[.slice A1 d.t.us.length c1, .slice A2 d.t.bs.length c2, .slice A3 d.t.ns.length c3, .int .i64 d.now, .slice A5 d.past.length c5], .slice A qs.length c]) (by simp [results, Try.results6, go_sem, z0, z1, z2, z3, z4]) rfl ?_
      exact hl1.out
  · have hmk : ∀ W, (Instr.makeSlice 29 (.int .i64 41) (.int .i64 41)).run Try.prog W = .ok (.slice (some ⟨W.heap.size, 0, none⟩) 41 41) (W.alloc (.cells (ddCells (List.replicate 41 ⟨0, 0⟩)).toArray 47)) := fun W => by
      have h0 := run_make_rowN (P := Try.prog) 29 47 i0 _ Try.underlying29 hi hz0 .i64 .i64 41 41 (Nat.le_refl _) (by rw [hz2]; omega) (by omega) W
      rw [hz1, made41] at h0
      exact h0
    have hl41 : (List.replicate 41 (⟨0, 0⟩ : Dd)).length = 41 := by simp
    replace hl41 := Lib.hid hl41
    generalize hq41 : List.replicate 41 (⟨0, 0⟩ : Dd) = q41 at *
    replace hq41 := Lib.hid hq41
    obtain ⟨⟨ya0, ya1, ya2, ya3, ya4⟩, -⟩ := blk5 (S.out.kQ.alloc (.cells (ddCells q41).toArray 47))
    obtain ⟨⟨za0, za1, za2, za3, za4⟩, ⟨fa0, fa1, fa2, fa3, fa4⟩⟩ := blk5 (S.out.kX.alloc (.cells (ddCells q41).toArray 47))
    have HR : ∀ W2, DeedsAre W2 (some ⟨V.heap.size, 0, none⟩) 41 41 q41 → MDk W2 w1.heap.size (.agg #[.slice A1 d.t.us.length c1, .slice A2 d.t.bs.length c2, .slice A3 d.t.ns.length c3, .int .i64 d.now, .slice A5 d.past.length c5]) d → Below w.heap.size w W2 → DrawnRun w (.returned (.tuple #[.agg #[.slice A1 d.t.us.length c1, .slice A2 d.t.bs.length c2, .slice A3 d.t.ns.length c3, .int .i64 d.now, .slice A5 d.past.length c5], .slice (some ⟨V.heap.size, 0, none⟩) 41 41])) W2 := fun W2 h1 h2 h3 => by
      have e41 := hl41.out
      refine ⟨_, d, some ⟨V.heap.size, 0, none⟩, 41, q41, by rw [e41], h2.mono hwB, hsm.out, by rw [e41]; exact h1, by omega, h3⟩
    have hdd : ∀ W2, OwnDds W2 V.heap.size (.slice (some ⟨V.heap.size, 0, none⟩) 41 41) q41 → DeedsAre W2 (some ⟨V.heap.size, 0, none⟩) 41 41 q41 := fun W2 ho => by
      obtain ⟨A, c, e, hd⟩ := ho.deeds
      rw [hl41.out] at e hd
      cases e
      exact hd
    have hnd : ∀ W2 : World, W2.heap.size = V.heap.size → OwnDds (W2.alloc (.cells (ddCells q41).toArray 47)) V.heap.size (.slice (some ⟨V.heap.size, 0, none⟩) 41 41) q41 := fun W2 hs => by
      unfold OwnDds
      rw [hl41.out]
      exact own_of_blk (blk_new_at _ hs) (Nat.le_refl _) hl41.out (by unfold maxLen; omega)
    have hl1 : DrawnRun w (.returned (.tuple #[.agg #[.slice A1 d.t.us.length c1, .slice A2 d.t.bs.length c2, .slice A3 d.t.ns.length c3, .int .i64 d.now, .slice A5 d.past.length c5], .slice (some ⟨V.heap.size, 0, none⟩) 41 41])) (((((((V.setCell ⟨w.heap.size, 0, none⟩ (.slice A1 d.t.us.length c1)).setCell ⟨w.heap.size, 1, none⟩ (.slice A2 d.t.bs.length c2)).setCell ⟨w.heap.size, 2, none⟩ (.slice A3 d.t.ns.length c3)).setCell ⟨w.heap.size, 3, none⟩ (.int .i64 d.now)).setCell ⟨w.heap.size, 4, none⟩ (.slice A5 d.past.length c5)).alloc (.cells (ddCells q41).toArray 47)).drew) := by
      have hA := (Below.refl ((((((V.setCell ⟨w.heap.size, 0, none⟩ (.slice A1 d.t.us.length c1)).setCell ⟨w.heap.size, 1, none⟩ (.slice A2 d.t.bs.length c2)).setCell ⟨w.heap.size, 2, none⟩ (.slice A3 d.t.ns.length c3)).setCell ⟨w.heap.size, 3, none⟩ (.int .i64 d.now)).setCell ⟨w.heap.size, 4, none⟩ (.slice A5 d.past.length c5))).heap.size ((((((V.setCell ⟨w.heap.size, 0, none⟩ (.slice A1 d.t.us.length c1)).setCell ⟨w.heap.size, 1, none⟩ (.slice A2 d.t.bs.length c2)).setCell ⟨w.heap.size, 2, none⟩ (.slice A3 d.t.ns.length c3)).setCell ⟨w.heap.size, 3, none⟩ (.int .i64 d.now)).setCell ⟨w.heap.size, 4, none⟩ (.slice A5 d.past.length c5)))).alloc (Nat.le_refl _) (.cells (ddCells q41).toArray 47)
      have hlow := below_dk5 (u0 := .slice A1 d.t.us.length c1) (u1 := .slice A2 d.t.bs.length c2) (u2 := .slice A3 d.t.ns.length c3) (u3 := .int .i64 d.now) (u4 := .slice A5 d.past.length c5) S.out.low (Nat.le_refl _)
      exact HR _ ((hdd _ (hnd _ (by simp))).below (Below.refl _ _).drew (Nat.le_refl _)) (((own_md5 S.out.own S.out.kX).below hA (Nat.le_refl _)).below (Below.refl _ _).drew (Nat.le_refl _)) (hlow.trans ((hA.mono hlow.size).drew))
    have hl2 : DrawnRun w (.returned (.tuple #[.agg #[.slice A1 d.t.us.length c1, .slice A2 d.t.bs.length c2, .slice A3 d.t.ns.length c3, .int .i64 d.now, .slice A5 d.past.length c5], .slice (some ⟨V.heap.size, 0, none⟩) 41 41])) (((((((V.alloc (.cells (ddCells q41).toArray 47)).setCell ⟨w.heap.size, 0, none⟩ (.slice A1 d.t.us.length c1)).setCell ⟨w.heap.size, 1, none⟩ (.slice A2 d.t.bs.length c2)).setCell ⟨w.heap.size, 2, none⟩ (.slice A3 d.t.ns.length c3)).setCell ⟨w.heap.size, 3, none⟩ (.int .i64 d.now)).setCell ⟨w.heap.size, 4, none⟩ (.slice A5 d.past.length c5)).drew) := by
      have hA := (Below.refl V.heap.size V).alloc (Nat.le_refl _) (.cells (ddCells q41).toArray 47)
      have S2 := S.out.below hA
      have hlow := below_dk5 (u0 := .slice A1 d.t.us.length c1) (u1 := .slice A2 d.t.bs.length c2) (u2 := .slice A3 d.t.ns.length c3) (u3 := .int .i64 d.now) (u4 := .slice A5 d.past.length c5) S2.low (Nat.le_refl _)
      exact HR _ ((hdd _ ((hnd V rfl).setD5 S2.kX)).below (Below.refl _ _).drew (Nat.le_refl _)) ((own_md5 S2.own S2.kX).below (Below.refl _ _).drew (Nat.le_refl _)) hlow.drew
    have hb1 : Blk (((((((V.setCell ⟨w.heap.size, 0, none⟩ (.slice A1 d.t.us.length c1)).setCell ⟨w.heap.size, 1, none⟩ (.slice A2 d.t.bs.length c2)).setCell ⟨w.heap.size, 2, none⟩ (.slice A3 d.t.ns.length c3)).setCell ⟨w.heap.size, 3, none⟩ (.int .i64 d.now)).setCell ⟨w.heap.size, 4, none⟩ (.slice A5 d.past.length c5)).alloc (.cells (ddCells q41).toArray 47)).drew) w.heap.size 28 #[.slice A1 d.t.us.length c1, .slice A2 d.t.bs.length c2, .slice A3 d.t.ns.length c3, .int .i64 d.now, .slice A5 d.past.length c5] := ((S.out.kX.set5 (.slice A1 d.t.us.length c1) (.slice A2 d.t.bs.length c2) (.slice A3 d.t.ns.length c3) (.int .i64 d.now) (.slice A5 d.past.length c5)).alloc _).drew
    have hb2 : Blk (((((((V.alloc (.cells (ddCells q41).toArray 47)).setCell ⟨w.heap.size, 0, none⟩ (.slice A1 d.t.us.length c1)).setCell ⟨w.heap.size, 1, none⟩ (.slice A2 d.t.bs.length c2)).setCell ⟨w.heap.size, 2, none⟩ (.slice A3 d.t.ns.length c3)).setCell ⟨w.heap.size, 3, none⟩ (.int .i64 d.now)).setCell ⟨w.heap.size, 4, none⟩ (.slice A5 d.past.length c5)).drew) w.heap.size 28 #[.slice A1 d.t.us.length c1, .slice A2 d.t.bs.length c2, .slice A3 d.t.ns.length c3, .int .i64 d.now, .slice A5 d.past.length c5] := ((S.out.kX.alloc _).set5 (.slice A1 d.t.us.length c1) (.slice A2 d.t.bs.length c2) (.slice A3 d.t.ns.length c3) (.int .i64 d.now) (.slice A5 d.past.length c5)).drew
    replace hl1 := Lib.hid hl1
    replace hl2 := Lib.hid hl2
    replace hb1 := Lib.hid hb1
    replace hb2 := Lib.hid hb2
    clear HR hdd hnd
    go_upto_region 4 with (fail)
    go_region
    · clear S y0 y1 y2 y3 y4 z0 z1 z2 z3 z4 f0 f1 f2 f3 f4 ya0 ya1 ya2 ya3 ya4 za0 za1 za2 za3 za4 fa0 fa1 fa2 fa3 fa4 hl2 hb2 hmk
      generalize ((((((V.setCell ⟨w.heap.size, 0, none⟩ (.slice A1 d.t.us.length c1)).setCell ⟨w.heap.size, 1, none⟩ (.slice A2 d.t.bs.length c2)).setCell ⟨w.heap.size, 2, none⟩ (.slice A3 d.t.ns.length c3)).setCell ⟨w.heap.size, 3, none⟩ (.int .i64 d.now)).setCell ⟨w.heap.size, 4, none⟩ (.slice A5 d.past.length c5)).alloc (.cells (ddCells q41).toArray 47)).drew = WW at *
      obtain ⟨⟨z0, z1, z2, z3, z4⟩, -⟩ := blk5 hb1.out
      go_wp2
      refine bodyPost_ret (v := .tuple #[.agg #[.slice A1 d.t.us.length c1, .slice A2 d.t.bs.length c2, .slice A3 d.t.ns.length c3, .int .i64 d.now, .slice A5 d.past.length c5], .slice (some ⟨V.heap.size, 0, none⟩) 41 41]) (by simp [results, Try.results6, go_sem, z0, z1, z2, z3, z4]) rfl ?_
      exact hl1.out
    · clear S y0 y1 y2 y3 y4 z0 z1 z2 z3 z4 f0 f1 f2 f3 f4 ya0 ya1 ya2 ya3 ya4 za0 za1 za2 za3 za4 fa0 fa1 fa2 fa3 fa4 hl1 hb1 hmk
      generalize ((((((V.alloc (.cells (ddCells q41).toArray 47)).setCell ⟨w.heap.size, 0, none⟩ (.slice A1 d.t.us.length c1)).setCell ⟨w.heap.size, 1, none⟩ (.slice A2 d.t.bs.length c2)).setCell ⟨w.heap.size, 2, none⟩ (.slice A3 d.t.ns.length c3)).setCell ⟨w.heap.size, 3, none⟩ (.int .i64 d.now)).setCell ⟨w.heap.size, 4, none⟩ (.slice A5 d.past.length c5)).drew = WW at *
      obtain ⟨⟨z0, z1, z2, z3, z4⟩, -⟩ := blk5 hb2.out
      go_wp2
      refine bodyPost_ret (v := .tuple #[.agg #[.slice A1 d.t.us.length c1, .slice A2 d.t.bs.length c2, .slice A3 d.t.ns.length c3, .int .i64 d.now, .slice A5 d.past.length c5], .slice (some ⟨V.heap.size, 0, none⟩) 41 41]) (by simp [results, Try.results6, go_sem, z0, z1, z2, z3, z4]) rfl ?_
      exact hl2.out
end Go.Proofs.Ytjnlpknjdclalaa
