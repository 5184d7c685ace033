/-
  GD: DrawN DrawR DrawSd.
-/
import Derived.Test.YtgkhhabfaacchaaGC
import Derived.Test.YtgkhhabfaacchaaGN
/- DrawN -/
namespace Go.Proofs.Ytgkhhabfaacchaa
open Go.RowKit

/-- While a tongue and a number are drawn. -/
structure DN (w : World) (g z : Nat) (cs : Array Value) (v : Value) (t : Tg) (wx : World) (q : Nat) : Prop where
  rd : Rd wx g q
  hx : Blk wx w.heap.size 26 #[.slice none 0 0, .slice none 0 0, .slice none 0 0]
  hz : Blk wx z 26 cs
  own : OwnTng wx (w.heap.size + 1) v t
  gr : w.grownBy wx (some g)
theorem DN.pick {w wx w' : World} {g z q q' : Nat} {cs : Array Value} {v : Value} {t : Tg} (h : DN w g z cs v t wx q) (hg : wx.grownBy w' (some g)) (hr : Rd w' g q') (h0 : g < w.heap.size) (hz : g < z) : DN w g z cs v t w' q' :=
  ⟨hr, h.hx.grown hg (by simp; omega), h.hz.grown hg (by simp; omega), h.own.kept hg (by omega), h.gr.trans hg⟩
theorem DN.below {w wx w' : World} {g z q : Nat} {cs : Array Value} {v : Value} {t : Tg} (h : DN w g z cs v t wx q) (hb : Below wx.heap.size wx w') : DN w g z cs v t w' q :=
  ⟨h.rd.below hb (Nat.le_refl _), h.hx.below hb h.hx.lt, h.hz.below hb h.hz.lt, h.own.below hb (Nat.le_refl _), h.gr.trans (grown_of_below (some g) hb)⟩
theorem pickI4 (x0 x1 x2 x3 m : Int) (kk : Nat) (hk : kk < 4) (h0 : 0 ≤ x0 ∧ x0 ≤ m) (h1 : 0 ≤ x1 ∧ x1 ≤ m) (h2 : 0 ≤ x2 ∧ x2 ≤ m) (h3 : 0 ≤ x3 ∧ x3 ≤ m) : ∃ y : Int, (#[Value.int .i64 x0, .int .i64 x1, .int .i64 x2, .int .i64 x3] : Array Value)[kk]? = some (.int .i64 y) ∧ 0 ≤ y ∧ y ≤ m := by
  obtain rfl | rfl | rfl | rfl : kk = 0 ∨ kk = 1 ∨ kk = 2 ∨ kk = 3 := by omega
  · exact ⟨x0, rfl, h0⟩
  · exact ⟨x1, rfl, h1⟩
  · exact ⟨x2, rfl, h2⟩
  · exact ⟨x3, rfl, h3⟩

/-- A tongue and a number are drawn by a reader. -/
def RetNamed (w : World) (g : Nat) (e : Ending) (w' : World) : Prop := ∃ v t n q, e = .returned (.tuple #[v, .int .i64 n]) ∧ OwnTng w' w.heap.size v t ∧ SmallT 40 t ∧ (-200000 ≤ n ∧ n ≤ 200000) ∧ Rd w' g q ∧ q ≤ 40 ∧ w.grownBy w' (some g)

set_option maxRecDepth 100000 in
set_option maxHeartbeats 4000000 in
theorem named_any (g : Nat) (w : World) (h : Rd w g 0) :
    Calls Try.prog 48 #[.pointer (some ⟨g, 0, none⟩)] w (RetNamed w g) := by
  have hg0 := h.lt
  have HD := Lib.hid (drawn_any g 0 14 (w.alloc zeroTng) (h.alloc' _) (by omega) (by omega) (by omega))
  have HX := Lib.hid (Blk.new w 26 #[.slice none 0 0, .slice none 0 0, .slice none 0 0])
  clear h
  go_enter Try.func48, Try.ntmps48
  go_wp2_with (fail)
  refine HD.out.mono ?_
  rintro e w1 ⟨v, t, q, rfl, ho, hsm, hr, hq, hg⟩
  obtain ⟨A1, c1, A2, c2, A3, c3, rfl⟩ := ho.shape
  have hX1 : Blk w1 w.heap.size 26 #[.slice none 0 0, .slice none 0 0, .slice none 0 0] := HX.out.grown hg (by simp; omega)
  have hs1 := hg.size
  rw [World.size_alloc] at hs1
  rw [World.size_alloc] at ho
  have hB2 := (Below.refl w1.heap.size w1).alloc (Nat.le_refl _) (.cells #[.slice A1 t.us.length c1, .slice A2 t.bs.length c2, .slice A3 t.ns.length c3] 26)
  have D : DN w g w1.heap.size #[.slice A1 t.us.length c1, .slice A2 t.bs.length c2, .slice A3 t.ns.length c3] (.agg #[.slice A1 t.us.length c1, .slice A2 t.bs.length c2, .slice A3 t.ns.length c3]) t (w1.alloc (.cells #[.slice A1 t.us.length c1, .slice A2 t.bs.length c2, .slice A3 t.ns.length c3] 26)) q :=
    ⟨hr.below hB2 (Nat.le_refl _), hX1.below hB2 hX1.lt, Blk.new w1 26 #[.slice A1 t.us.length c1, .slice A2 t.bs.length c2, .slice A3 t.ns.length c3], ho.below hB2 (Nat.le_refl _), ((grown_of_below (some g) ((Below.refl w.heap.size w).alloc (Nat.le_refl _) zeroTng)).trans hg).trans (grown_of_below (some g) hB2)⟩
  replace D := Lib.hid D
  have hgz : g < w1.heap.size := by omega
  have hzw : w.heap.size < w1.heap.size := by omega
  have hfi := Lib.hid (hsm.fine (by omega))
  replace hsm := Lib.hid hsm
  clear hB2 hX1 hr ho hg HD HX
  go_upto_region 2 with (fail)
  generalize w1.alloc (.cells #[.slice A1 t.us.length c1, .slice A2 t.bs.length c2, .slice A3 t.ns.length c3] 26) = W at *
  generalize w1.heap.size = z at *
  go_wp2_with (fail)
  refine (pick_any g q 12 W D.out.rd (by omega) (by omega) (by omega)).mono ?_
  rintro e V1 ⟨k1, rfl, hk1, hr1, hg1, -⟩
  replace D := Lib.hid (D.out.pick hg1 hr1 hg0 hgz)
  have a1 : 0 ≤ k1 := hk1.1
  have b1 : k1 < 12 := by omega
  clear hk1 hr1 hg1
  go_wp2_with (fail)
  refine (pick_any g (q+1) 120 V1 D.out.rd (by omega) (by omega) (by omega)).mono ?_
  rintro e V2 ⟨k2, rfl, hk2, hr2, hg2, -⟩
  replace D := Lib.hid (D.out.pick hg2 hr2 hg0 hgz)
  have a2 : 0 ≤ k2 := hk2.1
  have b2 : k2 < 120 := by omega
  clear hk2 hr2 hg2
  go_wp2_with (fail)
  refine (pick_any g (q+1+1) 250 V2 D.out.rd (by omega) (by omega) (by omega)).mono ?_
  rintro e V3 ⟨k3, rfl, hk3, hr3, hg3, -⟩
  replace D := Lib.hid (D.out.pick hg3 hr3 hg0 hgz)
  have a3 : 0 ≤ k3 := hk3.1
  have b3 : k3 < 250 := by omega
  clear hk3 hr3 hg3
  go_wp2_with (fail)
  refine (pick_any g (q+1+1+1) 250 V3 D.out.rd (by omega) (by omega) (by omega)).mono ?_
  rintro e V4 ⟨k4, rfl, hk4, hr4, hg4, -⟩
  replace D := Lib.hid (D.out.pick hg4 hr4 hg0 hgz)
  have a4 : 0 ≤ k4 := hk4.1
  have b4 : k4 < 250 := by omega
  clear hk4 hr4 hg4
  have m1 : 0 ≤ k3 * k4 ∧ k3 * k4 ≤ 62001 := by
    have e1 := Int.mul_nonneg a3 a4
    have e2 := Int.mul_le_mul_of_nonneg_right (show k3 ≤ 249 by omega) a4
    omega
  obtain ⟨m10, m11⟩ := m1
  go_wp2_with (fail)
  refine (pick_any g (q+1+1+1+1) 250 V4 D.out.rd (by omega) (by omega) (by omega)).mono ?_
  rintro e V5 ⟨k5, rfl, hk5, hr5, hg5, -⟩
  replace D := Lib.hid (D.out.pick hg5 hr5 hg0 hgz)
  have a5 : 0 ≤ k5 := hk5.1
  have b5 : k5 < 250 := by omega
  clear hk5 hr5 hg5
  have hA := (Below.refl V5.heap.size V5).alloc (Nat.le_refl _) (.cells #[.int .i64 k1, .int .i64 k2, .int .i64 (k3 * k4), .int .i64 (k5 * 400)] 3)
  have hL := Blk.new V5 3 #[.int .i64 k1, .int .i64 k2, .int .i64 (k3 * k4), .int .i64 (k5 * 400)]
  have hgV := Nat.lt_of_lt_of_le hgz (Nat.le_of_lt D.out.hz.lt)
  replace D := Lib.hid (D.out.below hA)
  clear hA
  go_wp2_with (fail)
  refine (pick_any g (q+1+1+1+1+1) 4 _ D.out.rd (by omega) (by omega) (by omega)).mono ?_
  rintro e V6 ⟨k6, rfl, hk6, hr6, hg6, -⟩
  replace D := Lib.hid (D.out.pick hg6 hr6 hg0 hgz)
  have a6 : 0 ≤ k6 := hk6.1
  have b6 : k6 < 4 := by omega
  obtain ⟨kk, rfl⟩ : ∃ kk : Nat, k6 = (kk : Int) := ⟨k6.toNat, by omega⟩
  obtain ⟨y, hy, y0, y1⟩ := pickI4 k1 k2 (k3 * k4) (k5 * 400) 99600 kk (by omega) (by omega) (by omega) (by omega) (by omega)
  have c6 : V6.cell? ⟨V5.heap.size, kk, none⟩ = some (.int .i64 y) := ((hL.grown hg6 (by simp; omega)).cell kk).trans hy
  clear hk6 hr6 hg6 hL hy
  have c6' := c6
  go_upto_region 3 with (fail)
  go_cut [5, 32] (fun s5 s32 wx => s5 = .int .i64 (1 + y) ∧ (∃ b, s32 = .bool b) ∧ DN w g z #[.slice A1 t.us.length c1, .slice A2 t.bs.length c2, .slice A3 t.ns.length c3] (.agg #[.slice A1 t.us.length c1, .slice A2 t.bs.length c2, .slice A3 t.ns.length c3]) t wx (q+1+1+1+1+1+1+1))
  case first =>
    go_wp2_with (fail)
    refine (pick_any g (q+1+1+1+1+1+1) 2 V6 D.out.rd (by omega) (by omega) (by omega)).mono ?_
    rintro e V7 ⟨k7, rfl, hk7, hr7, hg7, -⟩
    replace D := Lib.hid (D.out.pick hg7 hr7 hg0 hgz)
    have a7 : 0 ≤ k7 := hk7.1
    have b7 : k7 < 2 := by omega
    clear hk7 hr7 hg7 c6 c6'
    by_cases h0 : k7 = 0
    · subst h0
      obtain ⟨z0, z1, z2, -, -, -⟩ := blk3 D.out.hz
      have KT := Lib.hid (specTongueOk_any _ t V7 D.out.own.tng hfi.out)
      go_wp2_with (fail)
      refine KT.out.mono ?_
      rintro e V8 ⟨rfl, b8⟩
      replace D := Lib.hid (D.out.below b8)
      clear b8 z0 z1 z2 KT
      go_wp2
      go_meet
      exact ⟨rfl, ⟨_, rfl⟩, D.out⟩
    · have h0' : (k7 == 0) = false := by rw [beq_eq_false_iff_ne]; exact h0
      go_wp2
      go_meet
      exact ⟨rfl, ⟨_, rfl⟩, D.out⟩
  case rest =>
    clear D c6 c6'
    obtain ⟨rfl, ⟨b, rfl⟩, D⟩ := hcut
    replace D := Lib.hid D
    go_upto_if 32 with (fail)
    go_cut [5] (fun s5 wx => (∃ n, s5 = .int .i64 n ∧ 1 ≤ n ∧ n ≤ 100000) ∧ DN w g z #[.slice A1 t.us.length c1, .slice A2 t.bs.length c2, .slice A3 t.ns.length c3] (.agg #[.slice A1 t.us.length c1, .slice A2 t.bs.length c2, .slice A3 t.ns.length c3]) t wx (q+1+1+1+1+1+1+1))
    case first =>
      cases b
      · go_wp2
        go_meet
        exact ⟨⟨_, rfl, by omega, by omega⟩, D.out⟩
      · obtain ⟨z0, z1, z2, -, -, -⟩ := blk3 D.out.hz
        have KG := Lib.hid (specGreatest_any _ t wc D.out.own.tng hfi.out)
        have hgb := greatest_bd t
        go_wp2_with (fail)
        refine KG.out.mono ?_
        rintro e V8 ⟨rfl, b8⟩
        replace D := Lib.hid (D.out.below b8)
        generalize greatest t = gr at *
        obtain ⟨hg1, hg2⟩ := hgb
        clear b8 z0 z1 z2 KG
        by_cases h1g : 1 ≤ gr
        · have r0 : 0 ≤ (1 + y) % gr := Int.emod_nonneg _ (by omega)
          have r1 : (1 + y) % gr < gr := Int.emod_lt_of_pos _ (by omega)
          go_wp2
          all_goals
            go_meet
            exact ⟨⟨_, rfl, by omega, by omega⟩, D.out⟩
        · have hg3 : gr ≤ 1 := by omega
          go_wp2
          all_goals
            go_meet
            exact ⟨⟨_, rfl, by omega, by omega⟩, D.out⟩
    case rest =>
      clear D
      obtain ⟨⟨n, rfl, n1, n2⟩, D⟩ := hcut
      obtain ⟨z0, z1, z2, -, -, -⟩ := blk3 D.hz
      obtain ⟨r0, r1, r2, f0, f1, f2⟩ := blk3 D.hx
      replace D := Lib.hid D
      go_upto_region 5 with (fail)
      go_region_law (first
        | (go_simp; go_at_call 75; refine (pick_any g (q+1+1+1+1+1+1+1) 50 _ (by first | exact D.out.rd.drew | exact D.out.rd) (by omega) (by omega) (by omega)).mono ?_; rintro e V9 ⟨k9, rfl, hk9, hr9, hg9, -⟩; have hg9' : wc.grownBy V9 (some g) := ⟨hg9.os, hg9.tape, hg9.output, hg9.size, hg9.block⟩; have D9 := Lib.hid (D.out.pick hg9' hr9 hg0 hgz); obtain ⟨z0', z1', z2', -, -, -⟩ := blk3 D9.out.hz; obtain ⟨r0', r1', r2', f0', f1', f2'⟩ := blk3 D9.out.hx; have a9 : 0 ≤ k9 := hk9.1; have b9 : k9 < 50 := (by omega); have q1 : 0 ≤ k9 / 49 := (by omega); have q2 : k9 / 49 ≤ 1 := (by omega); clear hk9 hr9 hg9 hg9'))
      all_goals
        clear z0 z1 z2 r0 r1 r2 f0 f1 f2 z0' z1' z2'
        have hv : IntKind.i64.wrap (n - IntKind.i64.wrap (IntKind.i64.wrap (k9.tdiv 49) * 200000)) = n - k9 / 49 * 200000 := by
          have v1 : IntKind.i64.wrap (k9 / 49) = k9 / 49 := IntWalk.i64_in _ (by omega)
          have v2 : IntKind.i64.wrap (k9 / 49 * 200000) = k9 / 49 * 200000 := IntWalk.i64_in _ (by omega)
          have v3 : IntKind.i64.wrap (n - k9 / 49 * 200000) = n - k9 / 49 * 200000 := IntWalk.i64_in _ (by omega)
          rw [Int.tdiv_eq_ediv_of_nonneg a9, v1, v2, v3]
        have HF : RetNamed w g (.returned (.tuple #[.agg #[.slice A1 t.us.length c1, .slice A2 t.bs.length c2, .slice A3 t.ns.length c3], .int .i64 (n - k9 / 49 * 200000)])) (((V9.setCell ⟨w.heap.size, 0, none⟩ (.slice A1 t.us.length c1)).setCell ⟨w.heap.size, 1, none⟩ (.slice A2 t.bs.length c2)).setCell ⟨w.heap.size, 2, none⟩ (.slice A3 t.ns.length c3)) :=
          ⟨_, t, _, _, rfl, (D9.out.own.set3 D9.out.hx).mono (by omega), hsm.out, by omega, rd_set (rd_set (rd_set D9.out.rd hg0 _) hg0 _) hg0 _, by omega, grown_set (grown_set (grown_set D9.out.gr (Nat.le_refl _) _) (Nat.le_refl _) _) (Nat.le_refl _) _⟩
        replace HF := Lib.hid HF
        clear D D9
        rw [hv]
        clear hv
        go_wp2
        refine bodyPost_ret (v := .tuple #[.agg #[.slice A1 t.us.length c1, .slice A2 t.bs.length c2, .slice A3 t.ns.length c3], .int .i64 (n - k9 / 49 * 200000)]) (by simp [results, Try.results48, go_sem, r0', r1', r2']) rfl ?_
        exact HF.out

/-- A tongue and a number are drawn. -/
def DrawnNum (w : World) (e : Ending) (w' : World) : Prop := ∃ v t n, e = .returned (.tuple #[v, .int .i64 n]) ∧ OwnTng w' w.heap.size v t ∧ SmallT 40 t ∧ (-200000 ≤ n ∧ n ≤ 200000) ∧ Below w.heap.size w w'


/-- While a tongue, a number and more numbers are drawn by a draw of its own reader. -/
structure DM (w : World) (z : Nat) (cs : Array Value) (v : Value) (t : Tg) (wx : World) (q : Nat) : Prop where
  rd : Rd wx (w.heap.size + 1) q
  hx : Blk wx w.heap.size 26 #[.slice none 0 0, .slice none 0 0, .slice none 0 0]
  hz : Blk wx z 26 cs
  own : OwnTng wx (w.heap.size + 2) v t
  low : Below w.heap.size w wx
theorem DM.pick {w wx w' : World} {z q q' : Nat} {cs : Array Value} {v : Value} {t : Tg} (h : DM w z cs v t wx q) (hg : wx.grownBy w' (some (w.heap.size + 1))) (hr : Rd w' (w.heap.size + 1) q') (hz : w.heap.size + 1 < z) : DM w z cs v t w' q' :=
  ⟨hr, h.hx.grown hg (by simp), h.hz.grown hg (by simp; omega), h.own.kept hg (by omega), below_read h.low hg h.low.size (by omega)⟩
/-- While a law runs: the drawn tongue in its box. -/
structure LSt (w : World) (z : Nat) (cs : Array Value) (t : Tg) (W : World) : Prop where
  low : Below w.heap.size w W
  hz : Blk W z 26 cs
  ht : Tng W (.agg cs) t
theorem LSt.step {w W W' : World} {z : Nat} {cs : Array Value} {t : Tg} (h : LSt w z cs t W) (b : Below W.heap.size W W') : LSt w z cs t W' :=
  ⟨h.low.trans (b.mono h.low.size), h.hz.below b h.hz.lt, h.ht.below b (Nat.le_refl _)⟩
end Go.Proofs.Ytgkhhabfaacchaa

/- DrawR -/
namespace Go.Proofs.Ytgkhhabfaacchaa
open Go.RowKit

/-- A tongue and two numbers are drawn. -/
def DrawnSpan (w : World) (e : Ending) (w' : World) : Prop := ∃ v t a b, e = .returned (.tuple #[v, .int .i64 a, .int .i64 b]) ∧ OwnTng w' w.heap.size v t ∧ SmallT 40 t ∧ (-200000 ≤ a ∧ a ≤ 200000) ∧ (-200000 ≤ b ∧ b ≤ 201000) ∧ Below w.heap.size w w'

end Go.Proofs.Ytgkhhabfaacchaa

/- DrawSd -/
namespace Go.Proofs.Ytgkhhabfaacchaa
open Go.RowKit

/-- No row of the tongue is in the row's block. -/
def Apart3 (v u : Value) : Prop := ∃ v1 v2 v3, v = .agg #[v1, v2, v3] ∧ ∀ k, u.ownBlock = some k → v1.ownBlock ≠ some k ∧ v2.ownBlock ≠ some k ∧ v3.ownBlock ≠ some k
theorem own_apart3 {a b : World} {B n : Nat} {e : TypeId} {u : Value} {xs : List Value} {row : Option Nat} (h : a.ownsRow B e 1 u n xs) (hg : a.grownBy b row) (hne : ∀ k, u.ownBlock = some k → row ≠ some k) : b.ownsRow B e 1 u n xs := by
  refine h.kept hg ?_
  cases hv : u.ownBlock with
  | none => exact .inl rfl
  | some k => exact .inr fun e => hne k hv e.symm
theorem OwnTng.apart3 {a b : World} {B : Nat} {v u : Value} {t : Tg} (h : OwnTng a B v t) (hg : a.grownBy b u.ownBlock) (ha : Apart3 v u) : OwnTng b B v t := by
  obtain ⟨v1, v2, v3, e, o1, o2, o3, ap⟩ := h.ex
  obtain ⟨u1, u2, u3, e', hk⟩ := ha
  rw [e] at e'
  cases e'
  exact ⟨v1, v2, v3, e, own_apart3 o1 hg (fun k hk1 hk2 => (hk k hk2).1 hk1), own_apart3 o2 hg (fun k hk1 hk2 => (hk k hk2).2.1 hk1), own_apart3 o3 hg (fun k hk1 hk2 => (hk k hk2).2.2 hk1), ap⟩
theorem apart3_of_lt {w : World} {B : Nat} {v : Value} {t : Tg} (h : OwnTng w B v t) : ∀ u : Value, (∀ k, u.ownBlock = some k → w.heap.size ≤ k) → Apart3 v u := fun u hu => by
  obtain ⟨v1, v2, v3, e, o1, o2, o3, ap⟩ := h.ex
  exact ⟨v1, v2, v3, e, fun k hk => ⟨fun e => by have := (World.ownsRow.lt o1 k e).2; have := hu k hk; omega, fun e => by have := (World.ownsRow.lt o2 k e).2; have := hu k hk; omega, fun e => by have := (World.ownsRow.lt o3 k e).2; have := hu k hk; omega⟩⟩

/-- Texts that are drawn: few and short. -/
def SmallW (m : Nat) (l : List ByteArray) : Prop := l.length ≤ m ∧ ∀ x ∈ l, x.size ≤ 16
/-- A tongue and words are drawn by a reader. -/
def RetSaid (w : World) (g : Nat) (e : Ending) (w' : World) : Prop := ∃ v t u xs q, e = .returned (.tuple #[v, u]) ∧ OwnTng w' w.heap.size v t ∧ OwnStrs w' w.heap.size u xs ∧ SmallT 40 t ∧ SmallW 44 xs ∧ Rd w' g q ∧ q ≤ 100 ∧ w.grownBy w' (some g)
theorem DN.said {w wx : World} {g z q B : Nat} {cs : Array Value} {v u u0 u1 u2 : Value} {t : Tg} {xs : List ByteArray} (h : DN w g z cs v t wx q) (ho : OwnStrs wx B u xs) (hB : w.heap.size + 1 ≤ B) (h0 : g < w.heap.size) (hs : SmallT 40 t) (hx : SmallW 44 xs) (hq : q ≤ 100) :
    RetSaid w g (.returned (.tuple #[v, u])) (((wx.setCell ⟨w.heap.size, 0, none⟩ u0).setCell ⟨w.heap.size, 1, none⟩ u1).setCell ⟨w.heap.size, 2, none⟩ u2) :=
  ⟨v, t, u, xs, q, rfl, (h.own.set3 h.hx).mono (by omega), OwnStrs.mono (own_far (own_far (own_far ho (by omega) _) (by omega) _) (by omega) _) (by omega), hs, hx, rd_set (rd_set (rd_set h.rd h0 _) h0 _) h0 _, hq, grown_set (grown_set (grown_set h.gr (Nat.le_refl _) _) (Nat.le_refl _) _) (Nat.le_refl _) _⟩

/-- While words are drawn: the list, and all words of the tongue. -/
structure DS (w : World) (g z : Nat) (cs : Array Value) (v : Value) (t : Tg) (vl : Value) (l : List ByteArray) (va : Value) (wx : World) (q : Nat) : Prop where
  dn : DN w g z cs v t wx q
  ol : OwnStrs wx (z + 1) vl l
  oa : OwnStrs wx (z + 1) va t.words
  ap : ∀ k, vl.ownBlock = some k → va.ownBlock ≠ some k
section
variable {w wx w' : World} {g z q q' : Nat} {cs : Array Value} {v vl va : Value} {t : Tg} {l : List ByteArray}
theorem DS.pick (h : DS w g z cs v t vl l va wx q) (hg : wx.grownBy w' (some g)) (hr : Rd w' g q') (h0 : g < w.heap.size) (hz : g < z) : DS w g z cs v t vl l va w' q' :=
  ⟨h.dn.pick hg hr h0 hz, own_kept h.ol hg (fun r e => .inl (by cases e; omega)), own_kept h.oa hg (fun r e => .inl (by cases e; omega)), h.ap⟩
theorem DS.below (h : DS w g z cs v t vl l va wx q) (hb : Below wx.heap.size wx w') : DS w g z cs v t vl l va w' q :=
  ⟨h.dn.below hb, h.ol.below hb (Nat.le_refl _), h.oa.below hb (Nat.le_refl _), h.ap⟩
/-- The list has turned, in its own row or in a new one. -/
theorem DS.turn {vl' : Value} {l' : List ByteArray} (h : DS w g z cs v t vl l va wx q) (hg : wx.grownBy w' vl.ownBlock) (hol : OwnStrs w' (z + 1) vl' l') (hat : vl'.ownBlock = vl.ownBlock ∨ ∃ k, vl'.ownBlock = some k ∧ wx.heap.size ≤ k)
    (h0 : g < w.heap.size) (hz : w.heap.size < z) (hap : Apart3 v vl) : DS w g z cs v t vl' l' va w' q := by
  have hlt := h.ol.lt
  have hzl := h.dn.hz.lt
  refine ⟨⟨rd_append h0 h.dn.rd (own_mono h.ol (by omega)) hg, h.dn.hx.grown hg (fun e => ?_), h.dn.hz.grown hg (fun e => ?_), h.dn.own.apart3 hg hap, ?_⟩, hol, own_apart3 h.oa hg (fun k hk e => h.ap k e hk), fun k hk => ?_⟩
  · have := (hlt _ e.symm).1; omega
  · have := (hlt _ e.symm).1; omega
  · exact ⟨hg.os.trans h.dn.gr.os, hg.tape.trans h.dn.gr.tape, hg.output.trans h.dn.gr.output, Nat.le_trans h.dn.gr.size hg.size, fun k hk hne => (hg.block k (Nat.lt_of_lt_of_le hk h.dn.gr.size) (fun e => by have := (hlt k e.symm).1; omega)).trans (h.dn.gr.block k hk hne)⟩
  · rcases hat with e | ⟨k', e, hk'⟩
    · rw [e] at hk; exact h.ap k hk
    · rw [e] at hk
      cases hk
      intro e2
      have := (h.oa.lt _ e2).2
      omega
end
end Go.Proofs.Ytgkhhabfaacchaa
