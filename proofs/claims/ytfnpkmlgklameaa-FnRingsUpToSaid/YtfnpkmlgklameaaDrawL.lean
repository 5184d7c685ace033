/-
  Contracts of the draws of chapter 8.
-/
import Derived.Test.YtfnpkmlgklameaaGD
namespace Go.Proofs.Ytfnpkmlgklameaa
open Go.RowKit

set_option maxRecDepth 100000 in
set_option maxHeartbeats 2000000 in
theorem drawLettersOf_any (A : Option Addr) (n c : Nat) (xs : List Int) (w : World) (h : Ints w .u8 A n c xs) (hn : n ≤ 1048576) (hwf : ∀ x ∈ xs, (Lit.int .u8 x).wf = true) (hc : c ≤ maxLen) :
    Calls Try.prog 13 #[.slice A n c] w (DrawnNum w) := by
  have hB0 : Below w.heap.size w (w.alloc zeroTng) := (Below.refl _ _).alloc (Nat.le_refl _) _
  have HO := Lib.hid (open_any A n c xs (w.alloc zeroTng) (h.below hB0 (Nat.le_refl _)) hn hwf hc)
  have HB0 := Lib.hid hB0
  have HX := Lib.hid (Blk.new w 26 #[.slice none 0 0, .slice none 0 0, .slice none 0 0])
  clear h hwf hc hB0
  go_enter Try.func13, Try.ntmps13
  go_wp2_with (fail)
  refine HO.out.mono ?_
  rintro e w1 ⟨rfl, hr, hb, -⟩
  have hX1 := Lib.hid (HX.out.below hb (by simp))
  have hB1 := Lib.hid (HB0.out.trans (hb.mono (by simp)))
  have hs1 := hb.size
  simp only [World.size_alloc] at hs1
  rw [World.size_alloc] at hr
  clear hb HO
  go_wp2_with (fail)
  refine (named_any _ w1 hr).mono ?_
  rintro e w2 ⟨v, t, m, q, rfl, ho, hsm, hm, -, -, hg⟩
  obtain ⟨A1, c1, A2, c2, A3, c3, rfl⟩ := ho.shape
  have hX2 : Blk w2 w.heap.size 26 #[.slice none 0 0, .slice none 0 0, .slice none 0 0] := hX1.out.grown hg (by simp)
  have hB2 := below_read hB1.out hg (by omega) (by simp)
  obtain ⟨r0, r1, r2, f0, f1, f2⟩ := blk3 hX2
  have HF := fun u0 u1 u2 => ho.set3 (u0 := u0) (u1 := u1) (u2 := u2) hX2
  replace HF := Lib.hid HF
  replace hB2 := Lib.hid hB2
  replace hsm := Lib.hid hsm
  clear hr hg ho hX2
  go_wp2
  refine bodyPost_ret (v := .tuple #[.agg #[.slice A1 t.us.length c1, .slice A2 t.bs.length c2, .slice A3 t.ns.length c3], .int .i64 m]) (by simp [results, Try.results13, go_sem, r0, r1, r2]) rfl ?_
  exact ⟨_, t, m, rfl, (HF.out _ _ _).mono (by omega), hsm.out, hm, below_tng3 hB2.out (Nat.le_refl _)⟩
set_option maxRecDepth 100000 in
set_option maxHeartbeats 2000000 in
theorem drawRingFrom_any (A : Option Addr) (n c : Nat) (xs : List Int) (w : World) (h : Ints w .u8 A n c xs) (hn : n ≤ 1048576) (hwf : ∀ x ∈ xs, (Lit.int .u8 x).wf = true) (hc : c ≤ maxLen) :
    Calls Try.prog 21 #[.slice A n c] w (DrawnNum w) := by
  have hB0 : Below w.heap.size w (w.alloc zeroTng) := (Below.refl _ _).alloc (Nat.le_refl _) _
  have HO := Lib.hid (open_any A n c xs (w.alloc zeroTng) (h.below hB0 (Nat.le_refl _)) hn hwf hc)
  have HB0 := Lib.hid hB0
  have HX := Lib.hid (Blk.new w 26 #[.slice none 0 0, .slice none 0 0, .slice none 0 0])
  clear h hwf hc hB0
  go_enter Try.func21, Try.ntmps21
  go_wp2_with (fail)
  refine HO.out.mono ?_
  rintro e w1 ⟨rfl, hr, hb, -⟩
  have hX1 := Lib.hid (HX.out.below hb (by simp))
  have hB1 := Lib.hid (HB0.out.trans (hb.mono (by simp)))
  have hs1 := hb.size
  simp only [World.size_alloc] at hs1
  rw [World.size_alloc] at hr
  clear hb HO
  go_wp2_with (fail)
  refine (named_any _ w1 hr).mono ?_
  rintro e w2 ⟨v, t, m, q, rfl, ho, hsm, hm, -, -, hg⟩
  obtain ⟨A1, c1, A2, c2, A3, c3, rfl⟩ := ho.shape
  have hX2 : Blk w2 w.heap.size 26 #[.slice none 0 0, .slice none 0 0, .slice none 0 0] := hX1.out.grown hg (by simp)
  have hB2 := below_read hB1.out hg (by omega) (by simp)
  obtain ⟨r0, r1, r2, f0, f1, f2⟩ := blk3 hX2
  have HF := fun u0 u1 u2 => ho.set3 (u0 := u0) (u1 := u1) (u2 := u2) hX2
  replace HF := Lib.hid HF
  replace hB2 := Lib.hid hB2
  replace hsm := Lib.hid hsm
  clear hr hg ho hX2
  go_wp2
  refine bodyPost_ret (v := .tuple #[.agg #[.slice A1 t.us.length c1, .slice A2 t.bs.length c2, .slice A3 t.ns.length c3], .int .i64 m]) (by simp [results, Try.results21, go_sem, r0, r1, r2]) rfl ?_
  exact ⟨_, t, m, rfl, (HF.out _ _ _).mono (by omega), hsm.out, hm, below_tng3 hB2.out (Nat.le_refl _)⟩
set_option maxRecDepth 100000 in
set_option maxHeartbeats 2000000 in
theorem drawStepsToRing_any (A : Option Addr) (n c : Nat) (xs : List Int) (w : World) (h : Ints w .u8 A n c xs) (hn : n ≤ 1048576) (hwf : ∀ x ∈ xs, (Lit.int .u8 x).wf = true) (hc : c ≤ maxLen) :
    Calls Try.prog 33 #[.slice A n c] w (DrawnNum w) := by
  have hB0 : Below w.heap.size w (w.alloc zeroTng) := (Below.refl _ _).alloc (Nat.le_refl _) _
  have HO := Lib.hid (open_any A n c xs (w.alloc zeroTng) (h.below hB0 (Nat.le_refl _)) hn hwf hc)
  have HB0 := Lib.hid hB0
  have HX := Lib.hid (Blk.new w 26 #[.slice none 0 0, .slice none 0 0, .slice none 0 0])
  clear h hwf hc hB0
  go_enter Try.func33, Try.ntmps33
  go_wp2_with (fail)
  refine HO.out.mono ?_
  rintro e w1 ⟨rfl, hr, hb, -⟩
  have hX1 := Lib.hid (HX.out.below hb (by simp))
  have hB1 := Lib.hid (HB0.out.trans (hb.mono (by simp)))
  have hs1 := hb.size
  simp only [World.size_alloc] at hs1
  rw [World.size_alloc] at hr
  clear hb HO
  go_wp2_with (fail)
  refine (named_any _ w1 hr).mono ?_
  rintro e w2 ⟨v, t, m, q, rfl, ho, hsm, hm, -, -, hg⟩
  obtain ⟨A1, c1, A2, c2, A3, c3, rfl⟩ := ho.shape
  have hX2 : Blk w2 w.heap.size 26 #[.slice none 0 0, .slice none 0 0, .slice none 0 0] := hX1.out.grown hg (by simp)
  have hB2 := below_read hB1.out hg (by omega) (by simp)
  obtain ⟨r0, r1, r2, f0, f1, f2⟩ := blk3 hX2
  have HF := fun u0 u1 u2 => ho.set3 (u0 := u0) (u1 := u1) (u2 := u2) hX2
  replace HF := Lib.hid HF
  replace hB2 := Lib.hid hB2
  replace hsm := Lib.hid hsm
  clear hr hg ho hX2
  go_wp2
  refine bodyPost_ret (v := .tuple #[.agg #[.slice A1 t.us.length c1, .slice A2 t.bs.length c2, .slice A3 t.ns.length c3], .int .i64 m]) (by simp [results, Try.results33, go_sem, r0, r1, r2]) rfl ?_
  exact ⟨_, t, m, rfl, (HF.out _ _ _).mono (by omega), hsm.out, hm, below_tng3 hB2.out (Nat.le_refl _)⟩

/-- While a tongue and numbers are drawn by a draw of its own reader. -/
structure DT (w : World) (v : Value) (t : Tg) (wx : World) (q : Nat) : Prop where
  rd : Rd wx (w.heap.size + 1) q
  hx : Blk wx w.heap.size 26 #[.slice none 0 0, .slice none 0 0, .slice none 0 0]
  own : OwnTng wx (w.heap.size + 2) v t
  low : Below w.heap.size w wx
theorem DT.pick {w wx w' : World} {q q' : Nat} {v : Value} {t : Tg} (h : DT w v t wx q) (hg : wx.grownBy w' (some (w.heap.size + 1))) (hr : Rd w' (w.heap.size + 1) q') : DT w v t w' q' :=
  ⟨hr, h.hx.grown hg (by simp), h.own.kept hg (by omega), below_read h.low hg h.low.size (by omega)⟩
theorem DT.al {w wx : World} {q : Nat} {v : Value} {t : Tg} (h : DT w v t wx q) (o : Obj) : DT w v t (wx.alloc o) q :=
  ⟨h.rd.alloc' o, h.hx.alloc o, h.own.below ((Below.refl _ _).alloc (Nat.le_refl _) o) (Nat.le_refl _), h.low.alloc h.low.size o⟩
theorem DT.drew {w wx : World} {q : Nat} {v : Value} {t : Tg} (h : DT w v t wx q) : DT w v t wx.drew q := ⟨h.rd.drew, h.hx.drew, h.own.below (Below.refl _ _).drew (Nat.le_refl _), h.low.drew⟩
theorem pickI3 (x0 x1 x2 m : Int) (kk : Nat) (hk : kk < 3) (h0 : 0 ≤ x0 ∧ x0 ≤ m) (h1 : 0 ≤ x1 ∧ x1 ≤ m) (h2 : 0 ≤ x2 ∧ x2 ≤ m) : ∃ y : Int, (#[Value.int .i64 x0, .int .i64 x1, .int .i64 x2] : Array Value)[kk]? = some (.int .i64 y) ∧ 0 ≤ y ∧ y ≤ m := by
  obtain rfl | rfl | rfl : kk = 0 ∨ kk = 1 ∨ kk = 2 := by omega
  · exact ⟨x0, rfl, h0⟩
  · exact ⟨x1, rfl, h1⟩
  · exact ⟨x2, rfl, h2⟩

/-- A tongue and a number up to 501 are drawn. -/
def DrawnMost (w : World) (e : Ending) (w' : World) : Prop := ∃ v t n, e = .returned (.tuple #[v, .int .i64 n]) ∧ OwnTng w' w.heap.size v t ∧ SmallT 40 t ∧ (0 ≤ n ∧ n ≤ 501) ∧ Below w.heap.size w w'

set_option maxRecDepth 100000 in
set_option maxHeartbeats 4000000 in
theorem drawTrueOnes_any (A : Option Addr) (n c : Nat) (xs : List Int) (w : World) (h : Ints w .u8 A n c xs) (hn : n ≤ 1048576) (hwf : ∀ x ∈ xs, (Lit.int .u8 x).wf = true) (hc : c ≤ maxLen) :
    Calls Try.prog 29 #[.slice A n c] w (DrawnMost w) := by
  have hB0 : Below w.heap.size w (w.alloc zeroTng) := (Below.refl _ _).alloc (Nat.le_refl _) _
  have HO := Lib.hid (open_any A n c xs (w.alloc zeroTng) (h.below hB0 (Nat.le_refl _)) hn hwf hc)
  have HB0 := Lib.hid hB0
  have HX := Lib.hid (Blk.new w 26 #[.slice none 0 0, .slice none 0 0, .slice none 0 0])
  clear h hwf hc hB0
  go_enter Try.func29, Try.ntmps29
  go_wp2_with (fail)
  refine HO.out.mono ?_
  rintro e w1 ⟨rfl, hr, hb, -⟩
  have hX1 := Lib.hid (HX.out.below hb (by simp))
  have hB1 := Lib.hid (HB0.out.trans (hb.mono (by simp)))
  have hs1 := hb.size
  simp only [World.size_alloc] at hs1
  rw [World.size_alloc] at hr
  have hl1 := hr.lt
  have KD := Lib.hid (fun W (hw : W = w1 ∨ W = w1.drew) => drawn_any (w.heap.size + 1) 0 12 W (by rcases hw with rfl | rfl; exact hr; exact hr.drew) (by omega) (by omega) (by omega))
  clear hb HO HX HB0
  go_upto_region 2 with (fail)
  go_region_law (first
    | (have hgd := D4.out.rd; clear hgd; fail)
    | (have hgd := D3.out.rd; clear hgd; go_simp; go_at_call 57; refine (pick_any (w.heap.size + 1) (q+1+1) 9 _ (by first | exact D3.out.rd | exact D3.out.rd.drew | exact (D3.out.al _).rd) (by omega) (by omega) (by omega)).mono ?_; rintro e V4 ⟨k4, rfl, hk4, hr4, hg4', -⟩; have a4 : 0 ≤ k4 := hk4.1; have b4 : k4 < 9 := (by omega); obtain ⟨kk, hkk⟩ : ∃ kk : Nat, k4 / 4 = (kk : Int) := ⟨(k4 / 4).toNat, by omega⟩; have hk3' : kk < 3 := (by omega); have e1 : k4.tdiv 4 = (kk : Int) := (by rw [Int.tdiv_eq_ediv_of_nonneg a4, hkk]); have e2 : IntKind.i64.wrap (kk : Int) = (kk : Int) := IntWalk.i64_in _ (by omega); have i1 : (kk : Int) < 3 := (by omega); have i0 : (0 : Int) ≤ (kk : Int) := (by omega); obtain ⟨y, hy, y0, y1⟩ := pickI3 k2 k3 501 501 kk hk3' (by omega) (by omega) (by omega); have D4 : DT w (.agg #[.slice A1 t.us.length c1, .slice A2 t.bs.length c2, .slice A3 t.ns.length c3]) t V4 (q+1+1+1) := (by first | exact D3.out.pick ⟨hg4'.os, hg4'.tape, hg4'.output, hg4'.size, hg4'.block⟩ hr4 | exact (D3.out.al _).pick ⟨hg4'.os, hg4'.tape, hg4'.output, hg4'.size, hg4'.block⟩ hr4); have hgt : w.heap.size + 1 < V3.heap.size := D3.out.rd.lt; have hgt4 : w.heap.size < V4.heap.size := D4.hx.lt; (try have BL4 : Blk V4 V3.heap.size 3 #[.int .i64 k2, .int .i64 k3, .int .i64 501] := (Blk.new V3 3 #[.int .i64 k2, .int .i64 k3, .int .i64 501]).grown hg4' (by simp; omega)); (try have hc4 : V4.cell? ⟨V3.heap.size, kk, none⟩ = some (.int .i64 y) := (BL4.cell kk).trans hy); (try have hc4' : (((V4.setCell ⟨w.heap.size, 0, none⟩ (.slice A1 t.us.length c1)).setCell ⟨w.heap.size, 1, none⟩ (.slice A2 t.bs.length c2)).setCell ⟨w.heap.size, 2, none⟩ (.slice A3 t.ns.length c3)).cell? ⟨V3.heap.size, kk, none⟩ = some (.int .i64 y) := ((((BL4.far (p := ⟨w.heap.size, 0, none⟩) (by show V3.heap.size ≠ w.heap.size; omega) _).far (p := ⟨w.heap.size, 1, none⟩) (by show V3.heap.size ≠ w.heap.size; omega) _).far (p := ⟨w.heap.size, 2, none⟩) (by show V3.heap.size ≠ w.heap.size; omega) _).cell kk).trans hy); have BL5 := Blk.new V4 3 #[.int .i64 k2, .int .i64 k3, .int .i64 501]; have hc5 := (BL5.cell kk).trans hy; have hc5' : ((((V4.alloc (.cells #[.int .i64 k2, .int .i64 k3, .int .i64 501] 3)).setCell ⟨w.heap.size, 0, none⟩ (.slice A1 t.us.length c1)).setCell ⟨w.heap.size, 1, none⟩ (.slice A2 t.bs.length c2)).setCell ⟨w.heap.size, 2, none⟩ (.slice A3 t.ns.length c3)).cell? ⟨V4.heap.size, kk, none⟩ = some (.int .i64 y) := ((((BL5.far (p := ⟨w.heap.size, 0, none⟩) (by show V4.heap.size ≠ w.heap.size; omega) _).far (p := ⟨w.heap.size, 1, none⟩) (by show V4.heap.size ≠ w.heap.size; omega) _).far (p := ⟨w.heap.size, 2, none⟩) (by show V4.heap.size ≠ w.heap.size; omega) _).cell kk).trans hy; clear BL5; (try clear BL4); obtain ⟨r0, r1, r2, f0, f1, f2⟩ := blk3 D4.hx; obtain ⟨s0, s1, s2, h0, h1, h2⟩ := blk3 (D4.hx.alloc (.cells #[.int .i64 k2, .int .i64 k3, .int .i64 501] 3)); replace D4 := Lib.hid D4; have hyl : ([Value.int .i64 k2, Value.int .i64 k3, Value.int .i64 501] : List Value)[kk]'(by simp; omega) = .int .i64 y := (by simpa [hk3'] using hy); replace hyl := Lib.hid hyl; clear hk4 hr4 hg4' hy)
    | (have hgd := D2.out.rd; clear hgd; go_simp; go_at_call 57; refine (pick_any (w.heap.size + 1) (q+1) 120 _ (by first | exact D2.out.rd | exact D2.out.rd.drew) (by omega) (by omega) (by omega)).mono ?_; rintro e V3 ⟨k3, rfl, hk3, hr3, hg3', -⟩; have a3 : 0 ≤ k3 := hk3.1; have b3 : k3 < 120 := (by omega); have hg3 : V2.grownBy V3 (some (w.heap.size + 1)) := ⟨hg3'.os, hg3'.tape, hg3'.output, hg3'.size, hg3'.block⟩; have D3 := Lib.hid (D2.out.pick hg3 hr3); clear hk3 hr3 hg3 hg3')
    | (have hgd := D1.out.rd; clear hgd; go_simp; go_at_call 57; refine (pick_any (w.heap.size + 1) q 30 _ (by first | exact D1.out.rd | exact D1.out.rd.drew) (by omega) (by omega) (by omega)).mono ?_; rintro e V2 ⟨k2, rfl, hk2, hr2, hg2', -⟩; have a2 : 0 ≤ k2 := hk2.1; have b2 : k2 < 30 := (by omega); have hg2 : V1.grownBy V2 (some (w.heap.size + 1)) := ⟨hg2'.os, hg2'.tape, hg2'.output, hg2'.size, hg2'.block⟩; have D2 := Lib.hid (D1.out.pick hg2 hr2); clear hk2 hr2 hg2 hg2')
    | (go_simp; go_at_call 56; refine (KD.out _ (by first | exact .inl rfl | exact .inr rfl)).mono ?_; rintro e V1 ⟨v, t, q, rfl, ho, hsm, hr2, hq, hg'⟩; have hg : w1.grownBy V1 (some (w.heap.size + 1)) := ⟨hg'.os, hg'.tape, hg'.output, hg'.size, hg'.block⟩; obtain ⟨A1, c1, A2, c2, A3, c3, rfl⟩ := ho.shape; have D1 : DT w (.agg #[.slice A1 t.us.length c1, .slice A2 t.bs.length c2, .slice A3 t.ns.length c3]) t V1 q := ⟨hr2, hX1.out.grown hg (by simp), ho.mono (by first | omega | (show _ ≤ w1.heap.size; omega)), below_read hB1.out hg (by omega) (by omega)⟩; replace D1 := Lib.hid D1; replace hsm := Lib.hid hsm; clear ho hr2 hg hg'))
  all_goals
    have D5 := D4.out.al (.cells #[.int .i64 k2, .int .i64 k3, .int .i64 501] 3)
    have F1 := below_tng3 (u0 := .slice A1 t.us.length c1) (u1 := .slice A2 t.bs.length c2) (u2 := .slice A3 t.ns.length c3) D4.out.low (Nat.le_refl _)
    have F2 := below_tng3 (u0 := .slice A1 t.us.length c1) (u1 := .slice A2 t.bs.length c2) (u2 := .slice A3 t.ns.length c3) D5.low (Nat.le_refl _)
    have o4 := D4.out.own.set3 (u0 := .slice A1 t.us.length c1) (u1 := .slice A2 t.bs.length c2) (u2 := .slice A3 t.ns.length c3) D4.out.hx
    have o5 := D5.own.set3 (u0 := .slice A1 t.us.length c1) (u1 := .slice A2 t.bs.length c2) (u2 := .slice A3 t.ns.length c3) D5.hx
    have HF1 : DrawnMost w (.returned (.tuple #[.agg #[.slice A1 t.us.length c1, .slice A2 t.bs.length c2, .slice A3 t.ns.length c3], .int .i64 y])) (((V4.setCell ⟨w.heap.size, 0, none⟩ (.slice A1 t.us.length c1)).setCell ⟨w.heap.size, 1, none⟩ (.slice A2 t.bs.length c2)).setCell ⟨w.heap.size, 2, none⟩ (.slice A3 t.ns.length c3)) := ⟨_, t, y, rfl, o4.mono (by omega), hsm.out, ⟨y0, y1⟩, F1⟩
    have HF2 : DrawnMost w (.returned (.tuple #[.agg #[.slice A1 t.us.length c1, .slice A2 t.bs.length c2, .slice A3 t.ns.length c3], .int .i64 y])) ((((V4.alloc (.cells #[.int .i64 k2, .int .i64 k3, .int .i64 501] 3)).setCell ⟨w.heap.size, 0, none⟩ (.slice A1 t.us.length c1)).setCell ⟨w.heap.size, 1, none⟩ (.slice A2 t.bs.length c2)).setCell ⟨w.heap.size, 2, none⟩ (.slice A3 t.ns.length c3)) := ⟨_, t, y, rfl, o5.mono (by omega), hsm.out, ⟨y0, y1⟩, F2⟩
    have HF3 : DrawnMost w (.returned (.tuple #[.agg #[.slice A1 t.us.length c1, .slice A2 t.bs.length c2, .slice A3 t.ns.length c3], .int .i64 y])) ((((V4.setCell ⟨w.heap.size, 0, none⟩ (.slice A1 t.us.length c1)).setCell ⟨w.heap.size, 1, none⟩ (.slice A2 t.bs.length c2)).setCell ⟨w.heap.size, 2, none⟩ (.slice A3 t.ns.length c3)).alloc (.cells #[.int .i64 k2, .int .i64 k3, .int .i64 501] 3)) := ⟨_, t, y, rfl, (o4.below ((Below.refl _ _).alloc (Nat.le_refl _) _) (Nat.le_refl _)).mono (by omega), hsm.out, ⟨y0, y1⟩, F1.alloc F1.size _⟩
    replace HF1 := Lib.hid HF1
    replace HF2 := Lib.hid HF2
    replace HF3 := Lib.hid HF3
    have B3 : Blk (((V4.setCell ⟨w.heap.size, 0, none⟩ (.slice A1 t.us.length c1)).setCell ⟨w.heap.size, 1, none⟩ (.slice A2 t.bs.length c2)).setCell ⟨w.heap.size, 2, none⟩ (.slice A3 t.ns.length c3)) w.heap.size 26 #[.slice A1 t.us.length c1, .slice A2 t.bs.length c2, .slice A3 t.ns.length c3] := ((D4.out.hx.set_ 0 _).set_ 1 _).set_ 2 _
    obtain ⟨u0, u1, u2, -, -, -⟩ := blk3 (B3.alloc (.cells #[.int .i64 k2, .int .i64 k3, .int .i64 501] 3))
    clear D4 D5 F1 F2 o4 o5 B3
    go_wp2
    refine bodyPost_ret (v := .tuple #[.agg #[.slice A1 t.us.length c1, .slice A2 t.bs.length c2, .slice A3 t.ns.length c3], .int .i64 y]) (by first | (simp [results, Try.results29, go_sem, r0, r1, r2, u0, u1, u2]; done) | (simp [results, Try.results29, go_sem, u0, u1, u2]; exact hyl.out)) rfl ?_
    first | exact HF1.out | exact HF2.out | exact HF3.out

set_option maxRecDepth 100000 in
set_option maxHeartbeats 2000000 in
theorem drawRingsUpTo_any (A : Option Addr) (n c : Nat) (xs : List Int) (w : World) (h : Ints w .u8 A n c xs) (hn : n ≤ 1048576) (hwf : ∀ x ∈ xs, (Lit.int .u8 x).wf = true) (hc : c ≤ maxLen) :
    Calls Try.prog 37 #[.slice A n c] w (DrawnMost w) := by
  have hB0 : Below w.heap.size w (w.alloc zeroTng) := (Below.refl _ _).alloc (Nat.le_refl _) _
  have HD := Lib.hid (drawTrueOnes_any A n c xs (w.alloc zeroTng) (h.below hB0 (Nat.le_refl _)) hn hwf hc)
  have HB0 := Lib.hid hB0
  have HX := Lib.hid (Blk.new w 26 #[.slice none 0 0, .slice none 0 0, .slice none 0 0])
  clear h hwf hc hB0
  go_enter Try.func37, Try.ntmps37
  go_wp2_with (fail)
  refine HD.out.mono ?_
  rintro e w2 ⟨v, t, m, rfl, ho, hsm, hm, hb⟩
  obtain ⟨A1, c1, A2, c2, A3, c3, rfl⟩ := ho.shape
  have hX2 : Blk w2 w.heap.size 26 #[.slice none 0 0, .slice none 0 0, .slice none 0 0] := HX.out.below hb HX.out.lt
  have hB2 := HB0.out.trans (hb.mono HB0.out.size)
  obtain ⟨r0, r1, r2, f0, f1, f2⟩ := blk3 hX2
  have HF := fun u0 u1 u2 => ho.set3 (u0 := u0) (u1 := u1) (u2 := u2) hX2
  replace HF := Lib.hid HF
  replace hB2 := Lib.hid hB2
  replace hsm := Lib.hid hsm
  have hsz : w.heap.size ≤ (w.alloc zeroTng).heap.size := by simp
  clear hb ho hX2 HX HB0 HD
  go_wp2
  refine bodyPost_ret (v := .tuple #[.agg #[.slice A1 t.us.length c1, .slice A2 t.bs.length c2, .slice A3 t.ns.length c3], .int .i64 m]) (by simp [results, Try.results37, go_sem, r0, r1, r2]) rfl ?_
  exact ⟨_, t, m, rfl, (HF.out _ _ _).mono hsz, hsm.out, hm, below_tng3 hB2.out (Nat.le_refl _)⟩
end Go.Proofs.Ytfnpkmlgklameaa
