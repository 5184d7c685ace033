/-
  FnExactNextName holds for every tongue and every list of texts: NextName answers as its model, leaves its arguments unmodified, and returns memory of its own. No condition.
-/
import Derived.Test.YteemgkabhkdeaaaRows
import Derived.Test.YteemgkabhkdeaaaOpenT
import Derived.Test.YteemgkabhkdeaaaP4f
import Derived.Test.YteemgkabhkdeaaaTMarkC
namespace Go.Proofs.Yteemgkabhkdeaaa.fnExactNextName
open Go.ChangeShapes Go.WideShapes Go.ChangeAt Go.RowKit
open Go.ChangeMaps (open_string shut_string)

theorem own : ownKnob Try.prog.godebug = none := by kernel_rfl
theorem laidOut : laidOutB Try.prog = true := by kernel_rfl

set_option maxRecDepth 100000 in
set_option maxHeartbeats 4000000 in
theorem walk (w : World) (v : Value) (t : Tg) (h : TngIn w v t) (Al : Option Addr) (cl : Nat) (l : List ByteArray) (hl : Strs w Al l.length cl l) (hcl : cl ≤ maxLen) (hlz : ∀ x ∈ l, x.size ≤ maxLen) :
    Calls Try.prog 7 #[v, .slice Al l.length cl] w fun e w' => e = .returned (.bool true) ∧ Below w.heap.size w w' := by
  have HI := h
  obtain ⟨A1, c1, A2, c2, A3, c3, rfl, -⟩ := h.ex
  have hB0 : Below w.heap.size w (w.alloc (.cells #[.slice A1 t.us.length c1, .slice A2 t.bs.length c2, .slice A3 t.ns.length c3] 38)) := (Below.refl _ _).alloc (Nat.le_refl _) _
  have HX := Blk.new w 38 #[.slice A1 t.us.length c1, .slice A2 t.bs.length c2, .slice A3 t.ns.length c3]
  have hS := Lib.hid (szTongue_bd _ t _ (HI.below hB0 (Nat.le_refl _)))
  have HL := Lib.hid (fun W (hb : Below w.heap.size w W) => hl.below hb (Nat.le_refl _))
  have KZ := Lib.hid (fun r W (hb : Below w.heap.size w W) h0 h1 => szStringS_any Al l.length cl l r W (hl.below hb (Nat.le_refl _)) hcl hlz h0 h1)
  replace HI := Lib.hid HI
  replace hB0 := Lib.hid hB0
  replace HX := Lib.hid HX
  clear h hl hcl hlz
  go_enter Try.func7, Try.ntmps7
  go_wp2_with (fail)
  refine hS.out.mono ?_
  rintro e w1 ⟨r, rfl, hr, hb1⟩
  have hB1 := hB0.out.trans (hb1.mono hB0.out.size)
  have hX1 := HX.out.below hb1 HX.out.lt
  clear hb1 hS HX hB0
  rcases hr with rfl | ⟨hr0, hr1, hf⟩
  · replace hB1 := Lib.hid hB1
    clear hX1
    go_wp2
    go_ret
    exact ⟨rfl, hB1.out⟩
  · have hr2 : ¬ r < 0 := by omega
    have hZ := Lib.hid (KZ.out r w1 hB1 hr0 hr1)
    replace hf := Lib.hid hf
    replace hX1 := Lib.hid hX1
    replace hB1 := Lib.hid hB1
    go_wp2_with (fail)
    refine hZ.out.mono ?_
    rintro e _ ⟨r', rfl, hr', rfl⟩
    clear hZ KZ
    rcases hr' with rfl | ⟨q0, q1, q2, q3⟩
    · go_wp2
      go_ret
      exact ⟨rfl, hB1.out⟩
    · have hq2 : ¬ r' < 0 := by omega
      have hll : l.length ≤ 1048576 := by omega
      have hlz : ∀ x ∈ l, x.size ≤ 1048576 := fun x hx => by have := q3 x hx; omega
      have hlz' : ∀ x ∈ l, x.size ≤ maxLen := fun x hx => by have := hlz x hx; unfold maxLen; omega
      replace hlz := Lib.hid hlz
      replace hlz' := Lib.hid hlz'
      clear q3
      obtain ⟨x0, x1, x2, -, -, -⟩ := blk3 hX1.out
      have hT := toTongue_any _ t w1 (HI.out.tng.below hB1.out (Nat.le_refl _)) hf.out
      go_wp2_with (fail)
      refine hT.mono ?_
      rintro e w2 ⟨v2, rfl, o2, b2⟩
      clear hT x0 x1 x2
      have hB2 := hB1.out.trans (b2.mono hB1.out.size)
      have hX2 := hX1.out.below b2 hX1.out.lt
      have hC2 := toStringS_any Al l.length cl l w2 (HL.out w2 hB2) hll
      clear b2 hB1 hX1
      replace hB2 := Lib.hid hB2
      replace hX2 := Lib.hid hX2
      replace o2 := Lib.hid o2
      go_wp2_with (fail)
      refine hC2.mono ?_
      rintro e w3 ⟨rfl, p3, b3⟩
      have s3 : Strs w3 (some ⟨w2.heap.size, 0, none⟩) l.length l.length l := by
        obtain ⟨_, _, e, s⟩ := strs_of_own p3
        cases e
        exact s
      have hB3 := hB2.out.trans (b3.mono hB2.out.size)
      have hX3 := hX2.out.below b3 hX2.out.lt
      have o3 := o2.out.below b3 (Nat.le_refl _)
      have hS3 := specNextName_any v2 t _ l.length l.length l w3 o3.tng hf.out s3 (by omega) hlz'.out
      clear b3 p3 hC2 hB2 hX2 o2 s3 o3
      replace hB3 := Lib.hid hB3
      replace hX3 := Lib.hid hX3
      go_wp2_with (fail)
      refine hS3.mono ?_
      rintro e w4 ⟨vs, rfl, os4, b4⟩
      obtain ⟨As, cs, rfl, hs4⟩ := os4.strs
      have hB4 := hB3.out.trans (b4.mono hB3.out.size)
      have hX4 := hX3.out.below b4 hX3.out.lt
      have hwl0 := next_len t l
      have hwl : (nextV t l).length ≤ 2097152 := by omega
      have hwl1 : (nextV t l).length ≤ 1048576 := by omega
      clear hwl0
      generalize hws : nextV t l = ws at *
      generalize hnb : nextB t l = nb at *
      have hne : (nb != nb) = false := by simp
      replace hnb := Lib.hid hnb
      replace hws := Lib.hid hws
      replace hs4 := Lib.hid hs4
      clear hS3 b4 hB3 hX3 os4
      obtain ⟨x0, x1, x2, -, -, -⟩ := blk3 hX4
      have hT := toTongue_any _ t w4 (HI.out.tng.below hB4 (Nat.le_refl _)) hf.out
      have hw4 := Lib.hid (show w.heap.size < w4.heap.size from hX4.lt)
      replace hB4 := Lib.hid hB4
      have hX4k := Lib.hid hX4
      replace hX4 := Lib.hid hX4
      go_wp2_with (fail)
      refine hT.mono ?_
      rintro e w5 ⟨v5, rfl, o5, b5⟩
      have hD5 := b5
      clear hT x0 x1 x2
      have hB5 := hB4.out.trans (b5.mono hB4.out.size)
      have hX5 := hX4.out.below b5 hX4.out.lt
      obtain ⟨D1, d1, D2, d2, D3, d3, rfl⟩ : ∃ D1 d1 D2 d2 D3 d3, v5 = .agg #[.slice D1 t.us.length d1, .slice D2 t.bs.length d2, .slice D3 t.ns.length d3] := by
        obtain ⟨D1, d1, D2, d2, D3, d3, e, _⟩ := o5.tng.ex
        exact ⟨D1, d1, D2, d2, D3, d3, e⟩
      have hD6 := hD5.alloc hD5.size (.cells #[.slice D1 t.us.length d1, .slice D2 t.bs.length d2, .slice D3 t.ns.length d3] 26)
      have h45 : w4.heap.size ≤ w5.heap.size := hD5.size
      have hoff : ∀ u : Value, (∀ k, u.ownBlock = some k → w5.heap.size ≤ k) → OffTng (.agg #[.slice D1 t.us.length d1, .slice D2 t.bs.length d2, .slice D3 t.ns.length d3]) u := fun u hu => by
        obtain ⟨u1, u2, u3, e, e1, e2, e3, -⟩ := o5.ex
        cases e
        refine ⟨_, _, _, rfl, fun k hk => ⟨fun h => ?_, fun h => ?_, fun h => ?_⟩⟩
        · have := (World.ownsRow.lt e1 k h).2; have := hu k hk; omega
        · have := (World.ownsRow.lt e2 k h).2; have := hu k hk; omega
        · have := (World.ownsRow.lt e3 k h).2; have := hu k hk; omega
      replace hoff := Lib.hid hoff
      replace hD6 := Lib.hid hD6
      have hB6 := hB5.alloc hB5.size (.cells #[.slice D1 t.us.length d1, .slice D2 t.bs.length d2, .slice D3 t.ns.length d3] 26)
      have hX6 := hX5.alloc (.cells #[.slice D1 t.us.length d1, .slice D2 t.bs.length d2, .slice D3 t.ns.length d3] 26)
      have hZ6 := Blk.new w5 26 #[.slice D1 t.us.length d1, .slice D2 t.bs.length d2, .slice D3 t.ns.length d3]
      have o6 := o5.below ((Below.refl _ _).alloc (Nat.le_refl _) (.cells #[.slice D1 t.us.length d1, .slice D2 t.bs.length d2, .slice D3 t.ns.length d3] 26)) (Nat.le_refl _)
      have hC6 := toStringS_any Al l.length cl l _ (HL.out _ hB6) hll
      clear b5 hB4 hX4 hB5 hX5 o5 hD5
      replace hB6 := Lib.hid hB6
      replace hX6 := Lib.hid hX6
      replace hZ6 := Lib.hid hZ6
      replace o6 := Lib.hid o6
      replace hC6 := Lib.hid hC6
      go_wp2_with (fail)
      refine hC6.out.mono ?_
      rintro e w7 ⟨rfl, p7, b7⟩
      have hB7 := hB6.out.trans (b7.mono hB6.out.size)
      have hX7 := hX6.out.below b7 hX6.out.lt
      have hZ7 := hZ6.out.below b7 hZ6.out.lt
      have o7 := o6.out.below b7 (Nat.le_refl _)
      have hD7 := hD6.out.trans (b7.mono hD6.out.size)
      have hsz7 : (w5.alloc (.cells #[.slice D1 t.us.length d1, .slice D2 t.bs.length d2, .slice D3 t.ns.length d3] 26)).heap.size = w5.heap.size + 1 := by simp
      rw [hsz7] at p7 ⊢
      have s7 : Strs w7 (some ⟨w5.heap.size + 1, 0, none⟩) l.length l.length l := by
        obtain ⟨_, _, e, s⟩ := strs_of_own p7
        cases e
        exact s
      have hI7 := implNextName_any _ t _ l.length l.length l w7 o7.tng hf.out s7 (by omega) hlz.out
      rw [hws.out, hnb.out] at hI7
      have h57 : w5.heap.size + 2 ≤ w7.heap.size := (World.ownsRow.lt p7 _ rfl).2
      clear b7 hB6 hX6 hZ6 o6 hC6 hsz7 s7 hD6
      obtain ⟨z0, z1, z2, -, -, -⟩ := blk3 hZ7
      replace hB7 := Lib.hid hB7
      replace hX7 := Lib.hid hX7
      replace hZ7 := Lib.hid hZ7
      replace o7 := Lib.hid o7
      replace p7 := Lib.hid p7
      replace hI7 := Lib.hid hI7
      replace hD7 := Lib.hid hD7
      go_wp2_with (fail)
      refine hI7.out.mono ?_
      rintro e w8 ⟨vg, rfl, og8, b8⟩
      obtain ⟨Ag, cg, rfl, hg8⟩ := og8.strs
      have hB8 := hB7.out.trans (b8.mono hB7.out.size)
      have hD8 := hD7.out.trans (b8.mono hD7.out.size)
      have hX8 := hX7.out.below b8 hX7.out.lt
      have hZ8 := hZ7.out.below b8 hZ7.out.lt
      have o8 := o7.out.below b8 (Nat.le_refl _)
      have p8 := own_below p7.out b8 (Nat.le_refl _)
      clear b8 hB7 hX7 hZ7 o7 p7 hI7 hD7 z0 z1 z2
      obtain ⟨x0, x1, x2, -, -, -⟩ := blk3 hX8
      obtain ⟨z0, z1, z2, -, -, -⟩ := blk3 hZ8
      have hE0 := eqStringS_any Ag As _ cg _ cs ws ws w8 hg8 (hs4.out.below hD8 (Nat.le_refl _)) (by omega) (by omega)
      rw [decide_eq_true rfl] at hE0
      replace hE0 := Lib.hid hE0
      replace og8 := Lib.hid og8
      replace hD8 := Lib.hid hD8
      clear hg8
      go_wp2_with (fail)
      refine hE0.out.mono ?_
      rintro e _ ⟨rfl, m0, rfl⟩
      clear hE0
      have hd8 : Below w8.heap.size w8 (w8.drewN m0) := below_drewN (Below.refl _ _) m0
      replace hd8 := Lib.hid hd8
      replace hB8 := Lib.hid hB8
      replace hX8 := Lib.hid hX8
      replace hZ8 := Lib.hid hZ8
      replace o8 := Lib.hid o8
      replace p8 := Lib.hid p8
      have HT := Lib.hid (fun W (hb : Below w8.heap.size w8 W) => toTongue_any _ t W (HI.out.tng.below (hB8.out.trans (hb.mono hB8.out.size)) (Nat.le_refl _)) hf.out)
      go_upto_region 14 with (fail)
      go_region_held3 (fun w' => (w'.cell? ⟨w.heap.size, 0, none⟩ = some (.slice A1 t.us.length c1) ∧ w'.cell? ⟨w.heap.size, 1, none⟩ = some (.slice A2 t.bs.length c2) ∧ w'.cell? ⟨w.heap.size, 2, none⟩ = some (.slice A3 t.ns.length c3)) ∧
          (w'.cell? ⟨w5.heap.size, 0, none⟩ = some (.slice D1 t.us.length d1) ∧ w'.cell? ⟨w5.heap.size, 1, none⟩ = some (.slice D2 t.bs.length d2) ∧ w'.cell? ⟨w5.heap.size, 2, none⟩ = some (.slice D3 t.ns.length d3)))
        (first | go_keep | exact hS9 | exact hSa)
        (first
          | (go_at_call 19; refine (HT.out _ (by first | exact hd8.out.drew | exact hd8.out)).mono ?_; rintro e w9 ⟨v9, rfl, o9, b9'⟩; have b9 : Below w8.heap.size w8 w9 := ⟨b9'.os, b9'.tape, b9'.output, b9'.size, b9'.block⟩; obtain ⟨x0', x1', x2', -, -, -⟩ := blk3 (hX8.out.below b9 hX8.out.lt); obtain ⟨z0', z1', z2', -, -, -⟩ := blk3 (hZ8.out.below b9 hZ8.out.lt); have hS9 := And.intro (And.intro x0' (And.intro x1' x2')) (And.intro z0' (And.intro z1' z2')); have hE := Lib.hid (eqTongue_same _ _ t w9 (o8.out.tng.below b9 (Nat.le_refl _)) o9.tng hf.out); have b9h := Lib.hid b9; have hX9 := Lib.hid (hX8.out.below b9 hX8.out.lt); have hZ9 := Lib.hid (hZ8.out.below b9 hZ8.out.lt); clear b9 b9' o9)
          | (go_at_call 21; refine hE.out.mono ?_; rintro e wa ⟨rfl, ba⟩; obtain ⟨x0'', x1'', x2'', -, -, -⟩ := blk3 (hX9.out.below ba hX9.out.lt); obtain ⟨z0'', z1'', z2'', -, -, -⟩ := blk3 (hZ9.out.below ba hZ9.out.lt); have hSa := And.intro (And.intro x0'' (And.intro x1'' x2'')) (And.intro z0'' (And.intro z1'' z2'')); have bah := Lib.hid (b9h.out.trans (ba.mono b9h.out.size)); clear ba))
      all_goals
        clear hS9 hSa HT hE hX9 hZ9 b9h
        have hBa := Lib.hid (hB8.out.trans (bah.out.mono hB8.out.size))
        have hCa := Lib.hid (toStringS_any Al l.length cl l wa (HL.out _ hBa.out) hll)
        go_wp2_with (fail)
        refine hCa.out.mono ?_
        rintro e wb ⟨rfl, pb, bb⟩
        have bbh := bah.out.trans (bb.mono bah.out.size)
        have p1 := own_below p8.out bbh (Nat.le_refl _)
        obtain ⟨_, _, e1, s1⟩ := strs_of_own p1
        cases e1
        obtain ⟨_, _, e2, sb⟩ := strs_of_own pb
        cases e2
        have hEb := eqStringS_any _ _ l.length l.length l.length l.length l l wb s1 sb (by omega) (by omega)
        rw [decide_eq_true rfl] at hEb
        replace hEb := Lib.hid hEb
        replace bbh := Lib.hid bbh
        clear pb bb sb s1 p1 hCa hBa bah
        go_wp2_with (fail)
        refine hEb.out.mono ?_
        rintro e _ ⟨rfl, mb, rfl⟩
        have bch := below_drewN bbh.out mb
        have hBc := hB8.out.trans (bch.mono hB8.out.size)
        have hDc := hD8.out.trans (bch.mono hD8.out.size)
        have hXc := hX8.out.below bch hX8.out.lt
        have hZc := hZ8.out.below bch hZ8.out.lt
        have oc := o8.out.below bch (Nat.le_refl _)
        have pc := own_below p8.out bch (Nat.le_refl _)
        have ogc := own_below og8.out bch (Nat.le_refl _)
        clear bch hEb bbh
        generalize wb.drewN mb = wc at *
        obtain ⟨zc0, zc1, zc2, -, -, -⟩ := blk3 hZc
        -- the tongue's copy is marked, then the list's
        have hM := Lib.hid (markTongue_any _ t w4.heap.size 1 wc oc hf.out hDc.size rfl)
        have hgb : ∀ k, (Value.slice Ag ws.length cg).ownBlock = some k → w5.heap.size + 1 < k := fun k hk => by
          have := (World.ownsRow.lt ogc k hk).1; omega
        have hof1 := Lib.hid (hoff.out (.slice Ag ws.length cg) (fun k hk => by have := hgb k hk; omega))
        have hof2 := Lib.hid (hoff.out (.slice (some ⟨w5.heap.size + 1, 0, none⟩) l.length l.length) (fun k hk => by simp [Value.ownBlock] at hk; omega))
        have HX10 := Lib.hid (fun W (hb : Below w4.heap.size w4 W) => hX4k.out.below hb hX4k.out.lt)
        replace hgb := Lib.hid hgb
        replace ogc := Lib.hid ogc
        replace pc := Lib.hid pc
        replace hDc := Lib.hid hDc
        replace hBc := Lib.hid hBc
        clear oc hXc hZc og8 p8 hX8 hZ8 o8 hD8 hB8
        go_wp2_with (fail)
        refine hM.out.mono ?_
        rintro e wd ⟨rfl, -, cd, hqd⟩
        have ogd : wd.ownsRow _ 9 1 (.slice Ag ws.length cg) ws.length (ws.map Value.string) := hqd _ _ _ _ _ hof1.out ogc.out
        have pd : wd.ownsRow _ 9 1 (.slice (some ⟨w5.heap.size + 1, 0, none⟩) l.length l.length) l.length (l.map Value.string) := hqd _ _ _ _ _ hof2.out pc.out
        have hDd := hDc.out.trans cd
        have hBd := hBc.out.trans (cd.mono (by have := hDc.out.size; have := hw4.out; omega))
        have f1 := hf.out.us
        have f2 := hf.out.bs
        have f3 := hf.out.ns
        have hM2 := Lib.hid (markStringS_any _ _ l.length l (1 + t.us.length + t.bs.length + t.ns.length) wd pd hll (by omega))
        replace ogd := Lib.hid ogd
        replace hDd := Lib.hid hDd
        replace hBd := Lib.hid hBd
        clear hM hqd cd pd pc ogc hDc hBc zc0 zc1 zc2
        go_wp2_with (fail)
        refine hM2.out.mono ?_
        rintro e we ⟨rfl, -, ge⟩
        have oge : we.ownsRow _ 9 1 (.slice Ag ws.length cg) ws.length (ws.map Value.string) := own_off ogd.out ge (fun k hk => by
          have := hgb.out k hk
          simp [Value.ownBlock]
          omega)
        have hDe : Below w4.heap.size w4 we := Below.grown hDd.out ge hDd.out.size (fun k hk => by simp [Value.ownBlock] at hk; omega)
        have hBe : Below w.heap.size w we := Below.grown hBd.out ge hBd.out.size (fun k hk => by simp [Value.ownBlock] at hk; have := hw4.out; omega)
        obtain ⟨_, _, e9, hg9⟩ := strs_of_own oge
        cases e9
        have hE1 := eqStringS_any Ag As _ cg _ cs ws ws we hg9 (hs4.out.below hDe (Nat.le_refl _)) (by omega) (by omega)
        rw [decide_eq_true rfl] at hE1
        have hpos : ¬ (1 + (t.us.length : Int) + (t.bs.length : Int) + (t.ns.length : Int) + (l.length : Int) < 0) := by omega
        replace hE1 := Lib.hid hE1
        replace oge := Lib.hid oge
        replace hDe := Lib.hid hDe
        replace hBe := Lib.hid hBe
        clear hM2 ge hg9 ogd hDd hBd f1 f2 f3
        go_wp2_with (fail)
        refine hE1.out.mono ?_
        rintro e _ ⟨rfl, m1, rfl⟩
        clear hE1
        have og9' : (we.drewN m1).ownsRow _ 9 1 (.slice Ag ws.length cg) ws.length (ws.map Value.string) := oge.out
        have hM3 := Lib.hid (markStringS_any _ _ _ ws 1 (we.drewN m1) og9' (by omega) (by omega))
        replace og9' := Lib.hid og9'
        go_wp2_with (fail)
        refine hM3.out.mono ?_
        rintro e wf ⟨rfl, ogf, gf⟩
        have hgk : ∀ k, (Value.slice Ag ws.length cg).ownBlock = some k → w4.heap.size ≤ k := fun k hk => by have := hgb.out k hk; omega
        have hDf : Below w4.heap.size w4 wf := Below.grown (below_drewN hDe.out m1) gf hDe.out.size hgk
        have hBf : Below w.heap.size w wf := Below.grown (below_drewN hBe.out m1) gf hBe.out.size (fun k hk => by have := hgk k hk; have := hw4.out; omega)
        obtain ⟨_, _, ea, hgf⟩ := strs_of_own ogf
        cases ea
        have hH := Lib.hid (heldStringS_any Ag _ cg 1 wf hgf (by omega) (by omega))
        have hwp : ¬ (1 + (ws.length : Int) < 0) := by omega
        have hne1 : ((1 + (ws.length : Int)) != (1 + (ws.length : Int))) = false := by simp
        have hXf : Blk wf w.heap.size 38 #[.slice A1 t.us.length c1, .slice A2 t.bs.length c2, .slice A3 t.ns.length c3] := HX10.out wf hDf
        replace hgf := Lib.hid hgf
        replace hDf := Lib.hid hDf
        replace hBf := Lib.hid hBf
        replace hXf := Lib.hid hXf
        clear hM3 gf og9' ogf oge hDe hBe
        go_wp2_with (fail)
        refine hH.out.mono ?_
        rintro e wg ⟨rfl, bg⟩
        have hDg := hDf.out.trans (bg.mono hDf.out.size)
        have hBg := hBf.out.trans (bg.mono hBf.out.size)
        have hXg := hXf.out.below bg hXf.out.lt
        have hgg := hgf.out.below bg (Nat.le_refl _)
        obtain ⟨xx0, xx1, xx2, -, -, -⟩ := blk3 hXg
        have hT11 := Lib.hid (toTongue_any _ t wg (HI.out.tng.below hBg (Nat.le_refl _)) hf.out)
        replace hDg := Lib.hid hDg
        replace hBg := Lib.hid hBg
        replace hgg := Lib.hid hgg
        clear bg hDf hBf hXf hgf hH hXg x0 x1 x2 z0 z1 z2 x0' x1' x2' z0' z1' z2' x0'' x1'' x2'' z0'' z1'' z2''
        go_wp2_with (fail)
        refine hT11.out.mono ?_
        rintro e wh ⟨vh, rfl, oh, bh⟩
        have hDh := hDg.out.trans (bh.mono hDg.out.size)
        have hBh := hBg.out.trans (bh.mono hBg.out.size)
        have hgh := hgg.out.below bh (Nat.le_refl _)
        have hCh := Lib.hid (toStringS_any Al l.length cl l wh (HL.out _ hBh) hll)
        replace hDh := Lib.hid hDh
        replace hBh := Lib.hid hBh
        replace hgh := Lib.hid hgh
        replace oh := Lib.hid oh
        clear bh hDg hBg hgg hT11 xx0 xx1 xx2
        go_wp2_with (fail)
        refine hCh.out.mono ?_
        rintro e wi ⟨rfl, pi, bi⟩
        have hDi := hDh.out.trans (bi.mono hDh.out.size)
        have hBi := hBh.out.trans (bi.mono hBh.out.size)
        have hgi := hgh.out.below bi (Nat.le_refl _)
        have oi := oh.out.below bi (Nat.le_refl _)
        obtain ⟨_, _, ei, si⟩ := strs_of_own pi
        cases ei
        have hW := implNextName_any vh t _ l.length l.length l wi oi.tng hf.out si (by omega) hlz.out
        rw [hws.out, hnb.out] at hW
        replace hW := Lib.hid hW
        replace hDi := Lib.hid hDi
        replace hBi := Lib.hid hBi
        replace hgi := Lib.hid hgi
        clear bi hDh hBh hgh hCh oi pi si oh
        go_wp2_with (fail)
        refine hW.out.mono ?_
        rintro e wj ⟨vj, rfl, oj, bj⟩
        obtain ⟨Aj, cj, rfl, hj⟩ := oj.strs
        have hDj := hDi.out.trans (bj.mono hDi.out.size)
        have hBj := hBi.out.trans (bj.mono hBi.out.size)
        have hgj := hgi.out.below bj (Nat.le_refl _)
        have hE3 := eqStringS_any Aj As _ cj _ cs ws ws wj hj (hs4.out.below hDj (Nat.le_refl _)) (by omega) (by omega)
        rw [decide_eq_true rfl] at hE3
        replace hE3 := Lib.hid hE3
        replace hBj := Lib.hid hBj
        replace hgj := Lib.hid hgj
        clear bj hDi hBi hgi hW hj oj hDj
        go_wp2_with (fail)
        refine hE3.out.mono ?_
        rintro e _ ⟨rfl, m3, rfl⟩
        have hH2 := Lib.hid (heldStringS_any Ag _ cg 1 (wj.drewN m3) (hgj.out.drewN m3) (by omega) (by omega))
        go_wp2_with (fail)
        refine hH2.out.mono ?_
        rintro e wk ⟨rfl, bk⟩
        have hBk := Lib.hid ((below_drewN hBj.out m3).trans (bk.mono (below_drewN hBj.out m3).size))
        clear bk hH2 hE3 hBj hgj
        go_wp2
        go_ret
        exact ⟨rfl, hBk.out⟩

set_option maxRecDepth 100000 in
theorem lifted (os : Os) (started : os.Started) (H : Type) (enc : TypeId × Value → H) :
    ReturnsInHanded {} Try.checked os 7 .any (Rows.fnExactNextNameSpec.pre6 enc Try.prog Try.f7 Rows.fnExactNextNameRow.domain false) (Rows.fnExactNextNameSpec.post enc Try.prog Try.f7 false true false false) := by
  refine returnsInHanded_of_change (C := Try.checked) own started (by kernel_rfl) Try.func7
    (ChangeSpec.witness6 (enc := enc) (C := Try.checked) false ⟨#[], #[.agg #[.slice none 0 0, .slice none 0 0, .slice none 0 0], .slice none 0 0], []⟩ 8 (by kernel_rfl) (by kernel_rfl) (by kernel_rfl) (by kernel_rfl)) ?_
  intro W base args ds gs before hval0 hW hcnd _
  have hval : ∀ (j : Nat) t v, Try.f7.params[j]? = some t → args[j]? = some v → Value.okWide Try.prog W .any base t v := hval0
  have hW' := hW
  obtain ⟨p, q, hA0, hV, rfl, hfz, hnd⟩ := hW
  have hA : DataW.TrodAll enc Try.prog W 0 (fun _ => true) true Try.f7.params.toList args.toList ds p := hA0
  rw [Try.params7] at hA hval
  obtain ⟨v0, vs0, d0, ds0, p0, q0, hargs, rfl, rfl, h0, r0⟩ := trodAll_cons hA
  obtain ⟨v1, vs1, d1, ds1, p1, q1, rfl, rfl, rfl, h1, r1⟩ := trodAll_cons r0
  obtain ⟨rfl, rfl, rfl⟩ := trodAll_nil r1
  obtain rfl : args = #[v0, v1] := by cases args; simp_all
  obtain ⟨rfl, rfl⟩ := trodVars_none hV
  have k0 := h0
  have lt0 : ∀ x ∈ p0, x.block < W.heap.size := by obtain ⟨m, hm⟩ := k0; exact DataW.trod_lt m _ _ _ hm
  obtain ⟨t0, n0⟩ := open_tongue (hval 0 38 v0 rfl rfl) h0
  have k1 := h1
  have lt1 : ∀ x ∈ p1, x.block < W.heap.size := by obtain ⟨m, hm⟩ := k1; exact DataW.trod_lt m _ _ _ hm
  obtain ⟨b1, n1, e1, rfl⟩ := okWide_slice Try.underlying23 (hval 1 23 v1 rfl rfl)
  obtain ⟨f1, hf1⟩ := h1
  obtain ⟨a1, c1, z1, ee1, s1, m1, w1⟩ := in_strs (v := .slice b1 n1 e1) hf1
  cases ee1
  clear hA0 hval0
  refine (walk W v0 t0 n0 _ _ z1 s1 m1 w1).mono fun e W' ⟨he, bel⟩ => ?_
  subst he
  exact ⟨_, rfl, _, _, _, [], _, [], hW', trodAll_mk1 (shut_bool Try.underlying4 _), (trodAll_cons_mk (Below.trod laidOut (by kernel_rfl) (of_decide_eq_true (by kernel_rfl)) k0 bel lt0) (trodAll_cons_mk (Below.trod laidOut (by kernel_rfl) (of_decide_eq_true (by kernel_rfl)) k1 bel lt1) trodAll_mk0)), rfl, bel.frame _, fun h => by cases h⟩

theorem over : Rows.fnExactNextNameRow.holds Try.pinned (OpenSpec.ofChange Rows.fnExactNextNameSpec) :=
  OpenClaim.holds_of_wide 7 Try.f7 rfl rfl rfl rfl rfl rfl rfl ⟨rfl, rfl, rfl, rfl, rfl⟩ rfl rfl rfl rfl rfl (by kernel_rfl) Try.func7 (by kernel_rfl)
    (of_decide_eq_true (by kernel_rfl)) (by unfold Func.isWrapper; first | (rw [if_pos (by decide +kernel)]; kernel_rfl) | (rw [if_neg (by decide +kernel)]; exact ⟨rfl, rfl⟩))
    (fun os started H enc _ => lifted os started H enc)
theorem proved : Rows.FnExactNextNameSaid := over
end Go.Proofs.Yteemgkabhkdeaaa.fnExactNextName
