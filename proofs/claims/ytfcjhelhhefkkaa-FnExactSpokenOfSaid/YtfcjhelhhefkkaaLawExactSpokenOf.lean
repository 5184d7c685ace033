/-
  FnExactSpokenOf holds for every tongue and every text: SpokenOf answers as its model, leaves its arguments unmodified, and returns memory of its own. No condition.
-/
import Derived.Test.YtfcjhelhhefkkaaRows
import Derived.Test.YtfcjhelhhefkkaaGT
import Derived.Test.YtfcjhelhhefkkaaS8
import Derived.Test.YtfcjhelhhefkkaaT8
namespace Go.Proofs.Ytfcjhelhhefkkaa.fnExactSpokenOf
open Go.ChangeShapes Go.WideShapes Go.ChangeAt Go.RowKit
open Go.ChangeMaps (open_string shut_string)

theorem own : ownKnob Try.prog.godebug = none := by kernel_rfl
theorem laidOut : laidOutB Try.prog = true := by kernel_rfl

set_option maxRecDepth 100000 in
set_option maxHeartbeats 4000000 in
theorem walk (w : World) (v : Value) (t : Tg) (h : TngIn w v t) (s : ByteArray) (hs : s.size ≤ maxLen) :
    Calls Try.prog 16 #[v, .string s] w fun e w' => e = .returned (.bool true) ∧ Below w.heap.size w w' := by
  unfold maxLen at hs
  have HI := h
  obtain ⟨A1, c1, A2, c2, A3, c3, rfl, -⟩ := h.ex
  have hB0 : Below w.heap.size w (w.alloc (.cells #[.slice A1 t.us.length c1, .slice A2 t.bs.length c2, .slice A3 t.ns.length c3] 51)) := (Below.refl _ _).alloc (Nat.le_refl _) _
  have HX := Blk.new w 51 #[.slice A1 t.us.length c1, .slice A2 t.bs.length c2, .slice A3 t.ns.length c3]
  have hS := Lib.hid (szTongue_any _ t _ (HI.below hB0 (Nat.le_refl _)))
  replace HI := Lib.hid HI
  replace hB0 := Lib.hid hB0
  replace HX := Lib.hid HX
  clear h
  by_cases hxl : s.size ≤ 1048576
  · skip
    go_enter Try.func16, Try.ntmps16
    go_wp2_with (fail)
    refine hS.out.mono ?_
    rintro e w1 ⟨r, rfl, hr, hb1⟩
    have hB1 := hB0.out.trans (hb1.mono hB0.out.size)
    have hX1 := HX.out.below hb1 HX.out.lt
    clear hb1 hS HX hB0
    rcases hr with rfl | ⟨hr0, hf⟩
    · replace hB1 := Lib.hid hB1
      clear hX1
      go_wp2
      go_ret
      exact ⟨rfl, hB1.out⟩
    · have hr1 : ¬ r < 0 := by omega
      obtain ⟨x0, x1, x2, -, -, -⟩ := blk3 hX1
      have hT := toTongue_any _ t w1 (HI.out.tng.below hB1 (Nat.le_refl _)) hf
      replace hf := Lib.hid hf
      replace hX1 := Lib.hid hX1
      replace hB1 := Lib.hid hB1
      go_wp2_with (fail)
      refine hT.mono ?_
      rintro e w2 ⟨v2, rfl, o2, b2⟩
      clear hT x0 x1 x2
      have hB2 := hB1.out.trans (b2.mono hB1.out.size)
      have hX2 := hX1.out.below b2 hX1.out.lt
      have hS2 := specSpokenOf_any v2 t s w2 o2.tng hf.out (by omega)
      clear b2 hB1 hX1 o2
      replace hB2 := Lib.hid hB2
      replace hX2 := Lib.hid hX2
      go_wp2_with (fail)
      refine hS2.mono ?_
      rintro e w3 ⟨vs, rfl, os3, b3⟩
      obtain ⟨As, cs, rfl, hs3⟩ := os3.strs
      have hB3 := hB2.out.trans (b3.mono hB2.out.size)
      have hX3 := hX2.out.below b3 hX2.out.lt
      have hwl0 := spokenL_len t (tl s)
      have hwl : (spokenL t (tl s)).length ≤ 2097152 := by omega
      have hwl1 : (spokenL t (tl s)).length ≤ 1048576 := by omega
      clear hwl0
      generalize hws : spokenL t (tl s) = ws at *
      replace hws := Lib.hid hws
      replace hs3 := Lib.hid hs3
      clear hS2 b3 hB2 hX2 os3
      obtain ⟨x0, x1, x2, -, -, -⟩ := blk3 hX3
      have hT := toTongue_any _ t w3 (HI.out.tng.below hB3 (Nat.le_refl _)) hf.out
      have hw3 := Lib.hid (show w.heap.size < w3.heap.size from hX3.lt)
      replace hB3 := Lib.hid hB3
      have hX3k := Lib.hid hX3
      replace hX3 := Lib.hid hX3
      go_wp2_with (fail)
      refine hT.mono ?_
      rintro e w4 ⟨v4, rfl, o4, b4⟩
      clear hT x0 x1 x2
      have hB4 := hB3.out.trans (b4.mono hB3.out.size)
      have hD4 := b4
      have hX4 := hX3.out.below b4 hX3.out.lt
      obtain ⟨D1, d1, D2, d2, D3, d3, rfl⟩ : ∃ D1 d1 D2 d2 D3 d3, v4 = .agg #[.slice D1 t.us.length d1, .slice D2 t.bs.length d2, .slice D3 t.ns.length d3] := by
        obtain ⟨D1, d1, D2, d2, D3, d3, e, _⟩ := o4.tng.ex
        exact ⟨D1, d1, D2, d2, D3, d3, e⟩
      have hB5 := hB4.alloc hB4.size (.cells #[.slice D1 t.us.length d1, .slice D2 t.bs.length d2, .slice D3 t.ns.length d3] 43)
      have hX5 := hX4.alloc (.cells #[.slice D1 t.us.length d1, .slice D2 t.bs.length d2, .slice D3 t.ns.length d3] 43)
      have hZ5 := Blk.new w4 43 #[.slice D1 t.us.length d1, .slice D2 t.bs.length d2, .slice D3 t.ns.length d3]
      have hD5 := hD4.alloc hD4.size (.cells #[.slice D1 t.us.length d1, .slice D2 t.bs.length d2, .slice D3 t.ns.length d3] 43)
      have o5 := o4.below ((Below.refl _ _).alloc (Nat.le_refl _) (.cells #[.slice D1 t.us.length d1, .slice D2 t.bs.length d2, .slice D3 t.ns.length d3] 43)) (Nat.le_refl _)
      have hI5 := implSpokenOf_any _ t s _ o5.tng hf.out (by omega)
      rw [hws.out] at hI5
      have hz5 : w4.heap.size < (w4.alloc (.cells #[.slice D1 t.us.length d1, .slice D2 t.bs.length d2, .slice D3 t.ns.length d3] 43)).heap.size := by simp
      have h34 : w3.heap.size ≤ w4.heap.size := hD4.size
      have hoff : ∀ u : Value, (∀ k, u.ownBlock = some k → w4.heap.size < k) → OffTng (.agg #[.slice D1 t.us.length d1, .slice D2 t.bs.length d2, .slice D3 t.ns.length d3]) u := fun u hu => by
        obtain ⟨u1, u2, u3, e, e1, e2, e3, -⟩ := o4.ex
        cases e
        refine ⟨_, _, _, rfl, fun k hk => ⟨fun h => ?_, fun h => ?_, fun h => ?_⟩⟩
        · have := (World.ownsRow.lt e1 k h).2; have := hu k hk; omega
        · have := (World.ownsRow.lt e2 k h).2; have := hu k hk; omega
        · have := (World.ownsRow.lt e3 k h).2; have := hu k hk; omega
      replace hoff := Lib.hid hoff
      replace hD5 := Lib.hid hD5
      clear b4 hB3 hX3 hB4 hX4 o4 hD4
      replace hB5 := Lib.hid hB5
      replace hX5 := Lib.hid hX5
      replace hZ5 := Lib.hid hZ5
      replace o5 := Lib.hid o5
      replace hI5 := Lib.hid hI5
      go_wp2_with (fail)
      refine hI5.out.mono ?_
      rintro e w6 ⟨vg, rfl, og6, b6⟩
      obtain ⟨Ag, cg, rfl, hg6⟩ := og6.strs
      have hD6 := hD5.out.trans (b6.mono hD5.out.size)
      have hB6 := hB5.out.trans (b6.mono hB5.out.size)
      have hX6 := hX5.out.below b6 hX5.out.lt
      have hZ6 := hZ5.out.below b6 hZ5.out.lt
      have o6 := o5.out.below b6 (Nat.le_refl _)
      clear b6 hB5 hX5 hZ5 o5 hI5
      obtain ⟨x0, x1, x2, -, -, -⟩ := blk3 hX6
      obtain ⟨z0, z1, z2, -, -, -⟩ := blk3 hZ6
      have hE0 := eqStringS_any Ag As _ cg _ cs ws ws w6 hg6 (hs3.out.below hD6 (Nat.le_refl _)) (by omega) (by omega)
      rw [decide_eq_true rfl] at hE0
      replace hE0 := Lib.hid hE0
      replace og6 := Lib.hid og6
      replace hD6 := Lib.hid hD6
      clear hg6
      go_wp2_with (fail)
      refine hE0.out.mono ?_
      rintro e _ ⟨rfl, m0, rfl⟩
      clear hE0
      have hd6 : Below w6.heap.size w6 (w6.drewN m0) := below_drewN (Below.refl _ _) m0
      replace hd6 := Lib.hid hd6
      replace hB6 := Lib.hid hB6
      replace hX6 := Lib.hid hX6
      replace hZ6 := Lib.hid hZ6
      replace o6 := Lib.hid o6
      have HT := Lib.hid (fun W (hb : Below w6.heap.size w6 W) => toTongue_any _ t W (HI.out.tng.below (hB6.out.trans (hb.mono hB6.out.size)) (Nat.le_refl _)) hf.out)
      go_wp2
      go_region_held3 (fun w' => (w'.cell? ⟨w.heap.size, 0, none⟩ = some (.slice A1 t.us.length c1) ∧ w'.cell? ⟨w.heap.size, 1, none⟩ = some (.slice A2 t.bs.length c2) ∧ w'.cell? ⟨w.heap.size, 2, none⟩ = some (.slice A3 t.ns.length c3)) ∧
          (w'.cell? ⟨w4.heap.size, 0, none⟩ = some (.slice D1 t.us.length d1) ∧ w'.cell? ⟨w4.heap.size, 1, none⟩ = some (.slice D2 t.bs.length d2) ∧ w'.cell? ⟨w4.heap.size, 2, none⟩ = some (.slice D3 t.ns.length d3)))
        (first | go_keep | exact hS7 | exact hS8)
        (first
          | (go_at_call 46; refine (HT.out _ (by first | exact hd6.out.drew | exact hd6.out)).mono ?_; rintro e w7 ⟨v7, rfl, o7, b7'⟩; have b7 : Below w6.heap.size w6 w7 := ⟨b7'.os, b7'.tape, b7'.output, b7'.size, b7'.block⟩; have hD7 := Lib.hid (hD6.out.trans (b7.mono hD6.out.size)); have og7 := Lib.hid (og6.out.below b7 (Nat.le_refl _)); have o7x := Lib.hid (o6.out.below b7 (Nat.le_refl _)); obtain ⟨x0', x1', x2', -, -, -⟩ := blk3 (hX6.out.below b7 hX6.out.lt); obtain ⟨z0', z1', z2', -, -, -⟩ := blk3 (hZ6.out.below b7 hZ6.out.lt); have hS7 := And.intro (And.intro x0' (And.intro x1' x2')) (And.intro z0' (And.intro z1' z2')); have hE := Lib.hid (eqTongue_same _ _ t w7 (o6.out.tng.below b7 (Nat.le_refl _)) o7.tng hf.out); have hB7 := Lib.hid (hB6.out.trans (b7.mono hB6.out.size)); have hX7 := Lib.hid (hX6.out.below b7 hX6.out.lt); have hZ7 := Lib.hid (hZ6.out.below b7 hZ6.out.lt); clear b7 b7' o7)
          | (go_at_call 48; refine hE.out.mono ?_; rintro e w8 ⟨rfl, b8⟩; obtain ⟨x0'', x1'', x2'', -, -, -⟩ := blk3 (hX7.out.below b8 hX7.out.lt); obtain ⟨z0'', z1'', z2'', -, -, -⟩ := blk3 (hZ7.out.below b8 hZ7.out.lt); have hS8 := And.intro (And.intro x0'' (And.intro x1'' x2'')) (And.intro z0'' (And.intro z1'' z2'')); have hB8 := Lib.hid (hB7.out.trans (b8.mono hB7.out.size)); have hD8 := Lib.hid (hD7.out.trans (b8.mono hD7.out.size)); have og8 := Lib.hid (og7.out.below b8 (Nat.le_refl _)); have o8 := Lib.hid (o7x.out.below b8 (Nat.le_refl _)); have hX8 := Lib.hid (hX7.out.below b8 hX7.out.lt); have hZ8 := Lib.hid (hZ7.out.below b8 hZ7.out.lt); clear b8))
      all_goals
        clear hS7 hS8 HT hX6 hZ6 o6 og6 hD6 hB6 hX7 hZ7 hB7 hD7 og7 o7x hE
        -- the copy is marked: the answer and the model's stay
        have hM := markTongue_any _ t w3.heap.size 1 w8 o8.out hf.out hD8.out.size rfl
        have hgb : ∀ k, (Value.slice Ag ws.length cg).ownBlock = some k → w4.heap.size < k := fun k hk => by
          have := (World.ownsRow.lt og8.out k hk).1; omega
        have hof := Lib.hid (hoff.out _ hgb)
        have HX10 := Lib.hid (fun W (hb : Below w3.heap.size w3 W) => hX3k.out.below hb hX3k.out.lt)
        replace hM := Lib.hid hM
        go_wp2_with (fail)
        refine hM.out.mono ?_
        rintro e w9 ⟨rfl, -, c9, hq9⟩
        have og9 : w9.ownsRow _ 9 1 (.slice Ag ws.length cg) ws.length (ws.map Value.string) := hq9 _ _ _ _ _ hof.out og8.out
        have hD9 := hD8.out.trans c9
        have hB9 := hB8.out.trans (c9.mono (by have := hX8.out.lt; have := hD8.out.size; have := hw3.out; omega))
        have hg9 := strs_of_own og9
        obtain ⟨A9, c9', e9, hg9⟩ := hg9
        cases e9
        have hE1 := eqStringS_any Ag As _ cg _ cs ws ws w9 hg9 (hs3.out.below hD9 (Nat.le_refl _)) (by omega) (by omega)
        rw [decide_eq_true rfl] at hE1
        have hpos : ¬ (1 + (t.us.length : Int) + (t.bs.length : Int) + (t.ns.length : Int) < 0) := by omega
        replace hE1 := Lib.hid hE1
        replace og9 := Lib.hid og9
        replace hD9 := Lib.hid hD9
        replace hB9 := Lib.hid hB9
        clear hM hq9 c9 hg9 hX8 hZ8 o8 og8 hD8 hB8
        go_wp2_with (fail)
        refine hE1.out.mono ?_
        rintro e _ ⟨rfl, m1, rfl⟩
        clear hE1
        have og9' : (w9.drewN m1).ownsRow _ 9 1 (.slice Ag ws.length cg) ws.length (ws.map Value.string) := og9.out
        have hM2 := Lib.hid (markStringS_any _ _ _ ws 1 (w9.drewN m1) og9' (by omega) (by omega))
        replace og9' := Lib.hid og9'
        go_wp2_with (fail)
        refine hM2.out.mono ?_
        rintro e w10 ⟨rfl, oga, g10⟩
        have hsx : w3.heap.size ≤ w9.heap.size := hD9.out.size
        have hgk : ∀ k, (Value.slice Ag ws.length cg).ownBlock = some k → w3.heap.size ≤ k := fun k hk => by have := hgb k hk; have := h34; omega
        have hDa : Below w3.heap.size w3 w10 := Below.grown (below_drewN hD9.out m1) g10 hsx hgk
        have hBa : Below w.heap.size w w10 := Below.grown (below_drewN hB9.out m1) g10 (by have := hw3.out; simp; omega) (fun k hk => by have := hgk k hk; have := hw3.out; omega)
        have hga := strs_of_own oga
        obtain ⟨Aa, ca, ea, hga⟩ := hga
        cases ea
        have hH := Lib.hid (heldStringS_any Ag _ cg 1 w10 hga (by omega) (by omega))
        have hwp : ¬ (1 + (ws.length : Int) < 0) := by omega
        have hne1 : ((1 + (ws.length : Int)) != (1 + (ws.length : Int))) = false := by simp
        have hX10 : Blk w10 w.heap.size 51 #[.slice A1 t.us.length c1, .slice A2 t.bs.length c2, .slice A3 t.ns.length c3] := HX10.out w10 hDa
        replace oga := Lib.hid oga
        replace hga := Lib.hid hga
        replace hDa := Lib.hid hDa
        replace hBa := Lib.hid hBa
        replace hX10 := Lib.hid hX10
        clear hM2 g10 og9' hD9 hB9 og9
        go_wp2_with (fail)
        refine hH.out.mono ?_
        rintro e w11 ⟨rfl, b11⟩
        have hDb := hDa.out.trans (b11.mono hDa.out.size)
        have hBb := hBa.out.trans (b11.mono hBa.out.size)
        have hXb := hX10.out.below b11 hX10.out.lt
        have hgb' := hga.out.below b11 (Nat.le_refl _)
        obtain ⟨xx0, xx1, xx2, -, -, -⟩ := blk3 hXb
        have hT11 := Lib.hid (toTongue_any _ t w11 (HI.out.tng.below hBb (Nat.le_refl _)) hf.out)
        replace hDb := Lib.hid hDb
        replace hBb := Lib.hid hBb
        replace hgb' := Lib.hid hgb'
        clear b11 hDa hBa hX10 hga hH hXb oga x0' x1' x2' z0' z1' z2' x0'' x1'' x2'' z0'' z1'' z2''
        go_wp2_with (fail)
        refine hT11.out.mono ?_
        rintro e w12 ⟨v12, rfl, o12, b12⟩
        have hDc := hDb.out.trans (b12.mono hDb.out.size)
        have hBc := hBb.out.trans (b12.mono hBb.out.size)
        have hgc := hgb'.out.below b12 (Nat.le_refl _)
        have hW12 := implSpokenOf_any v12 t s w12 o12.tng hf.out (by omega)
        rw [hws.out] at hW12
        replace hW12 := Lib.hid hW12
        replace hDc := Lib.hid hDc
        replace hBc := Lib.hid hBc
        replace hgc := Lib.hid hgc
        clear b12 hDb hBb hgb' hT11 o12 xx0 xx1 xx2
        go_wp2_with (fail)
        refine hW12.out.mono ?_
        rintro e w13 ⟨vh, rfl, oh, b13⟩
        obtain ⟨Ah, ch, rfl, hh⟩ := oh.strs
        have hDd := hDc.out.trans (b13.mono hDc.out.size)
        have hBd := hBc.out.trans (b13.mono hBc.out.size)
        have hgd := hgc.out.below b13 (Nat.le_refl _)
        have hE3 := eqStringS_any Ah As _ ch _ cs ws ws w13 hh (hs3.out.below hDd (Nat.le_refl _)) (by omega) (by omega)
        rw [decide_eq_true rfl] at hE3
        replace hE3 := Lib.hid hE3
        replace hBd := Lib.hid hBd
        replace hgd := Lib.hid hgd
        clear b13 hDc hBc hgc hW12 hh oh hDd
        go_wp2_with (fail)
        refine hE3.out.mono ?_
        rintro e _ ⟨rfl, m3, rfl⟩
        have hH2 := Lib.hid (heldStringS_any Ag _ cg 1 (w13.drewN m3) (hgd.out.drewN m3) (by omega) (by omega))
        go_wp2_with (fail)
        refine hH2.out.mono ?_
        rintro e w14 ⟨rfl, b14⟩
        have hBe := Lib.hid ((below_drewN hBd.out m3).trans (b14.mono (below_drewN hBd.out m3).size))
        clear b14 hH2 hE3 hBd hgd
        go_wp2
        go_ret
        exact ⟨rfl, hBe.out⟩
  · have hxl' : 1048576 < s.size := by omega
    go_enter Try.func16, Try.ntmps16
    go_wp2
    go_ret
    exact ⟨rfl, hB0.out⟩

set_option maxRecDepth 100000 in
theorem lifted (os : Os) (started : os.Started) (H : Type) (enc : TypeId × Value → H) :
    ReturnsInHanded {} Try.checked os 16 .any (Rows.fnExactSpokenOfSpec.pre6 enc Try.prog Try.f16 Rows.fnExactSpokenOfRow.domain false) (Rows.fnExactSpokenOfSpec.post enc Try.prog Try.f16 false true false false) := by
  refine returnsInHanded_of_change (C := Try.checked) own started (by kernel_rfl) Try.func16
    (ChangeSpec.witness6 (enc := enc) (C := Try.checked) false ⟨#[], #[.agg #[.slice none 0 0, .slice none 0 0, .slice none 0 0], .string ByteArray.empty], []⟩ 8 (by kernel_rfl) (by kernel_rfl) (by kernel_rfl) (by kernel_rfl)) ?_
  intro W base args ds gs before hval0 hW hcnd _
  have hval : ∀ (j : Nat) t v, Try.f16.params[j]? = some t → args[j]? = some v → Value.okWide Try.prog W .any base t v := hval0
  have hW' := hW
  obtain ⟨p, q, hA0, hV, rfl, hfz, hnd⟩ := hW
  have hA : DataW.TrodAll enc Try.prog W 0 (fun _ => true) true Try.f16.params.toList args.toList ds p := hA0
  rw [Try.params16] at hA hval
  obtain ⟨v0, vs0, d0, ds0, p0, q0, hargs, rfl, rfl, h0, r0⟩ := trodAll_cons hA
  obtain ⟨v1, vs1, d1, ds1, p1, q1, rfl, rfl, rfl, h1, r1⟩ := trodAll_cons r0
  obtain ⟨rfl, rfl, rfl⟩ := trodAll_nil r1
  obtain rfl : args = #[v0, v1] := by cases args; simp_all
  obtain ⟨rfl, rfl⟩ := trodVars_none hV
  have k0 := h0
  have lt0 : ∀ x ∈ p0, x.block < W.heap.size := by obtain ⟨m, hm⟩ := k0; exact DataW.trod_lt m _ _ _ hm
  obtain ⟨t0, n0⟩ := open_tongue (hval 0 51 v0 rfl rfl) h0
  obtain ⟨a1, rfl, rfl, rfl, w1⟩ := open_string Try.underlying9 (hval 1 9 v1 rfl rfl) h1
  clear hA0 hval0
  refine (walk W v0 t0 n0 a1 w1).mono fun e W' ⟨he, bel⟩ => ?_
  subst he
  exact ⟨_, rfl, _, _, _, [], _, [], hW', trodAll_mk1 (shut_bool Try.underlying4 _), (trodAll_cons_mk (Below.trod laidOut (by kernel_rfl) (of_decide_eq_true (by kernel_rfl)) k0 bel lt0) (trodAll_cons_mk (shut_string Try.underlying9 w1) trodAll_mk0)), rfl, bel.frame _, fun h => by cases h⟩

theorem over : Rows.fnExactSpokenOfRow.holds Try.pinned (OpenSpec.ofChange Rows.fnExactSpokenOfSpec) :=
  OpenClaim.holds_of_wide 16 Try.f16 rfl rfl rfl rfl rfl rfl rfl ⟨rfl, rfl, rfl, rfl, rfl⟩ rfl rfl rfl rfl rfl (by kernel_rfl) Try.func16 (by kernel_rfl)
    (of_decide_eq_true (by kernel_rfl)) (by unfold Func.isWrapper; first | (rw [if_pos (by decide +kernel)]; kernel_rfl) | (rw [if_neg (by decide +kernel)]; exact ⟨rfl, rfl⟩))
    (fun os started H enc _ => lifted os started H enc)
theorem proved : Rows.FnExactSpokenOfSaid := over
end Go.Proofs.Ytfcjhelhhefkkaa.fnExactSpokenOf
