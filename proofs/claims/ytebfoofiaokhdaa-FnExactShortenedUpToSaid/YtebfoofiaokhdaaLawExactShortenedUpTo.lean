/-
  FnExactShortenedUpTo holds for every tongue, every two integers and every text: ShortenedUpTo answers as its model and leaves its arguments unmodified. No condition.
-/
import Derived.Test.YtebfoofiaokhdaaRows
import Derived.Test.YtebfoofiaokhdaaGT
import Derived.Test.YtebfoofiaokhdaaA5
import Derived.Test.YtebfoofiaokhdaaB5
namespace Go.Proofs.Ytebfoofiaokhdaa.fnExactShortenedUpTo
open Go.ChangeShapes Go.WideShapes Go.ChangeAt Go.RowKit
open Go.ChangeMaps (open_string shut_string)

theorem own : ownKnob Try.prog.godebug = none := by kernel_rfl
theorem laidOut : laidOutB Try.prog = true := by kernel_rfl

set_option maxRecDepth 100000 in
set_option maxHeartbeats 4000000 in
theorem walk (w : World) (v : Value) (t : Tg) (h : TngIn w v t) (a : Int) (ha : (Lit.int .i64 a).wf = true) (x : ByteArray) (hx : x.size ≤ maxLen) (bd : Int) (hb : (Lit.int .i64 bd).wf = true) :
    Calls Try.prog 14 #[v, .int .i64 a, .string x, .int .i64 bd] w fun e w' => e = .returned (.bool true) ∧ Below w.heap.size w w' := by
  have hb2 : -9223372036854775808 ≤ bd ∧ bd ≤ 9223372036854775807 := by simpa [Lit.wf, IntKind.min, IntKind.max, IntKind.signed, IntKind.bits] using hb
  replace hb2 := Lib.hid hb2
  clear hb
  have ha2 : -9223372036854775808 ≤ a ∧ a ≤ 9223372036854775807 := by simpa [Lit.wf, IntKind.min, IntKind.max, IntKind.signed, IntKind.bits] using ha
  replace ha2 := Lib.hid ha2
  clear ha
  have HI := h
  obtain ⟨A1, c1, A2, c2, A3, c3, rfl, -⟩ := h.ex
  have hB0 : Below w.heap.size w (w.alloc (.cells #[.slice A1 t.us.length c1, .slice A2 t.bs.length c2, .slice A3 t.ns.length c3] 38)) := (Below.refl _ _).alloc (Nat.le_refl _) _
  have HX := Blk.new w 38 #[.slice A1 t.us.length c1, .slice A2 t.bs.length c2, .slice A3 t.ns.length c3]
  have hS := Lib.hid (szTongue_any _ t _ (HI.below hB0 (Nat.le_refl _)))
  replace HI := Lib.hid HI
  replace hB0 := Lib.hid hB0
  replace HX := Lib.hid HX
  clear h
  have hx1 := hx
  unfold maxLen at hx1
  by_cases hxl : x.size ≤ 1048576
  · go_enter Try.func14, Try.ntmps14
    go_wp2_with (fail)
    refine hS.out.mono ?_
    rintro e w1 ⟨r, rfl, hr, hb1⟩
    have hB1 := hB0.out.trans (hb1.mono hB0.out.size)
    have hX1 := HX.out.below hb1 HX.out.lt
    clear hb1 hS HX hB0
    rcases hr with rfl | ⟨hr0, hf⟩
    · replace hB1 := Lib.hid hB1
      clear hX1
      go_wp2
      go_ret
      exact ⟨rfl, hB1.out⟩
    · have hr1 : ¬ r < 0 := by omega
      obtain ⟨x0, x1, x2, -, -, -⟩ := blk3 hX1
      have hT := toTongue_any _ t w1 (HI.out.tng.below hB1 (Nat.le_refl _)) hf
      replace hf := Lib.hid hf
      replace hX1 := Lib.hid hX1
      replace hB1 := Lib.hid hB1
      go_wp2_with (fail)
      refine hT.mono ?_
      rintro e w2 ⟨v2, rfl, o2, b2⟩
      clear hT x0 x1 x2
      have hB2 := hB1.out.trans (b2.mono hB1.out.size)
      have hX2 := hX1.out.below b2 hX1.out.lt
      have hS2 := specShortened_any v2 t a x bd w2 o2.tng hf.out ha2.out hx hb2.out
      clear b2 hB1 hX1 o2
      replace hB2 := Lib.hid hB2
      replace hX2 := Lib.hid hX2
      go_wp2_with (fail)
      refine hS2.mono ?_
      rintro e w3 ⟨rfl, b3⟩
      have hB3 := hB2.out.trans (b3.mono hB2.out.size)
      have hX3 := hX2.out.below b3 hX2.out.lt
      clear hS2 b3 hB2 hX2
      obtain ⟨x0, x1, x2, -, -, -⟩ := blk3 hX3
      have hT := toTongue_any _ t w3 (HI.out.tng.below hB3 (Nat.le_refl _)) hf.out
      replace hB3 := Lib.hid hB3
      replace hX3 := Lib.hid hX3
      go_wp2_with (fail)
      refine hT.mono ?_
      rintro e w4 ⟨v4, rfl, o4, b4⟩
      clear hT x0 x1 x2
      have hB4 := hB3.out.trans (b4.mono hB3.out.size)
      have hX4 := hX3.out.below b4 hX3.out.lt
      obtain ⟨D1, d1, D2, d2, D3, d3, rfl⟩ : ∃ D1 d1 D2 d2 D3 d3, v4 = .agg #[.slice D1 t.us.length d1, .slice D2 t.bs.length d2, .slice D3 t.ns.length d3] := by
        obtain ⟨D1, d1, D2, d2, D3, d3, e, _⟩ := o4.tng.ex
        exact ⟨D1, d1, D2, d2, D3, d3, e⟩
      have hB5 := hB4.alloc hB4.size (.cells #[.slice D1 t.us.length d1, .slice D2 t.bs.length d2, .slice D3 t.ns.length d3] 26)
      have hX5 := hX4.alloc (.cells #[.slice D1 t.us.length d1, .slice D2 t.bs.length d2, .slice D3 t.ns.length d3] 26)
      have hZ5 := Blk.new w4 26 #[.slice D1 t.us.length d1, .slice D2 t.bs.length d2, .slice D3 t.ns.length d3]
      have o5 := o4.below ((Below.refl _ _).alloc (Nat.le_refl _) (.cells #[.slice D1 t.us.length d1, .slice D2 t.bs.length d2, .slice D3 t.ns.length d3] 26)) (Nat.le_refl _)
      have hI5 := implShortened_any _ t a x bd _ o5.tng hf.out hx
      clear b4 hB3 hX3 hB4 hX4 o4
      replace hB5 := Lib.hid hB5
      replace hX5 := Lib.hid hX5
      replace hZ5 := Lib.hid hZ5
      replace o5 := Lib.hid o5
      replace hI5 := Lib.hid hI5
      go_wp2_with (fail)
      refine hI5.out.mono ?_
      rintro e w6 ⟨rfl, b6⟩
      have hB6 := hB5.out.trans (b6.mono hB5.out.size)
      have hX6 := hX5.out.below b6 hX5.out.lt
      have hZ6 := hZ5.out.below b6 hZ5.out.lt
      have o6 := o5.out.below b6 (Nat.le_refl _)
      clear b6 hB5 hX5 hZ5 o5 hI5
      obtain ⟨x0, x1, x2, -, -, -⟩ := blk3 hX6
      obtain ⟨z0, z1, z2, -, -, -⟩ := blk3 hZ6
      have hne : (countA t a x bd != countA t a x bd) = false := by simp
      replace hB6 := Lib.hid hB6
      replace hX6 := Lib.hid hX6
      replace hZ6 := Lib.hid hZ6
      replace o6 := Lib.hid o6
      have HT := Lib.hid (fun W (hb : Below w6.heap.size w6 W) => toTongue_any _ t W (HI.out.tng.below (hB6.out.trans (hb.mono hB6.out.size)) (Nat.le_refl _)) hf.out)
      generalize countA t a x bd = vv at *
      go_wp2
      go_region_held3 (fun w' => (w'.cell? ⟨w.heap.size, 0, none⟩ = some (.slice A1 t.us.length c1) ∧ w'.cell? ⟨w.heap.size, 1, none⟩ = some (.slice A2 t.bs.length c2) ∧ w'.cell? ⟨w.heap.size, 2, none⟩ = some (.slice A3 t.ns.length c3)) ∧
          (w'.cell? ⟨w4.heap.size, 0, none⟩ = some (.slice D1 t.us.length d1) ∧ w'.cell? ⟨w4.heap.size, 1, none⟩ = some (.slice D2 t.bs.length d2) ∧ w'.cell? ⟨w4.heap.size, 2, none⟩ = some (.slice D3 t.ns.length d3)))
        (first | go_keep | exact hS7 | exact hS8)
        (first
          | (go_at_call 32; refine (HT.out _ (by first | exact (Below.refl _ _).drew | exact Below.refl _ _)).mono ?_; rintro e w7 ⟨v7, rfl, o7, b7'⟩; have b7 : Below w6.heap.size w6 w7 := ⟨b7'.os, b7'.tape, b7'.output, b7'.size, b7'.block⟩; obtain ⟨x0', x1', x2', -, -, -⟩ := blk3 (hX6.out.below b7 hX6.out.lt); obtain ⟨z0', z1', z2', -, -, -⟩ := blk3 (hZ6.out.below b7 hZ6.out.lt); have hS7 := And.intro (And.intro x0' (And.intro x1' x2')) (And.intro z0' (And.intro z1' z2')); have hE := Lib.hid (eqTongue_same _ _ t w7 (o6.out.tng.below b7 (Nat.le_refl _)) o7.tng hf.out); have hB7 := Lib.hid (hB6.out.trans (b7.mono hB6.out.size)); have hX7 := Lib.hid (hX6.out.below b7 hX6.out.lt); have hZ7 := Lib.hid (hZ6.out.below b7 hZ6.out.lt); clear b7 b7' o7)
          | (go_at_call 33; refine hE.out.mono ?_; rintro e w8 ⟨rfl, b8⟩; obtain ⟨x0'', x1'', x2'', -, -, -⟩ := blk3 (hX7.out.below b8 hX7.out.lt); obtain ⟨z0'', z1'', z2'', -, -, -⟩ := blk3 (hZ7.out.below b8 hZ7.out.lt); have hS8 := And.intro (And.intro x0'' (And.intro x1'' x2'')) (And.intro z0'' (And.intro z1'' z2'')); have hB8 := Lib.hid (hB7.out.trans (b8.mono hB7.out.size)); clear b8))
      all_goals
        clear hS7 hS8
        go_wp2
        go_ret
        exact ⟨rfl, hB8.out⟩
  · have hxl' : 1048576 < x.size := by omega
    go_enter Try.func14, Try.ntmps14
    go_wp2
    go_ret
    exact ⟨rfl, hB0.out⟩

set_option maxRecDepth 100000 in
theorem lifted (os : Os) (started : os.Started) (H : Type) (enc : TypeId × Value → H) :
    ReturnsInHanded {} Try.checked os 14 .any (Rows.fnExactShortenedUpToSpec.pre6 enc Try.prog Try.f14 Rows.fnExactShortenedUpToRow.domain false) (Rows.fnExactShortenedUpToSpec.post enc Try.prog Try.f14 false true false false) := by
  refine returnsInHanded_of_change (C := Try.checked) own started (by kernel_rfl) Try.func14
    (ChangeSpec.witness6 (enc := enc) (C := Try.checked) false ⟨#[], #[.agg #[.slice none 0 0, .slice none 0 0, .slice none 0 0], .int .i64 0, .string ByteArray.empty, .int .i64 0], []⟩ 8 (by kernel_rfl) (by kernel_rfl) (by kernel_rfl) (by kernel_rfl)) ?_
  intro W base args ds gs before hval0 hW hcnd _
  have hval : ∀ (j : Nat) t v, Try.f14.params[j]? = some t → args[j]? = some v → Value.okWide Try.prog W .any base t v := hval0
  have hW' := hW
  obtain ⟨p, q, hA0, hV, rfl, hfz, hnd⟩ := hW
  have hA : DataW.TrodAll enc Try.prog W 0 (fun _ => true) true Try.f14.params.toList args.toList ds p := hA0
  rw [Try.params14] at hA hval
  obtain ⟨v0, vs0, d0, ds0, p0, q0, hargs, rfl, rfl, h0, r0⟩ := trodAll_cons hA
  obtain ⟨v1, vs1, d1, ds1, p1, q1, rfl, rfl, rfl, h1, r1⟩ := trodAll_cons r0
  obtain ⟨v2, vs2, d2, ds2, p2, q2, rfl, rfl, rfl, h2, r2⟩ := trodAll_cons r1
  obtain ⟨v3, vs3, d3, ds3, p3, q3, rfl, rfl, rfl, h3, r3⟩ := trodAll_cons r2
  obtain ⟨rfl, rfl, rfl⟩ := trodAll_nil r3
  obtain rfl : args = #[v0, v1, v2, v3] := by cases args; simp_all
  obtain ⟨rfl, rfl⟩ := trodVars_none hV
  have k0 := h0
  have lt0 : ∀ x ∈ p0, x.block < W.heap.size := by obtain ⟨m, hm⟩ := k0; exact DataW.trod_lt m _ _ _ hm
  obtain ⟨t0, n0⟩ := open_tongue (hval 0 38 v0 rfl rfl) h0
  obtain ⟨a1, rfl, rfl, rfl, w1⟩ := open_int Try.underlying3 (hval 1 3 v1 rfl rfl) h1
  obtain ⟨a2, rfl, rfl, rfl, w2⟩ := open_string Try.underlying9 (hval 2 9 v2 rfl rfl) h2
  obtain ⟨a3, rfl, rfl, rfl, w3⟩ := open_int Try.underlying3 (hval 3 3 v3 rfl rfl) h3
  clear hA0 hval0
  refine (walk W v0 t0 n0 a1 w1 a2 w2 a3 w3).mono fun e W' ⟨he, bel⟩ => ?_
  subst he
  exact ⟨_, rfl, _, _, _, [], _, [], hW', trodAll_mk1 (shut_bool Try.underlying4 _), (trodAll_cons_mk (Below.trod laidOut (by kernel_rfl) (of_decide_eq_true (by kernel_rfl)) k0 bel lt0) (trodAll_cons_mk (shut_int Try.underlying3 w1) (trodAll_cons_mk (shut_string Try.underlying9 w2) (trodAll_cons_mk (shut_int Try.underlying3 w3) trodAll_mk0)))), rfl, bel.frame _, fun h => by cases h⟩

theorem over : Rows.fnExactShortenedUpToRow.holds Try.pinned (OpenSpec.ofChange Rows.fnExactShortenedUpToSpec) :=
  OpenClaim.holds_of_wide 14 Try.f14 rfl rfl rfl rfl rfl rfl rfl ⟨rfl, rfl, rfl, rfl, rfl⟩ rfl rfl rfl rfl rfl (by kernel_rfl) Try.func14 (by kernel_rfl)
    (of_decide_eq_true (by kernel_rfl)) (by unfold Func.isWrapper; first | (rw [if_pos (by decide +kernel)]; kernel_rfl) | (rw [if_neg (by decide +kernel)]; exact ⟨rfl, rfl⟩))
    (fun os started H enc _ => lifted os started H enc)
theorem proved : Rows.FnExactShortenedUpToSaid := over
end Go.Proofs.Ytebfoofiaokhdaa.fnExactShortenedUpTo
