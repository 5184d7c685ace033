/-
  FnExactReadShorter holds for every tongue, every list of texts, every text and every integer: ReadShorter answers as its model and leaves its arguments unmodified. No condition.
-/
import Derived.Test.YtpbinajjlambfaaRows
import Derived.Test.YtpbinajjlambfaaGT
import Derived.Test.YtpbinajjlambfaaA4
import Derived.Test.YtpbinajjlambfaaB4
namespace Go.Proofs.Ytpbinajjlambfaa.fnExactReadShorter
open Go.ChangeShapes Go.WideShapes Go.ChangeAt Go.RowKit
open Go.ChangeMaps (open_string shut_string)

theorem own : ownKnob Try.prog.godebug = none := by kernel_rfl
theorem laidOut : laidOutB Try.prog = true := by kernel_rfl

set_option maxRecDepth 100000 in
set_option maxHeartbeats 4000000 in
theorem walk (w : World) (v : Value) (t : Tg) (h : TngIn w v t) (Al : Option Addr) (cl : Nat) (l : List ByteArray) (hl : Strs w Al l.length cl l) (hcl : cl ≤ maxLen) (hlz : ∀ x ∈ l, x.size ≤ maxLen) (x : ByteArray) (hx : x.size ≤ maxLen) (bd : Int) (hb : (Lit.int .i64 bd).wf = true) :
    Calls Try.prog 9 #[v, .slice Al l.length cl, .string x, .int .i64 bd] w fun e w' => e = .returned (.bool true) ∧ Below w.heap.size w w' := by
  have hb2 : -9223372036854775808 ≤ bd ∧ bd ≤ 9223372036854775807 := by simpa [Lit.wf, IntKind.min, IntKind.max, IntKind.signed, IntKind.bits] using hb
  replace hb2 := Lib.hid hb2
  clear hb
  have HI := h
  obtain ⟨A1, c1, A2, c2, A3, c3, rfl, -⟩ := h.ex
  have hB0 : Below w.heap.size w (w.alloc (.cells #[.slice A1 t.us.length c1, .slice A2 t.bs.length c2, .slice A3 t.ns.length c3] 41)) := (Below.refl _ _).alloc (Nat.le_refl _) _
  have HX := Blk.new w 41 #[.slice A1 t.us.length c1, .slice A2 t.bs.length c2, .slice A3 t.ns.length c3]
  have hS := Lib.hid (szTongue_bd _ t _ (HI.below hB0 (Nat.le_refl _)))
  have HL := Lib.hid (fun W (hb : Below w.heap.size w W) => hl.below hb (Nat.le_refl _))
  have KZ := Lib.hid (fun r W (hb : Below w.heap.size w W) h0 h1 => szStringS_any Al l.length cl l r W (hl.below hb (Nat.le_refl _)) hcl hlz h0 h1)
  replace HI := Lib.hid HI
  replace hB0 := Lib.hid hB0
  replace HX := Lib.hid HX
  clear h hl hcl hlz
  have hx1 := hx
  unfold maxLen at hx1
  by_cases hxl : x.size ≤ 1048576
  · go_enter Try.func9, Try.ntmps9
    go_wp2_with (fail)
    refine hS.out.mono ?_
    rintro e w1 ⟨r, rfl, hr, hb1⟩
    have hB1 := hB0.out.trans (hb1.mono hB0.out.size)
    have hX1 := HX.out.below hb1 HX.out.lt
    clear hb1 hS HX hB0
    rcases hr with rfl | ⟨hr0, hr1, hf⟩
    · replace hB1 := Lib.hid hB1
      clear hX1
      go_wp2
      go_ret
      exact ⟨rfl, hB1.out⟩
    · have hr2 : ¬ r < 0 := by omega
      have hZ := Lib.hid (KZ.out r w1 hB1 hr0 hr1)
      replace hf := Lib.hid hf
      replace hX1 := Lib.hid hX1
      replace hB1 := Lib.hid hB1
      go_wp2_with (fail)
      refine hZ.out.mono ?_
      rintro e _ ⟨r', rfl, hr', rfl⟩
      clear hZ KZ
      rcases hr' with rfl | ⟨q0, q1, q2, q3⟩
      · go_wp2
        go_ret
        exact ⟨rfl, hB1.out⟩
      · have hq2 : ¬ r' < 0 := by omega
        have hll : l.length ≤ 1048576 := by omega
        have hlz : ∀ x ∈ l, x.size ≤ 1048576 := fun x hx => by have := q3 x hx; omega
        have hlz' : ∀ x ∈ l, x.size ≤ maxLen := fun x hx => by have := hlz x hx; unfold maxLen; omega
        replace hlz := Lib.hid hlz
        replace hlz' := Lib.hid hlz'
        clear q3
        obtain ⟨x0, x1, x2, -, -, -⟩ := blk3 hX1.out
        have hT := toTongue_any _ t w1 (HI.out.tng.below hB1.out (Nat.le_refl _)) hf.out
        go_wp2_with (fail)
        refine hT.mono ?_
        rintro e w2 ⟨v2, rfl, o2, b2⟩
        clear hT x0 x1 x2
        have hB2 := hB1.out.trans (b2.mono hB1.out.size)
        have hX2 := hX1.out.below b2 hX1.out.lt
        have hC2 := toStringS_any Al l.length cl l w2 (HL.out w2 hB2) hll
        clear b2 hB1 hX1
        replace hB2 := Lib.hid hB2
        replace hX2 := Lib.hid hX2
        replace o2 := Lib.hid o2
        go_wp2_with (fail)
        refine hC2.mono ?_
        rintro e w3 ⟨rfl, p3, b3⟩
        have s3 : Strs w3 (some ⟨w2.heap.size, 0, none⟩) l.length l.length l := by
          obtain ⟨_, _, e, s⟩ := strs_of_own p3
          cases e
          exact s
        have hB3 := hB2.out.trans (b3.mono hB2.out.size)
        have hX3 := hX2.out.below b3 hX2.out.lt
        have o3 := o2.out.below b3 (Nat.le_refl _)
        have hS3 := specReadShorter_any v2 t _ l.length l.length l x bd w3 o3.tng hf.out s3 (by omega) hlz'.out hx hb2.out
        clear b3 p3 hC2 hB2 hX2 o2 s3 o3
        replace hB3 := Lib.hid hB3
        replace hX3 := Lib.hid hX3
        go_wp2_with (fail)
        refine hS3.mono ?_
        rintro e w4 ⟨rfl, b4⟩
        have hB4 := hB3.out.trans (b4.mono hB3.out.size)
        have hX4 := hX3.out.below b4 hX3.out.lt
        clear hS3 b4 hB3 hX3
        obtain ⟨x0, x1, x2, -, -, -⟩ := blk3 hX4
        have hT := toTongue_any _ t w4 (HI.out.tng.below hB4 (Nat.le_refl _)) hf.out
        replace hB4 := Lib.hid hB4
        replace hX4 := Lib.hid hX4
        go_wp2_with (fail)
        refine hT.mono ?_
        rintro e w5 ⟨v5, rfl, o5, b5⟩
        clear hT x0 x1 x2
        have hB5 := hB4.out.trans (b5.mono hB4.out.size)
        have hX5 := hX4.out.below b5 hX4.out.lt
        obtain ⟨D1, d1, D2, d2, D3, d3, rfl⟩ : ∃ D1 d1 D2 d2 D3 d3, v5 = .agg #[.slice D1 t.us.length d1, .slice D2 t.bs.length d2, .slice D3 t.ns.length d3] := by
          obtain ⟨D1, d1, D2, d2, D3, d3, e, _⟩ := o5.tng.ex
          exact ⟨D1, d1, D2, d2, D3, d3, e⟩
        have hB6 := hB5.alloc hB5.size (.cells #[.slice D1 t.us.length d1, .slice D2 t.bs.length d2, .slice D3 t.ns.length d3] 26)
        have hX6 := hX5.alloc (.cells #[.slice D1 t.us.length d1, .slice D2 t.bs.length d2, .slice D3 t.ns.length d3] 26)
        have hZ6 := Blk.new w5 26 #[.slice D1 t.us.length d1, .slice D2 t.bs.length d2, .slice D3 t.ns.length d3]
        have o6 := o5.below ((Below.refl _ _).alloc (Nat.le_refl _) (.cells #[.slice D1 t.us.length d1, .slice D2 t.bs.length d2, .slice D3 t.ns.length d3] 26)) (Nat.le_refl _)
        have hC6 := toStringS_any Al l.length cl l _ (HL.out _ hB6) hll
        clear b5 hB4 hX4 hB5 hX5 o5
        replace hB6 := Lib.hid hB6
        replace hX6 := Lib.hid hX6
        replace hZ6 := Lib.hid hZ6
        replace o6 := Lib.hid o6
        replace hC6 := Lib.hid hC6
        go_wp2_with (fail)
        refine hC6.out.mono ?_
        rintro e w7 ⟨rfl, p7, b7⟩
        have hB7 := hB6.out.trans (b7.mono hB6.out.size)
        have hX7 := hX6.out.below b7 hX6.out.lt
        have hZ7 := hZ6.out.below b7 hZ6.out.lt
        have o7 := o6.out.below b7 (Nat.le_refl _)
        have hsz7 : (w5.alloc (.cells #[.slice D1 t.us.length d1, .slice D2 t.bs.length d2, .slice D3 t.ns.length d3] 26)).heap.size = w5.heap.size + 1 := by simp
        rw [hsz7] at p7 ⊢
        have s7 : Strs w7 (some ⟨w5.heap.size + 1, 0, none⟩) l.length l.length l := by
          obtain ⟨_, _, e, s⟩ := strs_of_own p7
          cases e
          exact s
        have hI7 := implReadShorter_any _ t _ l.length l.length l x bd w7 o7.tng hf.out s7 (by omega) hlz.out hx
        clear b7 hB6 hX6 hZ6 o6 hC6 hsz7 p7
        obtain ⟨z0, z1, z2, -, -, -⟩ := blk3 hZ7
        replace hB7 := Lib.hid hB7
        replace hX7 := Lib.hid hX7
        replace hZ7 := Lib.hid hZ7
        replace o7 := Lib.hid o7
        replace s7 := Lib.hid s7
        replace hI7 := Lib.hid hI7
        go_wp2_with (fail)
        refine hI7.out.mono ?_
        rintro e w8 ⟨rfl, b8⟩
        have hB8 := hB7.out.trans (b8.mono hB7.out.size)
        have hX8 := hX7.out.below b8 hX7.out.lt
        have hZ8 := hZ7.out.below b8 hZ7.out.lt
        have o8 := o7.out.below b8 (Nat.le_refl _)
        have s8 := s7.out.below b8 (Nat.le_refl _)
        clear b8 hB7 hX7 hZ7 o7 s7 hI7 z0 z1 z2
        obtain ⟨x0, x1, x2, -, -, -⟩ := blk3 hX8
        obtain ⟨z0, z1, z2, -, -, -⟩ := blk3 hZ8
        have hne : (readSB t l x bd != readSB t l x bd) = false := by simp
        have hne2 : (readSV t l x bd != readSV t l x bd) = false := by simp
        replace hB8 := Lib.hid hB8
        replace hX8 := Lib.hid hX8
        replace hZ8 := Lib.hid hZ8
        replace o8 := Lib.hid o8
        replace s8 := Lib.hid s8
        have HT := Lib.hid (fun W (hb : Below w8.heap.size w8 W) => toTongue_any _ t W (HI.out.tng.below (hB8.out.trans (hb.mono hB8.out.size)) (Nat.le_refl _)) hf.out)
        generalize readSB t l x bd = ok at *
        generalize readSV t l x bd = vv at *
        go_upto_region 16 with (fail)
        go_region_held3 (fun w' => (w'.cell? ⟨w.heap.size, 0, none⟩ = some (.slice A1 t.us.length c1) ∧ w'.cell? ⟨w.heap.size, 1, none⟩ = some (.slice A2 t.bs.length c2) ∧ w'.cell? ⟨w.heap.size, 2, none⟩ = some (.slice A3 t.ns.length c3)) ∧
            (w'.cell? ⟨w5.heap.size, 0, none⟩ = some (.slice D1 t.us.length d1) ∧ w'.cell? ⟨w5.heap.size, 1, none⟩ = some (.slice D2 t.bs.length d2) ∧ w'.cell? ⟨w5.heap.size, 2, none⟩ = some (.slice D3 t.ns.length d3)))
          (first | go_keep | exact hS9 | exact hSa)
          (first
            | (go_at_call 28; refine (HT.out _ (by first | exact (Below.refl _ _).drew | exact Below.refl _ _)).mono ?_; rintro e w9 ⟨v9, rfl, o9, b9'⟩; have b9 : Below w8.heap.size w8 w9 := ⟨b9'.os, b9'.tape, b9'.output, b9'.size, b9'.block⟩; obtain ⟨x0', x1', x2', -, -, -⟩ := blk3 (hX8.out.below b9 hX8.out.lt); obtain ⟨z0', z1', z2', -, -, -⟩ := blk3 (hZ8.out.below b9 hZ8.out.lt); have hS9 := And.intro (And.intro x0' (And.intro x1' x2')) (And.intro z0' (And.intro z1' z2')); have hE := Lib.hid (eqTongue_same _ _ t w9 (o8.out.tng.below b9 (Nat.le_refl _)) o9.tng hf.out); have hB9 := Lib.hid (hB8.out.trans (b9.mono hB8.out.size)); have hX9 := Lib.hid (hX8.out.below b9 hX8.out.lt); have hZ9 := Lib.hid (hZ8.out.below b9 hZ8.out.lt); have s9 := Lib.hid (s8.out.below b9 (Nat.le_refl _)); clear b9 b9' o9)
            | (go_at_call 30; refine hE.out.mono ?_; rintro e wa ⟨rfl, ba⟩; obtain ⟨x0'', x1'', x2'', -, -, -⟩ := blk3 (hX9.out.below ba hX9.out.lt); obtain ⟨z0'', z1'', z2'', -, -, -⟩ := blk3 (hZ9.out.below ba hZ9.out.lt); have hSa := And.intro (And.intro x0'' (And.intro x1'' x2'')) (And.intro z0'' (And.intro z1'' z2'')); have hBa := Lib.hid (hB9.out.trans (ba.mono hB9.out.size)); have sa := Lib.hid (s9.out.below ba (Nat.le_refl _)); clear ba))
        all_goals
          clear hS9 hSa
          have hCa := Lib.hid (toStringS_any Al l.length cl l wa (HL.out _ hBa.out) hll)
          go_wp2_with (fail)
          refine hCa.out.mono ?_
          rintro e wb ⟨rfl, pb, bb⟩
          have sb : Strs wb (some ⟨wa.heap.size, 0, none⟩) l.length l.length l := by
            obtain ⟨_, _, e, s⟩ := strs_of_own pb
            cases e
            exact s
          have hBb := hBa.out.trans (bb.mono hBa.out.size)
          have hEb := eqStringS_any _ _ l.length l.length l.length l.length l l wb (sa.out.below bb (Nat.le_refl _)) sb (by omega) (by omega)
          rw [decide_eq_true rfl] at hEb
          replace hEb := Lib.hid hEb
          replace hBb := Lib.hid hBb
          clear pb bb sb
          go_wp2_with (fail)
          refine hEb.out.mono ?_
          rintro e _ ⟨rfl, m, rfl⟩
          go_wp2
          go_ret
          exact ⟨rfl, below_drewN hBb.out m⟩
  · have hxl' : 1048576 < x.size := by omega
    go_enter Try.func9, Try.ntmps9
    go_wp2
    go_ret
    exact ⟨rfl, hB0.out⟩

set_option maxRecDepth 100000 in
theorem lifted (os : Os) (started : os.Started) (H : Type) (enc : TypeId × Value → H) :
    ReturnsInHanded {} Try.checked os 9 .any (Rows.fnExactReadShorterSpec.pre6 enc Try.prog Try.f9 Rows.fnExactReadShorterRow.domain false) (Rows.fnExactReadShorterSpec.post enc Try.prog Try.f9 false true false false) := by
  refine returnsInHanded_of_change (C := Try.checked) own started (by kernel_rfl) Try.func9
    (ChangeSpec.witness6 (enc := enc) (C := Try.checked) false ⟨#[], #[.agg #[.slice none 0 0, .slice none 0 0, .slice none 0 0], .slice none 0 0, .string ByteArray.empty, .int .i64 0], []⟩ 8 (by kernel_rfl) (by kernel_rfl) (by kernel_rfl) (by kernel_rfl)) ?_
  intro W base args ds gs before hval0 hW hcnd _
  have hval : ∀ (j : Nat) t v, Try.f9.params[j]? = some t → args[j]? = some v → Value.okWide Try.prog W .any base t v := hval0
  have hW' := hW
  obtain ⟨p, q, hA0, hV, rfl, hfz, hnd⟩ := hW
  have hA : DataW.TrodAll enc Try.prog W 0 (fun _ => true) true Try.f9.params.toList args.toList ds p := hA0
  rw [Try.params9] at hA hval
  obtain ⟨v0, vs0, d0, ds0, p0, q0, hargs, rfl, rfl, h0, r0⟩ := trodAll_cons hA
  obtain ⟨v1, vs1, d1, ds1, p1, q1, rfl, rfl, rfl, h1, r1⟩ := trodAll_cons r0
  obtain ⟨v2, vs2, d2, ds2, p2, q2, rfl, rfl, rfl, h2, r2⟩ := trodAll_cons r1
  obtain ⟨v3, vs3, d3, ds3, p3, q3, rfl, rfl, rfl, h3, r3⟩ := trodAll_cons r2
  obtain ⟨rfl, rfl, rfl⟩ := trodAll_nil r3
  obtain rfl : args = #[v0, v1, v2, v3] := by cases args; simp_all
  obtain ⟨rfl, rfl⟩ := trodVars_none hV
  have k0 := h0
  have lt0 : ∀ x ∈ p0, x.block < W.heap.size := by obtain ⟨m, hm⟩ := k0; exact DataW.trod_lt m _ _ _ hm
  obtain ⟨t0, n0⟩ := open_tongue (hval 0 41 v0 rfl rfl) h0
  have k1 := h1
  have lt1 : ∀ x ∈ p1, x.block < W.heap.size := by obtain ⟨m, hm⟩ := k1; exact DataW.trod_lt m _ _ _ hm
  obtain ⟨b1, n1, e1, rfl⟩ := okWide_slice Try.underlying23 (hval 1 23 v1 rfl rfl)
  obtain ⟨f1, hf1⟩ := h1
  obtain ⟨a1, c1, z1, ee1, s1, m1, w1⟩ := in_strs (v := .slice b1 n1 e1) hf1
  cases ee1
  obtain ⟨a2, rfl, rfl, rfl, w2⟩ := open_string Try.underlying9 (hval 2 9 v2 rfl rfl) h2
  obtain ⟨a3, rfl, rfl, rfl, w3⟩ := open_int Try.underlying3 (hval 3 3 v3 rfl rfl) h3
  clear hA0 hval0
  refine (walk W v0 t0 n0 _ _ z1 s1 m1 w1 a2 w2 a3 w3).mono fun e W' ⟨he, bel⟩ => ?_
  subst he
  exact ⟨_, rfl, _, _, _, [], _, [], hW', trodAll_mk1 (shut_bool Try.underlying4 _), (trodAll_cons_mk (Below.trod laidOut (by kernel_rfl) (of_decide_eq_true (by kernel_rfl)) k0 bel lt0) (trodAll_cons_mk (Below.trod laidOut (by kernel_rfl) (of_decide_eq_true (by kernel_rfl)) k1 bel lt1) (trodAll_cons_mk (shut_string Try.underlying9 w2) (trodAll_cons_mk (shut_int Try.underlying3 w3) trodAll_mk0)))), rfl, bel.frame _, fun h => by cases h⟩

theorem over : Rows.fnExactReadShorterRow.holds Try.pinned (OpenSpec.ofChange Rows.fnExactReadShorterSpec) :=
  OpenClaim.holds_of_wide 9 Try.f9 rfl rfl rfl rfl rfl rfl rfl ⟨rfl, rfl, rfl, rfl, rfl⟩ rfl rfl rfl rfl rfl (by kernel_rfl) Try.func9 (by kernel_rfl)
    (of_decide_eq_true (by kernel_rfl)) (by unfold Func.isWrapper; first | (rw [if_pos (by decide +kernel)]; kernel_rfl) | (rw [if_neg (by decide +kernel)]; exact ⟨rfl, rfl⟩))
    (fun os started H enc _ => lifted os started H enc)
theorem proved : Rows.FnExactReadShorterSaid := over
end Go.Proofs.Ytpbinajjlambfaa.fnExactReadShorter
