/-
  FnExactDeskOk holds for every desk: DeskOk answers as its model and leaves its argument unmodified. No condition.
-/
import Derived.Test.YtgkhhabfaacchaaRows
import Derived.Test.YtgkhhabfaacchaaOpenD
import Derived.Test.YtgkhhabfaacchaaIa
import Derived.Test.YtgkhhabfaacchaaJa
namespace Go.Proofs.Ytgkhhabfaacchaa.fnExactDeskOk
open Go.ChangeShapes Go.WideShapes Go.ChangeAt Go.RowKit
open Go.ChangeMaps (open_string shut_string)

theorem own : ownKnob Try.prog.godebug = none := by kernel_rfl
theorem laidOut : laidOutB Try.prog = true := by kernel_rfl

set_option maxRecDepth 100000 in
set_option maxHeartbeats 4000000 in
theorem walk (w : World) (v : Value) (d : Dk) (h : DskIn w v d) :
    Calls Try.prog 7 #[v] w fun e w' => e = .returned (.bool true) ∧ Below w.heap.size w w' := by
  have HI := h
  obtain ⟨A1, c1, A2, c2, A3, c3, A5, c5, rfl, -⟩ := h.ex
  have hB := (Below.refl w.heap.size w).alloc (Nat.le_refl _) (.cells #[.slice A1 d.t.us.length c1, .slice A2 d.t.bs.length c2, .slice A3 d.t.ns.length c3, .int .i64 d.now, .slice A5 d.past.length c5] 54)
  have kX := Blk.new w 54 #[.slice A1 d.t.us.length c1, .slice A2 d.t.bs.length c2, .slice A3 d.t.ns.length c3, .int .i64 d.now, .slice A5 d.past.length c5]
  have hS := Lib.hid (szDesk_any _ d _ (HI.below hB (Nat.le_refl _)))
  replace HI := Lib.hid HI
  replace hB := Lib.hid hB
  replace kX := Lib.hid kX
  clear h
  go_enter Try.func7, Try.ntmps7
  go_wp2_with (fail)
  refine hS.out.mono ?_
  rintro e w1 ⟨r, rfl, hr, b1⟩
  replace hB := Lib.hid (hB.out.trans (b1.mono hB.out.size))
  replace kX := Lib.hid (kX.out.below b1 kX.out.lt)
  clear b1 hS
  rcases hr with rfl | ⟨hr0, -, hf⟩
  · clear kX
    go_wp2
    go_ret
    exact ⟨rfl, hB.out⟩
  · have hr1 : ¬ r < 0 := by omega
    have hDin := Lib.hid (HI.out.dsk)
    have KT := Lib.hid (fun W (b : Below w.heap.size w W) => toDesk_any _ d W (hDin.out.below b (Nat.le_refl _)) hf)
    replace hf := Lib.hid hf
    obtain ⟨x0, x1, x2, x3, x4⟩ := (blk5 kX.out).1
    have K1 := Lib.hid (KT.out _ hB.out)
    go_wp2_with (fail)
    refine K1.out.mono ?_
    rintro e w2 ⟨v2, rfl, o2, b2⟩
    replace hB := Lib.hid (hB.out.trans (b2.mono hB.out.size))
    replace kX := Lib.hid (kX.out.below b2 kX.out.lt)
    have K2 := Lib.hid (specDeskOk_any v2 d w2 o2.own.dsk hf.out)
    clear b2 o2 x0 x1 x2 x3 x4 K1
    go_wp2_with (fail)
    refine K2.out.mono ?_
    rintro e w3 ⟨rfl, b3⟩
    replace hB := Lib.hid (hB.out.trans (b3.mono hB.out.size))
    replace kX := Lib.hid (kX.out.below b3 kX.out.lt)
    obtain ⟨x0, x1, x2, x3, x4⟩ := (blk5 kX.out).1
    have K3 := Lib.hid (KT.out _ hB.out)
    clear b3 K2
    go_wp2_with (go_at_call 30; refine K3.out.mono ?_; rintro e w4 ⟨v4, rfl, o4, b4⟩; obtain ⟨X1, k1, X2, k2, X3, k3, X5, k5, rfl, -⟩ := o4.own.dsk.ex; refine Hid.out ?_)
    have hAl := (Below.refl w4.heap.size w4).alloc (Nat.le_refl _) (.cells #[.slice X1 d.t.us.length k1, .slice X2 d.t.bs.length k2, .slice X3 d.t.ns.length k3, .int .i64 d.now, .slice X5 d.past.length k5] 28)
    have b4' := b4.trans (hAl.mono b4.size)
    replace hB := Lib.hid (hB.out.trans (b4'.mono hB.out.size))
    replace kX := Lib.hid (kX.out.below b4' kX.out.lt)
    have kZ := Lib.hid (Blk.new w4 28 #[.slice X1 d.t.us.length k1, .slice X2 d.t.bs.length k2, .slice X3 d.t.ns.length k3, .int .i64 d.now, .slice X5 d.past.length k5])
    have oZ := Lib.hid (o4.own.dsk.below hAl (Nat.le_refl _))
    clear hAl b4 b4' o4 x0 x1 x2 x3 x4 K3
    refine Lib.hid ?_
    go_upto_region 7 with (fail)
    generalize w4.alloc (.cells #[.slice X1 d.t.us.length k1, .slice X2 d.t.bs.length k2, .slice X3 d.t.ns.length k3, .int .i64 d.now, .slice X5 d.past.length k5] 28) = W5 at *
    obtain ⟨z0, z1, z2, z3, z4⟩ := (blk5 kZ.out).1
    have K4 := Lib.hid (implDeskOk_any _ d W5 oZ.out hf.out)
    generalize hnb : dkOk d = nb at *
    replace hnb := Lib.hid hnb
    have hne : (nb != nb) = false := by simp
    go_wp2_with (fail)
    refine K4.out.mono ?_
    rintro e w6 ⟨rfl, b6⟩
    replace hB := Lib.hid (hB.out.trans (b6.mono hB.out.size))
    replace kX := Lib.hid (kX.out.below b6 kX.out.lt)
    replace kZ := Lib.hid (kZ.out.below b6 kZ.out.lt)
    replace oZ := Lib.hid (oZ.out.below b6 (Nat.le_refl _))
    clear b6 z0 z1 z2 z3 z4 K4
    obtain ⟨z0, z1, z2, z3, z4⟩ := (blk5 kZ.out).1
    obtain ⟨x0, x1, x2, x3, x4⟩ := (blk5 kX.out).1
    have hZc := Lib.hid (fun W (h : Below w6.heap.size w6 W) => (blk5 (kZ.out.below h kZ.out.lt)).1)
    have hXc := Lib.hid (fun W (h : Below w6.heap.size w6 W) => (blk5 (kX.out.below h kX.out.lt)).1)
    have hZt := Lib.hid (fun W (h : Below w6.heap.size w6 W) => oZ.out.below h (Nat.le_refl _))
    have hXt := Lib.hid (fun W (h : Below w6.heap.size w6 W) => KT.out W (hB.out.trans (h.mono hB.out.size)))
    go_upto_region 10 with (fail)
    go_region_held3 (fun w' => (w'.cell? ⟨w.heap.size, 0, none⟩ = some (.slice A1 d.t.us.length c1) ∧ w'.cell? ⟨w.heap.size, 1, none⟩ = some (.slice A2 d.t.bs.length c2) ∧ w'.cell? ⟨w.heap.size, 2, none⟩ = some (.slice A3 d.t.ns.length c3) ∧ w'.cell? ⟨w.heap.size, 3, none⟩ = some (.int .i64 d.now) ∧ w'.cell? ⟨w.heap.size, 4, none⟩ = some (.slice A5 d.past.length c5)) ∧
        (w'.cell? ⟨w4.heap.size, 0, none⟩ = some (.slice X1 d.t.us.length k1) ∧ w'.cell? ⟨w4.heap.size, 1, none⟩ = some (.slice X2 d.t.bs.length k2) ∧ w'.cell? ⟨w4.heap.size, 2, none⟩ = some (.slice X3 d.t.ns.length k3) ∧ w'.cell? ⟨w4.heap.size, 3, none⟩ = some (.int .i64 d.now) ∧ w'.cell? ⟨w4.heap.size, 4, none⟩ = some (.slice X5 d.past.length k5)))
      (first | go_keep)
      (first
        | (go_at_call 30; refine (hXt.out _ (by first | exact (Below.refl _ _).drew | exact Below.refl _ _)).mono ?_; rintro e w9 ⟨v9, rfl, o9, b9'⟩; have b9 : Below w6.heap.size w6 w9 := ⟨b9'.os, b9'.tape, b9'.output, b9'.size, b9'.block⟩; obtain ⟨p0, p1, p2, p3, p4⟩ := hXc.out _ b9; obtain ⟨q0, q1, q2, q3, q4⟩ := hZc.out _ b9; have hE := Lib.hid (eqDesk_same _ _ d w9 (hZt.out _ b9) o9.own.dsk hf.out); replace b9 := Lib.hid b9; clear b9' o9)
        | (go_at_call 31; refine hE.out.mono ?_; rintro e wa ⟨rfl, ba'⟩; have ba := b9.out.trans (ba'.mono b9.out.size); obtain ⟨r0, r1, r2, r3, r4⟩ := hXc.out _ ba; obtain ⟨s0, s1, s2, s3, s4⟩ := hZc.out _ ba; replace ba := Lib.hid ba; clear ba'))
    all_goals
      have hEnd := Lib.hid (hB.out.trans (ba.out.mono hB.out.size))
      go_wp2
      go_ret
      exact ⟨rfl, hEnd.out⟩

set_option maxRecDepth 100000 in
theorem lifted (os : Os) (started : os.Started) (H : Type) (enc : TypeId × Value → H) :
    ReturnsInHanded {} Try.checked os 7 .any (Rows.fnExactDeskOkSpec.pre6 enc Try.prog Try.f7 Rows.fnExactDeskOkRow.domain false) (Rows.fnExactDeskOkSpec.post enc Try.prog Try.f7 false true false false) := by
  refine returnsInHanded_of_change (C := Try.checked) own started (by kernel_rfl) Try.func7
    (ChangeSpec.witness6 (enc := enc) (C := Try.checked) false ⟨#[], #[.agg #[.slice none 0 0, .slice none 0 0, .slice none 0 0, .int .i64 0, .slice none 0 0]], []⟩ 8 (by kernel_rfl) (by kernel_rfl) (by kernel_rfl) (by kernel_rfl)) ?_
  intro W base args ds gs before hval0 hW hcnd _
  have hval : ∀ (j : Nat) t v, Try.f7.params[j]? = some t → args[j]? = some v → Value.okWide Try.prog W .any base t v := hval0
  have hW' := hW
  obtain ⟨p, q, hA0, hV, rfl, hfz, hnd⟩ := hW
  have hA : DataW.TrodAll enc Try.prog W 0 (fun _ => true) true Try.f7.params.toList args.toList ds p := hA0
  rw [Try.params7] at hA hval
  obtain ⟨v0, vs0, d0, ds0, p0, q0, hargs, rfl, rfl, h0, r0⟩ := trodAll_cons hA
  obtain ⟨rfl, rfl, rfl⟩ := trodAll_nil r0
  obtain rfl : args = #[v0] := by cases args; simp_all
  obtain ⟨rfl, rfl⟩ := trodVars_none hV
  have k0 := h0
  have lt0 : ∀ x ∈ p0, x.block < W.heap.size := by obtain ⟨m, hm⟩ := k0; exact DataW.trod_lt m _ _ _ hm
  obtain ⟨t0, n0⟩ := open_desk (hval 0 54 v0 rfl rfl) h0
  clear hA0 hval0
  refine (walk W v0 t0 n0).mono fun e W' ⟨he, bel⟩ => ?_
  subst he
  exact ⟨_, rfl, _, _, _, [], _, [], hW', trodAll_mk1 (shut_bool Try.underlying4 _), (trodAll_cons_mk (Below.trod laidOut (by kernel_rfl) (of_decide_eq_true (by kernel_rfl)) k0 bel lt0) trodAll_mk0), rfl, bel.frame _, fun h => by cases h⟩

theorem over : Rows.fnExactDeskOkRow.holds Try.pinned (OpenSpec.ofChange Rows.fnExactDeskOkSpec) :=
  OpenClaim.holds_of_wide 7 Try.f7 rfl rfl rfl rfl rfl rfl rfl ⟨rfl, rfl, rfl, rfl, rfl⟩ rfl rfl rfl rfl rfl (by kernel_rfl) Try.func7 (by kernel_rfl)
    (of_decide_eq_true (by kernel_rfl)) (by unfold Func.isWrapper; first | (rw [if_pos (by decide +kernel)]; kernel_rfl) | (rw [if_neg (by decide +kernel)]; exact ⟨rfl, rfl⟩))
    (fun os started H enc _ => lifted os started H enc)
theorem proved : Rows.FnExactDeskOkSaid := over
end Go.Proofs.Ytgkhhabfaacchaa.fnExactDeskOk
