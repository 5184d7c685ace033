/-
  FnDeskNew holds for every input: the drawn tongue and number are answered by DeskNew as by its model; the desk is one, of that tongue and number, without any of before, if the number has a name, and the zero value if not. No condition.
-/
import Derived.Test.YtgkhhabfaacchaaRows
import Derived.Test.YtgkhhabfaacchaaDrawK
import Derived.Test.YtgkhhabfaacchaaDSa
import Derived.Test.YtgkhhabfaacchaaIe
import Derived.Test.YtgkhhabfaacchaaJc
namespace Go.Proofs.Ytgkhhabfaacchaa.fnDeskNew
open Go.ChangeShapes Go.WideShapes Go.ChangeAt Go.RowKit
open Go.ChangeMaps (open_string shut_string)

theorem own : ownKnob Try.prog.godebug = none := by kernel_rfl
theorem laidOut : laidOutB Try.prog = true := by kernel_rfl

theorem dkNew_fine' {t : Tg} {n : Int} (hf : t.Fine) (hn : -9223372036854775808 ≤ n ∧ n ≤ 9223372036854775807) : (dkNew t n).Fine := by
  unfold dkNew
  split
  · exact ⟨hf, hn, by simp, fun k => by simp⟩
  · exact noDk_fine

set_option maxRecDepth 100000 in
set_option maxHeartbeats 8000000 in
theorem walk (w : World) (A : Option Addr) (n c : Nat) (xs : List Int) (h : Ints w .u8 A n c xs) (hwf : ∀ x ∈ xs, (Lit.int .u8 x).wf = true) (hc : c ≤ maxLen) :
    Calls Try.prog 4 #[.slice A n c] w fun e w' => e = .returned (.bool true) ∧ Below w.heap.size w w' := by
  have hn : n ≤ 9223372036854775807 := by have := h.le; unfold maxLen at hc; omega
  by_cases hl : n ≤ 1048576
  · have HD := Lib.hid (drawDeskNew_any A n c xs w h hl hwf hc)
    clear h hwf hc
    go_enter Try.func4, Try.ntmps4
    go_wp2_with (fail)
    refine HD.out.mono ?_
    rintro e w1 ⟨v, t, m, rfl, ho, hsm, hm, hb⟩
    obtain ⟨A1, c1, A2, c2, A3, c3, rfl⟩ := ho.shape
    have hf := Lib.hid (hsm.fine (by omega))
    have hba := (Below.refl w1.heap.size w1).alloc (Nat.le_refl _) (.cells #[.slice A1 t.us.length c1, .slice A2 t.bs.length c2, .slice A3 t.ns.length c3] 26)
    have S := Lib.hid (⟨hb.trans (hba.mono hb.size), Blk.new w1 26 #[.slice A1 t.us.length c1, .slice A2 t.bs.length c2, .slice A3 t.ns.length c3], ho.tng.below hba (Nat.le_refl _)⟩ : LSt w w1.heap.size #[.slice A1 t.us.length c1, .slice A2 t.bs.length c2, .slice A3 t.ns.length c3] t (w1.alloc (.cells #[.slice A1 t.us.length c1, .slice A2 t.bs.length c2, .slice A3 t.ns.length c3] 26)))
    clear ho hsm hb hba HD
    go_upto_region 4 with (fail)
    generalize w1.alloc (.cells #[.slice A1 t.us.length c1, .slice A2 t.bs.length c2, .slice A3 t.ns.length c3] 26) = W at *
    obtain ⟨z0, z1, z2, -, -, -⟩ := blk3 S.out.hz
    have K1 := Lib.hid (implDeskNew_any _ t m W S.out.ht hf.out (by omega))
    have KS := Lib.hid (fun W' (b : Tng W' (.agg #[.slice A1 t.us.length c1, .slice A2 t.bs.length c2, .slice A3 t.ns.length c3]) t) => specDeskNew_any _ t m W' b hf.out (by omega))
    have hnew := Lib.hid (fun (e : namedB t m = true) => dk_new_ok e)
    have hno := Lib.hid (fun (e : namedB t m = false) => dk_new_no e)
    have KN := Lib.hid (fun W' (b : Tng W' (.agg #[.slice A1 t.us.length c1, .slice A2 t.bs.length c2, .slice A3 t.ns.length c3]) t) => implNameOf_any _ t m W' b hf.out (by omega))
    generalize namedB t m = nb at *
    generalize nameOf t m = nm at *
    obtain ⟨u, hu⟩ : ∃ u, dkNew t m = u := ⟨_, rfl⟩
    rw [hu] at K1 KS hnew hno
    replace hu := Lib.hid hu
    have hne : (nb != nb) = false := by simp
    go_wp2_with (go_at_call 16; refine K1.out.mono ?_; rintro e w2 ⟨v2, rfl, o2, b2⟩; obtain ⟨X1, k1, X2, k2, X3, k3, X5, k5, rfl, -⟩ := o2.dsk.ex; refine Hid.out ?_)
    have hA2 := (Below.refl w2.heap.size w2).alloc (Nat.le_refl _) (.cells #[.slice X1 u.t.us.length k1, .slice X2 u.t.bs.length k2, .slice X3 u.t.ns.length k3, .int .i64 u.now, .slice X5 u.past.length k5] 28)
    have S2 := Lib.hid (S.out.step (b2.trans (hA2.mono b2.size)))
    have OX := Lib.hid (o2.dsk.below hA2 (Nat.le_refl _))
    have kX := Lib.hid (Blk.new w2 28 #[.slice X1 u.t.us.length k1, .slice X2 u.t.bs.length k2, .slice X3 u.t.ns.length k3, .int .i64 u.now, .slice X5 u.past.length k5])
    clear b2 hA2 o2 z0 z1 z2 K1 S
    refine Lib.hid ?_
    go_upto_region 5 with (fail)
    generalize w2.alloc (.cells #[.slice X1 u.t.us.length k1, .slice X2 u.t.bs.length k2, .slice X3 u.t.ns.length k3, .int .i64 u.now, .slice X5 u.past.length k5] 28) = W3 at *
    generalize w2.heap.size = qx at *
    obtain ⟨z0, z1, z2, -, -, -⟩ := blk3 S2.out.hz
    have K2 := Lib.hid (KS.out W3 S2.out.ht)
    go_wp2_with (go_at_call 17; refine K2.out.mono ?_; rintro e w4 ⟨v4, rfl, o4, b4⟩; obtain ⟨Y1, j1, Y2, j2, Y3, j3, Y5, j5, rfl, -⟩ := o4.dsk.ex; refine Hid.out ?_)
    have hA4 := (Below.refl w4.heap.size w4).alloc (Nat.le_refl _) (.cells #[.slice Y1 u.t.us.length j1, .slice Y2 u.t.bs.length j2, .slice Y3 u.t.ns.length j3, .int .i64 u.now, .slice Y5 u.past.length j5] 28)
    have b4' := b4.trans (hA4.mono b4.size)
    have S4 := Lib.hid (S2.out.step b4')
    have OX4 := Lib.hid (OX.out.below b4' (Nat.le_refl _))
    have kX4 := Lib.hid (kX.out.below b4' kX.out.lt)
    have OY := Lib.hid (o4.dsk.below hA4 (Nat.le_refl _))
    have kY := Lib.hid (Blk.new w4 28 #[.slice Y1 u.t.us.length j1, .slice Y2 u.t.bs.length j2, .slice Y3 u.t.ns.length j3, .int .i64 u.now, .slice Y5 u.past.length j5])
    clear b4 b4' hA4 o4 z0 z1 z2 K2 S2 OX kX KS
    refine Lib.hid ?_
    go_upto_region 6 with (fail)
    generalize w4.alloc (.cells #[.slice Y1 u.t.us.length j1, .slice Y2 u.t.bs.length j2, .slice Y3 u.t.ns.length j3, .int .i64 u.now, .slice Y5 u.past.length j5] 28) = W5 at *
    generalize w4.heap.size = qy at *
    obtain ⟨x0, x1, x2, x3, x4⟩ := (blk5 kX4.out).1
    obtain ⟨y0, y1, y2, y3, y4⟩ := (blk5 kY.out).1
    have huf : Hid u.Fine := by rw [← hu.out]; exact dkNew_fine' hf.out (by omega)
    have K3 := Lib.hid (sameDesk_same _ _ u W5 OX4.out OY.out huf.out)
    go_wp2_with (fail)
    refine K3.out.mono ?_
    rintro e w6 ⟨rfl, b6⟩
    have S6 := Lib.hid (S4.out.step b6)
    have OX6 := Lib.hid (OX4.out.below b6 (Nat.le_refl _))
    have kX6 := Lib.hid (kX4.out.below b6 kX4.out.lt)
    clear b6 x0 x1 x2 x3 x4 y0 y1 y2 y3 y4 K3 S4 OX4 kX4 OY kY
    obtain ⟨x0, x1, x2, x3, x4⟩ := (blk5 kX6.out).1
    obtain ⟨z0, z1, z2, -, -, -⟩ := blk3 S6.out.hz
    have K4 := Lib.hid (KN.out w6 S6.out.ht)
    go_wp2_with (fail)
    refine K4.out.mono ?_
    rintro e w7 ⟨v7, rfl, -, b7⟩
    have S7 := Lib.hid (S6.out.step b7)
    have OX7 := Lib.hid (OX6.out.below b7 (Nat.le_refl _))
    have kX7 := Lib.hid (kX6.out.below b7 kX6.out.lt)
    clear b7 x0 x1 x2 x3 x4 z0 z1 z2 K4 S6 OX6 kX6 KN
    obtain ⟨x0, x1, x2, x3, x4⟩ := (blk5 kX7.out).1
    obtain ⟨z0, z1, z2, -, -, -⟩ := blk3 S7.out.hz
    cases nb
    · have hg := hno.out rfl
      have OXN : Dsk w7 (.agg #[.slice X1 u.t.us.length k1, .slice X2 u.t.bs.length k2, .slice X3 u.t.ns.length k3, .int .i64 u.now, .slice X5 u.past.length k5]) noDk := by rw [← hg]; exact OX7.out
      replace hg := Lib.hid hg
      have K5 := Lib.hid (noDesk_no _ w7 OXN)
      clear OXN
      go_wp2_with (go_at_call 20; refine K5.out.mono ?_; rintro e w8 ⟨rfl, b8⟩; refine Hid.out ?_)
      have hB8 := Lib.hid (S7.out.low.trans (b8.mono S7.out.low.size))
      clear b8 x0 x1 x2 x3 x4 z0 z1 z2
      refine Lib.hid ?_
      go_wp2_with (fail)
      refine (alive_any w8).mono ?_
      rintro e w9 ⟨rfl, b9⟩
      have hB9 := Lib.hid (hB8.out.trans (b9.mono hB8.out.size))
      clear b9
      go_wp2
      go_ret
      exact ⟨rfl, hB9.out⟩
    · obtain ⟨hg1, hg2⟩ := hnew.out rfl
      have K5 := implDeskOk_any _ u w7 OX7.out huf.out
      rw [hg2] at K5
      replace K5 := Lib.hid K5
      have et : u.t = t := by rw [hg1]
      have en : u.now = m := by rw [hg1]
      have ep : u.past = [] := by rw [hg1]
      have ep2 : u.past.length = 0 := by rw [ep]; rfl
      replace et := Lib.hid et
      replace en := Lib.hid en
      replace ep := Lib.hid ep
      replace ep2 := Lib.hid ep2
      replace hg1 := Lib.hid hg1
      clear hg2 hnew hno
      go_wp2_with (fail)
      refine K5.out.mono ?_
      rintro e w8 ⟨rfl, b8⟩
      have S8 := Lib.hid (S7.out.step b8)
      have OX8 := Lib.hid (OX7.out.below b8 (Nat.le_refl _))
      have kX8 := Lib.hid (kX7.out.below b8 kX7.out.lt)
      clear b8 x0 x1 x2 x3 x4 z0 z1 z2 K5 S7 OX7 kX7
      obtain ⟨x0, x1, x2, x3, x4⟩ := (blk5 kX8.out).1
      obtain ⟨z0, z1, z2, -, -, -⟩ := blk3 S8.out.hz
      have TX : Tng w8 (.agg #[.slice X1 u.t.us.length k1, .slice X2 u.t.bs.length k2, .slice X3 u.t.ns.length k3]) t := by
        obtain ⟨B1, e1, B2, e2, B3, e3, B5, e5, ee, h1, h2, h3, -⟩ := OX8.out.ex
        cases ee
        have := (⟨_, _, _, _, _, _, rfl, h1, h2, h3⟩ : Tng w8 (.agg #[.slice X1 u.t.us.length k1, .slice X2 u.t.bs.length k2, .slice X3 u.t.ns.length k3]) u.t)
        rw [et.out] at this ⊢
        exact this
      have K6 := Lib.hid (sameTongue_same _ _ t w8 TX S8.out.ht hf.out)
      have hq1 : (u.now == m) = true := by rw [en.out]; simp
      have hq2 : ((u.past.length : Int) == 0) = true := by rw [ep2.out]; rfl
      have hq3 : ((u.past.length : Int) = 0) := by rw [ep2.out]; rfl
      replace hq3 := Lib.hid hq3
      clear TX
      go_wp2_with (go_at_call 21; refine K6.out.mono ?_; rintro e w9 ⟨rfl, b9⟩; refine Hid.out ?_)
      have S9 := Lib.hid (S8.out.step b9)
      have kX9 := Lib.hid (kX8.out.below b9 kX8.out.lt)
      clear b9 x0 x1 x2 x3 x4 z0 z1 z2 K6
      obtain ⟨x0, x1, x2, x3, x4⟩ := (blk5 kX9.out).1
      refine Lib.hid ?_
      go_wp2
      all_goals
        go_ret
        first
          | exact ⟨rfl, S9.out.low⟩
          | exact ⟨ret_bool (by simp [hq3.out]), S9.out.low⟩
  · have t1 : (1048576 : Int) < (n : Int) := by omega
    go_enter Try.func4, Try.ntmps4
    go_wp2
    go_ret
    exact ⟨rfl, Below.refl _ _⟩

set_option maxRecDepth 100000 in
theorem lifted (os : Os) (started : os.Started) (H : Type) (enc : TypeId × Value → H) :
    ReturnsInHanded {} Try.checked os 4 .any (Rows.fnDeskNewSpec.pre6 enc Try.prog Try.f4 Rows.fnDeskNewRow.domain false) (Rows.fnDeskNewSpec.post enc Try.prog Try.f4 false true false false) := by
  refine returnsInHanded_of_change (C := Try.checked) own started (by kernel_rfl) Try.func4
    (ChangeSpec.witness6 (enc := enc) (C := Try.checked) false ⟨#[], #[.slice none 0 0], []⟩ 8 (by kernel_rfl) (by kernel_rfl) (by kernel_rfl) (by kernel_rfl)) ?_
  intro W base args ds gs before hval0 hW hcnd _
  have hval : ∀ (j : Nat) t v, Try.f4.params[j]? = some t → args[j]? = some v → Value.okWide Try.prog W .any base t v := hval0
  have hW' := hW
  obtain ⟨p, q, hA0, hV, rfl, hfz, hnd⟩ := hW
  have hA : DataW.TrodAll enc Try.prog W 0 (fun _ => true) true Try.f4.params.toList args.toList ds p := hA0
  rw [Try.params4] at hA hval
  obtain ⟨v0, vs0, d0, ds0, p0, q0, hargs, rfl, rfl, h0, r0⟩ := trodAll_cons hA
  obtain ⟨rfl, rfl, rfl⟩ := trodAll_nil r0
  obtain rfl : args = #[v0] := by cases args; simp_all
  obtain ⟨rfl, rfl⟩ := trodVars_none hV
  obtain ⟨a0, len0, cap0, rfl⟩ := okWide_slice Try.underlying22 (hval 0 22 v0 rfl rfl)
  have k0 := h0
  have lt0 : ∀ x ∈ p0, x.block < W.heap.size := by obtain ⟨m, hm⟩ := k0; exact DataW.trod_lt m _ _ _ hm
  obtain ⟨z0, s0, w0, m0⟩ : ∃ zs, Ints W .u8 a0 len0 cap0 zs ∧ (∀ n ∈ zs, (Lit.int .u8 n).wf = true) ∧ cap0 ≤ maxLen := by
    obtain ⟨fuel, hf⟩ := h0
    rcases open_ints Try.underlying22 Try.underlying5 (by kernel_rfl) hf with ⟨hcs, _⟩ | ⟨x, l, c, zs, hcs, _, hl, hm, hz, _, hcell, hwz⟩
    · simp [Value.cells] at hcs
      obtain ⟨rfl, rfl, rfl⟩ := hcs
      exact ⟨[], Ints.none_, by simp, Nat.zero_le _⟩
    · simp [Value.cells] at hcs
      obtain ⟨rfl, rfl, rfl⟩ := hcs
      exact ⟨_, Ints.of_row hl (by simpa using hz) hcell, fun n hn => hwz n (List.mem_of_mem_take hn), hm⟩
  clear hA0 hval0
  refine (walk W a0 len0 cap0 z0 s0 w0 m0).mono fun e W' ⟨he, bel⟩ => ?_
  subst he
  exact ⟨_, rfl, _, _, _, [], _, [], hW', trodAll_mk1 (shut_bool Try.underlying4 _), (trodAll_cons_mk (Below.trod laidOut (by kernel_rfl) (of_decide_eq_true (by kernel_rfl)) k0 bel lt0) trodAll_mk0), rfl, bel.frame _, fun h => by cases h⟩

theorem over : Rows.fnDeskNewRow.holds Try.pinned (OpenSpec.ofChange Rows.fnDeskNewSpec) :=
  OpenClaim.holds_of_wide 4 Try.f4 rfl rfl rfl rfl rfl rfl rfl ⟨rfl, rfl, rfl, rfl, rfl⟩ rfl rfl rfl rfl rfl (by kernel_rfl) Try.func4 (by kernel_rfl)
    (of_decide_eq_true (by kernel_rfl)) (by unfold Func.isWrapper; first | (rw [if_pos (by decide +kernel)]; kernel_rfl) | (rw [if_neg (by decide +kernel)]; exact ⟨rfl, rfl⟩))
    (fun os started H enc _ => lifted os started H enc)
theorem proved : Rows.FnDeskNewSaid := over
end Go.Proofs.Ytgkhhabfaacchaa.fnDeskNew
