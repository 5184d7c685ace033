/-
  FnDeskOk holds for every input: the drawn desk is answered by DeskOk as by its model; if it is one, then also without numbers of before; the zero value is none. No condition.
-/
import Derived.Test.YtgkhhabfaacchaaRows
import Derived.Test.YtgkhhabfaacchaaDrawKo
import Derived.Test.YtgkhhabfaacchaaDSa
import Derived.Test.YtgkhhabfaacchaaIa
import Derived.Test.YtgkhhabfaacchaaJa
namespace Go.Proofs.Ytgkhhabfaacchaa.fnDeskOk
open Go.ChangeShapes Go.WideShapes Go.ChangeAt Go.RowKit
open Go.ChangeMaps (open_string shut_string)

theorem own : ownKnob Try.prog.godebug = none := by kernel_rfl
theorem laidOut : laidOutB Try.prog = true := by kernel_rfl
theorem bare_ok {d : Dk} (h : dkOk d = true) : dkOk ⟨d.t, d.now, []⟩ = true := by
  obtain ⟨h1, -, -⟩ := (dkOk_iff d).1 h
  exact (dkOk_iff _).2 ⟨h1, by simp, by simp⟩
theorem none_no : dkOk noDk = false := by
  cases h : dkOk noDk with
  | false => rfl
  | true => exact absurd ((dkOk_iff _).1 h).1 (by decide)

set_option maxRecDepth 100000 in
set_option maxHeartbeats 8000000 in
theorem walk (w : World) (A : Option Addr) (n c : Nat) (xs : List Int) (h : Ints w .u8 A n c xs) (hwf : ∀ x ∈ xs, (Lit.int .u8 x).wf = true) (hc : c ≤ maxLen) :
    Calls Try.prog 3 #[.slice A n c] w fun e w' => e = .returned (.bool true) ∧ Below w.heap.size w w' := by
  have hn : n ≤ 9223372036854775807 := by have := h.le; unfold maxLen at hc; omega
  by_cases hl : n ≤ 1048576
  · have HD := Lib.hid (drawDeskOk_any A n c xs w h hl hwf hc)
    clear h hwf hc
    go_enter Try.func3, Try.ntmps3
    go_wp2_with (fail)
    refine HD.out.mono ?_
    rintro e w1 ⟨v, d, rfl, ho, hsm, hb⟩
    obtain ⟨A1, c1, A2, c2, A3, c3, A5, c5, rfl, -⟩ := ho.dsk.ex
    have hba := (Below.refl w1.heap.size w1).alloc (Nat.le_refl _) (.cells #[.slice A1 d.t.us.length c1, .slice A2 d.t.bs.length c2, .slice A3 d.t.ns.length c3, .int .i64 d.now, .slice A5 d.past.length c5] 28)
    have kX := Lib.hid (Blk.new w1 28 #[.slice A1 d.t.us.length c1, .slice A2 d.t.bs.length c2, .slice A3 d.t.ns.length c3, .int .i64 d.now, .slice A5 d.past.length c5])
    have OX := Lib.hid (ho.dsk.below hba (Nat.le_refl _))
    have HB := Lib.hid (hb.trans (hba.mono hb.size))
    have hf := Lib.hid hsm.fine
    clear ho hsm hb hba HD
    go_upto_region 4 with (fail)
    generalize w1.alloc (.cells #[.slice A1 d.t.us.length c1, .slice A2 d.t.bs.length c2, .slice A3 d.t.ns.length c3, .int .i64 d.now, .slice A5 d.past.length c5] 28) = W at *
    obtain ⟨x0, x1, x2, x3, x4⟩ := (blk5 kX.out).1
    have K1 := Lib.hid (implDeskOk_any _ d W OX.out hf.out)
    go_wp2_with (fail)
    refine K1.out.mono ?_
    rintro e w2 ⟨rfl, b2⟩
    have HB2 := Lib.hid (HB.out.trans (b2.mono HB.out.size))
    have OX2 := Lib.hid (OX.out.below b2 (Nat.le_refl _))
    have kX2 := Lib.hid (kX.out.below b2 kX.out.lt)
    have K2 := Lib.hid (specDeskOk_any _ d w2 OX2.out hf.out)
    have hbare := Lib.hid (bare_ok (d := d))
    generalize hnb : dkOk d = nb at *
    replace hnb := Lib.hid hnb
    have hne : (nb != nb) = false := by simp
    clear b2 x0 x1 x2 x3 x4 K1 HB OX kX
    obtain ⟨x0, x1, x2, x3, x4⟩ := (blk5 kX2.out).1
    go_wp2_with (fail)
    refine K2.out.mono ?_
    rintro e w3 ⟨rfl, b3⟩
    have HB3 := Lib.hid (HB2.out.trans (b3.mono HB2.out.size))
    have OX3 := Lib.hid (OX2.out.below b3 (Nat.le_refl _))
    have kX3 := Lib.hid (kX2.out.below b3 kX2.out.lt)
    clear b3 x0 x1 x2 x3 x4 K2 HB2 OX2 kX2
    obtain ⟨x0, x1, x2, x3, x4⟩ := (blk5 kX3.out).1
    have KZ := Lib.hid (fun W (hz : Dsk W (.agg #[.slice none 0 0, .slice none 0 0, .slice none 0 0, .int .i64 0, .slice none 0 0]) noDk) => none_no ▸ implDeskOk_any _ noDk W hz noDk_fine)
    cases nb
    · go_wp2_with (fail)
      refine (KZ.out w3 (own_mdNo w3 0).dsk).mono ?_
      rintro e w4 ⟨rfl, b4⟩
      have HB4 := Lib.hid (HB3.out.trans (b4.mono HB3.out.size))
      clear b4 KZ
      go_wp2_with (fail)
      refine (alive_any w4).mono ?_
      rintro e w5 ⟨rfl, b5⟩
      have HB5 := Lib.hid (HB4.out.trans (b5.mono HB4.out.size))
      clear b5
      go_wp2
      go_ret
      exact ⟨rfl, HB5.out⟩
    · have D3 : Dsk w3 (.agg #[.slice A1 d.t.us.length c1, .slice A2 d.t.bs.length c2, .slice A3 d.t.ns.length c3, .int .i64 d.now, .slice none 0 0]) ⟨d.t, d.now, []⟩ := by
        obtain ⟨B1, e1, B2, e2, B3, e3, B5, e5, ee, h1, h2, h3, -⟩ := OX3.out.ex
        cases ee
        obtain ⟨A, c, ee, hi⟩ := OwnI.ints (w := w3) (B := 0) (v := .slice none 0 0) (xs := []) (owns_none _ _ _)
        cases ee
        exact ⟨_, _, _, _, _, _, _, _, rfl, h1, h2, h3, hi⟩
      have K3 := implDeskOk_any _ ⟨d.t, d.now, []⟩ w3 D3 ⟨hf.out.1, hf.out.2, by simp, fun k => by simp⟩
      rw [hbare.out rfl] at K3
      replace K3 := Lib.hid K3
      clear D3
      go_wp2_with (fail)
      refine K3.out.mono ?_
      rintro e w4 ⟨rfl, b4⟩
      have HB4 := Lib.hid (HB3.out.trans (b4.mono HB3.out.size))
      clear b4 K3
      go_wp2_with (fail)
      refine (KZ.out w4 (own_mdNo w4 0).dsk).mono ?_
      rintro e w5 ⟨rfl, b5⟩
      have HB5 := Lib.hid (HB4.out.trans (b5.mono HB4.out.size))
      clear b5 KZ
      go_wp2_with (fail)
      refine (alive_any w5).mono ?_
      rintro e w6 ⟨rfl, b6⟩
      have HB6 := Lib.hid (HB5.out.trans (b6.mono HB5.out.size))
      clear b6
      go_wp2
      go_ret
      exact ⟨rfl, HB6.out⟩
  · have t1 : (1048576 : Int) < (n : Int) := by omega
    go_enter Try.func3, Try.ntmps3
    go_wp2
    go_ret
    exact ⟨rfl, Below.refl _ _⟩

set_option maxRecDepth 100000 in
theorem lifted (os : Os) (started : os.Started) (H : Type) (enc : TypeId × Value → H) :
    ReturnsInHanded {} Try.checked os 3 .any (Rows.fnDeskOkSpec.pre6 enc Try.prog Try.f3 Rows.fnDeskOkRow.domain false) (Rows.fnDeskOkSpec.post enc Try.prog Try.f3 false true false false) := by
  refine returnsInHanded_of_change (C := Try.checked) own started (by kernel_rfl) Try.func3
    (ChangeSpec.witness6 (enc := enc) (C := Try.checked) false ⟨#[], #[.slice none 0 0], []⟩ 8 (by kernel_rfl) (by kernel_rfl) (by kernel_rfl) (by kernel_rfl)) ?_
  intro W base args ds gs before hval0 hW hcnd _
  have hval : ∀ (j : Nat) t v, Try.f3.params[j]? = some t → args[j]? = some v → Value.okWide Try.prog W .any base t v := hval0
  have hW' := hW
  obtain ⟨p, q, hA0, hV, rfl, hfz, hnd⟩ := hW
  have hA : DataW.TrodAll enc Try.prog W 0 (fun _ => true) true Try.f3.params.toList args.toList ds p := hA0
  rw [Try.params3] at hA hval
  obtain ⟨v0, vs0, d0, ds0, p0, q0, hargs, rfl, rfl, h0, r0⟩ := trodAll_cons hA
  obtain ⟨rfl, rfl, rfl⟩ := trodAll_nil r0
  obtain rfl : args = #[v0] := by cases args; simp_all
  obtain ⟨rfl, rfl⟩ := trodVars_none hV
  obtain ⟨a0, len0, cap0, rfl⟩ := okWide_slice Try.underlying22 (hval 0 22 v0 rfl rfl)
  have k0 := h0
  have lt0 : ∀ x ∈ p0, x.block < W.heap.size := by obtain ⟨m, hm⟩ := k0; exact DataW.trod_lt m _ _ _ hm
  obtain ⟨z0, s0, w0, m0⟩ : ∃ zs, Ints W .u8 a0 len0 cap0 zs ∧ (∀ n ∈ zs, (Lit.int .u8 n).wf = true) ∧ cap0 ≤ maxLen := by
    obtain ⟨fuel, hf⟩ := h0
    rcases open_ints Try.underlying22 Try.underlying5 (by kernel_rfl) hf with ⟨hcs, _⟩ | ⟨x, l, c, zs, hcs, _, hl, hm, hz, _, hcell, hwz⟩
    · simp [Value.cells] at hcs
      obtain ⟨rfl, rfl, rfl⟩ := hcs
      exact ⟨[], Ints.none_, by simp, Nat.zero_le _⟩
    · simp [Value.cells] at hcs
      obtain ⟨rfl, rfl, rfl⟩ := hcs
      exact ⟨_, Ints.of_row hl (by simpa using hz) hcell, fun n hn => hwz n (List.mem_of_mem_take hn), hm⟩
  clear hA0 hval0
  refine (walk W a0 len0 cap0 z0 s0 w0 m0).mono fun e W' ⟨he, bel⟩ => ?_
  subst he
  exact ⟨_, rfl, _, _, _, [], _, [], hW', trodAll_mk1 (shut_bool Try.underlying4 _), (trodAll_cons_mk (Below.trod laidOut (by kernel_rfl) (of_decide_eq_true (by kernel_rfl)) k0 bel lt0) trodAll_mk0), rfl, bel.frame _, fun h => by cases h⟩

theorem over : Rows.fnDeskOkRow.holds Try.pinned (OpenSpec.ofChange Rows.fnDeskOkSpec) :=
  OpenClaim.holds_of_wide 3 Try.f3 rfl rfl rfl rfl rfl rfl rfl ⟨rfl, rfl, rfl, rfl, rfl⟩ rfl rfl rfl rfl rfl (by kernel_rfl) Try.func3 (by kernel_rfl)
    (of_decide_eq_true (by kernel_rfl)) (by unfold Func.isWrapper; first | (rw [if_pos (by decide +kernel)]; kernel_rfl) | (rw [if_neg (by decide +kernel)]; exact ⟨rfl, rfl⟩))
    (fun os started H enc _ => lifted os started H enc)
theorem proved : Rows.FnDeskOkSaid := over
end Go.Proofs.Ytgkhhabfaacchaa.fnDeskOk
