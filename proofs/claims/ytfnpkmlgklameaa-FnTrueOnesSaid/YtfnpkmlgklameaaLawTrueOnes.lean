/-
  FnTrueOnes holds for every input: the drawn tongue and number are answered by TrueOnes as by its model; each number of the answer is a ring of its own, at most the number, and they ascend. No condition.
-/
import Derived.Test.YtfnpkmlgklameaaRows
import Derived.Test.YtfnpkmlgklameaaDrawL
import Derived.Test.YtfnpkmlgklameaaL3
import Derived.Test.YtfnpkmlgklameaaM4
import Derived.Test.YtfnpkmlgklameaaM6
import Derived.Test.YtfnpkmlgklameaaHas
namespace Go.Proofs.Ytfnpkmlgklameaa.fnTrueOnes
open Go.ChangeShapes Go.WideShapes Go.ChangeAt Go.RowKit Go.Sort
open Go.ChangeMaps (open_string shut_string)

theorem own : ownKnob Try.prog.godebug = none := by kernel_rfl
theorem laidOut : laidOutB Try.prog = true := by kernel_rfl

set_option maxRecDepth 100000 in
set_option maxHeartbeats 8000000 in
theorem walk (w : World) (A : Option Addr) (n c : Nat) (xs : List Int) (h : Ints w .u8 A n c xs) (hwf : ∀ x ∈ xs, (Lit.int .u8 x).wf = true) (hc : c ≤ maxLen) :
    Calls Try.prog 7 #[.slice A n c] w fun e w' => e = .returned (.bool true) ∧ Below w.heap.size w w' := by
  have hn : n ≤ 9223372036854775807 := by have := h.le; unfold maxLen at hc; omega
  by_cases hl : n ≤ 1048576
  · have HD := Lib.hid (drawTrueOnes_any A n c xs w h hl hwf hc)
    clear h hwf hc
    go_enter Try.func7, Try.ntmps7
    go_wp2_with (fail)
    refine HD.out.mono ?_
    rintro e w1 ⟨v, t, a, rfl, ho, hsm, ha, hb⟩
    obtain ⟨ha1, ha2⟩ := ha
    obtain ⟨A1, c1, A2, c2, A3, c3, rfl⟩ := ho.shape
    have hf := Lib.hid (hsm.fine (by omega))
    have hba := (Below.refl w1.heap.size w1).alloc (Nat.le_refl _) (.cells #[.slice A1 t.us.length c1, .slice A2 t.bs.length c2, .slice A3 t.ns.length c3] 26)
    have S := Lib.hid (⟨hb.trans (hba.mono hb.size), Blk.new w1 26 #[.slice A1 t.us.length c1, .slice A2 t.bs.length c2, .slice A3 t.ns.length c3], ho.tng.below hba (Nat.le_refl _)⟩ : LSt w w1.heap.size #[.slice A1 t.us.length c1, .slice A2 t.bs.length c2, .slice A3 t.ns.length c3] t (w1.alloc (.cells #[.slice A1 t.us.length c1, .slice A2 t.bs.length c2, .slice A3 t.ns.length c3] 26)))
    clear ho hsm hb hba HD
    go_upto_region 4 with (fail)
    generalize w1.alloc (.cells #[.slice A1 t.us.length c1, .slice A2 t.bs.length c2, .slice A3 t.ns.length c3] 26) = W at *
    generalize w1.heap.size = z at *
    obtain ⟨z0, z1, z2, -, -, -⟩ := blk3 S.out.hz
    have K1 := Lib.hid (implTrueOnes_any _ t a W S.out.ht hf.out (by omega))
    have hfb := letters_bd t
    have htm := Lib.hid (fun x (hx : x ∈ trueF (lettersOf t) a) => trueF_mem hx)
    have htl := trueF_len (lettersOf t) a
    have hta := Lib.hid (trueF_asc (lettersOf t) a)
    have KR := Lib.hid (fun x W' (hT : Tng W' (.agg #[.slice A1 t.us.length c1, .slice A2 t.bs.length c2, .slice A3 t.ns.length c3]) t) hx => implRingFrom_any _ t x W' hT hf.out hx)
    have hrt := Lib.hid (fun x (h1 : lettersOf t x = x) (h2 : 0 ≤ x) => ring_true h1 h2)
    go_wp2_with (fail)
    refine K1.out.mono ?_
    rintro e w2 ⟨v2, rfl, o2, b2⟩
    obtain ⟨A5, c5, rfl, i5⟩ := o2.ints
    replace S := Lib.hid (S.out.step b2)
    have K2 := Lib.hid (specTrueOnes_any _ t a w2 S.out.ht hf.out (by omega))
    clear b2 o2 z0 z1 z2 K1
    obtain ⟨z0, z1, z2, -, -, -⟩ := blk3 S.out.hz
    go_wp2_with (fail)
    refine K2.out.mono ?_
    rintro e w3 ⟨v3, rfl, o3, b3⟩
    obtain ⟨A6, c6, rfl, i6⟩ := o3.ints
    replace S := Lib.hid (S.out.step b3)
    have j5 := i5.below b3 (Nat.le_refl _)
    generalize trueF (lettersOf t) a = l at *
    have KS := sameInts_any A5 A6 _ c5 _ c6 l l w3 j5 i6 (by omega) (by omega)
    rw [decide_eq_true rfl] at KS
    replace KS := Lib.hid KS
    generalize hL : l.length = L at *
    replace hL := Lib.hid hL
    replace j5 := Lib.hid j5
    clear b3 o3 i6 i5 z0 z1 z2 K2
    go_wp2_with (fail)
    refine KS.out.mono ?_
    rintro e _ ⟨rfl, m4, rfl⟩
    have hd := below_drewN (Below.refl w3.heap.size w3) m4
    replace S := Lib.hid (S.out.step hd)
    have i4 := Lib.hid (j5.out.below hd (Nat.le_refl _))
    clear KS j5 hd
    generalize w3.drewN m4 = W4 at *
    go_wp2
    go_loopw [6] (fun s6 wr => ∃ k : Nat, k ≤ L ∧ s6 = .int .i64 k ∧ Below W4.heap.size W4 wr) (fun s6 _ => L - (intOf s6).toNat)
    case atStart => exact ⟨0, Nat.zero_le _, rfl, Below.refl _ _⟩
    case round =>
      obtain ⟨k, hk, rfl, hbr⟩ := hrel
      have Sr := Lib.hid (S.out.step hbr)
      have ir := Lib.hid (i4.out.below hbr (Nat.le_refl _))
      by_cases hlt : k < L
      · obtain ⟨b5, o5, rfl, hb5, hc⟩ := ir.out.at_ (by omega)
        have ck := hc k hlt
        obtain ⟨x1, x2, x3, x4⟩ := htm.out _ (mem_getD (l := l) (k := k) (by rw [hL.out]; exact hlt))
        generalize l.getD k 0 = x at *
        obtain ⟨hok, hring⟩ := hrt.out x x4 (by omega)
        have KR1 := Lib.hid (fun W' (hT : Tng W' (.agg #[.slice A1 t.us.length c1, .slice A2 t.bs.length c2, .slice A3 t.ns.length c3]) t) => KR.out x W' hT (by omega))
        rw [hok, hring] at KR1
        obtain ⟨y0, y1, y2, -, -, -⟩ := blk3 Sr.out.hz
        have hxx : (x != x) = false := by simp
        have hxa : ¬ a < x := by omega
        have hL8 : L ≤ 9223372036854775807 := by omega
        have hcl : b5 < wr.heap.size := hb5
        replace hbr := Lib.hid hbr
        replace x4 := Lib.hid x4
        clear hc hring hok
        go_wp2
        go_region_held3 (fun w' => (w'.cell? ⟨z, 0, none⟩ = some (.slice A1 t.us.length c1) ∧ w'.cell? ⟨z, 1, none⟩ = some (.slice A2 t.bs.length c2) ∧ w'.cell? ⟨z, 2, none⟩ = some (.slice A3 t.ns.length c3)) ∧ w'.cell? ⟨b5, o5 + k, none⟩ = some (.int .i64 x))
          (first | go_keep | exact hS7)
          (first
            | (go_at_call 22; refine (KR1.out _ (by first | exact Sr.out.ht | exact Sr.out.ht.below (Below.refl _ _).drew (Nat.le_refl _))).mono ?_; rintro e w7 ⟨v7, rfl, o7, b7'⟩; have b7 : Below wr.heap.size wr w7 := ⟨b7'.os, b7'.tape, b7'.output, b7'.size, b7'.block⟩; obtain ⟨y0', y1', y2', -, -, -⟩ := blk3 (Sr.out.hz.below b7 Sr.out.hz.lt); have ck7 := (b7.cell (p := ⟨b5, o5 + k, none⟩) hcl).trans ck; have hS7 := And.intro (And.intro y0' (And.intro y1' y2')) ck7; obtain ⟨g7, c7, e7, -, -⟩ := World.ownsRow.form o7 (by simp); cases e7; have cr7 : w7.cell? ⟨g7, 0, none⟩ = some (.int .i64 x) := World.ownsRow.cellAt o7 0 (by simp); have hb7 := Lib.hid (hbr.out.trans (b7.mono hbr.out.size)); clear b7 b7' o7))
        all_goals
          clear hS7
          go_wp2
          go_quiet (fail)
          have hb8 := Lib.hid (below_drewN hb7.out nq)
          clear cr7 ck7 y0' y1' y2' hb7
          go_wp2
          go_roundw
          case rel => exact ⟨k + 1, by omega, by go_num, hb8.out⟩
          case measure => simp [intOf]; omega
      · obtain rfl : k = L := by omega
        have KA := Lib.hid (ascend_any A5 k c5 l wr ir.out (by omega) hta.out)
        go_wp2_with (fail)
        refine KA.out.mono ?_
        rintro e _ ⟨rfl, m8, rfl⟩
        have hB8 := Lib.hid (below_drewN (Sr.out.low) m8)
        clear KA
        generalize wr.drewN m8 = W8 at *
        go_wp2_with (fail)
        refine (alive_any W8).mono ?_
        rintro e w9 ⟨rfl, b9⟩
        have hB9 := Lib.hid (hB8.out.trans (b9.mono hB8.out.size))
        clear b9
        go_wp2
        go_ret
        exact ⟨rfl, hB9.out⟩
  · have hl' : 1048576 < n := by omega
    go_enter Try.func7, Try.ntmps7
    go_wp2
    go_ret
    exact ⟨rfl, Below.refl _ _⟩

set_option maxRecDepth 100000 in
theorem lifted (os : Os) (started : os.Started) (H : Type) (enc : TypeId × Value → H) :
    ReturnsInHanded {} Try.checked os 7 .any (Rows.fnTrueOnesSpec.pre6 enc Try.prog Try.f7 Rows.fnTrueOnesRow.domain false) (Rows.fnTrueOnesSpec.post enc Try.prog Try.f7 false true false false) := by
  refine returnsInHanded_of_change (C := Try.checked) own started (by kernel_rfl) Try.func7
    (ChangeSpec.witness6 (enc := enc) (C := Try.checked) false ⟨#[], #[.slice none 0 0], []⟩ 8 (by kernel_rfl) (by kernel_rfl) (by kernel_rfl) (by kernel_rfl)) ?_
  intro W base args ds gs before hval0 hW hcnd _
  have hval : ∀ (j : Nat) t v, Try.f7.params[j]? = some t → args[j]? = some v → Value.okWide Try.prog W .any base t v := hval0
  have hW' := hW
  obtain ⟨p, q, hA0, hV, rfl, hfz, hnd⟩ := hW
  have hA : DataW.TrodAll enc Try.prog W 0 (fun _ => true) true Try.f7.params.toList args.toList ds p := hA0
  rw [Try.params7] at hA hval
  obtain ⟨v0, vs0, d0, ds0, p0, q0, hargs, rfl, rfl, h0, r0⟩ := trodAll_cons hA
  obtain ⟨rfl, rfl, rfl⟩ := trodAll_nil r0
  obtain rfl : args = #[v0] := by cases args; simp_all
  obtain ⟨rfl, rfl⟩ := trodVars_none hV
  obtain ⟨a0, len0, cap0, rfl⟩ := okWide_slice Try.underlying22 (hval 0 22 v0 rfl rfl)
  have k0 := h0
  have lt0 : ∀ x ∈ p0, x.block < W.heap.size := by obtain ⟨m, hm⟩ := k0; exact DataW.trod_lt m _ _ _ hm
  obtain ⟨z0, s0, w0, m0⟩ : ∃ zs, Ints W .u8 a0 len0 cap0 zs ∧ (∀ n ∈ zs, (Lit.int .u8 n).wf = true) ∧ cap0 ≤ maxLen := by
    obtain ⟨fuel, hf⟩ := h0
    rcases open_ints Try.underlying22 Try.underlying5 (by kernel_rfl) hf with ⟨hcs, _⟩ | ⟨x, l, c, zs, hcs, _, hl, hm, hz, _, hcell, hwz⟩
    · simp [Value.cells] at hcs
      obtain ⟨rfl, rfl, rfl⟩ := hcs
      exact ⟨[], Ints.none_, by simp, Nat.zero_le _⟩
    · simp [Value.cells] at hcs
      obtain ⟨rfl, rfl, rfl⟩ := hcs
      exact ⟨_, Ints.of_row hl (by simpa using hz) hcell, fun n hn => hwz n (List.mem_of_mem_take hn), hm⟩
  clear hA0 hval0
  refine (walk W a0 len0 cap0 z0 s0 w0 m0).mono fun e W' ⟨he, bel⟩ => ?_
  subst he
  exact ⟨_, rfl, _, _, _, [], _, [], hW', trodAll_mk1 (shut_bool Try.underlying4 _), (trodAll_cons_mk (Below.trod laidOut (by kernel_rfl) (of_decide_eq_true (by kernel_rfl)) k0 bel lt0) trodAll_mk0), rfl, bel.frame _, fun h => by cases h⟩

theorem over : Rows.fnTrueOnesRow.holds Try.pinned (OpenSpec.ofChange Rows.fnTrueOnesSpec) :=
  OpenClaim.holds_of_wide 7 Try.f7 rfl rfl rfl rfl rfl rfl rfl ⟨rfl, rfl, rfl, rfl, rfl⟩ rfl rfl rfl rfl rfl (by kernel_rfl) Try.func7 (by kernel_rfl)
    (of_decide_eq_true (by kernel_rfl)) (by unfold Func.isWrapper; first | (rw [if_pos (by decide +kernel)]; kernel_rfl) | (rw [if_neg (by decide +kernel)]; exact ⟨rfl, rfl⟩))
    (fun os started H enc _ => lifted os started H enc)
theorem proved : Rows.FnTrueOnesSaid := over
end Go.Proofs.Ytfnpkmlgklameaa.fnTrueOnes
