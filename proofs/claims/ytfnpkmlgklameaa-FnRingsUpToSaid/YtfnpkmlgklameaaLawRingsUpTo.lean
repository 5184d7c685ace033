/-
  FnRingsUpTo holds for every input: the drawn tongue and number are answered by RingsUpTo as by its model; each number of the answer is the least of its own ring, it is there up to one number more, and they ascend. No condition.
-/
import Derived.Test.YtfnpkmlgklameaaRows
import Derived.Test.YtfnpkmlgklameaaDrawL
import Derived.Test.YtfnpkmlgklameaaL5
import Derived.Test.YtfnpkmlgklameaaM7
import Derived.Test.YtfnpkmlgklameaaM6
import Derived.Test.YtfnpkmlgklameaaHas
namespace Go.Proofs.Ytfnpkmlgklameaa.fnRingsUpTo
open Go.ChangeShapes Go.WideShapes Go.ChangeAt Go.RowKit Go.Sort
open Go.ChangeMaps (open_string shut_string)

theorem own : ownKnob Try.prog.godebug = none := by kernel_rfl
theorem laidOut : laidOutB Try.prog = true := by kernel_rfl

set_option maxRecDepth 100000 in
set_option maxHeartbeats 8000000 in
theorem walk (w : World) (A : Option Addr) (n c : Nat) (xs : List Int) (h : Ints w .u8 A n c xs) (hwf : ∀ x ∈ xs, (Lit.int .u8 x).wf = true) (hc : c ≤ maxLen) :
    Calls Try.prog 11 #[.slice A n c] w fun e w' => e = .returned (.bool true) ∧ Below w.heap.size w w' := by
  have hn : n ≤ 9223372036854775807 := by have := h.le; unfold maxLen at hc; omega
  by_cases hl : n ≤ 1048576
  · have HD := Lib.hid (drawRingsUpTo_any A n c xs w h hl hwf hc)
    clear h hwf hc
    go_enter Try.func11, Try.ntmps11
    go_wp2_with (fail)
    refine HD.out.mono ?_
    rintro e w1 ⟨v, t, a, rfl, ho, hsm, ha, hb⟩
    obtain ⟨ha1, ha2⟩ := ha
    obtain ⟨A1, c1, A2, c2, A3, c3, rfl⟩ := ho.shape
    have hf := Lib.hid (hsm.fine (by omega))
    have hba := (Below.refl w1.heap.size w1).alloc (Nat.le_refl _) (.cells #[.slice A1 t.us.length c1, .slice A2 t.bs.length c2, .slice A3 t.ns.length c3] 26)
    have S := Lib.hid (⟨hb.trans (hba.mono hb.size), Blk.new w1 26 #[.slice A1 t.us.length c1, .slice A2 t.bs.length c2, .slice A3 t.ns.length c3], ho.tng.below hba (Nat.le_refl _)⟩ : LSt w w1.heap.size #[.slice A1 t.us.length c1, .slice A2 t.bs.length c2, .slice A3 t.ns.length c3] t (w1.alloc (.cells #[.slice A1 t.us.length c1, .slice A2 t.bs.length c2, .slice A3 t.ns.length c3] 26)))
    clear ho hsm hb hba HD
    go_upto_region 4 with (fail)
    generalize w1.alloc (.cells #[.slice A1 t.us.length c1, .slice A2 t.bs.length c2, .slice A3 t.ns.length c3] 26) = W at *
    generalize w1.heap.size = z at *
    obtain ⟨z0, z1, z2, -, -, -⟩ := blk3 S.out.hz
    have K1 := Lib.hid (implRingsUpTo_any _ t a W S.out.ht hf.out (by omega))
    have htm := Lib.hid (fun x (hx : x ∈ ringsF (lettersOf t) a) => rings_mem (letters_bd t) (letters_neg t) hx)
    have htl := ringsF_len (letters_bd t) (letters_neg t) a
    have htl2 := ringsF_len (letters_bd t) (letters_neg t) (a + 1)
    have hta := Lib.hid (rings_asc (f := lettersOf t) a)
    have hrl := Lib.hid (fun x => ringF_le (n := x) (letters_bd t))
    have KR := Lib.hid (fun x W' (hT : Tng W' (.agg #[.slice A1 t.us.length c1, .slice A2 t.bs.length c2, .slice A3 t.ns.length c3]) t) hx => implRingFrom_any _ t x W' hT hf.out hx)
    have KM := Lib.hid (fun W' (hT : Tng W' (.agg #[.slice A1 t.us.length c1, .slice A2 t.bs.length c2, .slice A3 t.ns.length c3]) t) => implRingsUpTo_any _ t (a + 1) W' hT hf.out (by omega))
    have KX := Lib.hid (fun W' (hT : Tng W' (.agg #[.slice A1 t.us.length c1, .slice A2 t.bs.length c2, .slice A3 t.ns.length c3]) t) => specRingsUpTo_any _ t a W' hT hf.out (by omega))
    generalize lettersOf t = f at *
    generalize ringsF f (a + 1) = ms at *
    generalize ringsF f a = l at *
    generalize hL : l.length = L at *
    generalize hM : ms.length = M at *
    replace hL := Lib.hid hL
    replace hM := Lib.hid hM
    go_wp2_with (fail)
    refine K1.out.mono ?_
    rintro e w2 ⟨v2, rfl, o2, b2⟩
    obtain ⟨A5, c5, rfl, i5⟩ := o2.ints
    rw [hL.out] at i5 ⊢
    replace S := Lib.hid (S.out.step b2)
    have K2 := Lib.hid (KX.out w2 S.out.ht)
    clear b2 o2 z0 z1 z2 K1
    obtain ⟨z0, z1, z2, -, -, -⟩ := blk3 S.out.hz
    go_wp2_with (fail)
    refine K2.out.mono ?_
    rintro e w3 ⟨v3, rfl, o3, b3⟩
    obtain ⟨A6, c6, rfl, i6⟩ := o3.ints
    rw [hL.out] at i6 ⊢
    replace S := Lib.hid (S.out.step b3)
    have j5 := i5.below b3 (Nat.le_refl _)
    have KS := sameInts_any A5 A6 _ c5 _ c6 l l w3 j5 i6 (by omega) (by omega)
    rw [decide_eq_true rfl] at KS
    replace KS := Lib.hid KS
    replace j5 := Lib.hid j5
    clear b3 o3 i6 i5 z0 z1 z2 K2
    go_wp2_with (fail)
    refine KS.out.mono ?_
    rintro e _ ⟨rfl, m4, rfl⟩
    have hd := below_drewN (Below.refl w3.heap.size w3) m4
    replace S := Lib.hid (S.out.step hd)
    have i4 := Lib.hid (j5.out.below hd (Nat.le_refl _))
    clear KS j5 hd
    generalize w3.drewN m4 = W4 at *
    obtain ⟨z0, z1, z2, -, -, -⟩ := blk3 S.out.hz
    have K3 := Lib.hid (KM.out W4 S.out.ht)
    have e1 : IntKind.i64.wrap (a + 1) = a + 1 := IntWalk.i64_in _ (by omega)
    go_wp2_with (fail)
    refine K3.out.mono ?_
    rintro e W5 ⟨v5, rfl, o5, b5⟩
    obtain ⟨A9, c9, rfl, i9⟩ := o5.ints
    rw [hM.out] at i9 ⊢
    replace S := Lib.hid (S.out.step b5)
    replace i9 := Lib.hid i9
    replace i4 := Lib.hid (i4.out.below b5 (Nat.le_refl _))
    clear b5 o5 z0 z1 z2 K3
    go_wp2
    go_loopw [7] (fun s7 wr => ∃ k : Nat, k ≤ L ∧ s7 = .int .i64 k ∧ Below W5.heap.size W5 wr) (fun s7 _ => L - (intOf s7).toNat)
    case atStart => exact ⟨0, Nat.zero_le _, rfl, Below.refl _ _⟩
    case round =>
      obtain ⟨k, hk, rfl, hbr⟩ := hrel
      have Sr := Lib.hid (S.out.step hbr)
      have ir := Lib.hid (i4.out.below hbr (Nat.le_refl _))
      have ir9 := Lib.hid (i9.out.below hbr (Nat.le_refl _))
      by_cases hlt : k < L
      · obtain ⟨bl, ol, rfl, hbl, hc⟩ := ir.out.at_ (by omega)
        have ck := hc k hlt
        obtain ⟨hok, hmin, hmore, x0, x1⟩ := htm.out _ (mem_getD (l := l) (k := k) (by rw [hL.out]; exact hlt))
        generalize l.getD k 0 = x at *
        have KR1 := Lib.hid (fun W' (hT : Tng W' (.agg #[.slice A1 t.us.length c1, .slice A2 t.bs.length c2, .slice A3 t.ns.length c3]) t) => KR.out x W' hT (by omega))
        have hrlx := hrl.out x
        rw [hok] at KR1
        have hmn := Lib.hid (fun j (hj : j < (ringF f x).length) => hmin _ (mem_getD hj))
        generalize ringF f x = rs at *
        generalize hR : rs.length = R at *
        replace hR := Lib.hid hR
        obtain ⟨y0, y1, y2, -, -, -⟩ := blk3 Sr.out.hz
        have hcl : bl < wr.heap.size := hbl
        replace hbr := Lib.hid hbr
        replace hmore := Lib.hid hmore
        clear hc hok hmin
        go_wp2
        go_region_held3 (fun w' => (w'.cell? ⟨z, 0, none⟩ = some (.slice A1 t.us.length c1) ∧ w'.cell? ⟨z, 1, none⟩ = some (.slice A2 t.bs.length c2) ∧ w'.cell? ⟨z, 2, none⟩ = some (.slice A3 t.ns.length c3)) ∧ w'.cell? ⟨bl, ol + k, none⟩ = some (.int .i64 x))
          (first | go_keep | exact hS7)
          (first
            | (go_at_call 22; refine (KR1.out _ (by first | exact Sr.out.ht | exact Sr.out.ht.below (Below.refl _ _).drew (Nat.le_refl _))).mono ?_; rintro e w7 ⟨v7, rfl, o7, b7'⟩; have b7 : Below wr.heap.size wr w7 := ⟨b7'.os, b7'.tape, b7'.output, b7'.size, b7'.block⟩; obtain ⟨y0', y1', y2', -, -, -⟩ := blk3 (Sr.out.hz.below b7 Sr.out.hz.lt); have ck7 := (b7.cell (p := ⟨bl, ol + k, none⟩) hcl).trans ck; have hS7 := And.intro (And.intro y0' (And.intro y1' y2')) ck7; obtain ⟨A8, c8, e8, i8⟩ := o7.ints; rw [hR.out] at e8 i8; cases e8; have i88 := Lib.hid i8; have i97 := Lib.hid (ir9.out.below b7 (Nat.le_refl _)); have hb7 := Lib.hid (hbr.out.trans (b7.mono hbr.out.size)); clear b7 b7' o7 i8))
        all_goals
          clear hS7 y0' y1' y2'
          -- the ring's numbers are not less
          by_cases hm0 : 0 < M
          · have hm0' : (0 : Int) < (M : Int) := by omega
            have KH := hasInt_any A9 M c9 ms x w7 i97.out (by omega)
            rw [decide_eq_true (hmore.out hm0)] at KH
            replace KH := Lib.hid KH
            go_wp2_with (fail)
            refine KH.out.mono ?_
            rintro e _ ⟨rfl, rfl⟩
            go_wp2
            go_loopw [10] (fun s10 wq => ∃ j m : Nat, j ≤ R ∧ s10 = .int .i64 j ∧ wq = w7.drewN m) (fun s10 _ => R - (intOf s10).toNat)
            case atStart => exact ⟨0, 0, Nat.zero_le _, rfl, rfl⟩
            case round =>
              obtain ⟨j, m, hj, rfl, rfl⟩ := hrel
              by_cases hj2 : j < R
              · obtain ⟨b8, o8, rfl, -, hc8⟩ := i88.out.at_ (by omega)
                have cj := hc8 j hj2
                have hge := hmn.out j hj2
                generalize rs.getD j 0 = y at *
                have hnl : ¬ y < x := by omega
                clear hc8 hge
                go_wp2
                go_quiet (fail)
                go_wp2
                go_roundw
                case rel => exact ⟨j + 1, m + nq, by omega, by go_num, by simp⟩
                case measure => simp [intOf]; omega
              · obtain rfl : j = R := by omega
                have hb8 := Lib.hid (below_drewN hb7.out m)
                go_wp2
                go_roundw
                case rel => exact ⟨k + 1, by omega, by go_num, hb8.out⟩
                case measure => simp [intOf]; omega
          · have hm0' : ¬ (0 : Int) < (M : Int) := by omega
            go_wp2
            go_loopw [10] (fun s10 wq => ∃ j m : Nat, j ≤ R ∧ s10 = .int .i64 j ∧ wq = w7.drewN m) (fun s10 _ => R - (intOf s10).toNat)
            case atStart => exact ⟨0, 0, Nat.zero_le _, rfl, rfl⟩
            case round =>
              obtain ⟨j, m, hj, rfl, rfl⟩ := hrel
              by_cases hj2 : j < R
              · obtain ⟨b8, o8, rfl, -, hc8⟩ := i88.out.at_ (by omega)
                have cj := hc8 j hj2
                have hge := hmn.out j hj2
                generalize rs.getD j 0 = y at *
                have hnl : ¬ y < x := by omega
                clear hc8 hge
                go_wp2
                go_quiet (fail)
                go_wp2
                go_roundw
                case rel => exact ⟨j + 1, m + nq, by omega, by go_num, by simp⟩
                case measure => simp [intOf]; omega
              · obtain rfl : j = R := by omega
                have hb8 := Lib.hid (below_drewN hb7.out m)
                go_wp2
                go_roundw
                case rel => exact ⟨k + 1, by omega, by go_num, hb8.out⟩
                case measure => simp [intOf]; omega
      · obtain rfl : k = L := by omega
        have KA := Lib.hid (ascend_any A5 k c5 l wr ir.out (by omega) hta.out)
        go_wp2_with (fail)
        refine KA.out.mono ?_
        rintro e _ ⟨rfl, m8, rfl⟩
        have hB8 := Lib.hid (below_drewN (Sr.out.low) m8)
        clear KA
        generalize wr.drewN m8 = W8 at *
        go_wp2_with (fail)
        refine (alive_any W8).mono ?_
        rintro e w9 ⟨rfl, b9⟩
        have hB9 := Lib.hid (hB8.out.trans (b9.mono hB8.out.size))
        clear b9
        go_wp2
        go_ret
        exact ⟨rfl, hB9.out⟩
  · have hl' : 1048576 < n := by omega
    go_enter Try.func11, Try.ntmps11
    go_wp2
    go_ret
    exact ⟨rfl, Below.refl _ _⟩

set_option maxRecDepth 100000 in
theorem lifted (os : Os) (started : os.Started) (H : Type) (enc : TypeId × Value → H) :
    ReturnsInHanded {} Try.checked os 11 .any (Rows.fnRingsUpToSpec.pre6 enc Try.prog Try.f11 Rows.fnRingsUpToRow.domain false) (Rows.fnRingsUpToSpec.post enc Try.prog Try.f11 false true false false) := by
  refine returnsInHanded_of_change (C := Try.checked) own started (by kernel_rfl) Try.func11
    (ChangeSpec.witness6 (enc := enc) (C := Try.checked) false ⟨#[], #[.slice none 0 0], []⟩ 8 (by kernel_rfl) (by kernel_rfl) (by kernel_rfl) (by kernel_rfl)) ?_
  intro W base args ds gs before hval0 hW hcnd _
  have hval : ∀ (j : Nat) t v, Try.f11.params[j]? = some t → args[j]? = some v → Value.okWide Try.prog W .any base t v := hval0
  have hW' := hW
  obtain ⟨p, q, hA0, hV, rfl, hfz, hnd⟩ := hW
  have hA : DataW.TrodAll enc Try.prog W 0 (fun _ => true) true Try.f11.params.toList args.toList ds p := hA0
  rw [Try.params11] at hA hval
  obtain ⟨v0, vs0, d0, ds0, p0, q0, hargs, rfl, rfl, h0, r0⟩ := trodAll_cons hA
  obtain ⟨rfl, rfl, rfl⟩ := trodAll_nil r0
  obtain rfl : args = #[v0] := by cases args; simp_all
  obtain ⟨rfl, rfl⟩ := trodVars_none hV
  obtain ⟨a0, len0, cap0, rfl⟩ := okWide_slice Try.underlying22 (hval 0 22 v0 rfl rfl)
  have k0 := h0
  have lt0 : ∀ x ∈ p0, x.block < W.heap.size := by obtain ⟨m, hm⟩ := k0; exact DataW.trod_lt m _ _ _ hm
  obtain ⟨z0, s0, w0, m0⟩ : ∃ zs, Ints W .u8 a0 len0 cap0 zs ∧ (∀ n ∈ zs, (Lit.int .u8 n).wf = true) ∧ cap0 ≤ maxLen := by
    obtain ⟨fuel, hf⟩ := h0
    rcases open_ints Try.underlying22 Try.underlying5 (by kernel_rfl) hf with ⟨hcs, _⟩ | ⟨x, l, c, zs, hcs, _, hl, hm, hz, _, hcell, hwz⟩
    · simp [Value.cells] at hcs
      obtain ⟨rfl, rfl, rfl⟩ := hcs
      exact ⟨[], Ints.none_, by simp, Nat.zero_le _⟩
    · simp [Value.cells] at hcs
      obtain ⟨rfl, rfl, rfl⟩ := hcs
      exact ⟨_, Ints.of_row hl (by simpa using hz) hcell, fun n hn => hwz n (List.mem_of_mem_take hn), hm⟩
  clear hA0 hval0
  refine (walk W a0 len0 cap0 z0 s0 w0 m0).mono fun e W' ⟨he, bel⟩ => ?_
  subst he
  exact ⟨_, rfl, _, _, _, [], _, [], hW', trodAll_mk1 (shut_bool Try.underlying4 _), (trodAll_cons_mk (Below.trod laidOut (by kernel_rfl) (of_decide_eq_true (by kernel_rfl)) k0 bel lt0) trodAll_mk0), rfl, bel.frame _, fun h => by cases h⟩

theorem over : Rows.fnRingsUpToRow.holds Try.pinned (OpenSpec.ofChange Rows.fnRingsUpToSpec) :=
  OpenClaim.holds_of_wide 11 Try.f11 rfl rfl rfl rfl rfl rfl rfl ⟨rfl, rfl, rfl, rfl, rfl⟩ rfl rfl rfl rfl rfl (by kernel_rfl) Try.func11 (by kernel_rfl)
    (of_decide_eq_true (by kernel_rfl)) (by unfold Func.isWrapper; first | (rw [if_pos (by decide +kernel)]; kernel_rfl) | (rw [if_neg (by decide +kernel)]; exact ⟨rfl, rfl⟩))
    (fun os started H enc _ => lifted os started H enc)
theorem proved : Rows.FnRingsUpToSaid := over
end Go.Proofs.Ytfnpkmlgklameaa.fnRingsUpTo
