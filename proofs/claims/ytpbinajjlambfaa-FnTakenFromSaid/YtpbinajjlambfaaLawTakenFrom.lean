/-
  FnTakenFrom holds for every input: the drawn tongue, number, word and bound are answered by TakenFrom as by its model; what is named ahead of the word is at most the bound, and what is named behind it is the number and that together. No condition.
-/
import Derived.Test.YtpbinajjlambfaaRows
import Derived.Test.YtpbinajjlambfaaDrawAB
import Derived.Test.YtpbinajjlambfaaA2
import Derived.Test.YtpbinajjlambfaaB3
import Derived.Test.YtpbinajjlambfaaGP
import Derived.Lib.QuietBelow
import Derived.Test.YtpbinajjlambfaaGN
namespace Go.Proofs.Ytpbinajjlambfaa.fnTakenFrom
open Go.ChangeShapes Go.WideShapes Go.ChangeAt Go.RowKit Go.Sort
open Go.ChangeMaps (open_string shut_string)

theorem own : ownKnob Try.prog.godebug = none := by kernel_rfl
theorem laidOut : laidOutB Try.prog = true := by kernel_rfl

set_option maxRecDepth 100000 in
set_option maxHeartbeats 8000000 in
theorem walk (w : World) (A : Option Addr) (n c : Nat) (xs : List Int) (h : Ints w .u8 A n c xs) (hwf : ∀ x ∈ xs, (Lit.int .u8 x).wf = true) (hc : c ≤ maxLen) :
    Calls Try.prog 3 #[.slice A n c] w fun e w' => e = .returned (.bool true) ∧ Below w.heap.size w w' := by
  have hn : n ≤ 9223372036854775807 := by have := h.le; unfold maxLen at hc; omega
  by_cases hl : n ≤ 1048576
  · have HD := Lib.hid (drawTakenFrom_any A n c xs w h hl hwf hc)
    clear h hwf hc
    go_enter Try.func3, Try.ntmps3
    go_wp2_with (fail)
    refine HD.out.mono ?_
    rintro e w1 ⟨v, t, m, x, bd, rfl, ho, hsm, ⟨hm1, hm2⟩, hx16, ⟨hbd1, hbd2⟩, hb⟩
    obtain ⟨A1, c1, A2, c2, A3, c3, rfl⟩ := ho.shape
    have hf := Lib.hid (hsm.fine (by omega))
    have hxl : x.size ≤ maxLen := by unfold maxLen; omega
    have hba := (Below.refl w1.heap.size w1).alloc (Nat.le_refl _) (.cells #[.slice A1 t.us.length c1, .slice A2 t.bs.length c2, .slice A3 t.ns.length c3] 26)
    have S := Lib.hid (⟨hb.trans (hba.mono hb.size), Blk.new w1 26 #[.slice A1 t.us.length c1, .slice A2 t.bs.length c2, .slice A3 t.ns.length c3], ho.tng.below hba (Nat.le_refl _)⟩ : LSt w w1.heap.size #[.slice A1 t.us.length c1, .slice A2 t.bs.length c2, .slice A3 t.ns.length c3] t (w1.alloc (.cells #[.slice A1 t.us.length c1, .slice A2 t.bs.length c2, .slice A3 t.ns.length c3] 26)))
    replace hxl := Lib.hid hxl
    clear ho hsm hb hba HD
    go_upto_region 4 with (fail)
    generalize w1.alloc (.cells #[.slice A1 t.us.length c1, .slice A2 t.bs.length c2, .slice A3 t.ns.length c3] 26) = W at *
    obtain ⟨z0, z1, z2, -, -, -⟩ := blk3 S.out.hz
    have K1 := Lib.hid (implTakenFrom_any _ t m x bd W S.out.ht hf.out (by omega) hxl.out)
    go_wp2_with (fail)
    refine K1.out.mono ?_
    rintro e w2 ⟨v2, rfl, o2, b2⟩
    obtain ⟨A5, c5, rfl, s5⟩ := o2.strs
    replace S := Lib.hid (S.out.step b2)
    have K2 := Lib.hid (specTakenFrom_any _ t m x bd w2 S.out.ht hf.out (by omega) hxl.out (by omega))
    have hnl := taken_len t m x bd
    clear o2 b2 z0 z1 z2 K1
    obtain ⟨z0, z1, z2, -, -, -⟩ := blk3 S.out.hz
    go_wp2_with (fail)
    refine K2.out.mono ?_
    rintro e w3 ⟨v3, rfl, o3, b3⟩
    obtain ⟨A6, c6, rfl, s6⟩ := o3.strs
    replace S := Lib.hid (S.out.step b3)
    replace s5 := s5.below b3 (Nat.le_refl _)
    have KX := sameTexts_any A5 A6 _ c5 _ c6 _ _ w3 s5 s6 (by omega) (by omega)
    rw [decide_eq_true rfl] at KX
    replace KX := Lib.hid KX
    replace s5 := Lib.hid s5
    clear o3 s6 b3 z0 z1 z2 K2
    have hne := fun h => taken_no (t := t) (x := x) (n := m) (b := bd) h
    have hnf := fun h => taken_form (t := t) (x := x) (n := m) (b := bd) h
    generalize takenOf t m x bd = nx at *
    generalize takenB t m x bd = nb at *
    replace hne := Lib.hid hne
    replace hnf := Lib.hid hnf
    have hnbne : (nb != nb) = false := by simp
    go_wp2_with (fail)
    refine KX.out.mono ?_
    rintro e w4 ⟨rfl, m4, rfl⟩
    have b4 := below_drewN (Below.refl w3.heap.size w3) m4
    replace S := Lib.hid (S.out.step b4)
    replace s5 := Lib.hid (s5.out.below b4 (Nat.le_refl _))
    clear b4 KX
    generalize w3.drewN m4 = W4 at *
    obtain ⟨z0, z1, z2, -, -, -⟩ := blk3 S.out.hz
    cases nb
    · have he := hne.out rfl
      subst he
      have hl0 : (([] : List ByteArray).length : Int) = 0 := rfl
      go_wp2_with (fail)
      refine (alive_any W4).mono ?_
      rintro e w9 ⟨rfl, b9⟩
      have hB9 := Lib.hid (S.out.low.trans (b9.mono S.out.low.size))
      clear b9
      go_wp2
      go_ret
      exact ⟨rfl, hB9.out⟩
    · obtain ⟨mm, L, rfl, p1, p2, -, l1, l21, lb, -, hask, n1, n2, he⟩ := hnf.out rfl
      have hfx := (askA_parts hask).1
      have hnw := noword hfx (L : Int)
      obtain ⟨r1, r2⟩ := read_name n1 (nameOf_short _ _)
      obtain ⟨r3, r4⟩ := read_name n2 (nameOf_short _ _)
      have q1 : 0 < (nameOf t (L : Int)).length := of_decide_eq_true n1
      have q2 : 0 < (nameOf t ((mm : Int) + (L : Int))).length := of_decide_eq_true n2
      have q3 := nameOf_31 t (L : Int)
      have q4 := nameOf_31 t ((mm : Int) + (L : Int))
      have z1' := nameOf_size t (L : Int)
      have z2' := nameOf_size t ((mm : Int) + (L : Int))
      have HKR := Lib.hid (fun (ys : List ByteArray) (hy : ys.length ≤ 40) (hz : ∀ y ∈ ys, y.size ≤ 1048576) A c W (hT : Tng W (.agg #[.slice A1 t.us.length c1, .slice A2 t.bs.length c2, .slice A3 t.ns.length c3]) t) (hS : Strs W A ys.length c ys) => implReadName_any _ t A _ c ys W hT hf.out hS (by omega) hz)
      have HR1 := HKR.out (nameOf t (L : Int)) (by omega) (fun y hy => by have := (z1' y hy).2; omega)
      have HR2 := HKR.out (nameOf t ((mm : Int) + (L : Int))) (by omega) (fun y hy => by have := (z2' y hy).2; omega)
      rw [r1, r2] at HR1
      rw [r3, r4] at HR2
      replace HR1 := Lib.hid HR1
      replace HR2 := Lib.hid HR2
      clear z1' z2' r1 r2 r3 r4 n1 n2 HKR hne hnf
      generalize nameOf t (L : Int) = ls at *
      generalize nameOf t ((mm : Int) + (L : Int)) = ms at *
      have hlen : nx.length = ls.length + 1 + ms.length := by rw [he]; simp; omega
      have hget1 : ∀ k, k < ls.length → ¬ nx.getD k ByteArray.empty = x := fun k hk e => by
        rw [he, List.append_assoc, getD_app_left hk] at e
        exact hnw (by rw [← e]; exact getD_in hk)
      have hget2 : nx.getD ls.length ByteArray.empty = x := by
        rw [he, List.append_assoc]
        have := getD_app_right (a := ls) (b := [x] ++ ms) (k := 0)
        rw [Nat.add_zero] at this
        rw [this]; rfl
      have htk : nx.take ls.length = ls := by rw [he]; exact take_mid _ _
      have hdr : nx.drop (ls.length + 1) = ms := by rw [he]; exact drop_mid _ _
      obtain ⟨b5, o5, rfl, -, hc5⟩ := s5.out.at_ (by omega)
      have hcap := s5.out.le
      have T1 := s5.out.take (m := ls.length) (by omega)
      have T2 := s5.out.drop (m := ls.length + 1) (by omega)
      rw [htk] at T1
      rw [hdr, show nx.length - (ls.length + 1) = ms.length by omega] at T2
      have T1' := Lib.hid (fun W' (hb : Below W4.heap.size W4 W') => T1.below hb (Nat.le_refl _))
      have T2' := Lib.hid (fun W' (hb : Below W4.heap.size W4 W') => T2.below hb (Nat.le_refl _))
      replace hc5 := Lib.hid hc5
      replace hget1 := Lib.hid hget1
      replace hget2 := Lib.hid hget2
      replace hask := Lib.hid hask
      replace hfx := Lib.hid hfx
      clear he htk hdr T1 T2 s5 hnw
      generalize nx.length = N at *
      go_wp2
      go_loop [11] (fun s11 => ∃ k : Nat, k ≤ ls.length ∧ s11 = .int .i64 k) (fun i => N - (intOf i).toNat)
      case atStart => exact ⟨0, Nat.zero_le _, rfl⟩
      case round =>
        obtain ⟨k, hk, rfl⟩ := hrel
        have hkN : k < N := by omega
        have ck := hc5.out k hkN
        have hkN' : (k : Int) < (N : Int) := by omega
        by_cases hlt : k < ls.length
        · have hg := hget1.out k hlt
          generalize nx.getD k ByteArray.empty = y at *
          have hx1 : (y.toList == x.toList) = false := by rw [str_eq]; exact decide_eq_false hg
          have hx2 : (y.toList != x.toList) = true := by rw [bne, hx1]; rfl
          replace hg := Lib.hid hg
          go_wp2
          go_round
          case rel => exact ⟨k + 1, by omega, by go_num⟩
          case measure => simp [intOf]; omega
        · obtain rfl : k = ls.length := by omega
          have hg := hget2.out
          generalize nx.getD ls.length ByteArray.empty = y at *
          have hx1 : (y.toList == x.toList) = true := by rw [str_eq]; exact decide_eq_true hg
          have hx2 : (y.toList != x.toList) = false := by rw [bne, hx1]; rfl
          replace hg := Lib.hid hg
          have P := ls.length
          have e0 : ((ls.length : Int) == 0) = false := by rw [beq_eq_false_iff_ne]; omega
          have w1 : IntKind.i64.wrap ((ls.length : Int) + 1) = (ls.length : Int) + 1 := IntWalk.i64_in _ (by omega)
          have e1 : ¬ (N : Int) ≤ (ls.length : Int) + 1 := by omega
          have e1d : decide ((N : Int) ≤ (ls.length : Int) + 1) = false := decide_eq_false e1
          have pc : (ls.length : Int) ≤ (c5 : Int) := by omega
          have pc' : ls.length ≤ c5 := by omega
          have pk : (ls.length : Int) + 1 ≤ (N : Int) := by omega
          have p0 : (0 : Int) ≤ (ls.length : Int) + 1 := by omega
          have pn : ((ls.length : Int) + 1).toNat = ls.length + 1 := by omega
          have pk' : ls.length + 1 ≤ N := by omega
          have hcp' : ¬ ls.length + 1 = c5 := by omega
          have KD := Lib.hid (fun d os => HR1.out _ _ (grow (redrawn W4 d) os) (S.out.ht.below (below_regrown W4 d os) (Nat.le_refl _)) (T1'.out _ (below_regrown W4 d os)))
          have KD2 := Lib.hid (fun W' (hb : Below W4.heap.size W4 W') d os => HR2.out _ _ (grow (redrawn W' d) os) ((S.out.ht.below hb (Nat.le_refl _)).below (below_regrown W' d os) (Nat.le_refl _)) ((T2'.out _ hb).below (below_regrown W' d os) (Nat.le_refl _)))
          have e2 : N - (ls.length + 1) = ms.length := by omega
          have y0' := fun d os => cell_regrown z0 d os
          have y1' := fun d os => cell_regrown z1 d os
          have y2' := fun d os => cell_regrown z2 d os
          clear HR1 HR2 T1' T2' hget1 hget2 hc5
          go_upto_region 15 with (fail)
          go_cut [12, 13] (fun s12 s13 wx => (s12 = .int .i64 L ∧ s13 = .bool true) ∧ Below W4.heap.size W4 wx)
          case first =>
            refine wp_region_quiet_below (by kernel_rfl) (by kernel_rfl) ?_
            repeat (go_big_quiet_step (first | (go_at_call 16; exact Calls.regrown_of (KD.out _ _))))
            refine wpQuiet_nil ?_
            intro _ hw'
            obtain ⟨pq, hw''⟩ := hw'
            have bq := Lib.hid (below_regrown W4 pq.d pq.os)
            subst hw''
            clear y0' y1' y2' z0 z1 z2
            go_wp2
            go_meet
            exact ⟨⟨rfl, rfl⟩, bq.out⟩
          case rest =>
            obtain ⟨⟨rfl, rfl⟩, bx⟩ := hcut
            have KD3 := Lib.hid (KD2.out _ bx)
            replace S := Lib.hid (S.out.step bx)
            clear z0 z1 z2 y0' y1' y2' KD KD2 bx
            obtain ⟨z0, z1, z2, -, -, -⟩ := blk3 S.out.hz
            have y0' := fun d os => cell_regrown z0 d os
            have y1' := fun d os => cell_regrown z1 d os
            have y2' := fun d os => cell_regrown z2 d os
            go_upto_region 16 with (fail)
            go_cut [14, 15] (fun s14 s15 wx => (s14 = .int .i64 ((mm : Int) + (L : Int)) ∧ s15 = .bool true) ∧ Below wc.heap.size wc wx)
            case first =>
              refine wp_region_quiet_below (by kernel_rfl) (by kernel_rfl) ?_
              repeat (go_big_quiet_step (first | (go_at_call 16; rw [e2]; exact Calls.regrown_of (KD3.out _ _)) | (go_at_call 16; exact Calls.regrown_of (KD3.out _ _))))
              refine wpQuiet_nil ?_
              intro _ hw'
              obtain ⟨pq, hw''⟩ := hw'
              have bq := Lib.hid (below_regrown wc pq.d pq.os)
              subst hw''
              clear y0' y1' y2' z0 z1 z2
              go_wp2
              go_meet
              exact ⟨⟨rfl, rfl⟩, bq.out⟩
            case rest =>
              obtain ⟨⟨rfl, rfl⟩, by2⟩ := hcut
              have hB2 := Lib.hid (S.out.low.trans (by2.mono S.out.low.size))
              have w2 : IntKind.i64.wrap ((mm : Int) + (L : Int)) = (mm : Int) + (L : Int) := IntWalk.i64_in _ (by omega)
              have e3 : decide ((L : Int) ≤ bd) = true := decide_eq_true lb
              clear y0' y1' y2' z0 z1 z2 by2
              go_wp2
              go_ret
              exact ⟨ret_bool (by simp), hB2.out⟩
  · have t1 : (1048576 : Int) < (n : Int) := by omega
    go_enter Try.func3, Try.ntmps3
    go_wp2
    go_ret
    exact ⟨rfl, Below.refl _ _⟩

set_option maxRecDepth 100000 in
theorem lifted (os : Os) (started : os.Started) (H : Type) (enc : TypeId × Value → H) :
    ReturnsInHanded {} Try.checked os 3 .any (Rows.fnTakenFromSpec.pre6 enc Try.prog Try.f3 Rows.fnTakenFromRow.domain false) (Rows.fnTakenFromSpec.post enc Try.prog Try.f3 false true false false) := by
  refine returnsInHanded_of_change (C := Try.checked) own started (by kernel_rfl) Try.func3
    (ChangeSpec.witness6 (enc := enc) (C := Try.checked) false ⟨#[], #[.slice none 0 0], []⟩ 8 (by kernel_rfl) (by kernel_rfl) (by kernel_rfl) (by kernel_rfl)) ?_
  intro W base args ds gs before hval0 hW hcnd _
  have hval : ∀ (j : Nat) t v, Try.f3.params[j]? = some t → args[j]? = some v → Value.okWide Try.prog W .any base t v := hval0
  have hW' := hW
  obtain ⟨p, q, hA0, hV, rfl, hfz, hnd⟩ := hW
  have hA : DataW.TrodAll enc Try.prog W 0 (fun _ => true) true Try.f3.params.toList args.toList ds p := hA0
  rw [Try.params3] at hA hval
  obtain ⟨v0, vs0, d0, ds0, p0, q0, hargs, rfl, rfl, h0, r0⟩ := trodAll_cons hA
  obtain ⟨rfl, rfl, rfl⟩ := trodAll_nil r0
  obtain rfl : args = #[v0] := by cases args; simp_all
  obtain ⟨rfl, rfl⟩ := trodVars_none hV
  obtain ⟨a0, len0, cap0, rfl⟩ := okWide_slice Try.underlying22 (hval 0 22 v0 rfl rfl)
  have k0 := h0
  have lt0 : ∀ x ∈ p0, x.block < W.heap.size := by obtain ⟨m, hm⟩ := k0; exact DataW.trod_lt m _ _ _ hm
  obtain ⟨z0, s0, w0, m0⟩ : ∃ zs, Ints W .u8 a0 len0 cap0 zs ∧ (∀ n ∈ zs, (Lit.int .u8 n).wf = true) ∧ cap0 ≤ maxLen := by
    obtain ⟨fuel, hf⟩ := h0
    rcases open_ints Try.underlying22 Try.underlying5 (by kernel_rfl) hf with ⟨hcs, _⟩ | ⟨x, l, c, zs, hcs, _, hl, hm, hz, _, hcell, hwz⟩
    · simp [Value.cells] at hcs
      obtain ⟨rfl, rfl, rfl⟩ := hcs
      exact ⟨[], Ints.none_, by simp, Nat.zero_le _⟩
    · simp [Value.cells] at hcs
      obtain ⟨rfl, rfl, rfl⟩ := hcs
      exact ⟨_, Ints.of_row hl (by simpa using hz) hcell, fun n hn => hwz n (List.mem_of_mem_take hn), hm⟩
  clear hA0 hval0
  refine (walk W a0 len0 cap0 z0 s0 w0 m0).mono fun e W' ⟨he, bel⟩ => ?_
  subst he
  exact ⟨_, rfl, _, _, _, [], _, [], hW', trodAll_mk1 (shut_bool Try.underlying4 _), (trodAll_cons_mk (Below.trod laidOut (by kernel_rfl) (of_decide_eq_true (by kernel_rfl)) k0 bel lt0) trodAll_mk0), rfl, bel.frame _, fun h => by cases h⟩

theorem over : Rows.fnTakenFromRow.holds Try.pinned (OpenSpec.ofChange Rows.fnTakenFromSpec) :=
  OpenClaim.holds_of_wide 3 Try.f3 rfl rfl rfl rfl rfl rfl rfl ⟨rfl, rfl, rfl, rfl, rfl⟩ rfl rfl rfl rfl rfl (by kernel_rfl) Try.func3 (by kernel_rfl)
    (of_decide_eq_true (by kernel_rfl)) (by unfold Func.isWrapper; first | (rw [if_pos (by decide +kernel)]; kernel_rfl) | (rw [if_neg (by decide +kernel)]; exact ⟨rfl, rfl⟩))
    (fun os started H enc _ => lifted os started H enc)
theorem proved : Rows.FnTakenFromSaid := over
end Go.Proofs.Ytpbinajjlambfaa.fnTakenFrom
