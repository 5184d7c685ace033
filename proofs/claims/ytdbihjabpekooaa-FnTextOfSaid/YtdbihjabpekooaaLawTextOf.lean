/-
  FnTextOf holds for every input: the drawn tongue and number are answered by TextOf as by its model; it has as many letters as all words and one space fewer than words, and of each base alone it is its name. No condition.
-/
import Derived.Test.YtdbihjabpekooaaRows
import Derived.Test.YtdbihjabpekooaaDrawN
import Derived.Test.YtdbihjabpekooaaImpl3
import Derived.Test.YtdbihjabpekooaaMathG
import Derived.Lib.QuietBelow
namespace Go.Proofs.Ytdbihjabpekooaa.fnTextOf
open Go.ChangeShapes Go.WideShapes Go.ChangeAt Go.RowKit Go.Sort
open Go.ChangeMaps (open_string shut_string)

theorem own : ownKnob Try.prog.godebug = none := by kernel_rfl
theorem laidOut : laidOutB Try.prog = true := by kernel_rfl

theorem letters_ge {l : List ByteArray} (h : ∀ x ∈ l, 1 ≤ x.size) : ∀ k, k ≤ l.length → k ≤ lettersTo' l k := by
  intro k
  induction k with
  | zero => intro _; exact Nat.zero_le _
  | succ k ih =>
    intro hk
    have h1 := ih (by omega)
    have h2 := h _ (List.getElem_mem (show k < l.length by omega))
    rw [lettersTo', List.getD_eq_getElem?_getD, List.getElem?_eq_getElem (show k < l.length by omega)]
    simp only [Option.getD_some]
    omega
theorem text_letters {t : Tg} {a : Int} (h : namedB t a = true) : (textOf t a).size + 1 = lettersTo' (nameOf t a) (nameOf t a).length + (nameOf t a).length ∧ 1 ≤ (textOf t a).size ∧ 1 ≤ (nameOf t a).length := by
  have hL : 0 < (nameOf t a).length := by unfold namedB at h; exact of_decide_eq_true h
  have h1 := joinW_letters (nameOf t a) (nameOf t a).length
  rw [if_pos hL] at h1
  have h2 := letters_ge (fun x hx => (nameOf_size t a x hx).1) _ (Nat.le_refl _)
  unfold textOf
  omega
theorem nonempty_list {x : ByteArray} (h : 1 ≤ x.size) : x.toList ≠ [] := by
  intro e
  have h2 : x.toList.length = x.size := by rw [ByteArray.toList_eq]; rfl
  rw [e] at h2
  simp at h2
  omega

set_option maxRecDepth 100000 in
set_option maxHeartbeats 8000000 in
theorem walk (w : World) (A : Option Addr) (n c : Nat) (xs : List Int) (h : Ints w .u8 A n c xs) (hwf : ∀ x ∈ xs, (Lit.int .u8 x).wf = true) (hc : c ≤ maxLen) :
    Calls Try.prog 6 #[.slice A n c] w fun e w' => e = .returned (.bool true) ∧ Below w.heap.size w w' := by
  have hn : n ≤ 9223372036854775807 := by have := h.le; unfold maxLen at hc; omega
  by_cases hl : n ≤ 1048576
  · have HD := Lib.hid (drawTextOf_any A n c xs w h hl hwf hc)
    clear h hwf hc
    go_enter Try.func6, Try.ntmps6
    go_wp2_with (fail)
    refine HD.out.mono ?_
    rintro e w1 ⟨v, t, a, rfl, ho, hsm, ha, hb⟩
    obtain ⟨A1, c1, A2, c2, A3, c3, rfl⟩ := ho.shape
    have hf := hsm.fine (by omega)
    have hB := hb.alloc hb.size (.cells #[.slice A1 t.us.length c1, .slice A2 t.bs.length c2, .slice A3 t.ns.length c3] 26)
    have hZ := Blk.new w1 26 #[.slice A1 t.us.length c1, .slice A2 t.bs.length c2, .slice A3 t.ns.length c3]
    have hT := ho.tng.below ((Below.refl _ _).alloc (Nat.le_refl _) (.cells #[.slice A1 t.us.length c1, .slice A2 t.bs.length c2, .slice A3 t.ns.length c3] 26)) (Nat.le_refl _)
    have hfb := hf.bs
    replace hB := Lib.hid hB
    replace hZ := Lib.hid hZ
    replace hT := Lib.hid hT
    replace hf := Lib.hid hf
    clear ho hsm hb HD
    go_upto_region 4 with (fail)
    generalize w1.alloc (.cells #[.slice A1 t.us.length c1, .slice A2 t.bs.length c2, .slice A3 t.ns.length c3] 26) = W at *
    obtain ⟨z0, z1, z2, -, -, -⟩ := blk3 hZ.out
    have K1 := Lib.hid (implTextOf_any _ t a W hT.out hf.out (by omega))
    go_wp2_with (fail)
    refine K1.out.mono ?_
    rintro e w2 ⟨rfl, b2⟩
    replace hB := Lib.hid (hB.out.trans (b2.mono hB.out.size))
    replace hZ := Lib.hid (hZ.out.below b2 hZ.out.lt)
    replace hT := Lib.hid (hT.out.below b2 (Nat.le_refl _))
    have K2 := Lib.hid (specTextOf_any _ t a w2 hT.out hf.out (by omega))
    clear b2 z0 z1 z2 K1
    obtain ⟨z0, z1, z2, -, -, -⟩ := blk3 hZ.out
    go_wp2_with (fail)
    refine K2.out.mono ?_
    rintro e w3 ⟨rfl, b3⟩
    replace hB := Lib.hid (hB.out.trans (b3.mono hB.out.size))
    replace hZ := Lib.hid (hZ.out.below b3 hZ.out.lt)
    replace hT := Lib.hid (hT.out.below b3 (Nat.le_refl _))
    have K3 := specNameOf_any _ t a w3 hT.out hf.out (by omega)
    clear b3 z0 z1 z2 K2
    obtain ⟨z0, z1, z2, -, -, -⟩ := blk3 hZ.out
    have hne : ((textOf t a).toList != (textOf t a).toList) = false := by simp
    cases hnb : namedB t a
    · obtain ⟨-, hx⟩ := text_no hnb
      rw [hnb] at K3
      rw [hx] at hne ⊢
      replace K3 := Lib.hid K3
      replace hnb := Lib.hid hnb
      replace hx := Lib.hid hx
      go_wp2_with (fail)
      refine K3.out.mono ?_
      rintro e w4 ⟨v4, rfl, o4, b4⟩
      obtain ⟨B4, e4, rfl, -⟩ := o4.strs
      replace hB := Lib.hid (hB.out.trans (b4.mono hB.out.size))
      clear b4 z0 z1 z2 K3 o4 hZ hT
      go_wp2_with (fail)
      refine (alive_any w4).mono ?_
      rintro e w9 ⟨rfl, b9⟩
      have hB9 := Lib.hid (hB.out.trans (b9.mono hB.out.size))
      clear b9
      go_wp2
      go_ret
      exact ⟨rfl, hB9.out⟩
    · rw [hnb] at K3
      obtain ⟨tl1, tl2, tl3⟩ := text_letters hnb
      have hok := (named_ok hnb).1
      have hln := nameOf_len t a
      have hlw := lettersTo_le (nameOf_at t a)
      have hne1 := nonempty_list tl2
      have hs := ok_shape hok
      have hbl := bases_len hs.bs
      have hns := hs.ns
      have htb := fun k h1 h2 h3 => text_base (k := k) hok h1 h2 h3
      have hpos := bases_pos hs.bs
      generalize textOf t a = tx at *
      generalize nameOf t a = ws at *
      generalize hwl : ws.length = L at *
      have hne2 : (tx.toList != []) = true := by simpa using hne1
      have hne3 : (tx.toList == []) = false := by simpa using hne1
      have hne4 : tx.toList.isEmpty = false := by simpa using hne1
      replace hwl := Lib.hid hwl
      replace K3 := Lib.hid K3
      replace hnb := Lib.hid hnb
      replace hlw := Lib.hid hlw
      replace htb := Lib.hid htb
      replace hok := Lib.hid hok
      replace tl1 := Lib.hid tl1
      replace hpos := Lib.hid hpos
      clear hs
      go_wp2_with (fail)
      refine K3.out.mono ?_
      rintro e w4 ⟨v4, rfl, o4, b4⟩
      obtain ⟨B4, e4, rfl, s4⟩ := o4.strs
      rw [hwl.out] at s4 ⊢
      replace hB := Lib.hid (hB.out.trans (b4.mono hB.out.size))
      replace hZ := Lib.hid (hZ.out.below b4 hZ.out.lt)
      replace hT := Lib.hid (hT.out.below b4 (Nat.le_refl _))
      clear b4 z0 z1 z2 K3 o4
      obtain ⟨b5, o5, rfl, -, hc5⟩ := s4.at_ (by omega)
      replace hc5 := Lib.hid hc5
      clear s4
      go_wp2
      go_loop [8, 9] (fun s8 s9 => ∃ k : Nat, k ≤ L ∧ s9 = .int .i64 k ∧ s8 = .int .i64 ((L : Int) - 1 + lettersTo' ws k)) (fun _ i => L - (intOf i).toNat)
      case atStart => exact ⟨0, Nat.zero_le _, rfl, by show _ = Value.int .i64 ((L : Int) - 1 + ((0 : Nat) : Int)); simp⟩
      case round =>
        obtain ⟨k, hk, rfl, rfl⟩ := hrel
        have hb8 := hlw.out k
        by_cases hlt : k < L
        · have ck := hc5.out k hlt
          have HJ : lettersTo' ws (k + 1) = lettersTo' ws k + (ws.getD k ByteArray.empty).size := rfl
          have hb9 := hlw.out (k + 1)
          rw [HJ] at hb9
          generalize ws.getD k ByteArray.empty = x at *
          generalize lettersTo' ws k = lt at *
          replace HJ := Lib.hid HJ
          go_wp2
          go_round
          case rel => exact ⟨k + 1, by omega, by go_num, by rw [HJ.out]; simp; omega⟩
          case measure => simp [intOf]; omega
        · obtain rfl : k = L := by omega
          have htl := tl1.out
          generalize lettersTo' ws k = lt at *
          replace htl := Lib.hid htl
          clear hc5
          go_wp2
          go_loopw [10] (fun i wr => ∃ k : Nat, 1 ≤ k ∧ k ≤ t.bs.length ∧ i = .int .i64 k ∧ Below w4.heap.size w4 wr) (fun i _ => t.bs.length - (intOf i).toNat)
          case atStart => exact ⟨1, Nat.le_refl _, by omega, rfl, Below.refl _ _⟩
          case round =>
            obtain ⟨k2, hk1, hk2, rfl, hb⟩ := hrel
            have hZr := hZ.out.below hb hZ.out.lt
            have hTr := hT.out.below hb (Nat.le_refl _)
            have hBr := Lib.hid (hB.out.trans (hb.mono hB.out.size))
            replace hb := Lib.hid hb
            obtain ⟨z0, z1, z2, -, -, -⟩ := blk3 hZr
            by_cases hlt2 : k2 < t.bs.length
            · obtain ⟨_, _, _, _, _, _, ev, -, I2, S3⟩ := hTr.ex
              cases ev
              obtain ⟨b2, o2, rfl, -, hc2⟩ := I2.at_ (by omega)
              obtain ⟨b3, o3, rfl, -, hc3⟩ := S3.at_ (by omega)
              have ck2 := hc2 k2 hlt2
              have ck3 := hc3 (k2 - 1) (by omega)
              have px := hpos.out k2 hlt2
              have hx := htb.out k2 hk1 hlt2
              have KX := fun d os => implTextOf_any _ t (t.bs.getD k2 0) (grow (redrawn wr d) os) (hTr.below (below_regrown wr d os) (Nat.le_refl _)) hf.out (by omega)
              generalize t.bs.getD k2 0 = x at *
              generalize t.ns.getD (k2 - 1) ByteArray.empty = nm at *
              have y0 := fun d os => cell_regrown z0 d os
              have y1 := fun d os => cell_regrown z1 d os
              have y2 := fun d os => cell_regrown z2 d os
              have u1 := fun d os => cell_regrown ck2 d os
              have u2 := fun d os => cell_regrown ck3 d os
              have kk1 : (0 : Int) ≤ (k2 : Int) - 1 := by omega
              have kk2 : (k2 : Int) - 1 < (t.ns.length : Int) := by omega
              have kk3 : ((k2 : Int) - 1).toNat = k2 - 1 := by omega
              have kk4 : IntKind.i64.wrap ((k2 : Int) - 1) = (k2 : Int) - 1 := IntWalk.i64_in _ (by omega)
              have kk5 : (1 : Int) ≤ (k2 : Int) := by omega
              have kk6 : (k2 : Int) < (t.bs.length : Int) := by omega
              replace KX := Lib.hid KX
              clear hc2 hc3 I2 S3 ck2 ck3 hTr hZr
              by_cases hle : x ≤ 99999
              · have hd := decide_eq_true hle
                have KY := KX.out
                rw [hx hle] at KY
                replace KY := Lib.hid KY
                have hnn : (nm.toList != nm.toList) = false := by simp
                clear hx
                go_upto_region 18 with (fail)
                refine wp_region_quiet_below (by kernel_rfl) (by kernel_rfl) ?_
                repeat (go_big_quiet_step (first | (go_at_call 25; exact Calls.regrown_of (KY.out _ _))))
                refine wpQuiet_nil ?_
                intro _ hw'
                obtain ⟨pq, hw''⟩ := hw'
                have HBq := hb.out.trans ((below_regrown wr pq.d pq.os).mono hb.out.size)
                subst hw''
                replace HBq := Lib.hid HBq
                clear y0 y1 y2 z0 z1 z2 u1 u2
                go_wp2
                go_roundw
                case rel => exact ⟨k2 + 1, by omega, by omega, by go_num, HBq.out⟩
                case measure => simp [intOf]; omega
              · have hd := decide_eq_false hle
                clear hx
                go_upto_region 18 with (fail)
                refine wp_region_quiet_below (by kernel_rfl) (by kernel_rfl) ?_
                repeat (go_big_quiet_step (fail))
                refine wpQuiet_nil ?_
                intro _ hw'
                obtain ⟨pq, hw''⟩ := hw'
                have HBq := hb.out.trans ((below_regrown wr pq.d pq.os).mono hb.out.size)
                subst hw''
                replace HBq := Lib.hid HBq
                clear y0 y1 y2 z0 z1 z2 u1 u2
                go_wp2
                go_roundw
                case rel => exact ⟨k2 + 1, by omega, by omega, by go_num, HBq.out⟩
                case measure => simp [intOf]; omega
            · have heq : ((tx.size : Int) == (k : Int) - 1 + (lt : Int)) = true := by rw [beq_iff_eq]; have := htl.out; omega
              have heq2 : (tx.size : Int) = (k : Int) - 1 + (lt : Int) := by have := htl.out; omega
              replace heq2 := Lib.hid heq2
              clear hTr hZr
              go_wp2
              go_ret
              exact ⟨rfl, hBr.out⟩
  · have hl' : 1048576 < n := by omega
    go_enter Try.func6, Try.ntmps6
    go_wp2
    go_ret
    exact ⟨rfl, Below.refl _ _⟩

set_option maxRecDepth 100000 in
theorem lifted (os : Os) (started : os.Started) (H : Type) (enc : TypeId × Value → H) :
    ReturnsInHanded {} Try.checked os 6 .any (Rows.fnTextOfSpec.pre6 enc Try.prog Try.f6 Rows.fnTextOfRow.domain false) (Rows.fnTextOfSpec.post enc Try.prog Try.f6 false true false false) := by
  refine returnsInHanded_of_change (C := Try.checked) own started (by kernel_rfl) Try.func6
    (ChangeSpec.witness6 (enc := enc) (C := Try.checked) false ⟨#[], #[.slice none 0 0], []⟩ 8 (by kernel_rfl) (by kernel_rfl) (by kernel_rfl) (by kernel_rfl)) ?_
  intro W base args ds gs before hval0 hW hcnd _
  have hval : ∀ (j : Nat) t v, Try.f6.params[j]? = some t → args[j]? = some v → Value.okWide Try.prog W .any base t v := hval0
  have hW' := hW
  obtain ⟨p, q, hA0, hV, rfl, hfz, hnd⟩ := hW
  have hA : DataW.TrodAll enc Try.prog W 0 (fun _ => true) true Try.f6.params.toList args.toList ds p := hA0
  rw [Try.params6] at hA hval
  obtain ⟨v0, vs0, d0, ds0, p0, q0, hargs, rfl, rfl, h0, r0⟩ := trodAll_cons hA
  obtain ⟨rfl, rfl, rfl⟩ := trodAll_nil r0
  obtain rfl : args = #[v0] := by cases args; simp_all
  obtain ⟨rfl, rfl⟩ := trodVars_none hV
  obtain ⟨a0, len0, cap0, rfl⟩ := okWide_slice Try.underlying22 (hval 0 22 v0 rfl rfl)
  have k0 := h0
  have lt0 : ∀ x ∈ p0, x.block < W.heap.size := by obtain ⟨m, hm⟩ := k0; exact DataW.trod_lt m _ _ _ hm
  obtain ⟨z0, s0, w0, m0⟩ : ∃ zs, Ints W .u8 a0 len0 cap0 zs ∧ (∀ n ∈ zs, (Lit.int .u8 n).wf = true) ∧ cap0 ≤ maxLen := by
    obtain ⟨fuel, hf⟩ := h0
    rcases open_ints Try.underlying22 Try.underlying5 (by kernel_rfl) hf with ⟨hcs, _⟩ | ⟨x, l, c, zs, hcs, _, hl, hm, hz, _, hcell, hwz⟩
    · simp [Value.cells] at hcs
      obtain ⟨rfl, rfl, rfl⟩ := hcs
      exact ⟨[], Ints.none_, by simp, Nat.zero_le _⟩
    · simp [Value.cells] at hcs
      obtain ⟨rfl, rfl, rfl⟩ := hcs
      exact ⟨_, Ints.of_row hl (by simpa using hz) hcell, fun n hn => hwz n (List.mem_of_mem_take hn), hm⟩
  clear hA0 hval0
  refine (walk W a0 len0 cap0 z0 s0 w0 m0).mono fun e W' ⟨he, bel⟩ => ?_
  subst he
  exact ⟨_, rfl, _, _, _, [], _, [], hW', trodAll_mk1 (shut_bool Try.underlying4 _), (trodAll_cons_mk (Below.trod laidOut (by kernel_rfl) (of_decide_eq_true (by kernel_rfl)) k0 bel lt0) trodAll_mk0), rfl, bel.frame _, fun h => by cases h⟩

theorem over : Rows.fnTextOfRow.holds Try.pinned (OpenSpec.ofChange Rows.fnTextOfSpec) :=
  OpenClaim.holds_of_wide 6 Try.f6 rfl rfl rfl rfl rfl rfl rfl ⟨rfl, rfl, rfl, rfl, rfl⟩ rfl rfl rfl rfl rfl (by kernel_rfl) Try.func6 (by kernel_rfl)
    (of_decide_eq_true (by kernel_rfl)) (by unfold Func.isWrapper; first | (rw [if_pos (by decide +kernel)]; kernel_rfl) | (rw [if_neg (by decide +kernel)]; exact ⟨rfl, rfl⟩))
    (fun os started H enc _ => lifted os started H enc)
theorem proved : Rows.FnTextOfSaid := over
end Go.Proofs.Ytdbihjabpekooaa.fnTextOf
