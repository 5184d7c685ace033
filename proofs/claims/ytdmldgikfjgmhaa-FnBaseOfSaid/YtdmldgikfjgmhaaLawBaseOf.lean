/-
  FnBaseOf holds for every input: the drawn tongue and word are answered by BaseOf as by its model; and the promise holds of the answers. No condition.
-/
import Derived.Test.YtdmldgikfjgmhaaRows
import Derived.Test.YtdmldgikfjgmhaaDrawU
namespace Go.Proofs.Ytdmldgikfjgmhaa.fnBaseOf
open Go.ChangeShapes Go.WideShapes Go.ChangeAt Go.RowKit
open Go.ChangeMaps (open_string shut_string)

theorem own : ownKnob Try.prog.godebug = none := by kernel_rfl
theorem laidOut : laidOutB Try.prog = true := by kernel_rfl

theorem base_case (t : Tg) (x : ByteArray) : (baseB t x = true ∧ ∃ j : Nat, j < t.ns.length ∧ t.ns.length + 1 = t.bs.length ∧ baseV t x = (j : Int) + 1) ∨ (baseB t x = false ∧ baseV t x = -1) := by
  cases h : baseB t x
  · exact .inr ⟨rfl, by unfold baseV; rw [h]; rfl⟩
  · left
    have hb := h
    unfold baseB at hb
    rw [Bool.and_eq_true, decide_eq_true_eq] at hb
    exact ⟨rfl, place t.ns x, hb.2, (ok_shape hb.1).ns, by unfold baseV; rw [h, if_pos rfl]⟩
theorem base_own {t : Tg} {k : Nat} (ho : t.ok = true) (hk : k < t.ns.length) : baseB t (t.ns.getD k ByteArray.empty) = true ∧ baseV t (t.ns.getD k ByteArray.empty) = (k : Int) + 1 := by
  refine base_at ho hk (fun i hi e => ?_) rfl
  have hd : t.ns.Nodup := (List.nodup_append.1 ((ok_iff t).1 ho).2.2.2.2.2).2.1
  have hi' : i < t.ns.length := by omega
  rw [List.getD_eq_getElem?_getD, List.getD_eq_getElem?_getD, List.getElem?_eq_getElem hi', List.getElem?_eq_getElem hk] at e
  exact (List.pairwise_iff_getElem.1 hd) i k hi' hk hi (by simpa using e)

set_option maxRecDepth 100000 in
set_option maxHeartbeats 4000000 in
theorem walk (w : World) (A : Option Addr) (n c : Nat) (xs : List Int) (h : Ints w .u8 A n c xs) (hwf : ∀ x ∈ xs, (Lit.int .u8 x).wf = true) (hc : c ≤ maxLen) :
    Calls Try.prog 6 #[.slice A n c] w fun e w' => e = .returned (.bool true) ∧ Below w.heap.size w w' := by
  have hn : n ≤ 9223372036854775807 := by have := h.le; unfold maxLen at hc; omega
  by_cases hl : n ≤ 1048576
  · have HD := Lib.hid (drawBaseOf_any A n c xs w h hl hwf hc)
    clear h hwf hc
    go_enter Try.func6, Try.ntmps6
    go_wp2_with (fail)
    refine HD.out.mono ?_
    rintro e w1 ⟨v, t, x, rfl, ho, hsm, hx, hb⟩
    obtain ⟨A1, c1, A2, c2, A3, c3, rfl⟩ := ho.shape
    have hf := hsm.fine (by omega)
    have hxm : x.size ≤ maxLen := by unfold maxLen; omega
    have hB := hb.alloc hb.size (.cells #[.slice A1 t.us.length c1, .slice A2 t.bs.length c2, .slice A3 t.ns.length c3] 30)
    have hZ := Blk.new w1 30 #[.slice A1 t.us.length c1, .slice A2 t.bs.length c2, .slice A3 t.ns.length c3]
    have hT := ho.tng.below ((Below.refl _ _).alloc (Nat.le_refl _) (.cells #[.slice A1 t.us.length c1, .slice A2 t.bs.length c2, .slice A3 t.ns.length c3] 30)) (Nat.le_refl _)
    have hul := hf.ns
    have hsz : ∀ k, k < t.ns.length → (t.ns.getD k ByteArray.empty).size ≤ maxLen := fun k hk => by
      have := hf.size _ (List.mem_append_right _ (List.getElem_mem hk))
      rw [List.getD_eq_getElem?_getD, List.getElem?_eq_getElem hk]
      unfold maxLen
      simp only [Option.getD_some]
      omega
    replace hsz := Lib.hid hsz
    replace hB := Lib.hid hB
    replace hZ := Lib.hid hZ
    replace hT := Lib.hid hT
    replace hf := Lib.hid hf
    clear ho hsm hb HD
    go_upto_region 4 with (fail)
    generalize w1.alloc (.cells #[.slice A1 t.us.length c1, .slice A2 t.bs.length c2, .slice A3 t.ns.length c3] 30) = W at *
    obtain ⟨z0, z1, z2, -, -, -⟩ := blk3 hZ.out
    have K1 := Lib.hid (implBaseOf_any _ t x W hT.out hf.out hxm)
    go_wp2_with (fail)
    refine K1.out.mono ?_
    rintro e w2 ⟨rfl, b2⟩
    have hB2 := hB.out.trans (b2.mono hB.out.size)
    have hZ2 := hZ.out.below b2 hZ.out.lt
    have hT2 := hT.out.below b2 (Nat.le_refl _)
    have K2 := Lib.hid (specBaseOf_any _ t x w2 hT2 hf.out)
    replace hB2 := Lib.hid hB2
    replace hT2 := Lib.hid hT2
    clear b2 z0 z1 z2 hB hZ hT K1
    obtain ⟨z0, z1, z2, -, -, -⟩ := blk3 hZ2
    replace hZ2 := Lib.hid hZ2
    go_wp2_with (fail)
    refine K2.out.mono ?_
    rintro e w3 ⟨rfl, b3⟩
    have hB3 := hB2.out.trans (b3.mono hB2.out.size)
    have hZ3 := hZ2.out.below b3 hZ2.out.lt
    have hT3 := hT2.out.below b3 (Nat.le_refl _)
    clear b3 z0 z1 z2 hB2 hZ2 hT2 K2
    obtain ⟨z0, z1, z2, -, -, -⟩ := blk3 hZ3
    replace hB3 := Lib.hid hB3
    replace hZ3 := Lib.hid hZ3
    have hcase := base_case t x
    have hne1 : (baseV t x != baseV t x) = false := by simp
    have hne2 : (baseB t x != baseB t x) = false := by simp
    generalize baseV t x = bv at *
    generalize baseB t x = bb at *
    replace hT3 := Lib.hid hT3
    replace hcase := Lib.hid hcase
    go_wp2
    go_loopw [9] (fun i wr => ∃ k : Nat, k ≤ t.ns.length ∧ i = .int .i64 k ∧ Below w3.heap.size w3 wr) (fun i _ => t.ns.length - (intOf i).toNat)
    case atStart => exact ⟨0, Nat.zero_le _, rfl, Below.refl _ _⟩
    case round =>
      obtain ⟨k, hk, rfl, hb⟩ := hrel
      have hBr := hB3.out.trans (hb.mono hB3.out.size)
      have hZr := hZ3.out.below hb hZ3.out.lt
      have hTr := hT3.out.below hb (Nat.le_refl _)
      clear z0 z1 z2
      obtain ⟨z0, z1, z2, -, -, -⟩ := blk3 hZr
      by_cases hlt : k < t.ns.length
      · have K3 := Lib.hid (implTongueOk_any _ t wr hTr hf.out)
        replace hBr := Lib.hid hBr
        replace hZr := Lib.hid hZr
        replace hTr := Lib.hid hTr
        replace hb := Lib.hid hb
        go_wp2_with (fail)
        refine K3.out.mono ?_
        rintro e w4 ⟨rfl, b4⟩
        have hB4 := hBr.out.trans (b4.mono hBr.out.size)
        have hb4 := hb.out.trans (b4.mono hb.out.size)
        have hZ4 := hZr.out.below b4 hZr.out.lt
        have hT4 := hTr.out.below b4 (Nat.le_refl _)
        clear b4 z0 z1 z2 hBr hb hZr hTr K3
        obtain ⟨z0, z1, z2, -, -, -⟩ := blk3 hZ4
        replace hB4 := Lib.hid hB4
        replace hb4 := Lib.hid hb4
        cases hok : t.ok
        · clear hT4 hZ4
          rcases hcase.out with ⟨rfl, j, hj, hjn, rfl⟩ | ⟨rfl, rfl⟩
          · have g1 : (1 : Int) ≤ (j : Int) + 1 := by omega
            have g2 : (j : Int) + 1 < (t.bs.length : Int) := by omega
            go_wp2_with (fail)
            refine (alive_any w4).mono ?_
            rintro e w9 ⟨rfl, b9⟩
            have hB9 := Lib.hid (hB4.out.trans (b9.mono hB4.out.size))
            clear b9
            go_wp2
            go_ret
            exact ⟨rfl, hB9.out⟩
          · go_wp2_with (fail)
            refine (alive_any w4).mono ?_
            rintro e w9 ⟨rfl, b9⟩
            have hB9 := Lib.hid (hB4.out.trans (b9.mono hB4.out.size))
            clear b9
            go_wp2
            go_ret
            exact ⟨rfl, hB9.out⟩
        · have hown := base_own hok hlt
          have hsz' := hsz.out k hlt
          have K4 := fun W (hb : Below w4.heap.size w4 W) => implBaseOf_any _ t (t.ns.getD k ByteArray.empty) W (hT4.below hb (Nat.le_refl _)) hf.out hsz'
          rw [hown.1, hown.2] at K4
          replace K4 := Lib.hid K4
          obtain ⟨B1, d1, B2, d2, B3, d3, ev, -, -, hS3⟩ := hT4.ex
          cases ev
          obtain ⟨b, o, rfl, hbo, hcs⟩ := hS3.at_ (by omega)
          have ck := hcs k hlt
          generalize t.ns.getD k ByteArray.empty = y at *
          have hneq : (((k : Int) + 1) != ((k : Int) + 1)) = false := by simp
          replace hZ4 := Lib.hid hZ4
          clear hT4 hS3 hcs hown hsz'
          go_wp2
          go_region_held3 (fun w' => w'.cell? ⟨w1.heap.size, 0, none⟩ = some (.slice A1 t.us.length c1) ∧ w'.cell? ⟨w1.heap.size, 1, none⟩ = some (.slice A2 t.bs.length c2) ∧ w'.cell? ⟨w1.heap.size, 2, none⟩ = some (.slice (some ⟨b, o, none⟩) t.ns.length c3) ∧ w'.cell? ⟨b, o + k, none⟩ = some (.string y))
            (first | go_keep | exact hS5)
            (first
              | (go_at_call 25; refine (K4.out _ (by first | exact (Below.refl _ _).drew | exact Below.refl _ _ | exact below_drewN (Below.refl _ _) _)).mono ?_; rintro e w5 ⟨rfl, b5'⟩; have b5 : Below w4.heap.size w4 w5 := ⟨b5'.os, b5'.tape, b5'.output, b5'.size, b5'.block⟩; obtain ⟨x0', x1', x2', -, -, -⟩ := blk3 (hZ4.out.below b5 hZ4.out.lt); have hS5 := And.intro x0' (And.intro x1' (And.intro x2' ((b5.cell (p := ⟨b, o + k, none⟩) hbo).trans ck))); have hb5 := Lib.hid (hb4.out.trans (b5.mono hb4.out.size)); clear b5 b5'))
          all_goals
            go_wp2
            go_roundw
            case rel => exact ⟨k+1, by omega, by go_num, hb5.out⟩
            case measure => simp [intOf]; omega
      · clear hTr hZr
        replace hBr := Lib.hid hBr
        rcases hcase.out with ⟨rfl, j, hj, hjn, rfl⟩ | ⟨rfl, rfl⟩
        · have g1 : (1 : Int) ≤ (j : Int) + 1 := by omega
          have g2 : (j : Int) + 1 < (t.bs.length : Int) := by omega
          go_wp2_with (fail)
          refine (alive_any wr).mono ?_
          rintro e w9 ⟨rfl, b9⟩
          have hB9 := Lib.hid (hBr.out.trans (b9.mono hBr.out.size))
          clear b9
          go_wp2
          go_ret
          exact ⟨rfl, hB9.out⟩
        · go_wp2_with (fail)
          refine (alive_any wr).mono ?_
          rintro e w9 ⟨rfl, b9⟩
          have hB9 := Lib.hid (hBr.out.trans (b9.mono hBr.out.size))
          clear b9
          go_wp2
          go_ret
          exact ⟨rfl, hB9.out⟩
  · have hl' : 1048576 < n := by omega
    go_enter Try.func6, Try.ntmps6
    go_wp2
    go_ret
    exact ⟨rfl, Below.refl _ _⟩

set_option maxRecDepth 100000 in
theorem lifted (os : Os) (started : os.Started) (H : Type) (enc : TypeId × Value → H) :
    ReturnsInHanded {} Try.checked os 6 .any (Rows.fnBaseOfSpec.pre6 enc Try.prog Try.f6 Rows.fnBaseOfRow.domain false) (Rows.fnBaseOfSpec.post enc Try.prog Try.f6 false true false false) := by
  refine returnsInHanded_of_change (C := Try.checked) own started (by kernel_rfl) Try.func6
    (ChangeSpec.witness6 (enc := enc) (C := Try.checked) false ⟨#[], #[.slice none 0 0], []⟩ 8 (by kernel_rfl) (by kernel_rfl) (by kernel_rfl) (by kernel_rfl)) ?_
  intro W base args ds gs before hval0 hW hcnd _
  have hval : ∀ (j : Nat) t v, Try.f6.params[j]? = some t → args[j]? = some v → Value.okWide Try.prog W .any base t v := hval0
  have hW' := hW
  obtain ⟨p, q, hA0, hV, rfl, hfz, hnd⟩ := hW
  have hA : DataW.TrodAll enc Try.prog W 0 (fun _ => true) true Try.f6.params.toList args.toList ds p := hA0
  rw [Try.params6] at hA hval
  obtain ⟨v0, vs0, d0, ds0, p0, q0, hargs, rfl, rfl, h0, r0⟩ := trodAll_cons hA
  obtain ⟨rfl, rfl, rfl⟩ := trodAll_nil r0
  obtain rfl : args = #[v0] := by cases args; simp_all
  obtain ⟨rfl, rfl⟩ := trodVars_none hV
  obtain ⟨a0, len0, cap0, rfl⟩ := okWide_slice Try.underlying22 (hval 0 22 v0 rfl rfl)
  have k0 := h0
  have lt0 : ∀ x ∈ p0, x.block < W.heap.size := by obtain ⟨m, hm⟩ := k0; exact DataW.trod_lt m _ _ _ hm
  obtain ⟨z0, s0, w0, m0⟩ : ∃ zs, Ints W .u8 a0 len0 cap0 zs ∧ (∀ n ∈ zs, (Lit.int .u8 n).wf = true) ∧ cap0 ≤ maxLen := by
    obtain ⟨fuel, hf⟩ := h0
    rcases open_ints Try.underlying22 Try.underlying5 (by kernel_rfl) hf with ⟨hcs, _⟩ | ⟨x, l, c, zs, hcs, _, hl, hm, hz, _, hcell, hwz⟩
    · simp [Value.cells] at hcs
      obtain ⟨rfl, rfl, rfl⟩ := hcs
      exact ⟨[], Ints.none_, by simp, Nat.zero_le _⟩
    · simp [Value.cells] at hcs
      obtain ⟨rfl, rfl, rfl⟩ := hcs
      exact ⟨_, Ints.of_row hl (by simpa using hz) hcell, fun n hn => hwz n (List.mem_of_mem_take hn), hm⟩
  clear hA0 hval0
  refine (walk W a0 len0 cap0 z0 s0 w0 m0).mono fun e W' ⟨he, bel⟩ => ?_
  subst he
  exact ⟨_, rfl, _, _, _, [], _, [], hW', trodAll_mk1 (shut_bool Try.underlying4 _), (trodAll_cons_mk (Below.trod laidOut (by kernel_rfl) (of_decide_eq_true (by kernel_rfl)) k0 bel lt0) trodAll_mk0), rfl, bel.frame _, fun h => by cases h⟩

theorem over : Rows.fnBaseOfRow.holds Try.pinned (OpenSpec.ofChange Rows.fnBaseOfSpec) :=
  OpenClaim.holds_of_wide 6 Try.f6 rfl rfl rfl rfl rfl rfl rfl ⟨rfl, rfl, rfl, rfl, rfl⟩ rfl rfl rfl rfl rfl (by kernel_rfl) Try.func6 (by kernel_rfl)
    (of_decide_eq_true (by kernel_rfl)) (by unfold Func.isWrapper; first | (rw [if_pos (by decide +kernel)]; kernel_rfl) | (rw [if_neg (by decide +kernel)]; exact ⟨rfl, rfl⟩))
    (fun os started H enc _ => lifted os started H enc)
theorem proved : Rows.FnBaseOfSaid := over
end Go.Proofs.Ytdmldgikfjgmhaa.fnBaseOf
