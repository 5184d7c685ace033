/-
  FnWordsOf holds for every input: the drawn tongue's words are answered by WordsOf as by its model; no two are equal, each is a word, and there are as many as units and names. No condition.
-/
import Derived.Test.YtdmldgikfjgmhaaRows
import Derived.Test.YtdmldgikfjgmhaaDrawT
import Derived.Test.YtdmldgikfjgmhaaSame
namespace Go.Proofs.Ytdmldgikfjgmhaa.fnWordsOf
open Go.ChangeShapes Go.WideShapes Go.ChangeAt Go.RowKit
open Go.ChangeMaps (open_string shut_string)

theorem own : ownKnob Try.prog.godebug = none := by kernel_rfl
theorem laidOut : laidOutB Try.prog = true := by kernel_rfl

theorem words_fine {t : Tg} (h : t.ok = true) : (∀ k, k < t.words.length → wordOk (t.words.getD k ByteArray.empty) = true) ∧
    (∀ j k, j < k → k < t.words.length → t.words.getD j ByteArray.empty ≠ t.words.getD k ByteArray.empty) ∧ t.words.length + 1 = t.us.length + t.bs.length ∧ 1 ≤ t.words.length := by
  obtain ⟨h1, h2, h3, h4, h5, h6⟩ := (ok_iff t).1 h
  refine ⟨fun k hk => ?_, fun j k hj hk e => ?_, by rw [words_length]; omega, by rw [words_length]; omega⟩
  · have := h5 _ (List.getElem_mem hk)
    rwa [List.getD_eq_getElem?_getD, List.getElem?_eq_getElem hk]
  · have := ok_no_twice (t := t) (j := j) (k := k) hj hk e
    rw [h] at this; cases this

set_option maxRecDepth 100000 in
set_option maxHeartbeats 4000000 in
theorem walk (w : World) (A : Option Addr) (n c : Nat) (xs : List Int) (h : Ints w .u8 A n c xs) (hwf : ∀ x ∈ xs, (Lit.int .u8 x).wf = true) (hc : c ≤ maxLen) :
    Calls Try.prog 7 #[.slice A n c] w fun e w' => e = .returned (.bool true) ∧ Below w.heap.size w w' := by
  have hn : n ≤ 9223372036854775807 := by have := h.le; unfold maxLen at hc; omega
  by_cases hl : n ≤ 1048576
  · have HD := Lib.hid (drawWordsOf_any A n c xs w h hl hwf hc)
    clear h hwf hc
    go_enter Try.func7, Try.ntmps7
    go_wp2_with (fail)
    refine HD.out.mono ?_
    rintro e w1 ⟨v, t, rfl, ho, hsm, hb⟩
    obtain ⟨A1, c1, A2, c2, A3, c3, rfl⟩ := ho.shape
    have hf := hsm.fine (by omega)
    have hB := hb.alloc hb.size (.cells #[.slice A1 t.us.length c1, .slice A2 t.bs.length c2, .slice A3 t.ns.length c3] 30)
    have hZ := Blk.new w1 30 #[.slice A1 t.us.length c1, .slice A2 t.bs.length c2, .slice A3 t.ns.length c3]
    have hT := ho.tng.below ((Below.refl _ _).alloc (Nat.le_refl _) (.cells #[.slice A1 t.us.length c1, .slice A2 t.bs.length c2, .slice A3 t.ns.length c3] 30)) (Nat.le_refl _)
    have hu25 := hf.us
    have hb25 := hf.bs
    replace hB := Lib.hid hB
    replace hZ := Lib.hid hZ
    replace hT := Lib.hid hT
    replace hf := Lib.hid hf
    clear ho hsm hb HD
    go_upto_region 4 with (fail)
    generalize w1.alloc (.cells #[.slice A1 t.us.length c1, .slice A2 t.bs.length c2, .slice A3 t.ns.length c3] 30) = W at *
    obtain ⟨z0, z1, z2, -, -, -⟩ := blk3 hZ.out
    have K1 := Lib.hid (implWordsOf_any _ t W hT.out hf.out)
    go_wp2_with (fail)
    refine K1.out.mono ?_
    rintro e w2 ⟨v2, rfl, o2, b2⟩
    obtain ⟨As, cs, rfl, hs2⟩ := o2.strs
    have hB2 := hB.out.trans (b2.mono hB.out.size)
    have hZ2 := hZ.out.below b2 hZ.out.lt
    have hT2 := hT.out.below b2 (Nat.le_refl _)
    have K2 := Lib.hid (specWordsOf_any _ t w2 hT2 hf.out)
    replace hB2 := Lib.hid hB2
    replace hT2 := Lib.hid hT2
    replace hs2 := Lib.hid hs2
    clear b2 z0 z1 z2 hB hZ hT K1 o2
    obtain ⟨z0, z1, z2, -, -, -⟩ := blk3 hZ2
    replace hZ2 := Lib.hid hZ2
    go_wp2_with (fail)
    refine K2.out.mono ?_
    rintro e w3 ⟨v3, rfl, o3, b3⟩
    obtain ⟨Ag, cg, rfl, hs3⟩ := o3.strs
    have hB3 := hB2.out.trans (b3.mono hB2.out.size)
    have hZ3 := hZ2.out.below b3 hZ2.out.lt
    have hT3 := hT2.out.below b3 (Nat.le_refl _)
    have hs2' := hs2.out.below b3 (Nat.le_refl _)
    have hwl := wordsOf_len t hf.out
    have hE := sameTexts_any As Ag _ cs _ cg (wordsOf t) (wordsOf t) w3 hs2' hs3 hwl hwl
    rw [decide_eq_true rfl] at hE
    have hcase : (t.ok = false ∧ (wordsOf t).length = 0) ∨ (t.ok = true ∧ wordsOf t = t.words) := by
      unfold wordsOf
      cases h : t.ok
      · exact .inl ⟨rfl, rfl⟩
      · exact .inr ⟨rfl, rfl⟩
    generalize hws : wordsOf t = ws at *
    generalize hnl : ws.length = nl at *
    replace hE := Lib.hid hE
    replace hB3 := Lib.hid hB3
    replace hT3 := Lib.hid hT3
    replace hcase := Lib.hid hcase
    replace hnl := Lib.hid hnl
    replace hZ3 := Lib.hid hZ3
    replace hs2' := Lib.hid hs2'
    clear b3 z0 z1 z2 hB2 hZ2 hT2 K2 o3 hs3 hs2 hws
    go_wp2_with (fail)
    refine hE.out.mono ?_
    rintro e _ ⟨rfl, m, rfl⟩
    have hB4 := below_drewN hB3.out m
    have hZ4 := hZ3.out.drewN m
    have hT4 := hT3.out.drewN m
    have hs4 := hs2'.out.drewN m
    clear hE hB3 hZ3 hT3 hs2'
    replace hB4 := Lib.hid hB4
    replace hT4 := Lib.hid hT4
    generalize w3.drewN m = w4 at *
    obtain ⟨z0, z1, z2, -, -, -⟩ := blk3 hZ4
    rcases hcase.out with ⟨hok, h0⟩ | ⟨hok, hwt⟩
    · obtain rfl : nl = 0 := h0
      have KT := implTongueOk_any _ t w4 hT4.out hf.out
      rw [hok] at KT
      replace KT := Lib.hid KT
      replace hok := Lib.hid hok
      clear hs4 hcase
      go_wp2_with (fail)
      refine KT.out.mono ?_
      rintro e w5 ⟨rfl, b5⟩
      have hB5 := Lib.hid (hB4.out.trans (b5.mono hB4.out.size))
      clear b5 z0 z1 z2 hZ4
      go_wp2_with (fail)
      refine (alive_any w5).mono ?_
      rintro e w9 ⟨rfl, b9⟩
      have hB9 := Lib.hid (hB5.out.trans (b9.mono hB5.out.size))
      clear b9
      go_wp2
      go_ret
      exact ⟨rfl, hB9.out⟩
    · subst hwt
      obtain ⟨H1, H2, H3, H4⟩ := words_fine hok
      have hnl' := hnl.out
      rw [hnl'] at H1 H2 H3 H4
      have hne0 : ((nl : Int) == 0) = false := by rw [beq_eq_false_iff_ne]; omega
      have hfin : ((nl : Int) == (t.us.length : Int) + (t.bs.length : Int) - 1) = true := by rw [beq_iff_eq]; omega
      have hsz := words_size hf.out
      obtain ⟨b, o, rfl, hbo, hat⟩ := hs4.at_ (by omega)
      replace hat := Lib.hid hat
      replace hsz := Lib.hid hsz
      replace H1 := Lib.hid H1
      replace H2 := Lib.hid H2
      replace H3 := Lib.hid H3
      clear hs4 hcase hok hnl'
      go_wp2
      go_loopw [5] (fun i wr => ∃ k m : Nat, k ≤ nl ∧ i = .int .i64 k ∧ wr = w4.drewN m) (fun i _ => nl - (intOf i).toNat)
      case atStart => exact ⟨0, 0, Nat.zero_le _, rfl, rfl⟩
      case round =>
        obtain ⟨k, m1, hk, rfl, rfl⟩ := hrel
        by_cases hlt : k < nl
        · have ck := hat.out k hlt
          have hx1 := H1.out k hlt
          have hx2 := fun j hj => H2.out j k hj hlt
          have hxs := hsz.out k
          generalize t.words.getD k ByteArray.empty = x at *
          replace hx1 := Lib.hid hx1
          replace hx2 := Lib.hid hx2
          replace hxs := Lib.hid hxs
          replace ck := Lib.hid ck
          go_wp2
          obtain ⟨wo, hwo⟩ : ∃ wo : World, wo = w4.drewN m1 := ⟨_, rfl⟩
          rw [← hwo]
          replace hwo := Lib.hid hwo
          go_loopw [6] (fun i wr => ∃ j m : Nat, j ≤ k ∧ i = .int .i64 j ∧ wr = w4.drewN m) (fun i _ => k - (intOf i).toNat)
          case atStart => exact ⟨0, m1, Nat.zero_le _, rfl, hwo.out⟩
          case round =>
            obtain ⟨j, m2, hj, rfl, rfl⟩ := hrel
            by_cases hjt : j < k
            · have cj := hat.out j (by omega)
              have ck' := ck.out
              have hjl : j < nl := by omega
              have hd := hx2.out j hjt
              generalize t.words.getD j ByteArray.empty = y at *
              have he : (y.toList == x.toList) = false := by rw [str_eq]; exact decide_eq_false hd
              replace hd := Lib.hid hd
              go_wp2
              go_quiet (fail)
              go_wp2
              go_roundw
              case rel => exact ⟨j+1, m2+nq, by omega, by go_num, by simp⟩
              case measure => simp [intOf]; omega
            · obtain rfl : j = k := by omega
              have ck' := ck.out
              have hx1' := hx1.out
              have KW := implWordOk_any x (w4.drewN m2) hxs.out
              rw [hx1'] at KW
              replace KW := Lib.hid KW
              clear hx1'
              go_wp2_with (fail)
              refine KW.out.mono ?_
              rintro e _ ⟨rfl, rfl⟩
              go_wp2
              go_roundw
              case rel => exact ⟨j+1, m2, by omega, by go_num, rfl⟩
              case measure => simp [intOf]; omega
        · obtain rfl : k = nl := by omega
          go_wp2
          go_ret
          exact ⟨rfl, below_drewN hB4.out m1⟩
  · have hl' : 1048576 < n := by omega
    go_enter Try.func7, Try.ntmps7
    go_wp2
    go_ret
    exact ⟨rfl, Below.refl _ _⟩

set_option maxRecDepth 100000 in
theorem lifted (os : Os) (started : os.Started) (H : Type) (enc : TypeId × Value → H) :
    ReturnsInHanded {} Try.checked os 7 .any (Rows.fnWordsOfSpec.pre6 enc Try.prog Try.f7 Rows.fnWordsOfRow.domain false) (Rows.fnWordsOfSpec.post enc Try.prog Try.f7 false true false false) := by
  refine returnsInHanded_of_change (C := Try.checked) own started (by kernel_rfl) Try.func7
    (ChangeSpec.witness6 (enc := enc) (C := Try.checked) false ⟨#[], #[.slice none 0 0], []⟩ 8 (by kernel_rfl) (by kernel_rfl) (by kernel_rfl) (by kernel_rfl)) ?_
  intro W base args ds gs before hval0 hW hcnd _
  have hval : ∀ (j : Nat) t v, Try.f7.params[j]? = some t → args[j]? = some v → Value.okWide Try.prog W .any base t v := hval0
  have hW' := hW
  obtain ⟨p, q, hA0, hV, rfl, hfz, hnd⟩ := hW
  have hA : DataW.TrodAll enc Try.prog W 0 (fun _ => true) true Try.f7.params.toList args.toList ds p := hA0
  rw [Try.params7] at hA hval
  obtain ⟨v0, vs0, d0, ds0, p0, q0, hargs, rfl, rfl, h0, r0⟩ := trodAll_cons hA
  obtain ⟨rfl, rfl, rfl⟩ := trodAll_nil r0
  obtain rfl : args = #[v0] := by cases args; simp_all
  obtain ⟨rfl, rfl⟩ := trodVars_none hV
  obtain ⟨a0, len0, cap0, rfl⟩ := okWide_slice Try.underlying22 (hval 0 22 v0 rfl rfl)
  have k0 := h0
  have lt0 : ∀ x ∈ p0, x.block < W.heap.size := by obtain ⟨m, hm⟩ := k0; exact DataW.trod_lt m _ _ _ hm
  obtain ⟨z0, s0, w0, m0⟩ : ∃ zs, Ints W .u8 a0 len0 cap0 zs ∧ (∀ n ∈ zs, (Lit.int .u8 n).wf = true) ∧ cap0 ≤ maxLen := by
    obtain ⟨fuel, hf⟩ := h0
    rcases open_ints Try.underlying22 Try.underlying5 (by kernel_rfl) hf with ⟨hcs, _⟩ | ⟨x, l, c, zs, hcs, _, hl, hm, hz, _, hcell, hwz⟩
    · simp [Value.cells] at hcs
      obtain ⟨rfl, rfl, rfl⟩ := hcs
      exact ⟨[], Ints.none_, by simp, Nat.zero_le _⟩
    · simp [Value.cells] at hcs
      obtain ⟨rfl, rfl, rfl⟩ := hcs
      exact ⟨_, Ints.of_row hl (by simpa using hz) hcell, fun n hn => hwz n (List.mem_of_mem_take hn), hm⟩
  clear hA0 hval0
  refine (walk W a0 len0 cap0 z0 s0 w0 m0).mono fun e W' ⟨he, bel⟩ => ?_
  subst he
  exact ⟨_, rfl, _, _, _, [], _, [], hW', trodAll_mk1 (shut_bool Try.underlying4 _), (trodAll_cons_mk (Below.trod laidOut (by kernel_rfl) (of_decide_eq_true (by kernel_rfl)) k0 bel lt0) trodAll_mk0), rfl, bel.frame _, fun h => by cases h⟩

theorem over : Rows.fnWordsOfRow.holds Try.pinned (OpenSpec.ofChange Rows.fnWordsOfSpec) :=
  OpenClaim.holds_of_wide 7 Try.f7 rfl rfl rfl rfl rfl rfl rfl ⟨rfl, rfl, rfl, rfl, rfl⟩ rfl rfl rfl rfl rfl (by kernel_rfl) Try.func7 (by kernel_rfl)
    (of_decide_eq_true (by kernel_rfl)) (by unfold Func.isWrapper; first | (rw [if_pos (by decide +kernel)]; kernel_rfl) | (rw [if_neg (by decide +kernel)]; exact ⟨rfl, rfl⟩))
    (fun os started H enc _ => lifted os started H enc)
theorem proved : Rows.FnWordsOfSaid := over
end Go.Proofs.Ytdmldgikfjgmhaa.fnWordsOf
