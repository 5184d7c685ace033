/-
  The contract of the draw of a tongue and words: the walk.
-/
import Derived.Test.YteemgkabhkdeaaaDoorDrawSd
namespace Go.Proofs.YteemgkabhkdeaaaDoor
open Go.RowKit

set_option maxRecDepth 100000 in
set_option maxHeartbeats 4000000 in
theorem said_any (g : Nat) (w : World) (h : Rd w g 0) :
    Calls Tryd.prog 19 #[.pointer (some ⟨g, 0, none⟩)] w (RetSaid w g) := by
  obtain ⟨is0, his, hzs0, hzs1, hzs2⟩ := info_parts str_info
  have hg0 := h.lt
  have HD := Lib.hid (named_any g (w.alloc zeroTng) (h.alloc' _))
  have HX := Lib.hid (Blk.new w 26 #[.slice none 0 0, .slice none 0 0, .slice none 0 0])
  clear h
  go_enter Tryd.func19, Tryd.ntmps19
  go_wp2_with (fail)
  refine HD.out.mono ?_
  rintro e w1 ⟨v, t, n, q, rfl, ho, hsm, hn, hr, hq, hg⟩
  obtain ⟨A1, c1, A2, c2, A3, c3, rfl⟩ := ho.shape
  have hX1 : Blk w1 w.heap.size 26 #[.slice none 0 0, .slice none 0 0, .slice none 0 0] := HX.out.grown hg (by simp; omega)
  have hs1 := hg.size
  rw [World.size_alloc] at hs1
  rw [World.size_alloc] at ho
  have hap := apart3_of_lt ho
  have hB2 := (Below.refl w1.heap.size w1).alloc (Nat.le_refl _) (.cells #[.slice A1 t.us.length c1, .slice A2 t.bs.length c2, .slice A3 t.ns.length c3] 26)
  have D : DN w g w1.heap.size #[.slice A1 t.us.length c1, .slice A2 t.bs.length c2, .slice A3 t.ns.length c3] (.agg #[.slice A1 t.us.length c1, .slice A2 t.bs.length c2, .slice A3 t.ns.length c3]) t (w1.alloc (.cells #[.slice A1 t.us.length c1, .slice A2 t.bs.length c2, .slice A3 t.ns.length c3] 26)) q :=
    ⟨hr.below hB2 (Nat.le_refl _), hX1.below hB2 hX1.lt, Blk.new w1 26 #[.slice A1 t.us.length c1, .slice A2 t.bs.length c2, .slice A3 t.ns.length c3], ho.below hB2 (Nat.le_refl _), ((grown_of_below (some g) ((Below.refl w.heap.size w).alloc (Nat.le_refl _) zeroTng)).trans hg).trans (grown_of_below (some g) hB2)⟩
  replace D := Lib.hid D
  have hgz : g < w1.heap.size := by omega
  have hzw : w.heap.size < w1.heap.size := by omega
  have hfi := Lib.hid (hsm.fine (by omega))
  have hu := hsm.us
  have hns := hsm.ns
  have hsW : (w1.alloc (.cells #[.slice A1 t.us.length c1, .slice A2 t.bs.length c2, .slice A3 t.ns.length c3] 26)).heap.size = w1.heap.size + 1 := World.size_alloc ..
  replace hsm := Lib.hid hsm
  replace hap := Lib.hid hap
  clear hB2 hX1 hr ho hg HD HX
  go_upto_region 2 with (fail)
  generalize w1.alloc (.cells #[.slice A1 t.us.length c1, .slice A2 t.bs.length c2, .slice A3 t.ns.length c3] 26) = W at *
  generalize w1.heap.size = z at *
  obtain ⟨z0, z1, z2, -, -, -⟩ := blk3 D.out.hz
  have KN := Lib.hid (specNameOf_any _ t n W D.out.own.tng hfi.out (by omega))
  go_wp2_with (fail)
  refine KN.out.mono ?_
  rintro e w2 ⟨v2, rfl, o2, b2⟩
  replace D := Lib.hid (D.out.below b2)
  have hs2 := b2.size
  obtain ⟨An, cn, rfl, sn⟩ := o2.strs
  have hll := nameOf_short t n
  have hlz := nameOf_size t n
  have hnb : namedB t n = decide (0 < (nameOf t n).length) := rfl
  have hokn : namedB t n = true → 1 ≤ t.us.length := fun h => (ok_shape (by have := (named_ne h).1; unfold okN at this; rw [Bool.and_eq_true] at this; exact this.1)).us.1
  generalize nameOf t n = l at *
  generalize namedB t n = nb at *
  replace hnb := Lib.hid hnb
  replace sn := Lib.hid sn.src
  replace hlz := Lib.hid hlz
  replace hokn := Lib.hid hokn
  clear b2 o2 KN z0 z1 z2
  have k1 := Lib.hid (show 0 + l.length ≤ maxLen by unfold maxLen; omega)
  have k2 := Lib.hid (show (0 + l.length) * 16 ≤ 140737488355328 by omega)
  go_upto_region 4 with (at_builtin; refine wpList_app _ rfl (.tmp 22) (.tmp 23) _ rfl (z + 1) 9 is0 _ 16 Tryd.underlying23 his hzs0 hzs1 hzs2 rfl (.slice (some ⟨w2.heap.size, 0, none⟩) 0 0) 0 [] rfl (owns_empty (Blk.new w2 9 #[]) (by omega)) An _ cn _ rfl (sn.out.alloc' _) k1.out k2.out (by simp; omega) ?_; intro v3 w3 ho3 hg3 _)
  have hB3 := below_own ((Below.refl w2.heap.size w2).alloc (Nat.le_refl _) (.cells #[] 9)) (owns_empty (B := w2.heap.size) (Blk.new w2 9 #[]) (Nat.le_refl _)) hg3 (by simp) (Nat.le_refl _)
  have ol3 : OwnStrs w3 (z + 1) v3 l := by
    unfold OwnStrs
    simpa using ho3
  have hs3 := hB3.size
  replace D := Lib.hid (D.out.below hB3)
  obtain ⟨B3, d3, rfl, -⟩ := ol3.strs
  replace ol3 := Lib.hid ol3
  clear ho3 hg3 hB3 sn k1 k2
  -- all words
  obtain ⟨z0, z1, z2, -, -, -⟩ := blk3 D.out.hz
  have hz3 : z < w3.heap.size := by omega
  obtain ⟨S1', c1', S2', c2', S3', c3', ev, hS1, hI2, hS3⟩ := D.out.own.tng.ex
  cases ev
  have HB0 : Below w3.heap.size w3 ((w3.alloc (.cells #[] 9)).drew) := ((Below.refl _ _).alloc (Nat.le_refl _) _).drew
  have HO0 : ((w3.alloc (.cells #[] 9)).drew).ownsRow w3.heap.size 9 1 (.slice (some ⟨w3.heap.size, 0, none⟩) 0 0) 0 [] := owns_empty ((Blk.new w3 9 #[]).drew) (Nat.le_refl _)
  have HS1 := Lib.hid ((hS1.below HB0 (Nat.le_refl _)).src)
  have HS3 := Lib.hid hS3
  have k1 := Lib.hid (show 0 + t.us.length ≤ maxLen by unfold maxLen; omega)
  have k2 := Lib.hid (show (0 + t.us.length) * 16 ≤ 140737488355328 by omega)
  have k3 := Lib.hid (show 0 + t.us.length + t.ns.length ≤ maxLen by unfold maxLen; omega)
  have k4 := Lib.hid (show (0 + t.us.length + t.ns.length) * 16 ≤ 140737488355328 by omega)
  have hwl := Lib.hid (words_length t)
  replace HB0 := Lib.hid HB0
  replace HO0 := Lib.hid HO0
  clear hS1 hI2 hS3
  go_cut [8] (fun s8 wx => ∃ v6, s8 = v6 ∧ OwnStrs wx w3.heap.size v6 t.words ∧ Below w3.heap.size w3 wx)
  case first =>
    go_region_law (first
      | (refine step_app _ (by rfl) (.tmp 25) (.tmp 27) _ (by rfl) w3.heap.size 9 is0 _ 16 Tryd.underlying23 his hzs0 hzs1 hzs2 rfl (.slice (some ⟨w3.heap.size, 0, none⟩) 0 0) 0 [] (by rfl) HO0.out A1 _ c1 _ (by rfl) HS1.out k1.out k2.out (by simp) ?_; intro v5 w5 ho5 hg5 hat5; have hB5 := below_own HB0.out HO0.out hg5 (by simp) (Nat.le_refl _); have x2' : w5.cell? ⟨z, 2, none⟩ = some (.slice A3 t.ns.length c3) := (hB5.cell (p := ⟨z, 2, none⟩) hz3).trans z2; have hS5 := (HS3.out.below hB5 (Nat.le_refl _)).src; replace ho5 := Lib.hid ho5; replace hg5 := Lib.hid hg5; replace hB5 := Lib.hid hB5; replace hS5 := Lib.hid hS5)
      | (refine step_app _ (by rfl) (.tmp 28) (.tmp 30) _ (by rfl) w3.heap.size 9 is0 _ 16 Tryd.underlying23 his hzs0 hzs1 hzs2 rfl v5 _ _ (by rfl) ho5.out A3 _ c3 _ (by rfl) hS5.out k3.out k4.out hB5.out.size ?_; intro v6 w6 ho6 hg6 hat6; have hB6 := below_own hB5.out ho5.out hg6 hB5.out.size (Nat.le_refl _); replace ho6 := Lib.hid ho6; replace hg6 := Lib.hid hg6; replace hB6 := Lib.hid hB6))
    all_goals
      have ho7 : OwnStrs w6 w3.heap.size v6 t.words := by
        have := ho6.out
        unfold OwnStrs
        rw [hwl.out]
        simpa [Tg.words] using this
      replace ho7 := Lib.hid ho7
      go_wp2
      go_meet
      exact ⟨v6, rfl, ho7.out, hB6.out⟩
  case rest =>
    obtain ⟨v6, rfl, ho6, hB6⟩ := hcut
    obtain ⟨A6, c6, rfl, -⟩ := ho6.strs
    have S := Lib.hid (⟨D.out.below hB6, ol3.out.below hB6 (Nat.le_refl _), ho6.mono (by omega), fun k hk e => by have h1 := (ol3.out.lt k hk).2; have h2 := (ho6.lt k e).1; omega⟩ :
      DS w g z #[.slice A1 t.us.length c1, .slice A2 t.bs.length c2, .slice A3 t.ns.length c3] (.agg #[.slice A1 t.us.length c1, .slice A2 t.bs.length c2, .slice A3 t.ns.length c3]) t (.slice B3 l.length d3) l (.slice A6 t.words.length c6) wc q)
    clear z0 z1 z2 HS1 HS3 HO0 HB0 k1 k2 k3 k4 D ol3 ho6 hB6
    have hwl2 := hwl.out
    cases nb
    · have hl0 : l.length = 0 := by have := of_decide_eq_false hnb.out.symm; omega
      have hsl : SmallW 44 l := ⟨by omega, fun x hx => by have := (hlz.out x hx).2; omega⟩
      have hw80 : t.words.length ≤ 80 := by rw [hwl2]; omega
      replace hsl := Lib.hid hsl
      replace hl0 := Lib.hid hl0
      clear hwl2
      go_wp2_with (fail)
      refine (pick_any g q 4 wc S.out.dn.rd (by omega) (by omega) (by omega)).mono ?_
      rintro e V1 ⟨k1, rfl, hk1, hr1, hg1, -⟩
      replace S := Lib.hid (S.out.pick hg1 hr1 hg0 hgz)
      obtain ⟨k, rfl⟩ : ∃ k : Nat, k1 = (k : Int) := ⟨k1.toNat, by omega⟩
      have hk : k ≤ 3 := by omega
      clear hk1 hr1 hg1
      go_wp2
      go_loopw [6, 10] (fun s6 s10 wr => ∃ (vl : Value) (l' : List ByteArray) (i q' : Nat), s6 = vl ∧ s10 = .int .i64 i ∧ l'.length + i ≤ 3 ∧ SmallW 44 l' ∧ q' + i ≤ q + 4 ∧
        DS w g z #[.slice A1 t.us.length c1, .slice A2 t.bs.length c2, .slice A3 t.ns.length c3] (.agg #[.slice A1 t.us.length c1, .slice A2 t.bs.length c2, .slice A3 t.ns.length c3]) t vl l' (.slice A6 t.words.length c6) wr q') (fun _ i _ => (intOf i).toNat)
      case atStart => exact ⟨_, l, k, q + 1, rfl, rfl, by have := hl0.out; omega, hsl.out, by omega, S.out⟩
      case round =>
        obtain ⟨vl, l', i, q', rfl, rfl, hli, hsw, hqi, hS⟩ := hrel
        obtain ⟨B9, d9, rfl, -⟩ := hS.ol.strs
        replace hS := Lib.hid hS
        replace hsw := Lib.hid hsw
        clear S hsl
        by_cases hgo : 0 < i ∧ 0 < t.words.length
        · obtain ⟨hi, hw1⟩ := hgo
          have hi' : (0 : Int) < (i : Int) := by omega
          have hw1' : (0 : Int) < (t.words.length : Int) := by omega
          obtain ⟨ga, ca, ea, hga0, hga1⟩ := World.ownsRow.form hS.out.oa hw1
          cases ea
          go_wp2_with (fail)
          refine (pick_any g q' (t.words.length : Int) wr hS.out.dn.rd (by omega) (by omega) (by omega)).mono ?_
          rintro e V4 ⟨k4, rfl, hk4, hr4, hg4, -⟩
          have S4 := Lib.hid (hS.out.pick hg4 hr4 hg0 hgz)
          obtain ⟨j, rfl⟩ : ∃ j : Nat, k4 = (j : Int) := ⟨k4.toNat, by omega⟩
          have hj : j < t.words.length := by omega
          have hj' : (j : Int) < (t.words.length : Int) := by omega
          have hj0 : (0 : Int) ≤ (j : Int) := by omega
          have cj := World.ownsRow.cellAt S4.out.oa j (by simpa using hj)
          rw [List.getElem?_map, List.getElem?_eq_getElem hj] at cj
          simp only [Option.map_some] at cj
          have hxz : (t.words[j]).size ≤ 16 := hsm.out.size _ (List.getElem_mem hj)
          generalize t.words[j] = x at *
          have hz4 := S4.out.dn.hz.lt
          have m1 := Lib.hid (show l'.length + 1 ≤ maxLen by unfold maxLen; omega)
          have m2 := Lib.hid (show (l'.length + 1) * 16 ≤ 140737488355328 by omega)
          have hw1i : IntKind.i64.wrap ((i : Int) - 1) = (i : Int) - 1 := IntWalk.i64_in _ (by omega)
          clear hk4 hr4 hg4 hS
          go_upto_region 18 with (at_builtin; refine wpList_app _ rfl (.tmp 109) (.tmp 117) _ rfl (z + 1) 9 is0 _ 16 Tryd.underlying23 his hzs0 hzs1 hzs2 rfl (.slice B9 l'.length d9) _ _ rfl (World.ownsRow.alloc S4.out.ol _) (some ⟨_, 0, none⟩) 1 1 [.string x] rfl (Src.one (blk_new_at _ rfl) rfl) m1.out m2.out (by simp; omega) ?_; intro v8 w8 ho8 hg8 hat8)
          have S5 := S4.out.below ((Below.refl V4.heap.size V4).alloc (Nat.le_refl _) (.cells #[.string x] 9))
          have hol : OwnStrs w8 (z + 1) v8 (l' ++ [x]) := by
            unfold OwnStrs
            simpa using ho8
          have S6 := S5.turn hg8 hol (hat8.elim .inl fun e => .inr ⟨_, e, Nat.le_refl _⟩) hg0 hzw (hap.out _ (fun k hk => by have := (S4.out.ol.lt k hk).1; omega))
          have hsw6 : SmallW 44 (l' ++ [x]) := ⟨by rw [List.length_append]; show l'.length + 1 ≤ 44; omega, fun b hb => by
            rcases List.mem_append.1 hb with h | h
            · exact hsw.out.2 b h
            · rw [List.mem_singleton.1 h]; exact hxz⟩
          have hl6 : (l' ++ [x]).length = l'.length + 1 := by simp
          replace S6 := Lib.hid S6
          replace hsw6 := Lib.hid hsw6
          clear S5 S4 ho8 hg8 hat8 hol cj
          generalize l' ++ [x] = l6 at *
          go_wp2
          go_roundw
          case rel => exact ⟨_, l6, i - 1, q' + 1, rfl, by rw [Int.natCast_sub (by omega)]; rfl, by omega, hsw6.out, by omega, S6.out⟩
          case measure => simp [intOf]; omega
        · obtain ⟨z0, z1, z2, -, -, -⟩ := blk3 hS.out.dn.hz
          obtain ⟨r0, r1, r2, f0, f1, f2⟩ := blk3 hS.out.dn.hx
          by_cases hi : 0 < i
          · have hi' : (0 : Int) < (i : Int) := by omega
            have hw0 : ¬ (0 : Int) < (t.words.length : Int) := by omega
            go_wp2
            refine bodyPost_ret (v := .tuple #[.agg #[.slice A1 t.us.length c1, .slice A2 t.bs.length c2, .slice A3 t.ns.length c3], .slice B9 l'.length d9]) (by simp [results, Tryd.results19, go_sem, r0, r1, r2]) rfl ?_
            exact hS.out.dn.said hS.out.ol (by omega) hg0 hsm.out hsw.out (by omega)
          · have hi' : ¬ (0 : Int) < (i : Int) := by omega
            go_wp2
            refine bodyPost_ret (v := .tuple #[.agg #[.slice A1 t.us.length c1, .slice A2 t.bs.length c2, .slice A3 t.ns.length c3], .slice B9 l'.length d9]) (by simp [results, Tryd.results19, go_sem, r0, r1, r2]) rfl ?_
            exact hS.out.dn.said hS.out.ol (by omega) hg0 hsm.out hsw.out (by omega)
    · have hl1 : 0 < l.length := of_decide_eq_true hnb.out.symm
      have hu1 := hokn.out rfl
      have hw1 : 0 < t.words.length := by rw [hwl2]; omega
      have hw1' : (0 : Int) < (t.words.length : Int) := by omega
      have hw40 : t.words.length ≤ 80 := by rw [hwl2]; omega
      have hsl : SmallW 44 l := ⟨by omega, fun x hx => by have := (hlz.out x hx).2; omega⟩
      replace hsl := Lib.hid hsl
      clear hwl2
      go_wp2_with (fail)
      refine (pick_any g q 3 wc S.out.dn.rd (by omega) (by omega) (by omega)).mono ?_
      rintro e V1 ⟨k1, rfl, hk1, hr1, hg1, -⟩
      replace S := Lib.hid (S.out.pick hg1 hr1 hg0 hgz)
      have a1 : 0 ≤ k1 := hk1.1
      have b1 : k1 < 3 := by omega
      clear hk1 hr1 hg1
      by_cases h0 : 0 < k1
      · obtain ⟨z0, z1, z2, -, -, -⟩ := blk3 S.out.dn.hz
        obtain ⟨r0, r1, r2, f0, f1, f2⟩ := blk3 S.out.dn.hx
        go_wp2
        refine bodyPost_ret (v := .tuple #[.agg #[.slice A1 t.us.length c1, .slice A2 t.bs.length c2, .slice A3 t.ns.length c3], .slice B3 l.length d3]) (by simp [results, Tryd.results19, go_sem, r0, r1, r2]) rfl ?_
        exact S.out.dn.said S.out.ol (by omega) hg0 hsm.out hsl.out (by omega)
      · have hl1' : (0 : Int) < (l.length : Int) := by omega
        go_wp2_with (fail)
        refine (pick_any g (q+1) (l.length : Int) V1 S.out.dn.rd (by omega) (by omega) (by omega)).mono ?_
        rintro e V2 ⟨k2, rfl, hk2, hr2, hg2, -⟩
        replace S := Lib.hid (S.out.pick hg2 hr2 hg0 hgz)
        obtain ⟨k, rfl⟩ : ∃ k : Nat, k2 = (k : Int) := ⟨k2.toNat, by omega⟩
        have hk : k < l.length := by omega
        have hk' : (k : Int) < (l.length : Int) := by omega
        have hk0 : (0 : Int) ≤ (k : Int) := by omega
        clear hk2 hr2 hg2
        go_wp2_with (fail)
        refine (pick_any g (q+1+1) 3 V2 S.out.dn.rd (by omega) (by omega) (by omega)).mono ?_
        rintro e V3 ⟨k3, rfl, hk3, hr3, hg3, -⟩
        replace S := Lib.hid (S.out.pick hg3 hr3 hg0 hgz)
        have a3 : 0 ≤ k3 := hk3.1
        have b3 : k3 < 3 := by omega
        clear hk3 hr3 hg3
        obtain ⟨gl, cl, el, hgl0, hgl1⟩ := World.ownsRow.form S.out.ol hl1
        obtain ⟨ga, ca, ea, hga0, hga1⟩ := World.ownsRow.form S.out.oa hw1
        cases el
        cases ea
        have hll' := hsl.out.1
        by_cases h30 : k3 = 0
        · subst h30
          -- a word in the place of another one
          go_wp2_with (fail)
          refine (pick_any g (q+1+1+1) (t.words.length : Int) V3 S.out.dn.rd (by omega) (by omega) (by omega)).mono ?_
          rintro e V4 ⟨k4, rfl, hk4, hr4, hg4, -⟩
          replace S := Lib.hid (S.out.pick hg4 hr4 hg0 hgz)
          obtain ⟨j, rfl⟩ : ∃ j : Nat, k4 = (j : Int) := ⟨k4.toNat, by omega⟩
          have hj : j < t.words.length := by omega
          have hj' : (j : Int) < (t.words.length : Int) := by omega
          have hj0 : (0 : Int) ≤ (j : Int) := by omega
          clear hk4 hr4 hg4
          have cj := World.ownsRow.cellAt S.out.oa j (by simpa using hj)
          have ck := World.ownsRow.cellAt S.out.ol k (by simpa using hk)
          have fk := World.ownsRow.frozenAt S.out.ol k
          have hst := World.ownsRow.stored S.out.ol k (.string (t.words[j]))
          rw [List.getElem?_map, List.getElem?_eq_getElem hj] at cj
          rw [List.getElem?_map, List.getElem?_eq_getElem hk] at ck
          simp only [Option.map_some] at cj ck
          have hxz : (t.words[j]).size ≤ 16 := hsm.out.size _ (List.getElem_mem hj)
          generalize t.words[j] = x at *
          generalize l[k] = y at *
          have hol : OwnStrs (V4.setCell ⟨gl, k, none⟩ (.string x)) (z + 1) (.slice (some ⟨gl, 0, none⟩) l.length d3) (l.set k x) := by
            have := hst.1
            rw [← List.map_set] at this
            unfold OwnStrs
            simpa using this
          have S5 := S.out.turn (vl' := .slice (some ⟨gl, 0, none⟩) l.length d3) (l' := l.set k x) hst.2 hol (.inl rfl) hg0 hzw (hap.out _ (fun k hk => by have := (S.out.ol.lt k hk).1; omega))
          have hsw : SmallW 44 (l.set k x) := ⟨by simp; omega, fun b hb => by
            rcases List.mem_or_eq_of_mem_set hb with h | h
            · exact hsl.out.2 b h
            · rw [h]; exact hxz⟩
          replace hsw := Lib.hid hsw
          replace S5 := Lib.hid S5
          clear hst hol S
          obtain ⟨z0, z1, z2, -, -, -⟩ := blk3 S5.out.dn.hz
          obtain ⟨r0, r1, r2, f0, f1, f2⟩ := blk3 S5.out.dn.hx
          go_upto_region 15 with (fail)
          generalize V4.setCell ⟨gl, k, none⟩ (.string x) = V5 at *
          go_wp2
          refine bodyPost_ret (v := .tuple #[.agg #[.slice A1 t.us.length c1, .slice A2 t.bs.length c2, .slice A3 t.ns.length c3], .slice (some ⟨gl, 0, none⟩) l.length d3]) (by simp [results, Tryd.results19, go_sem, r0, r1, r2]) rfl ?_
          exact S5.out.dn.said S5.out.ol (by omega) hg0 hsm.out hsw.out (by omega)
        · have h30' : (k3 == 0) = false := by rw [beq_eq_false_iff_ne]; exact h30
          by_cases h31 : k3 = 1
          · subst h31
            obtain ⟨z0, z1, z2, -, -, -⟩ := blk3 S.out.dn.hz
            have hs0 : Strs V3 (some ⟨gl, 0, none⟩) l.length d3 l := by
              obtain ⟨_, _, e, s⟩ := S.out.ol.strs
              cases e
              exact s
            have hld := hs0.le
            have kc : (k : Int) ≤ (d3 : Int) := by omega
            have kc' : k ≤ d3 := by omega
            have HB0 : Below V3.heap.size V3 ((V3.alloc (.cells #[] 9)).drew) := ((Below.refl _ _).alloc (Nat.le_refl _) _).drew
            have HO0 : ((V3.alloc (.cells #[] 9)).drew).ownsRow V3.heap.size 9 1 (.slice (some ⟨V3.heap.size, 0, none⟩) 0 0) 0 [] := owns_empty ((Blk.new V3 9 #[]).drew) (Nat.le_refl _)
            have HS1 := Lib.hid (((hs0.take (m := k) (by omega)).below HB0 (Nat.le_refl _)).src)
            have m1 := Lib.hid (show 0 + k ≤ maxLen by unfold maxLen; omega)
            have m2 := Lib.hid (show (0 + k) * 16 ≤ 140737488355328 by omega)
            have hzV := S.out.dn.hz.lt
            replace HB0 := Lib.hid HB0
            replace HO0 := Lib.hid HO0
            have hkd : ¬ k = d3 := by omega
            have hkd' : ¬ d3 = k := by omega
            have kl : (k : Int) ≤ (l.length : Int) := by omega
            have m3 := Lib.hid (show 0 + k + 1 ≤ maxLen by unfold maxLen; omega)
            have m4 := Lib.hid (show (0 + k + 1) * 16 ≤ 140737488355328 by omega)
            have m5 := Lib.hid (show 0 + k + 1 + (l.length - k) ≤ maxLen by unfold maxLen; omega)
            have m6 := Lib.hid (show (0 + k + 1 + (l.length - k)) * 16 ≤ 140737488355328 by omega)
            have hlen : ∀ x : ByteArray, 0 + k + 1 + (l.length - k) = (l.take k ++ [x] ++ l.drop k).length := fun x => by simp; omega
            have hsw : ∀ x : ByteArray, x.size ≤ 16 → SmallW 44 (l.take k ++ [x] ++ l.drop k) := fun x hx => ⟨by rw [← hlen x]; omega, fun b hb => by
              rcases List.mem_append.1 hb with h | h
              · rcases List.mem_append.1 h with h | h
                · exact hsl.out.2 b (List.mem_of_mem_take h)
                · rw [List.mem_singleton.1 h]; exact hx
              · exact hsl.out.2 b (List.mem_of_mem_drop h)⟩
            have hgV : g < V3.heap.size := by omega
            have hdrop : ∀ W', OwnStrs W' (z + 1) (.slice (some ⟨gl, 0, none⟩) l.length d3) l → Src W' (some ⟨gl, k, none⟩) (l.length - k) ((l.drop k).map Value.string) := fun W' ho => by
              obtain ⟨_, _, e, s⟩ := ho.strs
              cases e
              have := (s.drop (m := k) (by omega)).src
              rwa [Nat.zero_add] at this
            have hword : ∀ W' (j : Nat) (hj : j < t.words.length), OwnStrs W' (z + 1) (.slice (some ⟨ga, 0, none⟩) t.words.length c6) t.words → ∃ x : ByteArray, W'.cell? ⟨ga, j, none⟩ = some (.string x) ∧ x.size ≤ 16 := fun W' j hj ho => by
              have cj := World.ownsRow.cellAt ho j (by simpa using hj)
              rw [List.getElem?_map, List.getElem?_eq_getElem hj] at cj
              exact ⟨_, cj, hsm.out.size _ (List.getElem_mem hj)⟩
            replace hlen := Lib.hid hlen
            replace hsw := Lib.hid hsw
            replace hdrop := Lib.hid hdrop
            replace hword := Lib.hid hword
            go_upto_region 14 with (fail)
            go_region_law (first
              | (have hgd := S8.out; refine step_app _ (by rfl) (.tmp 91) (.tmp 94) _ (by rfl) V3.heap.size 9 is0 _ 16 Tryd.underlying23 his hzs0 hzs1 hzs2 rfl v8 _ _ (by rfl) ho8.out (some ⟨gl, k, none⟩) _ _ _ (by rfl) hS8.out m5.out m6.out hV8 ?_; intro v9 w9 ho9 hg9 hat9; have G9 := grown_append G8.out ho8.out hg9; have R9 := rd_append hgV S8.out.dn.rd ho8.out hg9; have S9 := Lib.hid (S.out.pick G9 R9 hg0 hgz); have hR9 : OwnStrs w9 V3.heap.size v9 (l.take k ++ [x] ++ l.drop k) := (by unfold OwnStrs; rw [← hlen.out x]; simpa using ho9); obtain ⟨z09, z19, z29, -, -, -⟩ := blk3 S9.out.dn.hz; obtain ⟨r0, r1, r2, f0, f1, f2⟩ := blk3 S9.out.dn.hx; obtain ⟨A9, c9, e9, -⟩ := hR9.strs; obtain ⟨L9, hL9⟩ : ∃ L9, L9 = (l.take k ++ [x] ++ l.drop k).length := (⟨_, rfl⟩); rw [← hL9] at e9; subst e9; replace hL9 := Lib.hid hL9; replace hR9 := Lib.hid hR9; clear ho9 hg9 hat9 G9 R9 hgd)
              | (have hgd := S7.out; refine step_app _ (by rfl) (.tmp 82) (.tmp 90) _ (by rfl) V3.heap.size 9 is0 _ 16 Tryd.underlying23 his hzs0 hzs1 hzs2 rfl v5 _ _ (by rfl) (World.ownsRow.alloc ho7.out _) (some ⟨_, 0, none⟩) 1 1 [.string x] (by rfl) (Src.one (blk_new_at _ rfl) rfl) m3.out m4.out (by simp; omega) ?_; intro v8 w8 ho8 hg8 hat8; have G8 := Lib.hid (grown_append (grown_trans' G7.out (World.grownBy_alloc w7 (.cells #[.string x] 9) (some g))) (World.ownsRow.alloc ho7.out _) hg8); have R8 := rd_append hgV (S7.out.dn.rd.alloc' _) (World.ownsRow.alloc ho7.out _) hg8; have S8 := Lib.hid (S.out.pick G8.out R8 hg0 hgz); have hS8 := Lib.hid (hdrop.out w8 S8.out.ol); have hV8 := G8.out.size; obtain ⟨z08, z18, z28, -, -, -⟩ := blk3 S8.out.dn.hz; replace ho8 := Lib.hid ho8; clear hg8 hat8 R8 hgd)
              | (have hgd := S5.out; go_simp; go_at_call 21; refine (pick_any g (q+1+1+1) (t.words.length : Int) w5 S5.out.dn.rd (by omega) (by omega) (by omega)).mono ?_; rintro e w7 ⟨k4, rfl, hk4, hr7, hg7, hs7⟩; obtain ⟨j, rfl⟩ : ∃ j : Nat, k4 = (j : Int) := (⟨k4.toNat, by omega⟩); have hj : j < t.words.length := (by omega); have hj' : (j : Int) < (t.words.length : Int) := (by omega); have hj0 : (0 : Int) ≤ (j : Int) := (by omega); have S7 := Lib.hid (S5.out.pick hg7 hr7 hg0 hgz); have G7 := Lib.hid (G5.out.trans hg7); have ho7 := Lib.hid (own_kept ho5.out hg7 (fun r e => .inl (by cases e; omega))); obtain ⟨x, cx, hxz⟩ := hword.out w7 j hj S7.out.oa; have hV7 : V3.heap.size ≤ w7.heap.size := (by omega); obtain ⟨z07, z17, z27, -, -, -⟩ := blk3 S7.out.dn.hz; have hz7 := S7.out.dn.hz.lt; clear hk4 hr7 hg7 hgd hs7)
              | (refine step_app _ (by rfl) (.tmp 78) (.tmp 81) _ (by rfl) V3.heap.size 9 is0 _ 16 Tryd.underlying23 his hzs0 hzs1 hzs2 rfl (.slice (some ⟨V3.heap.size, 0, none⟩) 0 0) 0 [] (by rfl) HO0.out (some ⟨gl, 0, none⟩) k d3 _ (by rfl) HS1.out m1.out m2.out (by simp) ?_; intro v5 w5 ho5 hg5 hat5; have hB5 := below_own HB0.out HO0.out hg5 (by simp) (Nat.le_refl _); have S5 := Lib.hid (S.out.below hB5); have G5 := Lib.hid (grown_of_below (some g) hB5); have hV5 := hB5.size; obtain ⟨z05, z15, z25, -, -, -⟩ := blk3 S5.out.dn.hz; replace ho5 := Lib.hid ho5; clear hg5 hat5 hB5))
            all_goals
              go_wp2
              refine bodyPost_ret (v := .tuple #[.agg #[.slice A1 t.us.length c1, .slice A2 t.bs.length c2, .slice A3 t.ns.length c3], .slice A9 L9 c9]) (by simp [results, Tryd.results19, go_sem, r0, r1, r2]) rfl ?_
              exact S9.out.dn.said hR9.out (by omega) hg0 hsm.out (hsw.out x hxz) (by omega)
          · have h31' : (k3 == 1) = false := by rw [beq_eq_false_iff_ne]; exact h31
            obtain ⟨z0, z1, z2, -, -, -⟩ := blk3 S.out.dn.hz
            have hs0 : Strs V3 (some ⟨gl, 0, none⟩) l.length d3 l := by
              obtain ⟨_, _, e, s⟩ := S.out.ol.strs
              cases e
              exact s
            have hld := hs0.le
            have kc : (k : Int) ≤ (d3 : Int) := by omega
            have kc' : k ≤ d3 := by omega
            have HB0 : Below V3.heap.size V3 ((V3.alloc (.cells #[] 9)).drew) := ((Below.refl _ _).alloc (Nat.le_refl _) _).drew
            have HO0 : ((V3.alloc (.cells #[] 9)).drew).ownsRow V3.heap.size 9 1 (.slice (some ⟨V3.heap.size, 0, none⟩) 0 0) 0 [] := owns_empty ((Blk.new V3 9 #[]).drew) (Nat.le_refl _)
            have HS1 := Lib.hid (((hs0.take (m := k) (by omega)).below HB0 (Nat.le_refl _)).src)
            have m1 := Lib.hid (show 0 + k ≤ maxLen by unfold maxLen; omega)
            have m2 := Lib.hid (show (0 + k) * 16 ≤ 140737488355328 by omega)
            have hzV := S.out.dn.hz.lt
            replace HB0 := Lib.hid HB0
            replace HO0 := Lib.hid HO0
            have pk : (k : Int) + 1 ≤ (l.length : Int) := by omega
            have pw : IntKind.i64.wrap ((k : Int) + 1) = (k : Int) + 1 := IntWalk.i64_in _ (by omega)
            have p0 : (0 : Int) ≤ (k : Int) + 1 := by omega
            have pn : ((k : Int) + 1).toNat = k + 1 := by omega
            have pk' : k + 1 ≤ l.length := by omega
            have m3 := Lib.hid (show 0 + k + (l.length - (k + 1)) ≤ maxLen by unfold maxLen; omega)
            have m4 := Lib.hid (show (0 + k + (l.length - (k + 1))) * 16 ≤ 140737488355328 by omega)
            have hsw : SmallW 44 (l.take k ++ l.drop (k + 1)) := ⟨by simp; omega, fun b hb => by
              rcases List.mem_append.1 hb with h | h
              · exact hsl.out.2 b (List.mem_of_mem_take h)
              · exact hsl.out.2 b (List.mem_of_mem_drop h)⟩
            replace hsw := Lib.hid hsw
            have hlen : 0 + k + (l.length - (k + 1)) = (l.take k ++ l.drop (k + 1)).length := by simp; omega
            replace hlen := Lib.hid hlen
            go_upto_region 10 with (fail)
            obtain ⟨Ad, hAd, hsd⟩ : ∃ Ad : Option Addr, Ad = (if k + 1 = d3 then some ⟨gl, 0, none⟩ else some ⟨gl, k + 1, none⟩) ∧ Strs V3 Ad (l.length - (k + 1)) (d3 - (k + 1)) (l.drop (k + 1)) := by
              refine ⟨_, rfl, ?_⟩
              by_cases hcp : k + 1 = d3
              · rw [if_pos hcp, List.drop_eq_nil_of_le (by omega), show l.length - (k + 1) = 0 by omega]
                exact ⟨rfl, Nat.zero_le _, fun h => absurd h (by omega)⟩
              · rw [if_neg hcp]
                have := hs0.drop (m := k + 1) pk'
                rwa [Nat.zero_add] at this
            by_cases hcp : k + 1 = d3
            · have hdn := Lib.hid (List.drop_eq_nil_of_le (show l.length ≤ k + 1 by omega))
              have hlen2 := Lib.hid (show 0 + k + 0 = (l.take k ++ l.drop (k + 1)).length by rw [← hlen.out]; omega)
              have m5 := Lib.hid (show 0 + k + 0 ≤ maxLen by unfold maxLen; omega)
              have m6 := Lib.hid (show (0 + k + 0) * 16 ≤ 140737488355328 by omega)
              have hLk : l.length = k + 1 := by omega
              clear hsd hAd m3 m4
              replace hsl := Lib.hid hsl.out
              generalize hL : l.length = L at *
              replace hL := Lib.hid hL
              subst hLk
              subst hcp
              have kc3 : (k : Int) ≤ (k : Int) + 1 := by omega
              have kc4 : k ≤ k + 1 := by omega
              have kc5 : (k : Int) < (k : Int) + 1 := by omega
              go_region_law (first
                | (refine step_app _ (by rfl) (.tmp 53) (.tmp 56) _ (by rfl) V3.heap.size 9 is0 _ 16 Tryd.underlying23 his hzs0 hzs1 hzs2 rfl (.slice (some ⟨V3.heap.size, 0, none⟩) 0 0) 0 [] (by rfl) HO0.out (some ⟨gl, 0, none⟩) k (k + 1) _ (by rfl) HS1.out m1.out m2.out (by simp) ?_; intro v5 w5 ho5 hg5 hat5; have hB5 := below_own HB0.out HO0.out hg5 (by simp) (Nat.le_refl _); have hS5 : Src w5 (some ⟨gl, 0, none⟩) 0 [] := ⟨rfl, by simp, fun h => absurd h (by omega)⟩; obtain ⟨z0', z1', z2', -, -, -⟩ := blk3 (S.out.dn.hz.below hB5 S.out.dn.hz.lt); replace ho5 := Lib.hid ho5; replace hg5 := Lib.hid hg5; replace hB5 := Lib.hid hB5; replace hS5 := Lib.hid hS5)
                | (refine step_app _ (by rfl) (.tmp 57) (.tmp 61) _ (by rfl) V3.heap.size 9 is0 _ 16 Tryd.underlying23 his hzs0 hzs1 hzs2 rfl v5 _ _ (by rfl) ho5.out (some ⟨gl, 0, none⟩) 0 _ _ (by rfl) hS5.out m5.out m6.out hB5.out.size ?_; intro v6 w6 ho6 hg6 hat6; have hB6 := below_own hB5.out ho5.out hg6 hB5.out.size (Nat.le_refl _); obtain ⟨r0, r1, r2, f0, f1, f2⟩ := blk3 (S.out.dn.hx.below hB6 S.out.dn.hx.lt); obtain ⟨z0'', z1'', z2'', -, -, -⟩ := blk3 (S.out.dn.hz.below hB6 S.out.dn.hz.lt); have hR6 : OwnStrs w6 V3.heap.size v6 (l.take k ++ l.drop (k + 1)) := (by unfold OwnStrs; rw [← hlen2.out, hdn.out, List.append_nil]; simpa using ho6); have D6 := Lib.hid (S.out.dn.below hB6); obtain ⟨A9, c9, e9, -⟩ := hR6.strs; obtain ⟨L9, hL9⟩ : ∃ L9, L9 = (l.take k ++ l.drop (k + 1)).length := (⟨_, rfl⟩); rw [← hL9] at e9; subst e9; replace hL9 := Lib.hid hL9; replace hR6 := Lib.hid hR6; clear ho6 hg6 hat6 hB6))
              all_goals
                clear z0 z1 z2 z0' z1' z2' z0'' z1'' z2'' hB5 ho5 hg5 hS5
                go_wp2
                refine bodyPost_ret (v := .tuple #[.agg #[.slice A1 t.us.length c1, .slice A2 t.bs.length c2, .slice A3 t.ns.length c3], .slice A9 L9 c9]) (by simp [results, Tryd.results19, go_sem, r0, r1, r2]) rfl ?_
                exact D6.out.said hR6.out (by omega) hg0 hsm.out hsw.out (by omega)
            · rw [if_neg hcp] at hAd
              subst hAd
              have hcp' : ¬ d3 = k + 1 := fun e => hcp e.symm
              replace hsd := Lib.hid hsd
              go_region_law (first
                | (refine step_app _ (by rfl) (.tmp 53) (.tmp 56) _ (by rfl) V3.heap.size 9 is0 _ 16 Tryd.underlying23 his hzs0 hzs1 hzs2 rfl (.slice (some ⟨V3.heap.size, 0, none⟩) 0 0) 0 [] (by rfl) HO0.out (some ⟨gl, 0, none⟩) k d3 _ (by rfl) HS1.out m1.out m2.out (by simp) ?_; intro v5 w5 ho5 hg5 hat5; have hB5 := below_own HB0.out HO0.out hg5 (by simp) (Nat.le_refl _); have hS5 := (hsd.out.below hB5 (Nat.le_refl _)).src; obtain ⟨z0', z1', z2', -, -, -⟩ := blk3 (S.out.dn.hz.below hB5 S.out.dn.hz.lt); replace ho5 := Lib.hid ho5; replace hg5 := Lib.hid hg5; replace hB5 := Lib.hid hB5; replace hS5 := Lib.hid hS5)
                | (refine step_app _ (by rfl) (.tmp 57) (.tmp 61) _ (by rfl) V3.heap.size 9 is0 _ 16 Tryd.underlying23 his hzs0 hzs1 hzs2 rfl v5 _ _ (by rfl) ho5.out (some ⟨gl, k + 1, none⟩) _ _ _ (by rfl) hS5.out m3.out m4.out hB5.out.size ?_; intro v6 w6 ho6 hg6 hat6; have hB6 := below_own hB5.out ho5.out hg6 hB5.out.size (Nat.le_refl _); obtain ⟨r0, r1, r2, f0, f1, f2⟩ := blk3 (S.out.dn.hx.below hB6 S.out.dn.hx.lt); obtain ⟨z0'', z1'', z2'', -, -, -⟩ := blk3 (S.out.dn.hz.below hB6 S.out.dn.hz.lt); have hR6 : OwnStrs w6 V3.heap.size v6 (l.take k ++ l.drop (k + 1)) := (by unfold OwnStrs; rw [← hlen.out]; simpa using ho6); have D6 := Lib.hid (S.out.dn.below hB6); obtain ⟨A9, c9, e9, -⟩ := hR6.strs; obtain ⟨L9, hL9⟩ : ∃ L9, L9 = (l.take k ++ l.drop (k + 1)).length := (⟨_, rfl⟩); rw [← hL9] at e9; subst e9; replace hL9 := Lib.hid hL9; replace hR6 := Lib.hid hR6; clear ho6 hg6 hat6 hB6))
              all_goals
                clear z0 z1 z2 z0' z1' z2' z0'' z1'' z2'' hB5 ho5 hg5 hS5
                go_wp2
                refine bodyPost_ret (v := .tuple #[.agg #[.slice A1 t.us.length c1, .slice A2 t.bs.length c2, .slice A3 t.ns.length c3], .slice A9 L9 c9]) (by simp [results, Tryd.results19, go_sem, r0, r1, r2]) rfl ?_
                exact D6.out.said hR6.out (by omega) hg0 hsm.out hsw.out (by omega)
end Go.Proofs.YteemgkabhkdeaaaDoor
