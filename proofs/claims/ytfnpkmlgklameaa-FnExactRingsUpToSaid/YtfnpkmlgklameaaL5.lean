/-
  The contract of RingsUpTo of the model.
-/
import Derived.Test.YtfnpkmlgklameaaL2
namespace Go.Proofs.Ytfnpkmlgklameaa
open Go.RowKit

set_option maxRecDepth 100000 in
set_option maxHeartbeats 8000000 in
theorem specRingsUpTo_any (v : Value) (t : Tg) (m : Int) (w : World) (h : Tng w v t) (hf : t.Fine) (_hn : -9223372036854775808 ≤ m ∧ m ≤ 9223372036854775807) :
    Calls Try.prog 39 #[v, .int .i64 m] w (RetO1 w (ringsF (lettersOf t) m)) := by
  obtain ⟨i0, hi, hz0, hz1, hz2⟩ := info_parts int_info
  obtain ⟨A1, c1, A2, c2, A3, c3, rfl, -⟩ := h.ex
  have hB := (Below.refl w.heap.size w).alloc (Nat.le_refl _) (.cells #[.slice A1 t.us.length c1, .slice A2 t.bs.length c2, .slice A3 t.ns.length c3] 26)
  have HX := Blk.new w 26 #[.slice A1 t.us.length c1, .slice A2 t.bs.length c2, .slice A3 t.ns.length c3]
  have HT := h.below hB (Nat.le_refl _)
  have KL := Lib.hid (fun x W (hT : Tng W (.agg #[.slice A1 t.us.length c1, .slice A2 t.bs.length c2, .slice A3 t.ns.length c3]) t) hx => specRingFrom_any _ t x W hT hf hx)
  have hbd := Lib.hid (letters_bd t)
  generalize lettersOf t = f at *
  replace hB := Lib.hid hB
  replace HX := Lib.hid HX
  replace HT := Lib.hid HT
  clear h hf
  go_enter Try.func39, Try.ntmps39
  go_upto_region 1 with (fail)
  generalize w.alloc (.cells #[.slice A1 t.us.length c1, .slice A2 t.bs.length c2, .slice A3 t.ns.length c3] 26) = W at *
  have HO := Lib.hid (owns_empty (B := W.heap.size) (t := 3) (Blk.new W 3 #[]) (Nat.le_refl _))
  by_cases hm : 1 ≤ m ∧ m ≤ 500
  · obtain ⟨hm1, hm2⟩ := hm
    obtain ⟨M, rfl⟩ : ∃ M : Nat, m = M := ⟨m.toNat, by omega⟩
    have hE := Lib.hid (fun l (ha : allOk f M) (hl : IsUp f M l) => rings_yes (m := M) (by omega) (by omega) ha hl)
    have hE0 := Lib.hid (fun (hn : ¬ allOk f M) => rings_no (f := f) (m := M) (fun hh => hn (by simpa using hh.2)))
    go_wp2
    go_loopw [5, 6] (fun s5 s6 wr => ∃ (k : Nat) (out : List Int), k ≤ M ∧ s6 = .int .i64 ((k : Int) + 1) ∧ OwnI wr W.heap.size s5 out ∧ (∃ g, s5.ownBlock = some g) ∧ IsUp f k out ∧ out.length ≤ k ∧ allOk f k ∧ Below W.heap.size W wr) (fun _ s6 _ => M + 1 - (intOf s6).toNat)
    case atStart => exact ⟨0, [], Nat.zero_le _, rfl, HO.out, ⟨_, rfl⟩, IsUp.zero f, Nat.le_refl _, fun i h1 h2 => by omega, (Below.refl _ _).alloc (Nat.le_refl _) _⟩
    case round =>
      obtain ⟨k, out, hk, rfl, ho, ⟨g, hg⟩, hup, hol, hak, hBr⟩ := hrel
      obtain ⟨c5, rfl, hlc, hgl, hgB⟩ := own_shape ho hg
      have hwB := Lib.hid (hB.out.trans (hBr.mono hB.out.size))
      by_cases hlt : k < M
      · have KL1 := Lib.hid (KL.out ((k : Int) + 1) wr (HT.out.below hBr (Nat.le_refl _)) (by omega))
        obtain ⟨x0, x1, x2, -, -, -⟩ := blk3 (HX.out.below hBr HX.out.lt)
        have hlt' : (k : Int) + 1 ≤ (M : Int) := by omega
        have e1 : IntKind.i64.wrap ((k : Int) + 1 + 1) = (k : Int) + 1 + 1 := IntWalk.i64_in _ (by omega)
        replace ho := Lib.hid ho
        replace hBr := Lib.hid hBr
        replace hup := Lib.hid hup
        replace hak := Lib.hid hak
        replace hg := Lib.hid hg
        have hpos := Lib.hid (ringF_pos (n := (k : Int) + 1) hbd.out)
        have hlow : Hid (leastF f ((k + 1 : Nat) : Int) = lowL (ringF f ((k : Int) + 1))) := rfl
        have hrl := ringF_le (n := (k : Int) + 1) hbd.out
        go_wp2_with (fail)
        refine KL1.out.mono ?_
        rintro e W2 ⟨A, c, rfl, hI, b2⟩
        have ho2 := Lib.hid (ho.out.below b2 (Nat.le_refl _))
        have hB2 := Lib.hid (hBr.out.trans (b2.mono hBr.out.size))
        have hwB2 := Lib.hid (hwB.out.trans (b2.mono hwB.out.size))
        have hg2 : g < W2.heap.size := Nat.lt_of_lt_of_le hgl b2.size
        clear b2 ho hBr hwB x0 x1 x2 KL1 hgl
        cases hok : okF f ((k : Int) + 1)
        · have hr := Lib.hid (hE0.out (fun ha => by have := ha (k + 1) (by omega) (by omega); rw [show ((k + 1 : Nat) : Int) = (k : Int) + 1 by omega, hok] at this; cases this))
          clear hI
          go_wp2
          go_ret
          exact ⟨_, rfl, by rw [hr.out]; exact owns_empty (Blk.new _ _ _) hwB2.out.size, hwB2.out.alloc hwB2.out.size _⟩
        · have hps : 0 < (ringF f ((k : Int) + 1)).length := by have := hpos.out; rw [hok] at this; exact of_decide_eq_true this
          have hak2 : Hid (allOk f (k + 1)) := fun i h1 h2 => by
            by_cases e : i = k + 1
            · subst e; exact hok
            · exact hak.out i h1 (by omega)
          have hfirst := lowTo_one (ringF f ((k : Int) + 1))
          have hstep := Lib.hid (fun j => show lowTo (ringF f ((k : Int) + 1)) (j + 1) = min (lowTo (ringF f ((k : Int) + 1)) j) ((ringF f ((k : Int) + 1)).getD j 0) from rfl)
          generalize hrs : ringF f ((k : Int) + 1) = rs at *
          have hlast : Hid (lowTo rs rs.length = lowL rs) := rfl
          generalize hL : rs.length = L at *
          obtain ⟨bb, oo, rfl, -, hc⟩ := hI.at_ hps
          have cr0 := hc 0 hps
          rw [← hfirst, Nat.add_zero] at cr0
          replace hc := Lib.hid hc
          replace hL := Lib.hid hL
          replace hok := Lib.hid hok
          have hps' : (0 : Int) < (L : Int) := by omega
          generalize hl1 : lowTo rs 1 = l1 at *
          replace hl1 := Lib.hid hl1
          clear hI hpos hfirst hrs
          go_wp2
          go_loop [9, 10] (fun s9 s10 => ∃ j : Nat, 1 ≤ j ∧ j ≤ L ∧ s10 = .int .i64 j ∧ s9 = .int .i64 (lowTo rs j)) (fun _ s10 => L - (intOf s10).toNat)
          case atStart => exact ⟨1, Nat.le_refl _, hps, rfl, by rw [hl1.out]⟩
          case round =>
            obtain ⟨j, hj1, hj, rfl, rfl⟩ := hrel
            by_cases hj2 : j < L
            · have cj := hc.out j hj2
              have hst := hstep.out j
              generalize rs.getD j 0 = y at *
              generalize lowTo rs j = a at *
              replace hst := Lib.hid hst
              by_cases hya : y < a
              · have hmm := Lib.hid (show min a y = y by omega)
                go_wp2
                go_round
                case rel => exact ⟨j + 1, by omega, by omega, by go_num, by rw [hst.out, hmm.out]⟩
                case measure => simp [intOf]; omega
              · have hmm := Lib.hid (show min a y = a by omega)
                go_wp2
                go_round
                case rel => exact ⟨j + 1, by omega, by omega, by go_num, by rw [hst.out, hmm.out]⟩
                case measure => simp [intOf]; omega
            · obtain rfl : j = L := by omega
              have hI5 := ho2.out.ints
              obtain ⟨A5', c5', e5, hI5⟩ := hI5
              cases e5
              rw [hlast.out, ← hlow.out]
              have hI5c := Lib.hid hI5.at_
              replace hI5 := Lib.hid hI5
              have hup3 := Lib.hid (show leastF f ((k + 1 : Nat) : Int) = leastF f ((k + 1 : Nat) : Int) from rfl)
              obtain ⟨low, hlowE⟩ : ∃ low, leastF f ((k + 1 : Nat) : Int) = low := ⟨_, rfl⟩
              rw [hlowE]
              clear hup3
              replace hlowE := Lib.hid hlowE
              clear hc cr0 hstep
              go_wp2
              go_loop [11] (fun s11 => ∃ a : Nat, a ≤ out.length ∧ s11 = .int .i64 a ∧ ∀ i, i < a → out.getD i 0 < low) (fun s11 => out.length - (intOf s11).toNat)
              case atStart => exact ⟨0, Nat.zero_le _, rfl, fun i hi => by omega⟩
              case round =>
                obtain ⟨a, ha, rfl, has⟩ := hrel
                by_cases hal : a < out.length
                · obtain ⟨b5, o5, e5, -, hc5⟩ := hI5c.out (by omega)
                  cases e5
                  have c5a := hc5 a hal
                  rw [Nat.zero_add] at c5a
                  clear hc5
                  by_cases hcmp : out.getD a 0 < low
                  · have has2 : Hid (∀ i, i < a + 1 → out.getD i 0 < low) := fun i hi => by
                      by_cases e : i = a
                      · subst e; exact hcmp
                      · exact has i (by omega)
                    generalize out.getD a 0 = y at *
                    clear has
                    go_wp2
                    go_round
                    case rel => exact ⟨a + 1, by omega, by go_num, has2.out⟩
                    case measure => simp [intOf]; omega
                  · by_cases heq : out.getD a 0 = low
                    · have hsame := Lib.hid (hup.out.same (by rw [hlowE.out, ← heq]; exact mem_getD hal))
                      have hyy : (low == low) = true := by simp
                      have hll : ¬ low < low := by omega
                      rw [heq] at c5a
                      clear has heq hcmp
                      go_wp2
                      go_roundw
                      case rel => exact ⟨k + 1, out, by omega, by go_num, ho2.out, ⟨_, hg.out⟩, hsame.out, by omega, hak2.out, hB2.out⟩
                      case measure => simp [intOf]; omega
                    · have hne : (out.getD a 0 == low) = false := by rw [beq_eq_false_iff_ne]; exact heq
                      have hput := Lib.hid (hup.out.put (at_ := a) (fun i h1 _ => by rw [hlowE.out]; exact has i h1) (fun _ => by rw [hlowE.out]; omega))
                      generalize out.getD a 0 = y at *
                      clear has
                      rw [hlowE.out] at hput
                      have q1 : a ≤ c5 := by omega
                      have q2 : (a : Int) ≤ (out.length : Int) := by omega
                      have q3 : a ≤ out.length := by omega
                      have ht := Lib.hid (hI5.out.take (m := a) q3)
                      have hd : Hid (Ints W2 .i64 (some ⟨g, a, none⟩) (out.length - a) (c5 - a) (out.drop a)) := by have := hI5.out.dropI (m := a) q3; rwa [Nat.zero_add] at this
                      have hsz := hB2.out.size
                      have m1 := Lib.hid (show 0 + a ≤ maxLen by unfold maxLen; omega)
                      have m2 := Lib.hid (show (0 + a) * 8 ≤ 140737488355328 by omega)
                      have m3 := Lib.hid (show 0 + a + 1 ≤ maxLen by unfold maxLen; omega)
                      have m4 := Lib.hid (show (0 + a + 1) * 8 ≤ 140737488355328 by omega)
                      have m5 := Lib.hid (show 0 + a + 1 + (out.length - a) ≤ maxLen by unfold maxLen; omega)
                      have m6 := Lib.hid (show (0 + a + 1 + (out.length - a)) * 8 ≤ 140737488355328 by omega)
                      have hO0 := Lib.hid (owns_empty (B := W2.heap.size) (t := 3) (Blk.new W2 3 #[]) (Nat.le_refl _))
                      have hA0 : Hid (Below W2.heap.size W2 (W2.alloc (.cells #[] 3))) := (Below.refl _ _).alloc (Nat.le_refl _) _
                      go_upto_region 18 with (at_builtin; refine wpList_app _ rfl (.tmp 73) (.tmp 76) _ rfl W2.heap.size 3 i0 _ 8 Try.underlying24 hi hz0 hz1 hz2 rfl (.slice (some ⟨W2.heap.size, 0, none⟩) 0 0) 0 [] rfl hO0.out (some ⟨g, 0, none⟩) a c5 _ rfl (ht.out.below hA0.out (Nat.le_refl _)).src m1.out m2.out (by simp) ?_; intro v6 w6 ho6 hg6 hat6)
                      have hk6 : ∃ g6, v6.ownBlock = some g6 := by
                        rcases hat6 with e | e
                        · exact ⟨_, e⟩
                        · exact ⟨_, e⟩
                      have hB6 := Lib.hid (below_own hA0.out hO0.out hg6 (by simp) (Nat.le_refl _))
                      have hs6 := hB6.out.size
                      replace ho6 := Lib.hid ho6
                      clear hg6 hat6 hO0
                      go_upto_region 19 with (at_builtin; refine wpList_app _ rfl (.tmp 78) (.tmp 80) _ rfl W2.heap.size 3 i0 _ 8 Try.underlying24 hi hz0 hz1 hz2 rfl v6 _ _ rfl (World.ownsRow.alloc ho6.out _) (some ⟨w6.heap.size, 0, none⟩) 1 1 [.int .i64 low] rfl (Src.one (Blk.new _ _ _) rfl) m3.out m4.out (by simp; omega) ?_; intro v7 w7 ho7 hg7 hat7)
                      have hk7 : ∃ g7, v7.ownBlock = some g7 := by
                        obtain ⟨g6, e6⟩ := hk6
                        rcases hat7 with e | e
                        · exact ⟨g6, e.trans e6⟩
                        · exact ⟨_, e⟩
                      have hB7 := Lib.hid (below_own (hB6.out.alloc hs6 _) (World.ownsRow.alloc ho6.out _) hg7 (by simp; omega) (Nat.le_refl _))
                      have hs7 := hB7.out.size
                      replace ho7 := Lib.hid ho7
                      clear hg7 hat7 hk6 ho6
                      have hfin : Hid (∀ v8 w8, w8.ownsRow W2.heap.size 3 1 v8 (0 + a + 1 + (out.length - a)) (([] ++ (out.take a).map (Value.int .i64)) ++ [.int .i64 low] ++ (out.drop a).map (Value.int .i64)) → OwnI w8 W.heap.size v8 (out.take a ++ [low] ++ out.drop a)) := fun v8 w8 hh => by
                        have hln : (out.take a ++ [low] ++ out.drop a).length = 0 + a + 1 + (out.length - a) := by simp; omega
                        refine own_mono ?_ hsz
                        rw [hln, List.map_append, List.map_append]
                        exact hh
                      have hlen : Hid ((out.take a ++ [low] ++ out.drop a).length ≤ k + 1) := by show (out.take a ++ [low] ++ out.drop a).length ≤ k + 1; simp; omega
                      by_cases hca : a = c5
                      · subst hca
                        have hol2 : out.length = a := by omega
                        have hd0 : out.drop a = [] := List.drop_eq_nil_of_le (by omega)
                        have hq0 : out.length - a = 0 := by omega
                        rw [hd0, hq0] at hfin
                        rw [hq0] at m5 m6
                        rw [hd0] at hput hlen
                        rw [hol2]
                        replace hd0 := Lib.hid hd0
                        go_wp2_with (at_builtin; refine wpList_app _ rfl (.tmp 82) (.tmp 85) _ rfl W2.heap.size 3 i0 _ 8 Try.underlying24 hi hz0 hz1 hz2 rfl v7 _ _ rfl ho7.out _ 0 _ [] (by first | rfl | skip) (src_none _ _) m5.out m6.out hs7 ?_; intro v8 w8 ho8 hg8 hat8)
                        have hB8 := Lib.hid (below_own hB7.out ho7.out hg8 hs7 (Nat.le_refl _))
                        have ho9 := Lib.hid (hfin.out v8 w8 (by simpa using ho8))
                        have hk8 : Hid (∃ g8, v8.ownBlock = some g8) := by
                          obtain ⟨g7, e7⟩ := hk7
                          rcases hat8 with e | e
                          · exact ⟨g7, e.trans e7⟩
                          · exact ⟨_, e⟩
                        clear ho8 hg8 hat8 hk7
                        go_wp2
                        go_roundw
                        case rel => exact ⟨k + 1, _, by omega, by go_num, ho9.out, hk8.out, hput.out, hlen.out, hak2.out, hB2.out.trans (hB8.out.mono hsz)⟩
                        case measure => simp [intOf]; omega
                      · go_wp2_with (at_builtin; refine wpList_app _ rfl (.tmp 82) (.tmp 85) _ rfl W2.heap.size 3 i0 _ 8 Try.underlying24 hi hz0 hz1 hz2 rfl v7 _ _ rfl ho7.out (some ⟨g, a, none⟩) (out.length - a) (c5 - a) _ (by rfl) (hd.out.below hB7.out (Nat.le_refl _)).src m5.out m6.out hs7 ?_; intro v8 w8 ho8 hg8 hat8)
                        have hB8 := Lib.hid (below_own hB7.out ho7.out hg8 hs7 (Nat.le_refl _))
                        have ho9 := Lib.hid (hfin.out v8 w8 ho8)
                        have hk8 : Hid (∃ g8, v8.ownBlock = some g8) := by
                          obtain ⟨g7, e7⟩ := hk7
                          rcases hat8 with e | e
                          · exact ⟨g7, e.trans e7⟩
                          · exact ⟨_, e⟩
                        clear ho8 hg8 hat8 hk7
                        go_wp2
                        go_roundw
                        case rel => exact ⟨k + 1, _, by omega, by go_num, ho9.out, hk8.out, hput.out, hlen.out, hak2.out, hB2.out.trans (hB8.out.mono hsz)⟩
                        case measure => simp [intOf]; omega
                · have hae : a = out.length := by omega
                  have hput := Lib.hid (hup.out.put (at_ := a) (fun i h1 _ => by rw [hlowE.out]; exact has i h1) (fun hh => by omega))
                  have hal' : ¬ (a : Int) < (out.length : Int) := by omega
                  clear has hae
                  rw [hlowE.out] at hput
                  have q1 : a ≤ c5 := by omega
                  have q2 : (a : Int) ≤ (out.length : Int) := by omega
                  have q3 : a ≤ out.length := by omega
                  have ht := Lib.hid (hI5.out.take (m := a) q3)
                  have hd : Hid (Ints W2 .i64 (some ⟨g, a, none⟩) (out.length - a) (c5 - a) (out.drop a)) := by have := hI5.out.dropI (m := a) q3; rwa [Nat.zero_add] at this
                  have hsz := hB2.out.size
                  have m1 := Lib.hid (show 0 + a ≤ maxLen by unfold maxLen; omega)
                  have m2 := Lib.hid (show (0 + a) * 8 ≤ 140737488355328 by omega)
                  have m3 := Lib.hid (show 0 + a + 1 ≤ maxLen by unfold maxLen; omega)
                  have m4 := Lib.hid (show (0 + a + 1) * 8 ≤ 140737488355328 by omega)
                  have m5 := Lib.hid (show 0 + a + 1 + (out.length - a) ≤ maxLen by unfold maxLen; omega)
                  have m6 := Lib.hid (show (0 + a + 1 + (out.length - a)) * 8 ≤ 140737488355328 by omega)
                  have hO0 := Lib.hid (owns_empty (B := W2.heap.size) (t := 3) (Blk.new W2 3 #[]) (Nat.le_refl _))
                  have hA0 : Hid (Below W2.heap.size W2 (W2.alloc (.cells #[] 3))) := (Below.refl _ _).alloc (Nat.le_refl _) _
                  go_upto_region 18 with (at_builtin; refine wpList_app _ rfl (.tmp 73) (.tmp 76) _ rfl W2.heap.size 3 i0 _ 8 Try.underlying24 hi hz0 hz1 hz2 rfl (.slice (some ⟨W2.heap.size, 0, none⟩) 0 0) 0 [] rfl hO0.out (some ⟨g, 0, none⟩) a c5 _ rfl (ht.out.below hA0.out (Nat.le_refl _)).src m1.out m2.out (by simp) ?_; intro v6 w6 ho6 hg6 hat6)
                  have hk6 : ∃ g6, v6.ownBlock = some g6 := by
                    rcases hat6 with e | e
                    · exact ⟨_, e⟩
                    · exact ⟨_, e⟩
                  have hB6 := Lib.hid (below_own hA0.out hO0.out hg6 (by simp) (Nat.le_refl _))
                  have hs6 := hB6.out.size
                  replace ho6 := Lib.hid ho6
                  clear hg6 hat6 hO0
                  go_upto_region 19 with (at_builtin; refine wpList_app _ rfl (.tmp 78) (.tmp 80) _ rfl W2.heap.size 3 i0 _ 8 Try.underlying24 hi hz0 hz1 hz2 rfl v6 _ _ rfl (World.ownsRow.alloc ho6.out _) (some ⟨w6.heap.size, 0, none⟩) 1 1 [.int .i64 low] rfl (Src.one (Blk.new _ _ _) rfl) m3.out m4.out (by simp; omega) ?_; intro v7 w7 ho7 hg7 hat7)
                  have hk7 : ∃ g7, v7.ownBlock = some g7 := by
                    obtain ⟨g6, e6⟩ := hk6
                    rcases hat7 with e | e
                    · exact ⟨g6, e.trans e6⟩
                    · exact ⟨_, e⟩
                  have hB7 := Lib.hid (below_own (hB6.out.alloc hs6 _) (World.ownsRow.alloc ho6.out _) hg7 (by simp; omega) (Nat.le_refl _))
                  have hs7 := hB7.out.size
                  replace ho7 := Lib.hid ho7
                  clear hg7 hat7 hk6 ho6
                  have hfin : Hid (∀ v8 w8, w8.ownsRow W2.heap.size 3 1 v8 (0 + a + 1 + (out.length - a)) (([] ++ (out.take a).map (Value.int .i64)) ++ [.int .i64 low] ++ (out.drop a).map (Value.int .i64)) → OwnI w8 W.heap.size v8 (out.take a ++ [low] ++ out.drop a)) := fun v8 w8 hh => by
                    have hln : (out.take a ++ [low] ++ out.drop a).length = 0 + a + 1 + (out.length - a) := by simp; omega
                    refine own_mono ?_ hsz
                    rw [hln, List.map_append, List.map_append]
                    exact hh
                  have hlen : Hid ((out.take a ++ [low] ++ out.drop a).length ≤ k + 1) := by show (out.take a ++ [low] ++ out.drop a).length ≤ k + 1; simp; omega
                  by_cases hca : a = c5
                  · subst hca
                    have hol2 : out.length = a := by omega
                    have hd0 : out.drop a = [] := List.drop_eq_nil_of_le (by omega)
                    have hq0 : out.length - a = 0 := by omega
                    rw [hd0, hq0] at hfin
                    rw [hq0] at m5 m6
                    rw [hd0] at hput hlen
                    rw [hol2]
                    replace hd0 := Lib.hid hd0
                    go_wp2_with (at_builtin; refine wpList_app _ rfl (.tmp 82) (.tmp 85) _ rfl W2.heap.size 3 i0 _ 8 Try.underlying24 hi hz0 hz1 hz2 rfl v7 _ _ rfl ho7.out _ 0 _ [] (by first | rfl | skip) (src_none _ _) m5.out m6.out hs7 ?_; intro v8 w8 ho8 hg8 hat8)
                    have hB8 := Lib.hid (below_own hB7.out ho7.out hg8 hs7 (Nat.le_refl _))
                    have ho9 := Lib.hid (hfin.out v8 w8 (by simpa using ho8))
                    have hk8 : Hid (∃ g8, v8.ownBlock = some g8) := by
                      obtain ⟨g7, e7⟩ := hk7
                      rcases hat8 with e | e
                      · exact ⟨g7, e.trans e7⟩
                      · exact ⟨_, e⟩
                    clear ho8 hg8 hat8 hk7
                    go_wp2
                    go_roundw
                    case rel => exact ⟨k + 1, _, by omega, by go_num, ho9.out, hk8.out, hput.out, hlen.out, hak2.out, hB2.out.trans (hB8.out.mono hsz)⟩
                    case measure => simp [intOf]; omega
                  · go_wp2_with (at_builtin; refine wpList_app _ rfl (.tmp 82) (.tmp 85) _ rfl W2.heap.size 3 i0 _ 8 Try.underlying24 hi hz0 hz1 hz2 rfl v7 _ _ rfl ho7.out (some ⟨g, a, none⟩) (out.length - a) (c5 - a) _ (by rfl) (hd.out.below hB7.out (Nat.le_refl _)).src m5.out m6.out hs7 ?_; intro v8 w8 ho8 hg8 hat8)
                    have hB8 := Lib.hid (below_own hB7.out ho7.out hg8 hs7 (Nat.le_refl _))
                    have ho9 := Lib.hid (hfin.out v8 w8 ho8)
                    have hk8 : Hid (∃ g8, v8.ownBlock = some g8) := by
                      obtain ⟨g7, e7⟩ := hk7
                      rcases hat8 with e | e
                      · exact ⟨g7, e.trans e7⟩
                      · exact ⟨_, e⟩
                    clear ho8 hg8 hat8 hk7
                    go_wp2
                    go_roundw
                    case rel => exact ⟨k + 1, _, by omega, by go_num, ho9.out, hk8.out, hput.out, hlen.out, hak2.out, hB2.out.trans (hB8.out.mono hsz)⟩
                    case measure => simp [intOf]; omega
      · obtain rfl : k = M := by omega
        have hr := Lib.hid (hE.out out hak hup)
        replace ho := Lib.hid ho
        have hlt' : ¬ (k : Int) + 1 ≤ (k : Int) := by omega
        clear hBr hup hak
        go_wp2
        go_ret
        exact ⟨_, rfl, by rw [hr.out]; exact ho.out.mono hB.out.size, hwB.out⟩
  · have hE := Lib.hid (rings_no (f := f) (m := m) (fun hh => hm hh.1))
    have hBW := Lib.hid (hB.out.alloc hB.out.size (.cells #[] 3))
    by_cases h1 : 1 ≤ m
    · have h2 : ¬ m ≤ 500 := by omega
      clear hm
      go_wp2
      refine wp_loop_rounds 1 ?_
      rw [rounds_succ]
      go_wp2
      go_ret
      exact ⟨_, rfl, by rw [hE.out]; exact (HO.out : OwnI _ _ _ []).mono hB.out.size, hBW.out⟩
    · clear hm
      go_wp2
      refine wp_loop_rounds 1 ?_
      rw [rounds_succ]
      go_wp2
      go_ret
      exact ⟨_, rfl, by rw [hE.out]; exact (HO.out : OwnI _ _ _ []).mono hB.out.size, hBW.out⟩
end Go.Proofs.Ytfnpkmlgklameaa
