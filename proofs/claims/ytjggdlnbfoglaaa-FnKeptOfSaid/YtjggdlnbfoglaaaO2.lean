/-
  The contract of SortedOf of the model.
-/
import Derived.Test.YtjggdlnbfoglaaaO1
import Derived.Test.YtjggdlnbfoglaaaLK
namespace Go.Proofs.Ytjggdlnbfoglaaa
open Go.RowKit

theorem map_getDO (f : Int → ByteArray) (l : List Int) {k : Nat} (h : k < l.length) : (l.map f).getD k ByteArray.empty = f (l.getD k 0) := by
  simp [List.getD_eq_getElem?_getD, h]
theorem put_map (f : Int → ByteArray) (l : List Int) (a : Nat) (x : Int) : (l.map f).take a ++ [f x] ++ (l.map f).drop a = (l.take a ++ [x] ++ l.drop a).map f := by
  simp

set_option maxRecDepth 100000 in
set_option maxHeartbeats 8000000 in
theorem specSortedOf_any (v : Value) (t : Tg) (m : Int) (w : World) (h : Tng w v t) (hf : t.Fine) (_hm : -9223372036854775808 ≤ m ∧ m ≤ 9223372036854775807) :
    Calls Try.prog 23 #[v, .int .i64 m] w (RetO1 w (sortedF t m)) := by
  obtain ⟨i0, hi, hz0, hz1, hz2⟩ := info_parts int_info
  obtain ⟨j0, hj, jz0, jz1, jz2⟩ := info_parts str_info
  obtain ⟨A1, c1, A2, c2, A3, c3, rfl, -⟩ := h.ex
  have hB := (Below.refl w.heap.size w).alloc (Nat.le_refl _) (.cells #[.slice A1 t.us.length c1, .slice A2 t.bs.length c2, .slice A3 t.ns.length c3] 26)
  have HX := Blk.new w 26 #[.slice A1 t.us.length c1, .slice A2 t.bs.length c2, .slice A3 t.ns.length c3]
  have HT := h.below hB (Nat.le_refl _)
  have KL := Lib.hid (fun x W (hT : Tng W (.agg #[.slice A1 t.us.length c1, .slice A2 t.bs.length c2, .slice A3 t.ns.length c3]) t) hx => specTextOf_any _ t x W hT hf hx)
  replace hB := Lib.hid hB
  replace HX := Lib.hid HX
  replace HT := Lib.hid HT
  clear h hf
  go_enter Try.func23, Try.ntmps23
  go_upto_region 1 with (fail)
  generalize w.alloc (.cells #[.slice A1 t.us.length c1, .slice A2 t.bs.length c2, .slice A3 t.ns.length c3] 26) = W at *
  have HO := Lib.hid (owns_empty (B := W.heap.size) (t := 3) (Blk.new W 3 #[]) (Nat.le_refl _))
  have HO2 : Hid (((W.alloc (.cells #[] 3)).alloc (.cells #[] 9)).ownsRow W.heap.size 9 1 (.slice (some ⟨W.heap.size + 1, 0, none⟩) 0 0) 0 []) := by
    have := owns_empty (B := W.heap.size) (t := 9) (Blk.new (W.alloc (.cells #[] 3)) 9 #[]) (by simp)
    exact Lib.hid (by simpa using this)
  have HA1 : Hid (Below W.heap.size W (W.alloc (.cells #[] 3))) := (Below.refl _ _).alloc (Nat.le_refl _) _
  have HA2 : Hid (Below W.heap.size W ((W.alloc (.cells #[] 3)).alloc (.cells #[] 9))) := HA1.out.alloc (by simp) _
  by_cases hm : 1 ≤ m ∧ m ≤ 150
  · obtain ⟨hm1, hm2⟩ := hm
    obtain ⟨M, rfl⟩ : ∃ M : Nat, m = M := ⟨m.toNat, by omega⟩
    have hE := Lib.hid (fun l (ha : allN t M) (hl : SortIs (tx t) M l) => sorted_yes (t := t) (m := M) (by omega) (by omega) ha hl)
    have hE0 := Lib.hid (fun (k : Nat) (hk : (k : Int) < (M : Int)) (hn : namedB t ((k : Int) + 1) = false) => sorted_gap (t := t) hk hn)
    go_wp2
    go_loopw [5, 6, 7] (fun s5 s6 s7 wr => ∃ (k : Nat) (out : List Int) (ns : List ByteArray), k ≤ M ∧ s7 = .int .i64 ((k : Int) + 1) ∧ OwnI wr W.heap.size s5 out ∧ (∃ g, s5.ownBlock = some g) ∧ OwnStrs wr W.heap.size s6 ns ∧ (∃ g, s6.ownBlock = some g) ∧ ns = out.map (textOf t) ∧ SortIs (tx t) k out ∧ allN t k ∧ Below W.heap.size W wr) (fun _ _ s7 _ => M + 1 - (intOf s7).toNat)
    case atStart => exact ⟨0, [], [], Nat.zero_le _, rfl, World.ownsRow.alloc HO.out _, ⟨_, rfl⟩, HO2.out, ⟨_, rfl⟩, rfl, SortIs.zero _, allN_zero t, HA2.out⟩
    case round =>
      obtain ⟨k, out, ns, hk, rfl, ho, ⟨g, hg⟩, hn, ⟨g6, hgn⟩, hns, hup, hak, hBr⟩ := hrel
      have hol := hup.len
      have hnl : ns.length = out.length := by rw [hns, List.length_map]
      obtain ⟨c5, rfl, hlc, hgl, hgB⟩ := own_shape ho hg
      obtain ⟨c6, rfl, hlc6, hgl6, hgB6⟩ := own_shape hn hgn
      have hwB := Lib.hid (hB.out.trans (hBr.mono hB.out.size))
      by_cases hlt : k < M
      · have KL1 := Lib.hid (KL.out ((k : Int) + 1) wr (HT.out.below hBr (Nat.le_refl _)) (by omega))
        obtain ⟨x0, x1, x2, -, -, -⟩ := blk3 (HX.out.below hBr HX.out.lt)
        have hlt' : (k : Int) + 1 ≤ (M : Int) := by omega
        have e1 : IntKind.i64.wrap ((k : Int) + 1 + 1) = (k : Int) + 1 + 1 := IntWalk.i64_in _ (by omega)
        have hseen := txt_seen t ((k : Int) + 1)
        have hgap := Lib.hid (hE0.out k (by omega))
        have hak2 := Lib.hid (allN_succ (k := k) hak)
        have hsz := text_sizeO t ((k : Int) + 1)
        have hlts := fun p (hp : p < out.length) => (txt_lt (textOf t ((k : Int) + 1)) (ns.getD p ByteArray.empty)).trans (show _ = decide (tx t ((k : Int) + 1) < tx t (out.getD p 0)) by rw [hns, map_getDO _ _ hp]; rfl)
        have hput := fun a (hal : a ≤ out.length) (h1 : namedB t ((k : Int) + 1) = true) hge hle => hup.put hal (allN_apart (hak2.out h1)) hge hle (a := a)
        have hpm := fun a => put_map (textOf t) out a ((k : Int) + 1)
        rw [← hns] at hpm
        obtain ⟨x, hx⟩ : ∃ x, textOf t ((k : Int) + 1) = x := ⟨_, rfl⟩
        rw [hx] at KL1 hseen hsz hlts hpm
        replace hx := Lib.hid hx
        replace hlts := Lib.hid hlts
        replace hput := Lib.hid hput
        replace hpm := Lib.hid hpm
        replace hns := Lib.hid hns
        replace ho := Lib.hid ho
        replace hn := Lib.hid hn
        replace hBr := Lib.hid hBr
        replace hup := Lib.hid hup
        replace hak := Lib.hid hak
        replace hg := Lib.hid hg
        replace hgn := Lib.hid hgn
        replace hol := Lib.hid hol
        replace hnl := Lib.hid hnl
        go_wp2_with (fail)
        refine KL1.out.mono ?_
        rintro e W2 ⟨rfl, b2⟩
        have ho2 := Lib.hid (ho.out.below b2 (Nat.le_refl _))
        have hn2 := Lib.hid (hn.out.below b2 (Nat.le_refl _))
        have hB2 := Lib.hid (hBr.out.trans (b2.mono hBr.out.size))
        have hwB2 := Lib.hid (hwB.out.trans (b2.mono hwB.out.size))
        have hgl2 : g < W2.heap.size := Nat.lt_of_lt_of_le hgl b2.size
        have hgl62 : g6 < W2.heap.size := Nat.lt_of_lt_of_le hgl6 b2.size
        clear b2 ho hn hBr hwB x0 x1 x2 KL1 hgl hgl6
        cases hnb : namedB t ((k : Int) + 1)
        · rw [hnb] at hseen
          simp only [Bool.not_false] at hseen
          have hr := Lib.hid (hgap.out hnb)
          replace hnb := Lib.hid hnb
          go_wp2
          go_ret
          exact ⟨_, rfl, by rw [hr.out]; exact owns_empty (Blk.new _ _ _) hwB2.out.size, hwB2.out.alloc hwB2.out.size _⟩
        · rw [hnb] at hseen
          simp only [Bool.not_true] at hseen
          have hak3 := Lib.hid (hak2.out hnb)
          have hput2 := Lib.hid (fun a hal => hput.out a hal hnb)
          replace hnb := Lib.hid hnb
          have hR2 := hn2.out
          obtain ⟨_, _, e6, hR2⟩ := hR2.strs
          cases e6
          replace hR2 := Lib.hid hR2
          clear hput hak2 hgap
          go_wp2
          go_loop [9] (fun s9 => ∃ a : Nat, a ≤ out.length ∧ s9 = .int .i64 a ∧ ∀ i, a ≤ i → i < out.length → tx t ((k : Int) + 1) < tx t (out.getD i 0)) (fun s9 => (intOf s9).toNat)
          case atStart => exact ⟨out.length, Nat.le_refl _, rfl, fun i h1 h2 => by omega⟩
          case round =>
            obtain ⟨a, ha, rfl, has⟩ := hrel
            obtain ⟨go, hgo⟩ : ∃ go : Bool, go = (decide (0 < a) && decide (tx t ((k : Int) + 1) < tx t (out.getD (a - 1) 0))) := ⟨_, rfl⟩
            go_upto_region 10 with (fail)
            go_cut [41] (fun s41 wx => s41 = .bool go ∧ wx = W2)
            case first =>
              by_cases h0 : a = 0
              · subst h0
                have hg0 := Lib.hid (show go = false by rw [hgo]; rfl)
                have h0' : ¬ (0 : Int) < ((0 : Nat) : Int) := by omega
                clear hgo has
                go_wp2
                go_meet
                exact ⟨by rw [hg0.out], rfl⟩
              · obtain ⟨p, rfl⟩ : ∃ p, a = p + 1 := ⟨a - 1, by omega⟩
                obtain ⟨b6, o6, e6, -, hc6⟩ := hR2.out.at_ (by have := hnl.out; omega)
                cases e6
                have cp := hc6 p (by have := hnl.out; omega)
                rw [Nat.zero_add] at cp
                have hl1 := hlts.out p (by omega)
                have hLp : p ≤ 150 := by have := hol.out; omega
                rw [Nat.add_sub_cancel] at hgo
                have e2 : IntKind.i64.wrap (((p + 1 : Nat) : Int) - 1) = (p : Int) := by rw [show ((p + 1 : Nat) : Int) - 1 = (p : Int) by omega]; exact IntWalk.i64_in _ (by omega)
                have e3 : IntKind.i64.wrap ((p : Int) + 1 - 1) = (p : Int) := by rw [show (p : Int) + 1 - 1 = (p : Int) by omega]; exact IntWalk.i64_in _ (by omega)
                have e5 : IntKind.i64.wrap (p : Int) = (p : Int) := IntWalk.i64_in _ (by omega)
                have p1 : (0 : Int) < ((p + 1 : Nat) : Int) := by omega
                have p2 : (0 : Int) < (p : Int) + 1 := by omega
                have p3 : p < ns.length := by have := hnl.out; omega
                have p4 : (p : Int) < (ns.length : Int) := by omega
                have hg1 : go = decide (tx t ((k : Int) + 1) < tx t (out.getD p 0)) := by rw [hgo, decide_eq_true (show 0 < p + 1 by omega), Bool.true_and]
                generalize ns.getD p ByteArray.empty = y at *
                generalize decide (tx t ((k : Int) + 1) < tx t (out.getD p 0)) = q at *
                replace hg1 := Lib.hid hg1
                clear hgo has hc6
                go_wp2
                go_meet
                exact ⟨by rw [hg1.out]; exact congrArg Value.bool ((txt_gt x y).trans hl1), rfl⟩
            case rest =>
              obtain ⟨e41, hwc⟩ := hcut
              subst e41
              subst wc
              cases go
              · have hge := Lib.hid has
                have hle : Hid (0 < a → ¬ tx t ((k : Int) + 1) < tx t (out.getD (a - 1) 0)) := fun h0 h1 => by
                  rw [decide_eq_true h0, decide_eq_true h1] at hgo
                  cases hgo
                have hput3 := Lib.hid (hput2.out a ha hge.out hle.out)
                clear hgo has hge hle hput2
                have hR := ho2.out
                obtain ⟨_, _, e5, hR⟩ := hR.ints
                cases e5
                replace hR := Lib.hid hR
                have hsz2 := hB2.out.size
                have hLb : out.length ≤ 150 := by have := hol.out; omega
                have q1 : a ≤ c5 := by omega
                have q2 : (a : Int) ≤ (out.length : Int) := by omega
                have q3 : a ≤ out.length := by omega
                have ht := Lib.hid (hR.out.take (m := a) q3)
                have hd : Hid (Ints W2 .i64 (some ⟨g, a, none⟩) (out.length - a) (c5 - a) (out.drop a)) := by have := hR.out.dropI (m := a) q3; rwa [Nat.zero_add] at this
                have m1 := Lib.hid (show 0 + a ≤ maxLen by unfold maxLen; omega)
                have m2 := Lib.hid (show (0 + a) * 8 ≤ 140737488355328 by omega)
                have m3 := Lib.hid (show 0 + a + 1 ≤ maxLen by unfold maxLen; omega)
                have m4 := Lib.hid (show (0 + a + 1) * 8 ≤ 140737488355328 by omega)
                have m5 := Lib.hid (show 0 + a + 1 + (out.length - a) ≤ maxLen by unfold maxLen; omega)
                have m6 := Lib.hid (show (0 + a + 1 + (out.length - a)) * 8 ≤ 140737488355328 by omega)
                have hO0 := Lib.hid (owns_empty (B := W2.heap.size) (t := 3) (Blk.new W2 3 #[]) (Nat.le_refl _))
                have hA0 : Hid (Below W2.heap.size W2 (W2.alloc (.cells #[] 3))) := (Below.refl _ _).alloc (Nat.le_refl _) _
                go_upto_region 13 with (at_builtin; refine wpList_app _ rfl (.tmp 44) (.tmp 47) _ rfl W2.heap.size 3 i0 _ 8 Try.underlying24 hi hz0 hz1 hz2 rfl (.slice (some ⟨W2.heap.size, 0, none⟩) 0 0) 0 [] rfl hO0.out (some ⟨g, 0, none⟩) a c5 _ rfl (ht.out.below hA0.out (Nat.le_refl _)).src m1.out m2.out (by simp) ?_; intro v6 w6 ho6 hg6 hat6)
                have hk6 : ∃ g6, v6.ownBlock = some g6 := by
                  rcases hat6 with e | e
                  · exact ⟨_, e⟩
                  · exact ⟨_, e⟩
                have hB6 := Lib.hid (below_own hA0.out hO0.out hg6 (by simp) (Nat.le_refl _))
                have hs6 := hB6.out.size
                replace ho6 := Lib.hid ho6
                clear hg6 hat6 hO0
                go_upto_region 14 with (at_builtin; refine wpList_app _ rfl (.tmp 49) (.tmp 51) _ rfl W2.heap.size 3 i0 _ 8 Try.underlying24 hi hz0 hz1 hz2 rfl v6 _ _ rfl (World.ownsRow.alloc ho6.out _) (some ⟨w6.heap.size, 0, none⟩) 1 1 [.int .i64 ((k : Int) + 1)] rfl (Src.one (Blk.new _ _ _) rfl) m3.out m4.out (by simp; omega) ?_; intro v7 w7 ho7 hg7 hat7)
                have hk7 : ∃ g7, v7.ownBlock = some g7 := by
                  obtain ⟨g6, e6⟩ := hk6
                  rcases hat7 with e | e
                  · exact ⟨g6, e.trans e6⟩
                  · exact ⟨_, e⟩
                have hB7 := Lib.hid (below_own (hB6.out.alloc hs6 _) (World.ownsRow.alloc ho6.out _) hg7 (by simp; omega) (Nat.le_refl _))
                have hs7 := hB7.out.size
                replace ho7 := Lib.hid ho7
                clear hg7 hat7 hk6 ho6
                have hfin : Hid (∀ v8 w8, w8.ownsRow W2.heap.size 3 1 v8 (0 + a + 1 + (out.length - a)) (([] ++ (out.take a).map (Value.int .i64)) ++ [.int .i64 ((k : Int) + 1)] ++ (out.drop a).map (Value.int .i64)) → OwnI w8 W.heap.size v8 (out.take a ++ [((k : Int) + 1)] ++ out.drop a)) := fun v8 w8 hh => by
                  have hln : (out.take a ++ [((k : Int) + 1)] ++ out.drop a).length = 0 + a + 1 + (out.length - a) := by simp; omega
                  refine own_mono ?_ hsz2
                  rw [hln, List.map_append, List.map_append]
                  exact hh
                go_cut [5] (fun sr wx => OwnI wx W.heap.size sr (out.take a ++ [((k : Int) + 1)] ++ out.drop a) ∧ (∃ gr, sr.ownBlock = some gr) ∧ Below W2.heap.size W2 wx)
                case first =>
                  by_cases hca : a = c5
                  · subst hca
                    have hol2 : out.length = a := by omega
                    have hd0 : out.drop a = [] := List.drop_eq_nil_of_le (by omega)
                    have hq0 : out.length - a = 0 := by omega
                    rw [hq0] at m5 m6
                    rw [hol2]
                    replace hd0 := Lib.hid hd0
                    go_wp2_with (at_builtin; refine wpList_app _ rfl (.tmp 53) (.tmp 56) _ rfl W2.heap.size 3 i0 _ 8 Try.underlying24 hi hz0 hz1 hz2 rfl v7 _ _ rfl ho7.out _ 0 _ [] (by first | rfl | skip) (src_none _ _) m5.out m6.out hs7 ?_; intro v8 w8 ho8 hg8 hat8)
                    have hB8 := Lib.hid (below_own hB7.out ho7.out hg8 hs7 (Nat.le_refl _))
                    have ho9 := Lib.hid (hfin.out v8 w8 (by rw [hd0.out, hq0]; simpa using ho8))
                    have hk8 : Hid (∃ g8, v8.ownBlock = some g8) := by
                      obtain ⟨g7, e7⟩ := hk7
                      rcases hat8 with e | e
                      · exact ⟨g7, e.trans e7⟩
                      · exact ⟨_, e⟩
                    clear ho8 hg8 hat8 hk7
                    go_wp2
                    go_meet
                    exact ⟨ho9.out, hk8.out, hB8.out⟩
                  · go_wp2_with (at_builtin; refine wpList_app _ rfl (.tmp 53) (.tmp 56) _ rfl W2.heap.size 3 i0 _ 8 Try.underlying24 hi hz0 hz1 hz2 rfl v7 _ _ rfl ho7.out (some ⟨g, a, none⟩) (out.length - a) (c5 - a) _ (by rfl) (hd.out.below hB7.out (Nat.le_refl _)).src m5.out m6.out hs7 ?_; intro v8 w8 ho8 hg8 hat8)
                    have hB8 := Lib.hid (below_own hB7.out ho7.out hg8 hs7 (Nat.le_refl _))
                    have ho9 := Lib.hid (hfin.out v8 w8 ho8)
                    have hk8 : Hid (∃ g8, v8.ownBlock = some g8) := by
                      obtain ⟨g7, e7⟩ := hk7
                      rcases hat8 with e | e
                      · exact ⟨g7, e.trans e7⟩
                      · exact ⟨_, e⟩
                    clear ho8 hg8 hat8 hk7
                    go_wp2
                    go_meet
                    exact ⟨ho9.out, hk8.out, hB8.out⟩
                case rest =>
                  obtain ⟨hoI, hkI, hBI⟩ := hcut
                  obtain ⟨W3, hW3⟩ : ∃ W3, W3 = wc := ⟨_, rfl⟩
                  subst hW3
                  have hn3 := Lib.hid (hn2.out.below hBI (Nat.le_refl _))
                  have hB3 := Lib.hid (hB2.out.trans (hBI.mono hB2.out.size))
                  have hwB3 := Lib.hid (hwB2.out.trans (hBI.mono hwB2.out.size))
                  have hoI2 := Lib.hid hoI
                  have hkI2 := Lib.hid hkI
                  have hsz3 := hB3.out.size
                  have hgl63 : g6 < W3.heap.size := Nat.lt_of_lt_of_le hgl62 hBI.size
                  clear hR ht hd hfin hk7 hB6 hs6 hB7 hs7 ho7 hA0 m1 m2 m3 m4 m5 m6 q1 q2 q3 hoI hkI hBI
                  have hR := hn3.out
                  obtain ⟨_, _, e6, hR⟩ := hR.strs
                  cases e6
                  replace hR := Lib.hid hR
                  have hLb6 : ns.length ≤ 150 := by have := hol.out; have := hnl.out; omega
                  have ha6 : a ≤ ns.length := by have := hnl.out; omega
                  have q1 : a ≤ c6 := by omega
                  have q2 : (a : Int) ≤ (ns.length : Int) := by omega
                  have q3 : a ≤ ns.length := by omega
                  have ht := Lib.hid (hR.out.take (m := a) q3)
                  have hd : Hid (Strs W3 (some ⟨g6, a, none⟩) (ns.length - a) (c6 - a) (ns.drop a)) := by have := hR.out.drop (m := a) q3; rwa [Nat.zero_add] at this
                  have m1 := Lib.hid (show 0 + a ≤ maxLen by unfold maxLen; omega)
                  have m2 := Lib.hid (show (0 + a) * 16 ≤ 140737488355328 by omega)
                  have m3 := Lib.hid (show 0 + a + 1 ≤ maxLen by unfold maxLen; omega)
                  have m4 := Lib.hid (show (0 + a + 1) * 16 ≤ 140737488355328 by omega)
                  have m5 := Lib.hid (show 0 + a + 1 + (ns.length - a) ≤ maxLen by unfold maxLen; omega)
                  have m6 := Lib.hid (show (0 + a + 1 + (ns.length - a)) * 16 ≤ 140737488355328 by omega)
                  have hO0 := Lib.hid (owns_empty (B := W3.heap.size) (t := 9) (Blk.new W3 9 #[]) (Nat.le_refl _))
                  have hA0 : Hid (Below W3.heap.size W3 (W3.alloc (.cells #[] 9))) := (Below.refl _ _).alloc (Nat.le_refl _) _
                  go_upto_region 16 with (at_builtin; refine wpList_app _ rfl (.tmp 58) (.tmp 61) _ rfl W3.heap.size 9 j0 _ 16 Try.underlying23 hj jz0 jz1 jz2 rfl (.slice (some ⟨W3.heap.size, 0, none⟩) 0 0) 0 [] rfl hO0.out (some ⟨g6, 0, none⟩) a c6 _ rfl (ht.out.below hA0.out (Nat.le_refl _)).src m1.out m2.out (by simp) ?_; intro v6 w6 ho6 hg6 hat6)
                  have hk6 : ∃ g6, v6.ownBlock = some g6 := by
                    rcases hat6 with e | e
                    · exact ⟨_, e⟩
                    · exact ⟨_, e⟩
                  have hB6 := Lib.hid (below_own hA0.out hO0.out hg6 (by simp) (Nat.le_refl _))
                  have hs6 := hB6.out.size
                  replace ho6 := Lib.hid ho6
                  clear hg6 hat6 hO0
                  go_upto_region 17 with (at_builtin; refine wpList_app _ rfl (.tmp 63) (.tmp 65) _ rfl W3.heap.size 9 j0 _ 16 Try.underlying23 hj jz0 jz1 jz2 rfl v6 _ _ rfl (World.ownsRow.alloc ho6.out _) (some ⟨w6.heap.size, 0, none⟩) 1 1 [.string x] rfl (Src.one (Blk.new _ _ _) rfl) m3.out m4.out (by simp; omega) ?_; intro v7 w7 ho7 hg7 hat7)
                  have hk7 : ∃ g7, v7.ownBlock = some g7 := by
                    obtain ⟨g6, e6⟩ := hk6
                    rcases hat7 with e | e
                    · exact ⟨g6, e.trans e6⟩
                    · exact ⟨_, e⟩
                  have hB7 := Lib.hid (below_own (hB6.out.alloc hs6 _) (World.ownsRow.alloc ho6.out _) hg7 (by simp; omega) (Nat.le_refl _))
                  have hs7 := hB7.out.size
                  replace ho7 := Lib.hid ho7
                  clear hg7 hat7 hk6 ho6
                  have hfin : Hid (∀ v8 w8, w8.ownsRow W3.heap.size 9 1 v8 (0 + a + 1 + (ns.length - a)) (([] ++ (ns.take a).map (Value.string)) ++ [.string x] ++ (ns.drop a).map (Value.string)) → OwnStrs w8 W.heap.size v8 (ns.take a ++ [x] ++ ns.drop a)) := fun v8 w8 hh => by
                    have hln : (ns.take a ++ [x] ++ ns.drop a).length = 0 + a + 1 + (ns.length - a) := by simp; omega
                    refine own_mono ?_ hsz3
                    rw [hln, List.map_append, List.map_append]
                    exact hh
                  by_cases hca : a = c6
                  · subst hca
                    have hol2 : ns.length = a := by omega
                    have hd0 : ns.drop a = [] := List.drop_eq_nil_of_le (by omega)
                    have hq0 : ns.length - a = 0 := by omega
                    rw [hq0] at m5 m6
                    rw [hol2]
                    replace hd0 := Lib.hid hd0
                    go_wp2_with (at_builtin; refine wpList_app _ rfl (.tmp 67) (.tmp 70) _ rfl W3.heap.size 9 j0 _ 16 Try.underlying23 hj jz0 jz1 jz2 rfl v7 _ _ rfl ho7.out _ 0 _ [] (by first | rfl | skip) (src_none _ _) m5.out m6.out hs7 ?_; intro v8 w8 ho8 hg8 hat8)
                    have hB8 := Lib.hid (below_own hB7.out ho7.out hg8 hs7 (Nat.le_refl _))
                    have ho9 := Lib.hid (hfin.out v8 w8 (by rw [hd0.out, hq0]; simpa using ho8))
                    have hk8 : Hid (∃ g8, v8.ownBlock = some g8) := by
                      obtain ⟨g7, e7⟩ := hk7
                      rcases hat8 with e | e
                      · exact ⟨g7, e.trans e7⟩
                      · exact ⟨_, e⟩
                    clear ho8 hg8 hat8 hk7
                    have hoI3 := Lib.hid (hoI2.out.below hB8.out (Nat.le_refl _))
                    have hB4 := Lib.hid (hB3.out.trans (hB8.out.mono hB3.out.size))
                    have hmap := Lib.hid (hpm.out a)
                    go_wp2
                    go_roundw
                    case rel => exact ⟨k + 1, _, _, by omega, by go_num, hoI3.out, hkI2.out, ho9.out, hk8.out, hmap.out, hput3.out, hak3.out, hB4.out⟩
                    case measure => simp [intOf]; omega
                  · go_wp2_with (at_builtin; refine wpList_app _ rfl (.tmp 67) (.tmp 70) _ rfl W3.heap.size 9 j0 _ 16 Try.underlying23 hj jz0 jz1 jz2 rfl v7 _ _ rfl ho7.out (some ⟨g6, a, none⟩) (ns.length - a) (c6 - a) _ (by rfl) (hd.out.below hB7.out (Nat.le_refl _)).src m5.out m6.out hs7 ?_; intro v8 w8 ho8 hg8 hat8)
                    have hB8 := Lib.hid (below_own hB7.out ho7.out hg8 hs7 (Nat.le_refl _))
                    have ho9 := Lib.hid (hfin.out v8 w8 ho8)
                    have hk8 : Hid (∃ g8, v8.ownBlock = some g8) := by
                      obtain ⟨g7, e7⟩ := hk7
                      rcases hat8 with e | e
                      · exact ⟨g7, e.trans e7⟩
                      · exact ⟨_, e⟩
                    clear ho8 hg8 hat8 hk7
                    have hoI3 := Lib.hid (hoI2.out.below hB8.out (Nat.le_refl _))
                    have hB4 := Lib.hid (hB3.out.trans (hB8.out.mono hB3.out.size))
                    have hmap := Lib.hid (hpm.out a)
                    go_wp2
                    go_roundw
                    case rel => exact ⟨k + 1, _, _, by omega, by go_num, hoI3.out, hkI2.out, ho9.out, hk8.out, hmap.out, hput3.out, hak3.out, hB4.out⟩
                    case measure => simp [intOf]; omega
              · have h0 : 0 < a := by
                  rcases Nat.eq_zero_or_pos a with h | h
                  · subst h; cases hgo
                  · exact h
                obtain ⟨p, rfl⟩ : ∃ p, a = p + 1 := ⟨a - 1, by omega⟩
                have has2 : Hid (∀ i, p ≤ i → i < out.length → tx t ((k : Int) + 1) < tx t (out.getD i 0)) := fun i h1 h2 => by
                  by_cases e : i = p
                  · subst e
                    have := hgo.symm
                    rw [Bool.and_eq_true, decide_eq_true_eq, decide_eq_true_eq] at this
                    simpa using this.2
                  · exact has i (by omega) h2
                have hLp : p ≤ 150 := by have := hol.out; omega
                have e3 : IntKind.i64.wrap ((p : Int) + 1 - 1) = (p : Int) := by rw [show (p : Int) + 1 - 1 = (p : Int) by omega]; exact IntWalk.i64_in _ (by omega)
                have e5 : IntKind.i64.wrap (p : Int) = (p : Int) := IntWalk.i64_in _ (by omega)
                clear has hgo
                go_wp2
                go_round
                case rel => exact ⟨p, by omega, by go_num, has2.out⟩
                case measure => simp [intOf]
      · obtain rfl : k = M := by omega
        have hr := Lib.hid (hE.out out hak hup)
        replace ho := Lib.hid ho
        have hlt' : ¬ (k : Int) + 1 ≤ (k : Int) := by omega
        clear hBr hup hak hn hol hnl hns
        go_wp2
        go_ret
        exact ⟨_, rfl, by rw [hr.out]; exact ho.out.mono hB.out.size, hwB.out⟩
  · have hE := Lib.hid (sorted_no (t := t) (m := m) (fun hh => hm hh.1))
    have hBW := Lib.hid ((hB.out.alloc hB.out.size (.cells #[] 3)).alloc (by have := hB.out.size; simp; omega) (.cells #[] 9))
    have hHO := Lib.hid (World.ownsRow.alloc HO.out (.cells #[] 9))
    by_cases h1 : 1 ≤ m
    · have h2 : ¬ m ≤ 150 := by omega
      clear hm
      go_wp2
      refine wp_loop_rounds 1 ?_
      rw [rounds_succ]
      go_wp2
      go_ret
      exact ⟨_, rfl, by rw [hE.out]; exact own_mono hHO.out hB.out.size, hBW.out⟩
    · clear hm
      go_wp2
      refine wp_loop_rounds 1 ?_
      rw [rounds_succ]
      go_wp2
      go_ret
      exact ⟨_, rfl, by rw [hE.out]; exact own_mono hHO.out hB.out.size, hBW.out⟩
end Go.Proofs.Ytjggdlnbfoglaaa
