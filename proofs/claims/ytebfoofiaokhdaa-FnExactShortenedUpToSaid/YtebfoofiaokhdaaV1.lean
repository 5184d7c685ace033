/-
  Contracts of slices.Index and slices.Contains at texts, of slices.Concat of three, and of what the program asks of a word between.
-/
import Derived.Test.YtebfoofiaokhdaaMathV
import Derived.Test.YtebfoofiaokhdaaWordsI
namespace Go.Proofs.Ytebfoofiaokhdaa
open Go.RowKit

def idxV (l : List ByteArray) (x : ByteArray) : Int := if place l x < l.length then (place l x : Int) else -1
theorem idx_at {l : List ByteArray} {x : ByteArray} {k : Nat} (hk : k < l.length) (h : noneTo l x k) (e : l.getD k ByteArray.empty = x) : idxV l x = k := by
  have hp := place_eq hk h e
  unfold idxV; rw [hp, if_pos hk]
theorem idx_no {l : List ByteArray} {x : ByteArray} (h : noneTo l x l.length) : idxV l x = -1 := by unfold idxV; rw [place_none h, if_neg (by omega)]
theorem idx_bd (l : List ByteArray) (x : ByteArray) : -1 ≤ idxV l x ∧ idxV l x < l.length ∧ (0 ≤ idxV l x ↔ hasB l x = true) := by
  unfold idxV hasB
  by_cases h : place l x < l.length
  · rw [if_pos h, decide_eq_true h]; exact ⟨by omega, by omega, ⟨fun _ => rfl, fun _ => by omega⟩⟩
  · rw [if_neg h, decide_eq_false h]; exact ⟨by omega, by omega, ⟨fun h => by omega, fun h => by cases h⟩⟩

set_option maxHeartbeats 1000000 in
theorem index_any (A : Option Addr) (n c : Nat) (l : List ByteArray) (x : ByteArray) (w : World) (h : Strs w A n c l) (hn : n ≤ 4000000) :
    Calls Try.prog 93 #[.slice A n c, .string x] w fun e w' => e = .returned (.int .i64 (idxV l x)) ∧ w = w' := by
  obtain ⟨rfl, hcap, h⟩ := h
  have HN := Lib.hid (idx_no (l := l) (x := x))
  have HY := Lib.hid (fun k hk ho e => idx_at (l := l) (x := x) (k := k) hk ho e)
  go_enter Try.func93, Try.ntmps93
  go_wp2
  go_loop [8] (fun i => ∃ k : Nat, k ≤ l.length ∧ i = .int .i64 k ∧ noneTo l x k) (fun i => l.length - (intOf i).toNat)
  case atStart => exact ⟨0, Nat.zero_le _, rfl, fun i hi => absurd hi (by omega)⟩
  case round =>
    obtain ⟨k, hk, rfl, hno⟩ := hrel
    by_cases hlt : k < l.length
    · obtain ⟨b, o, rfl, -, hc⟩ := h (by omega)
      have ck := hc k hlt
      have HNk := Lib.hid (none_go hno)
      have HYk := Lib.hid (HY.out k hlt hno)
      generalize l.getD k ByteArray.empty = y at *
      clear hc h hno
      by_cases e : y = x
      · have he : (x.toList == y.toList) = true := by rw [str_eq]; exact decide_eq_true e.symm
        have hr := Lib.hid (HYk.out e)
        replace e := Lib.hid e
        go_wp2
        go_ret
        exact ⟨ret_int hr.out.symm, rfl⟩
      · have he : (x.toList == y.toList) = false := by rw [str_eq]; exact decide_eq_false (fun h => e h.symm)
        have hg := Lib.hid (HNk.out e)
        replace e := Lib.hid e
        go_wp2
        go_round
        case rel => exact ⟨k + 1, by omega, by go_num, hg.out⟩
        case measure => simp [intOf]; omega
    · obtain rfl : k = l.length := by omega
      have hr := Lib.hid (HN.out hno)
      clear hno h
      go_wp2
      go_ret
      exact ⟨ret_int hr.out.symm, rfl⟩

theorem contains_any (A : Option Addr) (n c : Nat) (l : List ByteArray) (x : ByteArray) (w : World) (h : Strs w A n c l) (hn : n ≤ 4000000) :
    Calls Try.prog 89 #[.slice A n c, .string x] w fun e w' => e = .returned (.bool (hasB l x)) ∧ w = w' := by
  have K := Lib.hid (index_any A n c l x w h hn)
  obtain ⟨b1, b2, b3⟩ := idx_bd l x
  have hd : decide (0 ≤ idxV l x) = hasB l x := by
    cases hh : hasB l x
    · exact decide_eq_false (fun h => by rw [b3.1 h] at hh; cases hh)
    · exact decide_eq_true (b3.2 hh)
  replace hd := Lib.hid hd
  clear b3 h
  generalize idxV l x = v at *
  go_enter Try.func89, Try.ntmps89
  go_wp2_with (fail)
  refine K.out.mono ?_
  rintro e _ ⟨rfl, rfl⟩
  go_wp2
  go_ret
  exact ⟨ret_bool hd.out, rfl⟩

set_option maxRecDepth 100000 in
set_option maxHeartbeats 1000000 in
theorem implStranger_any (v : Value) (t : Tg) (x : ByteArray) (w : World) (h : Tng w v t) (hf : t.Fine) (hx : x.size ≤ maxLen) :
    Calls Try.prog 81 #[v, .string x] w fun e w' => e = .returned (.bool (wordOk x && !hasB (wordsOf t) x)) ∧ Below w.heap.size w w' := by
  obtain ⟨A1, c1, A2, c2, A3, c3, rfl, -⟩ := h.ex
  have hB := (Below.refl w.heap.size w).alloc (Nat.le_refl _) (.cells #[.slice A1 t.us.length c1, .slice A2 t.bs.length c2, .slice A3 t.ns.length c3] 26)
  have HX := Blk.new w 26 #[.slice A1 t.us.length c1, .slice A2 t.bs.length c2, .slice A3 t.ns.length c3]
  have HT := h.below hB (Nat.le_refl _)
  have hwl := wordsOf_len t hf
  replace hB := Lib.hid hB
  replace HX := Lib.hid HX
  replace HT := Lib.hid HT
  clear h
  go_enter Try.func81, Try.ntmps81
  go_upto_region 1 with (fail)
  generalize w.alloc (.cells #[.slice A1 t.us.length c1, .slice A2 t.bs.length c2, .slice A3 t.ns.length c3] 26) = W at *
  obtain ⟨x0, x1, x2, -, -, -⟩ := blk3 HX.out
  have KW := Lib.hid (implWordOk_any x W hx)
  have KO := Lib.hid (implWordsOf_any _ t W HT.out hf)
  go_wp2_with (fail)
  refine KW.out.mono ?_
  rintro e _ ⟨rfl, rfl⟩
  clear KW
  cases hw : wordOk x
  · have hr : (wordOk x && !hasB (wordsOf t) x) = false := by rw [hw]; rfl
    replace hr := Lib.hid hr
    replace hw := Lib.hid hw
    go_wp2
    go_ret
    exact ⟨ret_bool hr.out.symm, hB.out⟩
  · have hr : (wordOk x && !hasB (wordsOf t) x) = !hasB (wordsOf t) x := by rw [hw]; rfl
    replace hr := Lib.hid hr
    replace hw := Lib.hid hw
    go_wp2_with (fail)
    refine KO.out.mono ?_
    rintro e w2 ⟨v2, rfl, o2, b2⟩
    obtain ⟨A4, c4, rfl, s4⟩ := o2.strs
    replace hB := Lib.hid (hB.out.trans (b2.mono hB.out.size))
    have KC := Lib.hid (contains_any A4 _ c4 (wordsOf t) x w2 s4 (by omega))
    clear b2 o2 s4 x0 x1 x2 KO
    go_wp2_with (fail)
    refine KC.out.mono ?_
    rintro e _ ⟨rfl, rfl⟩
    clear KC
    cases hh : hasB (wordsOf t) x
    all_goals
      have hr2 := hr.out.trans (congrArg not hh)
      replace hh := Lib.hid hh
      replace hr2 := Lib.hid hr2
      go_wp2
      go_ret
      exact ⟨ret_bool hr2.out.symm, hB.out⟩


set_option maxRecDepth 100000 in
set_option maxHeartbeats 1000000 in
theorem concat3_any (A A' A'' : Option Addr) (g n c n' c' n'' c'' : Nat) (xs ys zs : List ByteArray) (w : World) (hg : g < w.heap.size) (h0 : w.cell? ⟨g, 0, none⟩ = some (.slice A n c)) (h1 : w.cell? ⟨g, 1, none⟩ = some (.slice A' n' c')) (h2 : w.cell? ⟨g, 2, none⟩ = some (.slice A'' n'' c''))
    (h : Strs w A n c xs) (h' : Strs w A' n' c' ys) (h'' : Strs w A'' n'' c'' zs) (hn : n ≤ 1048576) (hn' : n' ≤ 1048576) (hn'' : n'' ≤ 1048576) :
    Calls Try.prog 75 #[.slice (some ⟨g, 0, none⟩) 3 3] w fun e w' => ∃ v, e = .returned v ∧ w'.ownsRow w.heap.size 9 1 v (n + n' + n'') ((xs ++ ys ++ zs).map Value.string) ∧ Below w.heap.size w w' := by
  obtain ⟨i0, hi, hz0, hz1, hz2⟩ := info_parts str_info
  have HS := Lib.hid h.src
  have HS' := Lib.hid h'.src
  have HS'' := Lib.hid h''.src
  have hG0 := grow_any (n + n' + n'') w (by omega)
  rw [Int.natCast_add, Int.natCast_add] at hG0
  have hG := Lib.hid hG0
  clear hG0
  clear h h' h''
  go_enter Try.func75, Try.ntmps75
  go_wp2
  refine wp_loop_rounds 4 ?_
  rw [rounds_succ]
  go_wp2
  rw [rounds_succ]
  go_wp2
  rw [rounds_succ]
  go_wp2
  rw [rounds_succ]
  go_wp2_with (fail)
  refine hG.out.mono ?_
  rintro e w1 ⟨v1, rfl, ho1, hb1⟩
  have c0 := (hb1.cell (p := ⟨g, 0, none⟩) hg).trans h0
  have c1 := (hb1.cell (p := ⟨g, 1, none⟩) hg).trans h1
  have c2 := (hb1.cell (p := ⟨g, 2, none⟩) hg).trans h2
  have S1 := Lib.hid (HS.out.below hb1 (Nat.le_refl _))
  replace ho1 := Lib.hid ho1
  replace hb1 := Lib.hid hb1
  clear h0 h1 h2
  go_wp2
  refine wp_loop_rounds 4 ?_
  rw [rounds_succ]
  go_wp2_with (at_builtin; refine wpList_app _ rfl (.tmp 31) (.tmp 32) _ rfl w.heap.size 9 i0 _ 16 Try.underlying23 hi hz0 hz1 hz2 rfl v1 0 [] rfl ho1.out A n c _ rfl S1.out (by unfold maxLen; omega) (by omega) hb1.out.size ?_; intro v2 w2 ho2 hg2 _)
  have hb2 := below_own hb1.out ho1.out hg2 hb1.out.size (Nat.le_refl _)
  have d1 := (hb2.cell (p := ⟨g, 1, none⟩) hg).trans ((hb1.out.cell (p := ⟨g, 1, none⟩) hg).symm.trans c1)
  have d2 := (hb2.cell (p := ⟨g, 2, none⟩) hg).trans ((hb1.out.cell (p := ⟨g, 2, none⟩) hg).symm.trans c2)
  have S2 := Lib.hid (HS'.out.below hb2 (Nat.le_refl _))
  replace ho2 := Lib.hid ho2
  replace hb2 := Lib.hid hb2
  clear c0 c1 c2 hg2
  rw [rounds_succ]
  go_wp2_with (at_builtin; refine wpList_app _ rfl (.tmp 31) (.tmp 32) _ rfl w.heap.size 9 i0 _ 16 Try.underlying23 hi hz0 hz1 hz2 rfl v2 _ _ rfl ho2.out A' n' c' _ rfl S2.out (by unfold maxLen; omega) (by omega) hb2.out.size ?_; intro v3 w3 ho3 hg3 _)
  have hb3 := below_own hb2.out ho2.out hg3 hb2.out.size (Nat.le_refl _)
  have e2 := (hb3.cell (p := ⟨g, 2, none⟩) hg).trans ((hb2.out.cell (p := ⟨g, 2, none⟩) hg).symm.trans d2)
  have S3 := Lib.hid (HS''.out.below hb3 (Nat.le_refl _))
  replace ho3 := Lib.hid ho3
  replace hb3 := Lib.hid hb3
  clear d1 d2 hg3
  rw [rounds_succ]
  go_wp2_with (at_builtin; refine wpList_app _ rfl (.tmp 31) (.tmp 32) _ rfl w.heap.size 9 i0 _ 16 Try.underlying23 hi hz0 hz1 hz2 rfl v3 _ _ rfl ho3.out A'' n'' c'' _ rfl S3.out (by unfold maxLen; omega) (by omega) hb3.out.size ?_; intro v4 w4 ho4 hg4 _)
  have hb4 := below_own hb3.out ho3.out hg4 hb3.out.size (Nat.le_refl _)
  rw [rounds_succ]
  replace ho4 := Lib.hid ho4
  replace hb4 := Lib.hid hb4
  clear hg4 e2
  go_wp2
  go_ret
  exact ⟨_, rfl, by have := ho4.out; simpa using this, hb4.out⟩
end Go.Proofs.Ytebfoofiaokhdaa
