/-
  Codes: the contracts of CodeOk of both, and of the model's question whether a text begins with another one.
-/
import Derived.Test.YtbghgpgpljdjkaaMathD
import Derived.Test.YtbghgpgpljdjkaaGA
namespace Go.Proofs.Ytbghgpgpljdjkaa
open Go.RowKit Go.WideMaps Go.Maps

/-- The first k are words of a code. -/
def codeTo (l : List ByteArray) (k : Nat) : Prop := ∀ j, j < k → codeWord (l.getD j ByteArray.empty) = true
theorem code_go {l : List ByteArray} {k : Nat} (h : codeTo l k) (hx : codeWord (l.getD k ByteArray.empty) = true) : codeTo l (k + 1) := fun j hj => by
  by_cases e : j = k
  · subst e; exact hx
  · exact h j (by omega)
/-- The first k are different. -/
def diffTo (l : List ByteArray) (k : Nat) : Prop := ∀ j, j < k → ∀ i, i < j → l.getD i ByteArray.empty ≠ l.getD j ByteArray.empty
theorem diff_go {l : List ByteArray} {k : Nat} (h : diffTo l k) (hx : ∀ i, i < k → l.getD i ByteArray.empty ≠ l.getD k ByteArray.empty) : diffTo l (k + 1) := fun j hj i hi => by
  by_cases e : j = k
  · subst e; exact hx i hi
  · exact h j (by omega) i hi
theorem diff_nodup {l : List ByteArray} (h : diffTo l l.length) : l.Nodup := by
  refine List.pairwise_iff_getElem.2 fun i j hi hj hij => ?_
  have := h j hj i hij
  simpa [List.getD_eq_getElem?_getD, hi, hj] using this
theorem code_all {l : List ByteArray} (h : codeTo l l.length) : ∀ s ∈ l, codeWord s = true := fun s m => by
  obtain ⟨j, hj, rfl⟩ := mem_getD m
  exact h j hj
theorem code_end {l : List ByteArray} (h : codeTo l l.length) (hd : diffTo l l.length) : codeOk l = decide (1 ≤ (l.length : Int) ∧ (l.length : Int) ≤ 6) := by
  by_cases h1 : 1 ≤ l.length ∧ l.length ≤ 6
  · rw [codeOk_iff.2 ⟨h1, code_all h, diff_nodup hd⟩, decide_eq_true (by omega)]
  · rw [codeOk_no (fun hh => h1 hh.1), decide_eq_false (by omega)]
theorem code_no_word {l : List ByteArray} {k : Nat} (hk : k < l.length) (h : codeWord (l.getD k ByteArray.empty) = false) : codeOk l = false := codeOk_no fun hh => by
  rw [hh.2.1 _ (getD_mem hk)] at h; cases h
theorem code_no_twice {l : List ByteArray} {j k : Nat} (hj : j < k) (hk : k < l.length) (h : l.getD j ByteArray.empty = l.getD k ByteArray.empty) : codeOk l = false := codeOk_no fun hh => by
  have := getD_inj hh.2.2 (by omega) hk h
  omega
theorem neW_go {l : List ByteArray} {j : Nat} {x : ByteArray} (h : ∀ i, i < j → l.getD i ByteArray.empty ≠ x) (e : l.getD j ByteArray.empty ≠ x) : ∀ i, i < j + 1 → l.getD i ByteArray.empty ≠ x := fun i hi => by
  by_cases e' : i = j
  · subst e'; exact e
  · exact h i (by omega)
theorem getD_size {l : List ByteArray} {m : Nat} (h : ∀ x ∈ l, x.size ≤ m) (k : Nat) : (l.getD k ByteArray.empty).size ≤ m := by
  by_cases hk : k < l.length
  · exact h _ (getD_mem hk)
  · rw [List.getD, List.getElem?_eq_none (by omega)]; exact Nat.zero_le _
theorem codeW_yes {x : ByteArray} (h : wordOk x = true) (h4 : x.size ≤ 4) : codeWord x = true := by simp [codeWord, h, h4]
theorem codeW_no {x : ByteArray} (h : wordOk x = false) : codeWord x = false := by simp [codeWord, h]
theorem codeW_long {x : ByteArray} (h4 : ¬ x.size ≤ 4) : codeWord x = false := by simp [codeWord, h4]

set_option maxRecDepth 100000 in
set_option maxHeartbeats 4000000 in
theorem specCodeOk_any (A : Option Addr) (n c : Nat) (l : List ByteArray) (w : World) (h : Strs w A n c l) (hn : n ≤ 2097152) (hs : ∀ x ∈ l, x.size ≤ 1048576) :
    Calls Try.prog 19 #[.slice A n c] w fun e w' => e = .returned (.bool (codeOk l)) ∧ ∃ m, w' = w.drewN m := by
  obtain ⟨rfl, hcap, hat⟩ := h
  have HSZ := Lib.hid (fun k => getD_size hs k)
  clear hs
  replace hat := Lib.hid hat
  go_enter Try.func19, Try.ntmps19
  go_wp2
  go_loopw [3] (fun i wr => ∃ k m : Nat, k ≤ l.length ∧ i = .int .i64 k ∧ codeTo l k ∧ diffTo l k ∧ wr = w.drewN m) (fun i _ => l.length - (intOf i).toNat)
  case atStart => exact ⟨0, 0, Nat.zero_le _, rfl, fun j hj => absurd hj (by omega), fun j hj => absurd hj (by omega), rfl⟩
  case round =>
    obtain ⟨k, m, hk, rfl, hu, ha, rfl⟩ := hrel
    by_cases hlt : k < l.length
    · obtain ⟨b, o, rfl, hbo, hc⟩ := hat.out (by omega)
      have ck := hc k hlt
      have hz := HSZ.out k
      have hW := specWordOk_any _ (w.drewN m) (show (l.getD k ByteArray.empty).size ≤ maxLen by unfold maxLen; omega)
      have HU := Lib.hid (code_go hu)
      have HN := Lib.hid (code_no_word (l := l) hlt)
      have HA := Lib.hid (diff_go ha)
      have HD := Lib.hid (fun j hj => code_no_twice (l := l) (j := j) hj hlt)
      replace hc := Lib.hid hc
      generalize hx : l.getD k ByteArray.empty = x at *
      replace hx := Lib.hid hx
      clear hu ha
      go_wp2_with (fail)
      refine hW.mono ?_
      rintro e _ ⟨rfl, rfl⟩
      clear hW
      cases hxo : wordOk x
      · replace HN := Lib.hid (HN.out (codeW_no hxo))
        replace hxo := Lib.hid hxo
        go_wp2
        go_ret
        exact ⟨ret_bool HN.out.symm, m, rfl⟩
      · by_cases h4 : x.size ≤ 4
        · replace HU := Lib.hid (HU.out (codeW_yes hxo h4))
          replace hxo := Lib.hid hxo
          have h4' : ¬ (4 : Int) < (x.size : Int) := by omega
          clear HN
          go_wp2
          obtain ⟨wo, hwo⟩ : ∃ wo : World, wo = w.drewN m := ⟨_, rfl⟩
          rw [← hwo]
          have ck' : w.cell? ⟨b, o + k, none⟩ = some (.string x) := by rw [← hx.out]; exact hc.out k hlt
          replace ck' := Lib.hid ck'
          replace hwo := Lib.hid hwo
          clear ck
          go_loopw [4] (fun i wr => ∃ j m : Nat, j ≤ k ∧ i = .int .i64 j ∧ (∀ i, i < j → l.getD i ByteArray.empty ≠ x) ∧ wr = w.drewN m) (fun i _ => k - (intOf i).toNat)
          case atStart => exact ⟨0, m, Nat.zero_le _, rfl, fun i hi => absurd hi (by omega), hwo.out⟩
          case round =>
            obtain ⟨j, m2, hj, rfl, hd, rfl⟩ := hrel
            by_cases hjt : j < k
            · have cj := hc.out j (by omega)
              have ck := ck'.out
              have hjl : j < l.length := by omega
              have HD2 := HD.out j hjt
              have HG := neW_go hd
              generalize l.getD j ByteArray.empty = y at *
              clear hd
              by_cases e : y = x
              · have he : (y.toList == x.toList) = true := by rw [str_eq]; exact decide_eq_true e
                replace HD2 := Lib.hid (HD2 e)
                replace e := Lib.hid e
                clear HG
                go_wp2
                go_quiet (fail)
                go_wp2
                go_ret
                exact ⟨ret_bool HD2.out.symm, m2 + nq, by simp⟩
              · have he : (y.toList == x.toList) = false := by rw [str_eq]; exact decide_eq_false e
                replace HG := Lib.hid (HG e)
                replace e := Lib.hid e
                clear HD2
                go_wp2
                go_quiet (fail)
                go_wp2
                go_roundw
                case rel => exact ⟨j+1, m2+nq, by omega, by go_num, HG.out, by simp⟩
                case measure => simp [intOf]; omega
            · obtain rfl : j = k := by omega
              replace HA := Lib.hid (HA.out hd)
              clear hd
              go_wp2
              go_roundw
              case rel => exact ⟨j+1, m2, by omega, by go_num, HU.out, HA.out, rfl⟩
              case measure => simp [intOf]; omega
        · replace HN := Lib.hid (HN.out (codeW_long h4))
          replace hxo := Lib.hid hxo
          have h4' : (4 : Int) < (x.size : Int) := by omega
          go_wp2
          go_ret
          exact ⟨ret_bool HN.out.symm, m, rfl⟩
    · obtain rfl : k = l.length := by omega
      have HO := Lib.hid (code_end hu ha)
      clear hu ha hat
      go_wp2_with ((go_at_call 50; refine (in_any _ _ _ _).mono ?_; rintro e _ ⟨rfl, rfl⟩))
      go_ret
      exact ⟨ret_bool (by rw [HO.out, Bool.decide_and]), m, rfl⟩

theorem codeOk_size {l : List ByteArray} (hl : 1 ≤ l.length ∧ l.length ≤ 6) (h : codeTo l l.length) : codeOk l = decide ((Maps.size (plD l l.length) : Int) = (l.length : Int)) := by
  have hp := (plD_size l _ (Nat.le_refl _)).2
  rw [List.take_length] at hp
  by_cases hd : l.Nodup
  · rw [codeOk_iff.2 ⟨hl, code_all h, hd⟩, decide_eq_true (by rw [hp.2 hd])]
  · rw [codeOk_no (fun hh => hd hh.2.2), decide_eq_false (fun e => hd (hp.1 (by omega)))]
theorem codeOk_out {l : List ByteArray} (hl : ¬ (1 ≤ l.length ∧ l.length ≤ 6)) : codeOk l = false := codeOk_no fun hh => hl hh.1

set_option maxRecDepth 100000 in
set_option maxHeartbeats 2000000 in
theorem implCodeOk_any (A : Option Addr) (n c : Nat) (l : List ByteArray) (w : World) (h : Strs w A n c l) (hn : n ≤ 2097152) (hs : ∀ x ∈ l, x.size ≤ 1048576) :
    Calls Try.prog 18 #[.slice A n c] w fun e w' => e = .returned (.bool (codeOk l)) ∧ Below w.heap.size w w' := by
  have hS0 := Lib.hid h
  obtain ⟨rfl, hcap, hat⟩ := h
  have HSZ := Lib.hid (fun k => getD_size hs k)
  have HWS := Lib.hid (show ∀ x ∈ l, x.size ≤ maxLen from fun x hx => by have := hs x hx; unfold maxLen; omega)
  clear hs
  replace hat := Lib.hid hat
  by_cases hl : 1 ≤ l.length ∧ l.length ≤ 6
  · have HE := Lib.hid (codeOk_size hl)
    obtain ⟨hl1, hl6⟩ := hl
    go_enter Try.func18, Try.ntmps18
    go_wp2
    go_loop [15] (fun i => ∃ k : Nat, k ≤ l.length ∧ i = .int .i64 k ∧ codeTo l k) (fun i => l.length - (intOf i).toNat)
    case atStart => exact ⟨0, Nat.zero_le _, rfl, fun j hj => absurd hj (by omega)⟩
    case round =>
      obtain ⟨k, hk, rfl, hu⟩ := hrel
      by_cases hlt : k < l.length
      · obtain ⟨b, o, rfl, hbo, hc⟩ := hat.out (by omega)
        have ck := hc k hlt
        have hz := HSZ.out k
        have hW := implWordOk_any _ w (show (l.getD k ByteArray.empty).size ≤ maxLen by unfold maxLen; omega)
        have HU := Lib.hid (code_go hu)
        have HN := Lib.hid (code_no_word (l := l) hlt)
        generalize l.getD k ByteArray.empty = x at *
        clear hc hu
        go_wp2_with (fail)
        refine hW.mono ?_
        rintro e _ ⟨rfl, rfl⟩
        clear hW
        cases hx : wordOk x
        · replace HN := Lib.hid (HN.out (codeW_no hx))
          go_wp2
          go_ret
          exact ⟨ret_bool HN.out.symm, Below.refl _ _⟩
        · by_cases h4 : x.size ≤ 4
          · replace HU := Lib.hid (HU.out (codeW_yes hx h4))
            have h4' : ¬ (4 : Int) < (x.size : Int) := by omega
            go_wp2
            go_round
            case rel => exact ⟨k+1, by omega, by go_num, HU.out⟩
            case measure => simp [intOf]; omega
          · replace HN := Lib.hid (HN.out (codeW_long h4))
            have h4' : (4 : Int) < (x.size : Int) := by omega
            go_wp2
            go_ret
            exact ⟨ret_bool HN.out.symm, Below.refl _ _⟩
      · obtain rfl : k = l.length := by omega
        have HE2 := Lib.hid (HE.out hu)
        clear hu hat HE
        go_wp2_with (fail)
        refine (places_any A _ c l w hS0.out (by omega) HWS.out).mono ?_
        rintro e w2 ⟨rfl, hp, hb⟩
        replace hp := Lib.hid hp
        replace hb := Lib.hid hb
        go_wp2_with (at_len; refine wpList_len_own _ rfl _ 43 rfl 9 3 Try.underlying43 _ w.heap.size _ _ rfl hp.out ?_)
        go_ret
        exact ⟨ret_bool (by rw [HE2.out]; rfl), hb.out⟩
  · have HN := Lib.hid (codeOk_out hl)
    by_cases h1 : l.length < 1
    all_goals
      go_enter Try.func18, Try.ntmps18
      go_wp2
      go_ret
      exact ⟨ret_bool HN.out.symm, Below.refl _ _⟩

/-- Does a text begin with another one? -/
theorem begins_any (s h : ByteArray) (w : World) (_hs : s.size ≤ 1048576) (_hh : h.size ≤ 1048576) :
    Calls Try.prog 53 #[.string s, .string h] w fun e w' => e = .returned (.bool (beg s h)) ∧ w = w' := by
  have HB := Lib.hid (beg_take (s := s) (h := h))
  have HF := Lib.hid (fun hb : beg s h = false => (hb : beg s h = false))
  by_cases hle : h.size ≤ s.size
  · have hd : (((s.extract 0 h.size).toList == h.toList) = beg s h) := by
      rw [str_eq]
      cases hb : beg s h
      · exact decide_eq_false fun e => by rw [beg_take.2 ⟨hle, e⟩] at hb; cases hb
      · exact decide_eq_true (beg_take.1 hb).2
    replace hd := Lib.hid hd
    go_enter Try.func53, Try.ntmps53
    go_wp2
    go_ret
    exact ⟨ret_bool hd.out, rfl⟩
  · have hd : beg s h = false := by
      cases hb : beg s h
      · rfl
      · exact absurd (beg_le hb) hle
    replace hd := Lib.hid hd
    go_enter Try.func53, Try.ntmps53
    go_wp2
    go_ret
    exact ⟨ret_bool hd.out.symm, rfl⟩
end Go.Proofs.Ytbghgpgpljdjkaa
