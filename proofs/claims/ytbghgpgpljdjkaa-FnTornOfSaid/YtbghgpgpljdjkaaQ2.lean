/-
  The model's ApartOk; a text put behind others if it is not among them.
-/
import Derived.Test.YtbghgpgpljdjkaaQ1
namespace Go.Proofs.Ytbghgpgpljdjkaa
open Go.RowKit

/-- No other word begins the first k. -/
def apTo (l : List ByteArray) (k : Nat) : Prop := ∀ i, i < k → ∀ j, j < l.length → j ≠ i → beg (l.getD i ByteArray.empty) (l.getD j ByteArray.empty) = false
def apIn (l : List ByteArray) (x : ByteArray) (k j : Nat) : Prop := ∀ i, i < j → i ≠ k → beg x (l.getD i ByteArray.empty) = false
theorem apTo_go {l : List ByteArray} {k : Nat} (h : apTo l k) (hx : apIn l (l.getD k ByteArray.empty) k l.length) : apTo l (k + 1) := fun i hi j hj hne => by
  by_cases e : i = k
  · subst e; exact hx j hj hne
  · exact h i (by omega) j hj hne
theorem apIn_go {l : List ByteArray} {x : ByteArray} {k j : Nat} (h : apIn l x k j) (hx : j ≠ k → beg x (l.getD j ByteArray.empty) = false) : apIn l x k (j + 1) := fun i hi hne => by
  by_cases e : i = j
  · subst e; exact hx hne
  · exact h i (by omega) hne
theorem ap_yes {l : List ByteArray} (hc : codeOk l = true) (h : apTo l l.length) : apartOk l = true :=
  apartOk_iff.2 ⟨hc, fun u hu v hv hne => by
    obtain ⟨j, hj, rfl⟩ := mem_getD hu
    obtain ⟨i, hi, rfl⟩ := mem_getD hv
    exact h i hi j hj (fun e => hne (by rw [e]))⟩
theorem ap_no {l : List ByteArray} (hc : codeOk l = true) {j k : Nat} (hj : j < l.length) (hk : k < l.length) (hne : j ≠ k) (hb : beg (l.getD k ByteArray.empty) (l.getD j ByteArray.empty) = true) : apartOk l = false :=
  apartOk_no (getD_mem hj) (getD_mem hk) (fun e => hne (getD_inj (codeOk_iff.1 hc).2.2 hj hk e)) hb

set_option maxRecDepth 100000 in
set_option maxHeartbeats 4000000 in
theorem specApartOk_any (A : Option Addr) (n c : Nat) (l : List ByteArray) (w : World) (h : Strs w A n c l) (hn : n ≤ 2097152) (hs : ∀ x ∈ l, x.size ≤ 1048576) :
    Calls Try.prog 26 #[.slice A n c] w fun e w' => e = .returned (.bool (apartOk l)) ∧ ∃ m, w' = w.drewN m := by
  have HC := Lib.hid (fun m => specCodeOk_any A n c l (w.drewN m) (h.drewN m) hn hs)
  have HSZ := Lib.hid (fun k => getD_size hs k)
  obtain ⟨rfl, hcap, hat⟩ := h
  clear hs
  replace hat := Lib.hid hat
  cases hok : codeOk l
  · have hr := apartOk_code hok
    rw [hok] at HC
    rw [hr]
    clear hr hok
    have HC0 := HC.out 0
    rw [World.drewN_zero] at HC0
    replace HC0 := Lib.hid HC0
    by_cases h0 : 0 < l.length
    · go_enter Try.func26, Try.ntmps26
      go_wp2
      refine wp_loop_rounds 1 ?_
      rw [rounds_succ]
      go_wp2_with (fail)
      refine HC0.out.mono ?_
      rintro e _ ⟨rfl, m1, rfl⟩
      have HC1 := Lib.hid (HC.out m1)
      go_wp2_with (fail)
      refine HC1.out.mono ?_
      rintro e _ ⟨rfl, m2, rfl⟩
      go_wp2
      go_ret
      exact ⟨rfl, m1 + m2, by simp⟩
    · go_enter Try.func26, Try.ntmps26
      go_wp2
      refine wp_loop_rounds 1 ?_
      rw [rounds_succ]
      go_wp2_with (fail)
      refine HC0.out.mono ?_
      rintro e _ ⟨rfl, m1, rfl⟩
      go_wp2
      go_ret
      exact ⟨rfl, m1, rfl⟩
  · rw [hok] at HC
    have HY := Lib.hid (ap_yes hok)
    have HNo := Lib.hid (fun j k hj hk hne hb => ap_no hok (j := j) (k := k) hj hk hne hb)
    have hl6 := (codeOk_iff.1 hok).1.2
    replace hok := Lib.hid hok
    go_enter Try.func26, Try.ntmps26
    go_wp2
    go_loopw [3] (fun i wr => ∃ k m : Nat, k ≤ l.length ∧ i = .int .i64 k ∧ apTo l k ∧ wr = w.drewN m) (fun i _ => l.length - (intOf i).toNat)
    case atStart => exact ⟨0, 0, Nat.zero_le _, rfl, fun j hj => absurd hj (by omega), rfl⟩
    case round =>
      obtain ⟨k, m, hk, rfl, hu, rfl⟩ := hrel
      by_cases hlt : k < l.length
      · obtain ⟨b, o, rfl, hbo, hc⟩ := hat.out (by omega)
        have hz := HSZ.out k
        have HA := Lib.hid (apTo_go hu)
        have HN := Lib.hid (fun j hj hne hb => HNo.out j k hj hlt hne hb)
        replace hc := Lib.hid hc
        have hx0 := hc.out k hlt
        generalize l.getD k ByteArray.empty = x at *
        have ckw := Lib.hid hx0
        have HCm := Lib.hid (HC.out m)
        clear hu hx0
        go_wp2_with (fail)
        refine HCm.out.mono ?_
        rintro e _ ⟨rfl, m1, rfl⟩
        clear HCm
        go_wp2
        obtain ⟨wo, hwo⟩ : ∃ wo : World, wo = w.drewN (m + m1) := ⟨_, rfl⟩
        rw [← hwo]
        replace hwo := Lib.hid hwo
        go_loopw [4] (fun i wr => ∃ j m : Nat, j ≤ l.length ∧ i = .int .i64 j ∧ apIn l x k j ∧ wr = w.drewN m) (fun i _ => l.length - (intOf i).toNat)
        case atStart => exact ⟨0, m + m1, Nat.zero_le _, rfl, fun i hi => absurd hi (by omega), hwo.out⟩
        case round =>
          obtain ⟨j, m2, hj, rfl, hd, rfl⟩ := hrel
          by_cases hjt : j < l.length
          · have cj := hc.out j hjt
            have ck := ckw.out
            have hzj := HSZ.out j
            have HG := Lib.hid (apIn_go hd)
            have HN2 := Lib.hid (HN.out j hjt)
            generalize l.getD j ByteArray.empty = y at *
            clear hd
            by_cases e : j = k
            · have hd0 : ((j : Int) != (k : Int)) = false := by rw [bne_eq_false_iff_eq]; omega
              have hg := Lib.hid (HG.out (fun h => absurd e h))
              replace e := Lib.hid e
              go_wp2
              go_quiet (fail)
              go_wp2
              go_roundw
              case rel => exact ⟨j+1, m2+nq, by omega, by go_num, hg.out, by simp⟩
              case measure => simp [intOf]; omega
            · have hd0 : ((j : Int) != (k : Int)) = true := by rw [bne_iff_ne]; omega
              have HB := Lib.hid (fun W => begins_any x y W (by omega) (by omega))
              go_wp2
              go_quiet ((go_at_call 53; exact quiet_add_same (HB.out _)))
              cases hb : beg x y
              · have hg := Lib.hid (HG.out (fun _ => hb))
                go_wp2
                go_roundw
                case rel => exact ⟨j+1, m2+nq, by omega, by go_num, hg.out, by simp⟩
                case measure => simp [intOf]; omega
              · have hr := Lib.hid (HN2.out e hb)
                go_wp2
                go_ret
                exact ⟨ret_bool hr.out.symm, m2+nq, by simp⟩
          · obtain rfl : j = l.length := by omega
            have hA2 := Lib.hid (HA.out hd)
            clear hd
            go_wp2
            go_roundw
            case rel => exact ⟨k+1, m2, by omega, by go_num, hA2.out, rfl⟩
            case measure => simp [intOf]; omega
      · obtain rfl : k = l.length := by omega
        have hr := Lib.hid (HY.out hu)
        have HCm := Lib.hid (HC.out m)
        clear hu
        go_wp2_with (fail)
        refine HCm.out.mono ?_
        rintro e _ ⟨rfl, m1, rfl⟩
        go_wp2
        go_ret
        exact ⟨ret_bool hr.out.symm, m + m1, by simp⟩

open Classical in
/-- A text put behind others if it is not among them. -/
noncomputable def putL (xs : List ByteArray) (s : ByteArray) : List ByteArray := if s ∈ xs then xs else xs ++ [s]
theorem putL_mem {xs : List ByteArray} {s x : ByteArray} : x ∈ putL xs s ↔ x ∈ xs ∨ x = s := by
  unfold putL
  split
  · next h => exact ⟨.inl, fun h' => h'.elim id fun e => e ▸ h⟩
  · simp
theorem putL_nodup {xs : List ByteArray} (h : xs.Nodup) (s : ByteArray) : (putL xs s).Nodup := by
  unfold putL
  split
  · exact h
  · next hs =>
    rw [List.nodup_append]
    exact ⟨h, by simp, fun a ha b hb e => by
      have : b = s := by simpa using hb
      exact hs (by rw [← this, ← e]; exact ha)⟩
theorem putL_len (xs : List ByteArray) (s : ByteArray) : (putL xs s).length ≤ xs.length + 1 ∧ xs.length ≤ (putL xs s).length := by
  unfold putL; split <;> simp
theorem putL_at {xs : List ByteArray} {s : ByteArray} {k : Nat} (h : k < xs.length) : (putL xs s).getD k ByteArray.empty = xs.getD k ByteArray.empty := by
  unfold putL
  split
  · rfl
  · rw [List.getD_eq_getElem?_getD, List.getElem?_append_left h, ← List.getD_eq_getElem?_getD]
theorem putL_has {xs : List ByteArray} {s : ByteArray} {k : Nat} (h : k < xs.length) (e : xs.getD k ByteArray.empty = s) : putL xs s = xs := by
  unfold putL; rw [if_pos]; exact e ▸ getD_mem h
theorem putL_new {xs : List ByteArray} {s : ByteArray} (h : ∀ i, i < xs.length → xs.getD i ByteArray.empty ≠ s) : putL xs s = xs ++ [s] := by
  unfold putL; rw [if_neg]
  intro hs
  obtain ⟨k, hk, e⟩ := mem_getD hs
  exact h k hk e

/-- Where the row stands that has grown. -/
def OnRow (w : World) (v v' : Value) : Prop := v'.ownBlock = v.ownBlock ∨ ∃ k, v'.ownBlock = some k ∧ w.heap.size ≤ k
/-- A row of the call's own has turned into another one. -/
def RetRow (B : Nat) (v : Value) (ys : List ByteArray) (w : World) (e : Ending) (w' : World) : Prop :=
  ∃ v', e = .returned v' ∧ OwnStrs w' B v' ys ∧ w.grownBy w' v.ownBlock ∧ OnRow w v v'

set_option maxRecDepth 100000 in
set_option maxHeartbeats 4000000 in
theorem put_any (B : Nat) (v : Value) (xs : List ByteArray) (s : ByteArray) (w : World) (h : OwnStrs w B v xs) (hB : B ≤ w.heap.size) (hn : xs.length ≤ 1048576) :
    Calls Try.prog 67 #[v, .string s] w (RetRow B v (putL xs s) w) := by
  obtain ⟨i0, hi, hz0, hz1, hz2⟩ := info_parts str_info
  obtain ⟨A, c, rfl, hS⟩ := h.strs
  obtain ⟨-, hcap, hat⟩ := hS
  replace hat := Lib.hid hat
  replace h := Lib.hid h
  have HY := Lib.hid (fun k hk e => putL_has (xs := xs) (s := s) (k := k) hk e)
  have HN := Lib.hid (putL_new (xs := xs) (s := s))
  go_enter Try.func67, Try.ntmps67
  go_wp2
  go_loop [5] (fun i => ∃ k : Nat, k ≤ xs.length ∧ i = .int .i64 k ∧ (∀ i, i < k → xs.getD i ByteArray.empty ≠ s)) (fun i => xs.length - (intOf i).toNat)
  case atStart => exact ⟨0, Nat.zero_le _, rfl, fun i hi => absurd hi (by omega)⟩
  case round =>
    obtain ⟨k, hk, rfl, hd⟩ := hrel
    by_cases hlt : k < xs.length
    · obtain ⟨b, o, rfl, hbo, hc⟩ := hat.out (by omega)
      have ck := hc k hlt
      have HG := Lib.hid (neW_go hd)
      have HYk := Lib.hid (HY.out k hlt)
      generalize xs.getD k ByteArray.empty = y at *
      clear hc hd
      by_cases e : y = s
      · have he : (y.toList == s.toList) = true := by rw [str_eq]; exact decide_eq_true e
        have hr := Lib.hid (HYk.out e)
        replace e := Lib.hid e
        go_wp2
        go_ret
        exact ⟨_, rfl, by rw [hr.out]; exact h.out, World.grownBy.refl w _, .inl rfl⟩
      · have he : (y.toList == s.toList) = false := by rw [str_eq]; exact decide_eq_false e
        have hg := Lib.hid (HG.out e)
        replace e := Lib.hid e
        go_wp2
        go_round
        case rel => exact ⟨k+1, by omega, by go_num, hg.out⟩
        case measure => simp [intOf]; omega
    · obtain rfl : k = xs.length := by omega
      have hr := Lib.hid (HN.out hd)
      clear hd hat
      have m1 := Lib.hid (show xs.length + 1 ≤ maxLen by unfold maxLen; omega)
      have m2 := Lib.hid (show (xs.length + 1) * 16 ≤ 140737488355328 by omega)
      go_wp2_with (at_builtin; refine wpList_app _ rfl (.tmp 19) (.tmp 21) _ rfl B 9 i0 _ 16 Try.underlying23 hi hz0 hz1 hz2 rfl (.slice A xs.length c) _ _ rfl (World.ownsRow.alloc h.out _) (some ⟨w.heap.size, 0, none⟩) 1 1 [.string s] rfl (Src.one (Blk.new _ _ _) rfl) m1.out m2.out (by simp; omega) ?_; intro v6 w6 ho6 hg6 hat6)
      have hg0 : w.grownBy (w.alloc (.cells #[.string s] 9)) (Value.slice A xs.length c).ownBlock := grown_of_below _ ((Below.refl _ _).alloc (Nat.le_refl _) _)
      have hg := hg0.trans hg6
      have hO : OnRow w (.slice A xs.length c) v6 := by
        rcases hat6 with e | e
        · exact .inl e
        · exact .inr ⟨_, e, by simp⟩
      have ho : OwnStrs w6 B v6 (putL xs s) := by
        rw [hr.out]
        unfold OwnStrs
        simpa using ho6
      replace hg := Lib.hid hg
      replace hO := Lib.hid hO
      replace ho := Lib.hid ho
      clear ho6 hg6 hat6 hg0
      go_wp2
      go_ret
      exact ⟨_, rfl, ho.out, hg.out, hO.out⟩
end Go.Proofs.Ytbghgpgpljdjkaa
