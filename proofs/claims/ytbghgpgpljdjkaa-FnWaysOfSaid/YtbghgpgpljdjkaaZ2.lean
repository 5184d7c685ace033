/-
  What each two words leave of each other, of the program; the program's ApartOk.
-/
import Derived.Test.YtbghgpgpljdjkaaZ1
namespace Go.Proofs.Ytbghgpgpljdjkaa
open Go.RowKit

/-- What each two words leave of each other. -/
def pairsTo (l : List ByteArray) (k : Nat) : List ByteArray := (List.range k).flatMap fun i => leftL (l.drop (i + 1)) (l.getD i ByteArray.empty) (l.drop (i + 1)).length
theorem pairsTo_go (l : List ByteArray) (k : Nat) : pairsTo l (k + 1) = pairsTo l k ++ leftL (l.drop (k + 1)) (l.getD k ByteArray.empty) (l.drop (k + 1)).length := by
  unfold pairsTo
  rw [List.range_succ, List.flatMap_append]
  simp
theorem pairs_mem {l : List ByteArray} {d : ByteArray} : d ∈ pairsTo l l.length ↔ ∃ i j, i < j ∧ j < l.length ∧ d ∈ leave1 (l.getD i ByteArray.empty) (l.getD j ByteArray.empty) := by
  unfold pairsTo leftL
  rw [List.mem_flatMap]
  constructor
  · rintro ⟨i, hi, hd⟩
    rw [List.take_length, List.mem_flatMap] at hd
    obtain ⟨u, hu, hd⟩ := hd
    obtain ⟨a, ha, rfl⟩ := mem_getD hu
    rw [List.length_drop] at ha
    refine ⟨i, i + 1 + a, by omega, by omega, ?_⟩
    have e : (l.drop (i + 1)).getD a ByteArray.empty = l.getD (i + 1 + a) ByteArray.empty := by simp [List.getD_eq_getElem?_getD]
    rwa [e] at hd
  · rintro ⟨i, j, hij, hj, hd⟩
    refine ⟨i, List.mem_range.2 (by omega), ?_⟩
    rw [List.take_length, List.mem_flatMap]
    refine ⟨l.getD j ByteArray.empty, ?_, hd⟩
    have e : (l.drop (i + 1)).getD (j - (i + 1)) ByteArray.empty = l.getD j ByteArray.empty := by
      simp only [List.getD_eq_getElem?_getD, List.getElem?_drop]
      rw [show i + 1 + (j - (i + 1)) = j by omega]
    rw [← e]
    exact getD_mem (by rw [List.length_drop]; omega)

set_option maxRecDepth 100000 in
set_option maxHeartbeats 2000000 in
theorem leftOfPairs_any (A : Option Addr) (n c : Nat) (l : List ByteArray) (w : World) (h : Strs w A n c l) (hn : n ≤ 100) (hs : ∀ x ∈ l, x.size ≤ 1048576) :
    Calls Try.prog 52 #[.slice A n c] w (RetStrs w (pairsTo l l.length)) := by
  obtain ⟨i0, hi, hz0, hz1, hz2⟩ := info_parts str_info
  have HSZ := Lib.hid (fun k => getD_size hs k)
  have HSD := Lib.hid (fun k => (fun x hx => hs x (List.mem_of_mem_drop hx) : ∀ x ∈ l.drop k, x.size ≤ 1048576))
  have HS := Lib.hid h
  obtain ⟨rfl, hcap, hat⟩ := h
  replace hat := Lib.hid hat
  clear hs
  go_enter Try.func52, Try.ntmps52
  go_wp2
  go_loopw [3, 8] (fun s3 s8 wr => ∃ (k : Nat) (out : List ByteArray), k ≤ l.length ∧ s8 = .int .i64 k ∧ LW w s3 out wr ∧ out = pairsTo l k ∧ out.length ≤ k * 100) (fun _ i _ => l.length - (intOf i).toNat)
  case atStart => exact ⟨0, [], Nat.zero_le _, rfl, ⟨owns_none _ _ _, Below.refl _ _⟩, rfl, Nat.zero_le _⟩
  case round =>
    obtain ⟨k, out, hk, rfl, hW, hout, hol⟩ := hrel
    obtain ⟨A5, c5, rfl, -⟩ := hW.own.strs
    by_cases hlt : k < l.length
    · obtain ⟨b, o, rfl, hbo, hc⟩ := hat.out (by omega)
      have ck := (hW.low.cell (p := ⟨b, o + k, none⟩) hbo).trans (hc k hlt)
      have hzu := HSZ.out k
      have s2 := (HS.out.below hW.low (Nat.le_refl _)).drop (m := k + 1) (by omega)
      replace s2 : Strs wr (if c = k + 1 then some ⟨b, o, none⟩ else some ⟨b, o + (k + 1), none⟩) (l.length - (k + 1)) (c - (k + 1)) (l.drop (k + 1)) := by
        split
        · exact ⟨s2.len, s2.le, fun h => absurd h (by omega)⟩
        · exact s2
      have hgo := pairsTo_go l k
      rw [← hout] at hgo
      have hll := leftL_len (l.drop (k + 1)) (l.getD k ByteArray.empty) (l.drop (k + 1)).length (Nat.le_refl _)
      rw [List.length_drop] at hll
      have KL := leftWith_any _ _ _ (l.drop (k + 1)) (l.getD k ByteArray.empty) wr s2 (by omega) (HSD.out _) hzu
      rw [List.length_drop] at KL hgo
      generalize leftL (l.drop (k + 1)) (l.getD k ByteArray.empty) (l.length - (k + 1)) = ys at *
      generalize l.getD k ByteArray.empty = u at *
      have m1 := Lib.hid (show out.length + ys.length ≤ maxLen by unfold maxLen; omega)
      have m2 := Lib.hid (show (out.length + ys.length) * 16 ≤ 140737488355328 by omega)
      have hWB := hW.low.size
      have w2 : IntKind.i64.wrap ((k : Int) + 1) = (k : Int) + 1 := IntWalk.i64_in _ (by omega)
      have w4 : ((k : Int) + 1).toNat = k + 1 := by omega
      have u4 : (0 : Int) ≤ (k : Int) + 1 := by omega
      have u5 : (k : Int) + 1 ≤ (l.length : Int) := by omega
      have u8 : (l.length : Int) ≤ (c : Int) := by omega
      replace hW := Lib.hid hW
      replace hout := Lib.hid hout
      replace hgo := Lib.hid hgo
      clear hc s2
      by_cases hcp : c = k + 1
      all_goals
        first
          | (subst hcp; rw [if_pos rfl, Nat.sub_self, show l.length - (k + 1) = 0 by omega] at KL)
          | rw [if_neg hcp] at KL
        replace KL := Lib.hid KL
        go_wp2_with (fail)
        refine KL.out.mono ?_
        rintro e w3 ⟨v3, rfl, o3, b3⟩
        obtain ⟨A6, c6, rfl, s6⟩ := o3.strs
        have hW3 := hW.out.below b3
        have hsrc := Lib.hid s6.src
        have hW3B := hW3.low.size
        replace hW3 := Lib.hid hW3
        clear KL b3 o3 s6 ck w2 w4
        go_upto_region 6 with (at_builtin; refine wpList_app _ rfl (.tmp 13) (.tmp 19) _ rfl w.heap.size 9 i0 _ 16 Try.underlying23 hi hz0 hz1 hz2 rfl (.slice A5 out.length c5) _ _ rfl hW3.out.own A6 ys.length c6 _ rfl hsrc.out m1.out m2.out hW3B ?_; intro v6 w6 ho6 hg6 hat6)
        have ho : OwnStrs w6 w.heap.size v6 (out ++ ys) := by
          unfold OwnStrs
          simpa using ho6
        have hW6 := hW3.out.turn ho hg6
        have hl2 : (out ++ ys).length ≤ (k + 1) * 100 := by rw [List.length_append]; omega
        have hgo2 := hgo.out
        generalize out ++ ys = out2 at *
        replace hW6 := Lib.hid hW6
        replace hgo2 := Lib.hid hgo2
        clear ho ho6 hg6 hat6
        go_wp2
        go_roundw
        case rel => exact ⟨k+1, out2, by omega, by go_num, hW6.out, hgo2.out.symm, hl2⟩
        case measure => simp [intOf]; omega
    · obtain rfl : k = l.length := by omega
      replace hW := Lib.hid hW
      subst hout
      clear hol
      generalize pairsTo l l.length = out at *
      go_wp2
      go_ret
      exact ⟨_, rfl, hW.out.own, hW.out.low⟩

theorem leave_mem {s u d : ByteArray} (h : d ∈ leave1 s u) : (beg s u = true ∧ d = rest s u) ∨ (beg u s = true ∧ d = rest u s) := by
  unfold leave1 at h
  split at h
  · next hb => exact .inl ⟨hb, by simpa using h⟩
  · split at h
    · next hb => exact .inr ⟨hb, by simpa using h⟩
    · simp at h
theorem leave_eat {s u : ByteArray} (h : beg s u = true) : rest s u ∈ leave1 s u := by unfold leave1; rw [if_pos h]; simp
theorem leave_grow {s u : ByteArray} (h : beg u s = true) : rest u s ∈ leave1 s u := by
  unfold leave1
  by_cases h1 : beg s u = true
  · have e := beg_both h1 h
    rw [if_pos h1, e]; simp
  · rw [if_neg h1, if_pos h]; simp
theorem pairs_dang {l : List ByteArray} (hc : codeOk l = true) {d : ByteArray} (h : d ∈ pairsTo l l.length) : DangB l d := by
  obtain ⟨i, j, hij, hj, hd⟩ := pairs_mem.1 h
  have hne : l.getD i ByteArray.empty ≠ l.getD j ByteArray.empty := fun e => by have := getD_inj (codeOk_iff.1 hc).2.2 (by omega) hj e; omega
  rcases leave_mem hd with ⟨hb, rfl⟩ | ⟨hb, rfl⟩
  · exact dang_init (getD_mem hj) (getD_mem (by omega)) (Ne.symm hne) hb
  · exact dang_init (getD_mem (by omega)) (getD_mem hj) hne hb
theorem pairs_all {l : List ByteArray} {u v : ByteArray} (hu : u ∈ l) (hv : v ∈ l) (hne : u ≠ v) (hb : beg v u = true) : rest v u ∈ pairsTo l l.length := by
  obtain ⟨a, ha, rfl⟩ := mem_getD hu
  obtain ⟨b, hb', rfl⟩ := mem_getD hv
  rcases Nat.lt_trichotomy a b with e | e | e
  · exact pairs_mem.2 ⟨a, b, e, hb', leave_grow hb⟩
  · subst e; exact absurd rfl hne
  · exact pairs_mem.2 ⟨b, a, e, ha, leave_eat hb⟩
theorem pairs_apart {l : List ByteArray} (hc : codeOk l = true) : apartOk l = decide ((pairsTo l l.length).length = 0) := by
  by_cases h : (pairsTo l l.length).length = 0
  · rw [decide_eq_true h]
    refine apartOk_iff.2 ⟨hc, fun u hu v hv hne => ?_⟩
    cases hb : beg v u
    · rfl
    · have := pairs_all hu hv hne hb
      rw [List.eq_nil_of_length_eq_zero h] at this
      simp at this
  · rw [decide_eq_false h]
    have h1 : 0 < (pairsTo l l.length).length := by omega
    obtain ⟨i, j, hij, hj, hd⟩ := pairs_mem.1 (List.getElem_mem h1)
    have hne : l.getD i ByteArray.empty ≠ l.getD j ByteArray.empty := fun e => by have := getD_inj (codeOk_iff.1 hc).2.2 (by omega) hj e; omega
    rcases leave_mem hd with ⟨hb, -⟩ | ⟨hb, -⟩
    · exact apartOk_no (getD_mem hj) (getD_mem (by omega)) (Ne.symm hne) hb
    · exact apartOk_no (getD_mem (by omega)) (getD_mem hj) hne hb
theorem pairs_len (l : List ByteArray) (h6 : l.length ≤ 6) : (pairsTo l l.length).length ≤ 36 := by
  have key : ∀ k, k ≤ l.length → (pairsTo l k).length ≤ k * 6 := by
    intro k
    induction k with
    | zero => intro _; exact Nat.zero_le _
    | succ k ih =>
      intro hk
      rw [pairsTo_go, List.length_append]
      have := ih (by omega)
      have := leftL_len (l.drop (k + 1)) (l.getD k ByteArray.empty) (l.drop (k + 1)).length (Nat.le_refl _)
      rw [List.length_drop] at this ⊢
      omega
  have := key l.length (Nat.le_refl _)
  omega

set_option maxRecDepth 100000 in
theorem implApartOk_any (A : Option Addr) (n c : Nat) (l : List ByteArray) (w : World) (h : Strs w A n c l) (hn : n ≤ 2097152) (hs : ∀ x ∈ l, x.size ≤ 1048576) :
    Calls Try.prog 25 #[.slice A n c] w fun e w' => e = .returned (.bool (apartOk l)) ∧ Below w.heap.size w w' := by
  have HC := implCodeOk_any A n c l w h hn hs
  cases hok : codeOk l
  · have hr := Lib.hid (apartOk_code hok)
    rw [hok] at HC
    replace HC := Lib.hid HC
    replace hok := Lib.hid hok
    go_enter Try.func25, Try.ntmps25
    go_wp2_with (fail)
    refine HC.out.mono ?_
    rintro e w1 ⟨rfl, b1⟩
    replace b1 := Lib.hid b1
    go_wp2
    go_ret
    exact ⟨ret_bool hr.out.symm, b1.out⟩
  · have hr := pairs_apart hok
    have hl6 := (codeOk_iff.1 hok).1.2
    have hpl := pairs_len l hl6
    have KP := Lib.hid (fun W (hb : Below w.heap.size w W) => leftOfPairs_any A n c l W (h.below hb (Nat.le_refl _)) (by have := h.len; omega) hs)
    rw [hok] at HC
    generalize pairsTo l l.length = ps at *
    replace HC := Lib.hid HC
    replace hok := Lib.hid hok
    replace hr := Lib.hid hr
    clear h hs
    go_enter Try.func25, Try.ntmps25
    go_wp2_with (fail)
    refine HC.out.mono ?_
    rintro e w1 ⟨rfl, b1⟩
    have KP1 := Lib.hid (KP.out w1 b1)
    replace b1 := Lib.hid b1
    go_wp2_with (fail)
    refine KP1.out.mono ?_
    rintro e w2 ⟨v2, rfl, o2, b2⟩
    obtain ⟨A2, c2, rfl, -⟩ := o2.strs
    have hB := Lib.hid (b1.out.trans (b2.mono b1.out.size))
    clear o2 b2 KP1
    go_wp2
    go_ret
    refine ⟨ret_bool ?_, hB.out⟩
    rw [hr.out]
    by_cases e : ps.length = 0
    · rw [decide_eq_true e, e]; rfl
    · rw [decide_eq_false e, beq_eq_false_iff_ne]; omega
end Go.Proofs.Ytbghgpgpljdjkaa
