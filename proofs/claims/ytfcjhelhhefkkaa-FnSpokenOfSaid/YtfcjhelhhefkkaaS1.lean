/-
  The contract of RowOk of the model.
-/
import Derived.Test.YtfcjhelhhefkkaaMathP
import Derived.Test.YtfcjhelhhefkkaaGA
namespace Go.Proofs.Ytfcjhelhhefkkaa
open Go.RowKit

theorem tl_get {s : ByteArray} {k : Nat} (h : k < s.size) : (tl s)[k]'(by rw [tl_len]; exact h) = s[k] := rfl
theorem tl_take {s : ByteArray} {k : Nat} (h : k < s.size) : (tl s).take (k + 1) = (tl s).take k ++ [s[k]] := take_snoc s k h
/-- How often the last byte stands at the end. -/
def lastT (l : List UInt8) : Nat := ((runs l).getLast?.map (·.1)).getD 0
theorem lastT_nil : lastT [] = 0 := rfl
theorem lastT_same {l : List UInt8} {b : UInt8} (h : l.getLast? = some b) : lastT (l ++ [b]) = lastT l + 1 := by
  obtain ⟨q, t, e, _⟩ := runs_last h
  simp [lastT, runs_snoc_same e, e]
theorem lastT_new {l : List UInt8} {b : UInt8} (h : l.getLast? ≠ some b) : lastT (l ++ [b]) = 1 := by simp [lastT, runs_snoc_new h]
theorem fine_same {l : List UInt8} {b : UInt8} (h : l.getLast? = some b) (hf : fine l = true) (ht : lastT l + 1 ≤ 9) : fine (l ++ [b]) = true := by
  obtain ⟨q, t, e, _⟩ := runs_last h
  have h9 : t + 1 ≤ 9 := by simpa [lastT, e] using ht
  unfold fine at hf ⊢
  rw [e] at hf
  rw [runs_snoc_same e]
  simp only [List.all_append, List.all_cons, List.all_nil, Bool.and_true, Bool.and_eq_true] at hf ⊢
  have := (okRun_iff _).1 hf.2
  exact ⟨hf.1, (okRun_iff _).2 ⟨this.1, this.2.1, h9⟩⟩
theorem fine_new {l : List UInt8} {b : UInt8} (h : l.getLast? ≠ some b) (hf : fine l = true) (hb : 49 ≤ b.toNat ∧ b.toNat ≤ 57) : fine (l ++ [b]) = true := by
  unfold fine at hf ⊢
  rw [runs_snoc_new h, List.all_append, hf]
  simp [okRun, hb]
theorem fine_times {l : List UInt8} (hl : l ≠ []) (h : 9 < lastT l) : fine l = false := by
  obtain ⟨b, hb⟩ : ∃ b, l.getLast? = some b := ⟨l.getLast hl, List.getLast?_eq_some_getLast hl⟩
  obtain ⟨q, t, e, _⟩ := runs_last hb
  have h9 : 9 < t := by simpa [lastT, e] using h
  unfold fine
  rw [e, List.all_append]
  have : okRun (t, b) = false := by
    cases h : okRun (t, b)
    · rfl
    · have := ((okRun_iff _).1 h).2.2; simp only at this; omega
  simp [this]
theorem mem_flat {q : List RunB} {b : UInt8} (h : b ∈ flat q) : ∃ x ∈ q, x.2 = b := by
  induction q with
  | nil => cases h
  | cons x q ih =>
    obtain ⟨t, c⟩ := x
    simp only [flat, List.mem_append, List.mem_replicate] at h
    rcases h with h | h
    · exact ⟨(t, c), by simp, h.2.symm⟩
    · obtain ⟨x, hx, e⟩ := ih h
      exact ⟨x, by simp [hx], e⟩
theorem row_mem {l : List UInt8} {b : UInt8} (h : rowL l = true) (hb : b ∈ l) : 49 ≤ b.toNat ∧ b.toNat ≤ 57 := by
  rw [← flat_runs l] at hb
  obtain ⟨x, hx, rfl⟩ := mem_flat hb
  have := (okRun_iff x).1 ((rowL_iff.1 h).2 x hx)
  exact ⟨this.1, this.2.1⟩
theorem row_no_digit {s : ByteArray} {k : Nat} (h : k < s.size) (hb : ¬ (49 ≤ (s[k].toNat : Int) ∧ (s[k].toNat : Int) ≤ 57)) : rowL (tl s) = false := by
  cases e : rowL (tl s)
  · rfl
  · have hm : s[k] ∈ tl s := by
      have h2 : k < (tl s).length := by rw [tl_len]; exact h
      exact List.getElem_mem h2
    have := row_mem e hm
    omega
theorem row_no_times {s : ByteArray} {k : Nat} (h : k < s.size) (hb : 9 < lastT ((tl s).take (k + 1))) : rowL (tl s) = false := by
  refine row_bad ?_
  cases e : fine (tl s)
  · rfl
  · have := fine_take (k + 1) e
    rw [fine_times (by rw [tl_take h]; simp) hb] at this
    cases this
theorem last_before {s : ByteArray} {j : Nat} (h : j + 1 < s.size) : ((tl s).take (j + 1)).getLast? = some (s[j]'(by omega)) := by
  rw [tl_take (by omega)]; simp
theorem row_end {s : ByteArray} (h : fine ((tl s).take s.size) = true) : rowL (tl s) = decide ((s.size : Int) ≤ 60) := by
  rw [List.take_of_length_le (by rw [tl_len]; exact Nat.le_refl _)] at h
  unfold rowL
  rw [h, Bool.and_true, tl_len]
  by_cases h : s.size ≤ 60
  · rw [decide_eq_true h, decide_eq_true (by omega)]
  · rw [decide_eq_false h, decide_eq_false (by omega)]
/-- One byte more, the same as the one before it. -/
theorem step_same {s : ByteArray} {j : Nat} (h : j + 1 < s.size) (e : (s[j + 1]).toNat = (s[j]'(by omega)).toNat) :
    lastT ((tl s).take (j + 1 + 1)) = lastT ((tl s).take (j + 1)) + 1 ∧ (fine ((tl s).take (j + 1)) = true → lastT ((tl s).take (j + 1)) + 1 ≤ 9 → fine ((tl s).take (j + 1 + 1)) = true) := by
  have hb : s[j + 1] = s[j]'(by omega) := UInt8.toNat_inj.1 e
  have hl := last_before h
  rw [← hb] at hl
  rw [tl_take h]
  exact ⟨lastT_same hl, fun a b => fine_same hl a b⟩
/-- One byte more, another one than the one before it. -/
theorem step_new {s : ByteArray} {j : Nat} (h : j + 1 < s.size) (e : ¬ (s[j + 1]).toNat = (s[j]'(by omega)).toNat) :
    lastT ((tl s).take (j + 1 + 1)) = 1 ∧ (fine ((tl s).take (j + 1)) = true → 49 ≤ (s[j + 1]).toNat ∧ (s[j + 1]).toNat ≤ 57 → fine ((tl s).take (j + 1 + 1)) = true) := by
  have hl : ((tl s).take (j + 1)).getLast? ≠ some s[j + 1] := by
    rw [last_before h]; intro k; simp at k; exact e (by rw [k])
  rw [tl_take h]
  exact ⟨lastT_new hl, fun a b => fine_new hl a b⟩
theorem step_first {s : ByteArray} (h : 0 < s.size) : lastT ((tl s).take 1) = 1 ∧ (49 ≤ (s[0]).toNat ∧ (s[0]).toNat ≤ 57 → fine ((tl s).take 1) = true) := by
  rw [tl_take h]
  exact ⟨rfl, fun b => by simp [fine, runs, push, okRun, b]⟩
theorem lastT_pos {l : List UInt8} (h : l ≠ []) : 1 ≤ lastT l := by
  obtain ⟨q, t, e, ht⟩ := runs_last (List.getLast?_eq_some_getLast h)
  simpa [lastT, e] using ht
theorem lastT_len (l : List UInt8) : lastT l ≤ l.length := by
  by_cases h : l = []
  · subst h; exact Nat.le_refl _
  · obtain ⟨q, t, e, ht⟩ := runs_last (List.getLast?_eq_some_getLast h)
    have hf := congrArg List.length (flat_runs l)
    rw [e, flat_app] at hf
    simp [flat] at hf
    simp [lastT, e]; omega

set_option maxRecDepth 100000 in
set_option maxHeartbeats 4000000 in
theorem specRowOk_any (s : ByteArray) (w : World) (hs : s.size ≤ 2097152) :
    Calls Try.prog 19 #[.string s] w fun e w' => e = .returned (.bool (rowL (tl s))) ∧ ∃ m, w' = w.drewN m := by
  go_enter Try.func19, Try.ntmps19
  go_wp2
  go_loopw [3, 4] (fun t i wr => ∃ k m : Nat, k ≤ s.size ∧ t = .int .i64 (lastT ((tl s).take k)) ∧ i = .int .i64 k ∧ fine ((tl s).take k) = true ∧ wr = w.drewN m) (fun _ i _ => s.size - (intOf i).toNat)
  case atStart => exact ⟨0, 0, Nat.zero_le _, rfl, rfl, rfl, rfl⟩
  case round =>
    obtain ⟨k, m, hk, rfl, rfl, hf, rfl⟩ := hrel
    by_cases hlt : k < s.size
    · by_cases hd : 49 ≤ (s[k].toNat : Int) ∧ (s[k].toNat : Int) ≤ 57
      · obtain ⟨hd1, hd2⟩ := hd
        have hd1' : ¬ (s[k].toNat : Int) < 49 := by omega
        have hd2' : ¬ 57 < (s[k].toNat : Int) := by omega
        have hT := row_no_times hlt
        have hT9 := lastT_len ((tl s).take k)
        have hTk := lastT_len ((tl s).take (k + 1))
        rw [List.length_take] at hT9 hTk
        rcases k with _ | j
        · have h1 := step_first hlt
          have hF := h1.2 ⟨by omega, by omega⟩
          replace hF := Lib.hid hF
          have hL := Lib.hid h1.1
          clear hT hf h1
          generalize lastT ((tl s).take 0) = t0 at *
          go_wp2
          go_quiet (fail)
          go_wp2
          go_roundw
          case rel => exact ⟨1, m + nq, by omega, by rw [hL.out]; rfl, rfl, hF.out, by simp⟩
          case measure => simp [intOf]; omega
        · have hj : j < s.size := by omega
          by_cases he : (s[j + 1]).toNat = (s[j]'hj).toNat
          · have h1 := step_same hlt he
            have hL := h1.1
            rw [hL] at hT hTk
            have hF := h1.2 hf
            generalize lastT ((tl s).take (j + 1)) = t0 at *
            by_cases h9 : t0 + 1 ≤ 9
            · replace hF := Lib.hid (hF h9)
              replace hL := Lib.hid hL
              clear hT hf h1
              go_wp2
              go_quiet (fail)
              go_wp2
              go_roundw
              case rel => exact ⟨j + 1 + 1, m + nq, by omega, by rw [hL.out]; go_num, by go_num, hF.out, by simp⟩
              case measure => simp [intOf]; omega
            · replace hT := Lib.hid (hT (by omega))
              clear hf h1 hF hL
              go_wp2
              go_quiet (fail)
              go_wp2
              go_ret
              exact ⟨ret_bool hT.out.symm, m + nq, by simp⟩
          · skip
            have h1 := step_new hlt he
            have hL := Lib.hid h1.1
            have hF := Lib.hid (h1.2 hf ⟨by omega, by omega⟩)
            clear hT hf h1
            generalize lastT ((tl s).take (j + 1)) = t0 at *
            go_wp2
            go_quiet (fail)
            go_wp2
            go_roundw
            case rel => exact ⟨j + 1 + 1, m + nq, by omega, by rw [hL.out]; rfl, by go_num, hF.out, by simp⟩
            case measure => simp [intOf]; omega
      · have hN := Lib.hid (row_no_digit hlt hd)
        clear hf
        by_cases h49 : (s[k].toNat : Int) < 49
        · go_wp2
          go_ret
          exact ⟨ret_bool hN.out.symm, m, rfl⟩
        · have h57 : 57 < (s[k].toNat : Int) := by omega
          go_wp2
          go_ret
          exact ⟨ret_bool hN.out.symm, m, rfl⟩
    · obtain rfl : k = s.size := by omega
      have hE := Lib.hid (row_end hf)
      clear hf
      go_wp2
      go_ret
      exact ⟨ret_bool (by rw [hE.out]), m, rfl⟩
end Go.Proofs.Ytfcjhelhhefkkaa
