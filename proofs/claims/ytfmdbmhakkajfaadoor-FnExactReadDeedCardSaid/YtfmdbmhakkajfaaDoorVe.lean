/-
  The model's number of a text of digits, and its ReadDeed.
-/
import Derived.Test.YtfmdbmhakkajfaaDoorVb
import Derived.Test.YtfmdbmhakkajfaaDoorDdsB
import Derived.Test.YtfmdbmhakkajfaaDoorCutD
import Derived.Test.YtfmdbmhakkajfaaDoorGA
namespace Go.Proofs.YtfmdbmhakkajfaaDoor
open Go.RowKit Go.Sort

theorem fold_snoc (l : List UInt8) (c : UInt8) : foldD (l ++ [c]) 0 = foldD l 0 * 10 + (c.toNat - 48) := by unfold foldD; rw [List.foldl_append]; rfl
theorem fold_up : ∀ (l : List UInt8) (acc : Nat), (∀ c ∈ l, 48 ≤ c.toNat ∧ c.toNat ≤ 57) → foldD l acc < (acc + 1) * 10 ^ l.length := by
  intro l
  induction l with
  | nil => intro acc _; show acc < (acc + 1) * 1; omega
  | cons c r ih =>
    intro acc h
    have h1 := ih (acc * 10 + (c.toNat - 48)) (fun x hx => h x (List.mem_cons_of_mem _ hx))
    have h2 := h c (List.mem_cons_self ..)
    have h3 : (acc * 10 + (c.toNat - 48) + 1) * 10 ^ r.length ≤ ((acc + 1) * 10) * 10 ^ r.length := Nat.mul_le_mul_right _ (by omega)
    have h4 : (acc + 1) * 10 ^ (c :: r).length = ((acc + 1) * 10) * 10 ^ r.length := by rw [List.length_cons, Nat.pow_succ, Nat.mul_assoc, Nat.mul_comm (10 ^ r.length) 10]
    rw [h4]
    exact Nat.lt_of_lt_of_le h1 h3
theorem fold_bd {l : List UInt8} (h : ∀ c ∈ l, 48 ≤ c.toNat ∧ c.toNat ≤ 57) (hl : l.length ≤ 6) : foldD l 0 < 1000000 := by
  have h1 := fold_up l 0 h
  have h2 : 10 ^ l.length ≤ 10 ^ 6 := Nat.pow_le_pow_right (by decide) hl
  omega
theorem dig_no {l : List UInt8} (h : ¬ ((1 ≤ l.length ∧ l.length ≤ 6) ∧ ¬ (1 < l.length ∧ (l.getD 0 0).toNat = 48) ∧ (∀ c ∈ l, 48 ≤ c.toNat ∧ c.toNat ≤ 57))) : digV l = -1 := by unfold digV; rw [if_neg h]
theorem dig_yes {l : List UInt8} (h : (1 ≤ l.length ∧ l.length ≤ 6) ∧ ¬ (1 < l.length ∧ (l.getD 0 0).toNat = 48) ∧ (∀ c ∈ l, 48 ≤ c.toNat ∧ c.toNat ≤ 57)) : digV l = (foldD l 0 : Nat) := by unfold digV; rw [if_pos h]
theorem tl_at {s : ByteArray} {k : Nat} (h : k < s.size) : (tl s)[k]'(by rw [tl_len]; exact h) = s[k] := rfl
theorem tl_snoc {s : ByteArray} {k : Nat} (h : k < s.size) : (tl s).take (k + 1) = (tl s).take k ++ [s[k]] := by
  rw [List.take_succ_eq_append_getElem (by rw [tl_len]; exact h), tl_at h]

set_option maxRecDepth 100000 in
set_option maxHeartbeats 4000000 in
theorem digits_any (s : ByteArray) (w : World) (hs : s.size ≤ 4000000) :
    Calls Tryd.prog 43 #[.string s] w fun e w' => e = .returned (.int .i64 (digV (tl s))) ∧ w = w' := by
  have hI := Lib.hid (fun W => in_any (s.size : Int) 1 6 W)
  have hno := Lib.hid (dig_no (l := tl s))
  have hyes := Lib.hid (dig_yes (l := tl s))
  have hlen := Lib.hid (tl_len s)
  by_cases h6 : 1 ≤ s.size ∧ s.size ≤ 6
  · have hd : decide ((1 : Int) ≤ (s.size : Int) ∧ (s.size : Int) ≤ 6) = true := decide_eq_true (by omega)
    simp only [hd] at hI
    have h0s : 0 < s.size := by omega
    have hz0 : (0 : Int) < (s.size : Int) := by omega
    by_cases h0 : 1 < s.size ∧ s[0].toNat = 48
    · have hr := Lib.hid (hno.out (fun h => h.2.1 (by
        rw [hlen.out]
        refine ⟨h0.1, ?_⟩
        rw [List.getD_eq_getElem?_getD, List.getElem?_eq_getElem (by rw [hlen.out]; exact h0s), Option.getD_some, tl_at h0s]
        exact h0.2)))
      obtain ⟨h01, h02⟩ := h0
      have g1 : (1 : Int) < (s.size : Int) := by omega
      have g2 : decide ((1 : Int) < (s.size : Int)) = true := decide_eq_true g1
      have g3 : ((s[0].toNat : Int) == 48) = true := by rw [h02]; rfl
      clear hyes hno
      go_enter Tryd.func43, Tryd.ntmps43
      go_wp2_with (go_at_call 34; refine (hI.out _).mono ?_; rintro e _ ⟨rfl, rfl⟩)
      go_ret
      exact ⟨ret_int hr.out.symm, rfl⟩
    · have hloop : ∀ (W : World), W = w → True := fun _ _ => trivial
      clear hloop
      have g3 : ¬ (1 < s.size) ∨ ((s[0].toNat : Int) == 48) = false := by
        by_cases e : 1 < s.size
        · right
          rw [beq_eq_false_iff_ne]
          intro h
          exact h0 ⟨e, by omega⟩
        · exact .inl e
      have h0' : ¬ (1 < (tl s).length ∧ ((tl s).getD 0 0).toNat = 48) := by
        rintro ⟨h1, h2⟩
        rw [hlen.out] at h1
        rw [List.getD_eq_getElem?_getD, List.getElem?_eq_getElem (by rw [hlen.out]; exact h0s), Option.getD_some, tl_at h0s] at h2
        exact h0 ⟨h1, h2⟩
      replace h0' := Lib.hid h0'
      have h6' := Lib.hid h6
      by_cases e1 : 1 < s.size
      · have g1 : decide ((1 : Int) < (s.size : Int)) = true := decide_eq_true (by omega)
        have g4 : ((s[0].toNat : Int) == 48) = false := by
          rcases g3 with h | h
          · exact absurd e1 h
          · exact h
        clear g3
        go_enter Tryd.func43, Tryd.ntmps43
        go_wp2_with (go_at_call 34; refine (hI.out _).mono ?_; rintro e _ ⟨rfl, rfl⟩)
        go_loop [3, 4] (fun s3 s4 => ∃ k : Nat, k ≤ s.size ∧ s4 = .int .i64 (k : Int) ∧ s3 = .int .i64 ((foldD ((tl s).take k) 0 : Nat) : Int) ∧ ∀ c ∈ (tl s).take k, 48 ≤ c.toNat ∧ c.toNat ≤ 57) (fun _ s4 => s.size - (intOf s4).toNat)
        case atStart => exact ⟨0, Nat.zero_le _, rfl, rfl, fun c hc => by simp at hc⟩
        case round =>
          obtain ⟨k, hk, rfl, rfl, hdg⟩ := hrel
          by_cases hlt : k < s.size
          · have hsn := tl_snoc hlt
            have hf0 := fold_bd hdg (by rw [List.length_take, hlen.out]; omega)
            have hall : ∀ c ∈ tl s, (48 ≤ c.toNat ∧ c.toNat ≤ 57) ∨ True := fun _ _ => .inr trivial
            clear hall
            have hmem : s[k] ∈ tl s := by rw [← tl_at hlt]; exact List.getElem_mem _
            have hr : ¬ (48 ≤ s[k].toNat ∧ s[k].toNat ≤ 57) → digV (tl s) = -1 := fun hc => hno.out (fun h => hc (h.2.2 _ hmem))
            have hgo : 48 ≤ s[k].toNat ∧ s[k].toNat ≤ 57 → ∀ c ∈ (tl s).take (k + 1), 48 ≤ c.toNat ∧ c.toNat ≤ 57 := fun hc c hm => by
              rw [hsn] at hm
              rcases List.mem_append.1 hm with h | h
              · exact hdg c h
              · rw [List.mem_singleton] at h; subst h; exact hc
            have hfs : foldD ((tl s).take (k + 1)) 0 = foldD ((tl s).take k) 0 * 10 + (s[k].toNat - 48) := by rw [hsn, fold_snoc]
            replace hr := Lib.hid hr
            replace hgo := Lib.hid hgo
            have hc255 : s[k].toNat < 256 := s[k].toNat_lt
            replace hfs := Lib.hid hfs
            generalize foldD ((tl s).take k) 0 = f at *
            clear hsn hmem hdg
            have hks : (k : Int) < (s.size : Int) := by omega
            have hk0 : (0 : Int) ≤ (k : Int) := by omega
            by_cases h48 : s[k].toNat < 48
            · have q1 : decide ((s[k].toNat : Int) < 48) = true := decide_eq_true (by omega)
              have hg := Lib.hid (hr.out (by omega))
              go_wp2
              go_ret
              exact ⟨ret_int hg.out.symm, rfl⟩
            · have q1 : decide ((s[k].toNat : Int) < 48) = false := decide_eq_false (by omega)
              by_cases h57 : 57 < s[k].toNat
              · have q2 : decide ((57 : Int) < (s[k].toNat : Int)) = true := decide_eq_true (by omega)
                have hg := Lib.hid (hr.out (by omega))
                go_wp2
                go_ret
                exact ⟨ret_int hg.out.symm, rfl⟩
              · have q2 : decide ((57 : Int) < (s[k].toNat : Int)) = false := decide_eq_false (by omega)
                have hg := Lib.hid (hgo.out (by omega))
                have w1 : IntKind.i64.wrap (10 * (f : Int)) = 10 * (f : Int) := IntWalk.i64_in _ (by omega)
                have w2 : IntKind.u8.wrap ((s[k].toNat : Int) - 48) = (s[k].toNat : Int) - 48 := IntWalk.u8_in _ (by omega)
                have w3 : IntKind.i64.wrap ((s[k].toNat : Int) - 48) = (s[k].toNat : Int) - 48 := IntWalk.i64_in _ (by omega)
                have w4 : IntKind.i64.wrap (10 * (f : Int) + ((s[k].toNat : Int) - 48)) = 10 * (f : Int) + ((s[k].toNat : Int) - 48) := IntWalk.i64_in _ (by omega)
                have w5 : IntKind.i64.wrap ((k : Int) + 1) = (k : Int) + 1 := IntWalk.i64_in _ (by omega)
                go_wp2
                go_round
                case rel => exact ⟨k + 1, by omega, by go_num, by rw [hfs.out]; congr 1; omega, hg.out⟩
                case measure => simp [intOf]; omega
          · obtain rfl : k = s.size := by omega
            have htk : (tl s).take s.size = tl s := List.take_of_length_le (by rw [hlen.out]; exact Nat.le_refl _)
            rw [htk] at hdg
            rw [htk]
            have hg := Lib.hid (hyes.out ⟨by rw [hlen.out]; exact h6'.out, h0'.out, hdg⟩)
            clear hdg htk
            go_wp2
            go_ret
            exact ⟨ret_int hg.out.symm, rfl⟩
      · have g1 : decide ((1 : Int) < (s.size : Int)) = false := decide_eq_false (by omega)
        clear g3
        go_enter Tryd.func43, Tryd.ntmps43
        go_wp2_with (go_at_call 34; refine (hI.out _).mono ?_; rintro e _ ⟨rfl, rfl⟩)
        go_loop [3, 4] (fun s3 s4 => ∃ k : Nat, k ≤ s.size ∧ s4 = .int .i64 (k : Int) ∧ s3 = .int .i64 ((foldD ((tl s).take k) 0 : Nat) : Int) ∧ ∀ c ∈ (tl s).take k, 48 ≤ c.toNat ∧ c.toNat ≤ 57) (fun _ s4 => s.size - (intOf s4).toNat)
        case atStart => exact ⟨0, Nat.zero_le _, rfl, rfl, fun c hc => by simp at hc⟩
        case round =>
          obtain ⟨k, hk, rfl, rfl, hdg⟩ := hrel
          by_cases hlt : k < s.size
          · have hsn := tl_snoc hlt
            have hf0 := fold_bd hdg (by rw [List.length_take, hlen.out]; omega)
            have hall : ∀ c ∈ tl s, (48 ≤ c.toNat ∧ c.toNat ≤ 57) ∨ True := fun _ _ => .inr trivial
            clear hall
            have hmem : s[k] ∈ tl s := by rw [← tl_at hlt]; exact List.getElem_mem _
            have hr : ¬ (48 ≤ s[k].toNat ∧ s[k].toNat ≤ 57) → digV (tl s) = -1 := fun hc => hno.out (fun h => hc (h.2.2 _ hmem))
            have hgo : 48 ≤ s[k].toNat ∧ s[k].toNat ≤ 57 → ∀ c ∈ (tl s).take (k + 1), 48 ≤ c.toNat ∧ c.toNat ≤ 57 := fun hc c hm => by
              rw [hsn] at hm
              rcases List.mem_append.1 hm with h | h
              · exact hdg c h
              · rw [List.mem_singleton] at h; subst h; exact hc
            have hfs : foldD ((tl s).take (k + 1)) 0 = foldD ((tl s).take k) 0 * 10 + (s[k].toNat - 48) := by rw [hsn, fold_snoc]
            replace hr := Lib.hid hr
            replace hgo := Lib.hid hgo
            have hc255 : s[k].toNat < 256 := s[k].toNat_lt
            replace hfs := Lib.hid hfs
            generalize foldD ((tl s).take k) 0 = f at *
            clear hsn hmem hdg
            have hks : (k : Int) < (s.size : Int) := by omega
            have hk0 : (0 : Int) ≤ (k : Int) := by omega
            by_cases h48 : s[k].toNat < 48
            · have q1 : decide ((s[k].toNat : Int) < 48) = true := decide_eq_true (by omega)
              have hg := Lib.hid (hr.out (by omega))
              go_wp2
              go_ret
              exact ⟨ret_int hg.out.symm, rfl⟩
            · have q1 : decide ((s[k].toNat : Int) < 48) = false := decide_eq_false (by omega)
              by_cases h57 : 57 < s[k].toNat
              · have q2 : decide ((57 : Int) < (s[k].toNat : Int)) = true := decide_eq_true (by omega)
                have hg := Lib.hid (hr.out (by omega))
                go_wp2
                go_ret
                exact ⟨ret_int hg.out.symm, rfl⟩
              · have q2 : decide ((57 : Int) < (s[k].toNat : Int)) = false := decide_eq_false (by omega)
                have hg := Lib.hid (hgo.out (by omega))
                have w1 : IntKind.i64.wrap (10 * (f : Int)) = 10 * (f : Int) := IntWalk.i64_in _ (by omega)
                have w2 : IntKind.u8.wrap ((s[k].toNat : Int) - 48) = (s[k].toNat : Int) - 48 := IntWalk.u8_in _ (by omega)
                have w3 : IntKind.i64.wrap ((s[k].toNat : Int) - 48) = (s[k].toNat : Int) - 48 := IntWalk.i64_in _ (by omega)
                have w4 : IntKind.i64.wrap (10 * (f : Int) + ((s[k].toNat : Int) - 48)) = 10 * (f : Int) + ((s[k].toNat : Int) - 48) := IntWalk.i64_in _ (by omega)
                have w5 : IntKind.i64.wrap ((k : Int) + 1) = (k : Int) + 1 := IntWalk.i64_in _ (by omega)
                go_wp2
                go_round
                case rel => exact ⟨k + 1, by omega, by go_num, by rw [hfs.out]; congr 1; omega, hg.out⟩
                case measure => simp [intOf]; omega
          · obtain rfl : k = s.size := by omega
            have htk : (tl s).take s.size = tl s := List.take_of_length_le (by rw [hlen.out]; exact Nat.le_refl _)
            rw [htk] at hdg
            rw [htk]
            have hg := Lib.hid (hyes.out ⟨by rw [hlen.out]; exact h6'.out, h0'.out, hdg⟩)
            clear hdg htk
            go_wp2
            go_ret
            exact ⟨ret_int hg.out.symm, rfl⟩
  · have hd : decide ((1 : Int) ≤ (s.size : Int) ∧ (s.size : Int) ≤ 6) = false := decide_eq_false (by omega)
    simp only [hd] at hI
    have hr := Lib.hid (hno.out (fun h => h6 (by have := h.1; rw [hlen.out] at this; exact this)))
    clear hyes hno
    go_enter Tryd.func43, Tryd.ntmps43
    go_wp2_with (go_at_call 34; refine (hI.out _).mono ?_; rintro e _ ⟨rfl, rfl⟩)
    go_ret
    exact ⟨ret_int hr.out.symm, rfl⟩
end Go.Proofs.YtfmdbmhakkajfaaDoor
