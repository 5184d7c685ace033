/-
  strings.Cut at a space, strconv.Atoi at every text, the place of a word, and the contract of ReadDeed of the program.
-/
import Derived.Deep.QuietTactic
import Derived.BigQuiet
import Derived.Test.YtfmdbmhakkajfaaDoorVa
import Derived.Test.YtfmdbmhakkajfaaDoorGA
namespace Go.Proofs.YtfmdbmhakkajfaaDoor
open Go.RowKit Go.Sort

/-- The two parts of a text cut at its first space. -/
def cutT1 (s : ByteArray) : ByteArray := ⟨(cut1 (tl s)).1.toArray⟩
def cutT2 (s : ByteArray) : ByteArray := ⟨(cut1 (tl s)).2.toArray⟩
theorem cut_no {s : ByteArray} (h : Lib.indexByte (tl s) 32 = -1) : cutT1 s = s ∧ cutT2 s = ⟨#[]⟩ := by
  have e : cut1 (tl s) = (tl s, []) := by unfold cut1; rw [h]; rfl
  exact ⟨tl_inj (by show (cut1 (tl s)).1 = _; rw [e]), tl_inj (by show (cut1 (tl s)).2 = _; rw [e])⟩
theorem cut_yes {s : ByteArray} {i : Nat} (h : Lib.indexByte (tl s) 32 = i) (hi : i < s.size) : cutT1 s = s.extract 0 i ∧ cutT2 s = s.extract (i + 1) s.size := by
  have e : cut1 (tl s) = ((tl s).take i, (tl s).drop (i + 1)) := by unfold cut1; rw [h, if_pos (by omega)]; simp
  refine ⟨tl_inj ?_, tl_inj ?_⟩
  · show (cut1 (tl s)).1 = _
    rw [e]
    show (tl s).take i = (s.extract 0 i).data.toList
    rw [Lib.extract_data]
    rfl
  · show (cut1 (tl s)).2 = _
    rw [e]
    show (tl s).drop (i + 1) = (s.extract (i + 1) s.size).data.toList
    rw [Lib.extract_data]
    have : s.data.toList.length = s.size := tl_len s
    show s.data.toList.drop (i + 1) = (s.data.toList.drop (i + 1)).take (s.size - (i + 1))
    rw [List.take_of_length_le (by rw [List.length_drop]; omega)]

set_option maxRecDepth 100000 in
set_option maxHeartbeats 2000000 in
theorem liteCut_any (s : ByteArray) (w : World) (hs : s.size ≤ 4000000) :
    Calls Tryd.prog 51 #[.string s, .string ⟨#[32]⟩] w fun e w' => ∃ b, e = .returned (.tuple #[.string (cutT1 s), .string (cutT2 s), .bool b]) ∧ ∃ m, w' = w.drewN m := by
  have HI := Lib.hid (fun W => Go.Proofs.Any.stringslite_Index_one idxLays s 32 W)
  have hsz : (tl s).length = s.size := tl_len s
  rcases space_cases (tl s) with ⟨hx, -, -⟩ | ⟨i, hx, h2, -, -⟩
  · obtain ⟨e1, e2⟩ := cut_no hx
    replace HI := Lib.hid (fun W => by have := HI.out W; rw [show Lib.indexByte s.data.toList 32 = -1 from hx] at this; exact this)
    rw [e1, e2]
    clear e1 e2 hx hsz
    go_enter Tryd.func51, Tryd.ntmps51
    go_wp2_with (go_at_call 60; refine (HI.out _).mono ?_; rintro e _ ⟨rfl, rfl⟩)
    go_ret3
    exact ⟨_, rfl, 0, rfl⟩
  · have hi : i < s.size := by
      rcases Nat.lt_or_ge i s.size with h1 | h1
      · exact h1
      · rw [List.getElem?_eq_none (by omega)] at h2; cases h2
    obtain ⟨e1, e2⟩ := cut_yes hx hi
    replace HI := Lib.hid (fun W => by have := HI.out W; rw [show Lib.indexByte s.data.toList 32 = (i : Int) from hx] at this; exact this)
    rw [e1, e2]
    clear e1 e2 hx h2 hsz
    have k0 : (0 : Int) ≤ (i : Int) := by omega
    have k1 : (i : Int) ≤ (s.size : Int) := by omega
    have k2 : IntKind.i64.wrap ((i : Int) + 1) = ((i + 1 : Nat) : Int) := by rw [IntWalk.i64_in _ (by omega)]; omega
    have k3 : ((i + 1 : Nat) : Int) ≤ (s.size : Int) := by omega
    have k4 : (0 : Int) ≤ ((i + 1 : Nat) : Int) := by omega
    go_enter Tryd.func51, Tryd.ntmps51
    go_wp2_with (go_at_call 60; refine (HI.out _).mono ?_; rintro e _ ⟨rfl, rfl⟩)
    go_quiet (fail)
    go_wp2
    go_ret3
    exact ⟨_, rfl, _, rfl⟩
set_option maxRecDepth 100000 in
theorem cut_any (s : ByteArray) (w : World) (hs : s.size ≤ 4000000) :
    Calls Tryd.prog 37 #[.string s, .string ⟨#[32]⟩] w fun e w' => ∃ b, e = .returned (.tuple #[.string (cutT1 s), .string (cutT2 s), .bool b]) ∧ ∃ m, w' = w.drewN m := by
  have H := Lib.hid (fun W => liteCut_any s W hs)
  go_enter Tryd.func37, Tryd.ntmps37
  go_wp2_with (go_at_call 51; refine (H.out _).mono ?_; rintro e _ ⟨b, rfl, m, rfl⟩)
  go_ret3
  exact ⟨_, rfl, _, rfl⟩
theorem cutT2_size (s : ByteArray) : (cutT2 s).size ≤ s.size := by
  have h1 : (cutT2 s).size = (cut1 (tl s)).2.length := by simp [cutT2, ByteArray.size]
  have h2 : (tl s).length = s.size := tl_len s
  rw [h1, ← h2]
  unfold cut1
  split
  · rw [List.length_drop]; omega
  · exact Nat.zero_le _

/-- Atoi at every text. -/
theorem atoi_any (s : ByteArray) (w : World) (hs : s.size ≤ 4000000) (hE : LibE w) :
    Calls Tryd.prog 38 #[.string s] w fun e w' => ∃ v, e = .returned (.tuple #[.int .i64 (atoiV (tl s)), v]) ∧ Below w.heap.size w w' := by
  have hd : ∀ x, Lib.atoiAll s.data.toList = x → Lib.atoiAll (tl s) = x := fun x h => h
  rcases h : Lib.atoiAll s.data.toList with v | _ | _
  · refine (Go.Proofs.Any.strconv_Atoi_ok atoiLays s (by omega) v h w).mono ?_
    rintro e w' ⟨rfl, hw⟩
    have e1 : atoiV (tl s) = v := by unfold atoiV; rw [hd _ h]
    rw [e1]
    refine ⟨_, rfl, ?_⟩
    rcases hw with rfl | ⟨t, rfl⟩
    · exact Below.refl _ _
    · exact Joins.below_bytesWorld _ w _ t (Nat.le_refl _)
  · obtain ⟨tp, p, hv⟩ := hE.es
    refine (Go.Proofs.Any.strconv_Atoi_syntax_var atoiLays s (by omega) h tp p w hv).mono ?_
    rintro e w' ⟨N, rfl, -, -, hb⟩
    have e1 : atoiV (tl s) = 0 := by unfold atoiV; rw [hd _ h]
    rw [e1]
    exact ⟨_, rfl, hb⟩
  · obtain ⟨tp, p, hv⟩ := hE.er
    refine (Go.Proofs.Any.strconv_Atoi_range_var atoiLays s (by omega) h tp p w hv).mono ?_
    rintro e w' ⟨N, rfl, -, -, hb⟩
    have e1 : atoiV (tl s) = Lib.atoiSat s.data.toList := by unfold atoiV; rw [hd _ h]
    rw [e1]
    exact ⟨_, rfl, hb⟩
end Go.Proofs.YtfmdbmhakkajfaaDoor
