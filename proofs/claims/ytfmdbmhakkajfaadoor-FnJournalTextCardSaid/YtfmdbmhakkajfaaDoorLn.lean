/-
  strings.Lines: the contract of the function over which one ranges; strings.CutSuffix at a newline.
-/
import Derived.Test.YtfmdbmhakkajfaaDoorRangeB
import Derived.Test.YtfmdbmhakkajfaaDoorLnL
import Derived.Test.YtfmdbmhakkajfaaDoorMathY
import Derived.Test.YtfmdbmhakkajfaaDoorVd
import Derived.Sort.LoopGhostIn
import Derived.RegionIn
import Derived.BigRegionIn
namespace Go.Proofs.YtfmdbmhakkajfaaDoor
open Go Go.RowKit Go.Sort
attribute [local go_sem] Oper.semAt_some

/-- A text without its newline at the end. -/
def sufT (s : ByteArray) : ByteArray := if Lib.hasSuffix (tl s) [10] = true then s.extract 0 (s.size - 1) else s
theorem suf_pos {s : ByteArray} (h : Lib.hasSuffix (tl s) [10] = true) : 1 ≤ s.size := by
  rcases Nat.eq_zero_or_pos s.size with h0 | h0
  · have : tl s = [] := List.eq_nil_of_length_eq_zero (by rw [tl_len]; exact h0)
    rw [this] at h
    cases h
  · exact h0
theorem suf_yes {s : ByteArray} (h : Lib.hasSuffix (tl s) [10] = true) : tl s = tl (sufT s) ++ [10] := by
  have h1 : [10] <:+ tl s := List.isSuffixOf_iff_suffix.1 h
  obtain ⟨p, e⟩ := h1
  have hl := congrArg List.length e
  rw [tl_len, List.length_append] at hl
  unfold sufT
  rw [if_pos h]
  have : tl (s.extract 0 (s.size - 1)) = (tl s).take (s.size - 1) := by
    show (s.extract 0 (s.size - 1)).data.toList = _
    rw [Lib.extract_data]
    rfl
  rw [this, ← e, List.take_left' (by simp at hl; omega)]
theorem suf_no {s : ByteArray} (h : Lib.hasSuffix (tl s) [10] = false) (p : List UInt8) : tl s ≠ p ++ [10] := fun e => by
  have : Lib.hasSuffix (tl s) [10] = true := List.isSuffixOf_iff_suffix.2 ⟨p, e.symm⟩
  rw [h] at this; cases this
theorem sufT_size (s : ByteArray) : (sufT s).size ≤ s.size := by
  unfold sufT
  split
  · rw [ByteArray.size_extract]; omega
  · exact Nat.le_refl _
theorem hasSuf_any (s : ByteArray) (w : World) (hs : s.size ≤ 4000000) :
    Calls Tryd.prog 68 #[.string s, .string ⟨#[10]⟩] w fun e w' => e = .returned (.bool (Lib.hasSuffix (tl s) [10])) ∧ w' = w :=
  Any.stringslite_HasSuffix lnSufLays s ⟨#[10]⟩ w (by omega)
set_option maxRecDepth 100000 in
set_option maxHeartbeats 2000000 in
theorem liteSuf_any (s : ByteArray) (w : World) (hs : s.size ≤ 4000000) :
    Calls Tryd.prog 58 #[.string s, .string ⟨#[10]⟩] w fun e w' => e = .returned (.tuple #[.string (sufT s), .bool (Lib.hasSuffix (tl s) [10])]) ∧ w' = w := by
  have H := Lib.hid (fun W => hasSuf_any s W hs)
  cases hb : Lib.hasSuffix (tl s) [10]
  · have e1 : sufT s = s := by unfold sufT; rw [if_neg (by rw [hb]; simp)]
    rw [hb] at H
    rw [e1]
    clear e1
    go_enter Tryd.func58, Tryd.ntmps58
    go_wp2_with (go_at_call 68; refine (H.out _).mono ?_; rintro e _ ⟨rfl, rfl⟩)
    go_ret2
    exact ⟨rfl, rfl⟩
  · have e1 : sufT s = s.extract 0 (s.size - 1) := by unfold sufT; rw [if_pos hb]
    have hp := suf_pos hb
    rw [hb] at H
    rw [e1]
    have k2 : IntKind.i64.wrap ((s.size : Int) - 1) = ((s.size - 1 : Nat) : Int) := by rw [IntWalk.i64_in _ (by omega)]; omega
    have k3 : ((s.size - 1 : Nat) : Int) ≤ (s.size : Int) := by omega
    have k4 : (0 : Int) ≤ ((s.size - 1 : Nat) : Int) := by omega
    clear e1
    go_enter Tryd.func58, Tryd.ntmps58
    go_wp2_with (go_at_call 68; refine (H.out _).mono ?_; rintro e _ ⟨rfl, rfl⟩)
    go_ret2
    exact ⟨rfl, rfl⟩
set_option maxRecDepth 100000 in
theorem cutSuf_any (s : ByteArray) (w : World) (hs : s.size ≤ 4000000) :
    Calls Tryd.prog 49 #[.string s, .string ⟨#[10]⟩] w fun e w' => e = .returned (.tuple #[.string (sufT s), .bool (Lib.hasSuffix (tl s) [10])]) ∧ w' = w := by
  have H := Lib.hid (fun W => liteSuf_any s W hs)
  go_enter Tryd.func49, Tryd.ntmps49
  go_wp2_with (go_at_call 58; refine (H.out _).mono ?_; rintro e _ ⟨rfl, rfl⟩)
  go_ret2
  exact ⟨rfl, rfl⟩
theorem nlIdx_any (s : ByteArray) (w : World) :
    Calls Tryd.prog 57 #[.string s, .int .u8 10] w fun e w' => e = .returned (.int .i64 (Lib.indexByte (tl s) 10)) ∧ w' = w :=
  Any.strings_IndexByte lnIdxLays s 10 w
theorem lines_any (s : ByteArray) (w : World) :
    Calls Tryd.prog 48 #[.string s] w fun e w' => e = .returned (.func (.func 56) #[] #[.pointer (some ⟨w.heap.size, 0, none⟩)]) ∧ w' = w.alloc (.cells #[.string s] 9) := by
  go_enter Tryd.func48, Tryd.ntmps48
  go_wp2
  go_ret
  exact ⟨rfl, rfl⟩

/-- A line. -/
abbrev Ln (M : Nat) := { x : ByteArray // x.size ≤ M }
def encLn {M : Nat} (x : Ln M) : Array Value := #[.string x.1]
def flatLn {M : Nat} (pre : List (Ln M)) : List UInt8 := (pre.map (fun x => tl x.1)).flatten
theorem flatLn_snoc {M : Nat} (pre : List (Ln M)) (x : Ln M) : flatLn (pre ++ [x]) = flatLn pre ++ tl x.1 := by simp [flatLn]
/-- A line, and what stands behind it. -/
def IsLn (x r : List UInt8) : Prop := (∃ p, x = p ++ [10] ∧ ∀ c ∈ p, c.toNat ≠ 10) ∨ (r = [] ∧ ∀ c ∈ x, c.toNat ≠ 10)
def LnAll {M : Nat} (s : ByteArray) (xs : List (Ln M)) : Prop := flatLn xs = tl s
def LnPart {M : Nat} (s : ByteArray) (pre : List (Ln M)) : Prop := ∃ pre' x r, pre = pre' ++ [x] ∧ flatLn pre ++ r = tl s ∧ IsLn (tl x.1) r
/-- Block b stands. -/
def KpB (b : Nat) (W W' : World) : Prop := W'.heap[b]? = W.heap[b]?
theorem KpB.trans {b : Nat} {X Y Z : World} (h : KpB b X Y) (k : KpB b Y Z) : KpB b X Z := Eq.trans k h
/-- What a line is at a text whose first newline stands at i. -/
theorem ln_yes {r : ByteArray} {i : Nat} (h : Lib.indexByte (tl r) 10 = (i : Int)) : i < r.size ∧ tl (r.extract 0 (i + 1)) ++ tl (r.extract (i + 1) r.size) = tl r ∧ IsLn (tl (r.extract 0 (i + 1))) (tl (r.extract (i + 1) r.size)) := by
  rcases nl_cases (tl r) with ⟨h1, -⟩ | ⟨p, q, e, hp⟩
  · rw [h] at h1; omega
  · rw [e, nl_index hp] at h
    have hi : i = p.length := by omega
    have hl := congrArg List.length e
    rw [tl_len, List.length_append, List.length_cons] at hl
    have e1 : tl (r.extract 0 (i + 1)) = (tl r).take (i + 1) := by
      show (r.extract 0 (i + 1)).data.toList = _
      rw [Lib.extract_data]
      rfl
    have e2 : tl (r.extract (i + 1) r.size) = (tl r).drop (i + 1) := by
      show (r.extract (i + 1) r.size).data.toList = (r.data.toList).drop (i + 1)
      rw [Lib.extract_data, List.take_of_length_le (by have : r.data.toList.length = r.size := tl_len r; rw [List.length_drop]; omega)]
    have e3 : (tl r).take (i + 1) = p ++ [10] := by rw [e, hi, show p ++ 10 :: q = (p ++ [10]) ++ q by simp, List.take_left' (by simp)]
    refine ⟨by omega, by rw [e1, e2, List.take_append_drop], ?_⟩
    rw [e1, e3]
    exact .inl ⟨p, rfl, hp⟩
theorem ln_no {r : ByteArray} (h : ¬ 0 ≤ Lib.indexByte (tl r) 10) : IsLn (tl r) [] := by
  rcases nl_cases (tl r) with ⟨-, h1⟩ | ⟨p, q, e, hp⟩
  · exact .inr ⟨rfl, h1⟩
  · rw [e, nl_index hp] at h; omega

set_option maxRecDepth 100000 in
set_option maxHeartbeats 4000000 in
theorem lines1_box (s : ByteArray) (b : Nat) (w : World) (hbx : Blk w b 9 #[.string s]) (hs : s.size ≤ 4000000) :
    SeqBox Tryd.prog 56 #[.pointer (some ⟨b, 0, none⟩)] (encLn (M := s.size)) (KpB b) (LnAll s) (LnPart s) s.size b w := by
  intro l J Jx W hW _ hJo hJxo hY h0
  refine callsIn_of_wp Tryd.func56 rfl trivial ?_ rfl
  simp only [Tryd.ntmps56, List.size_toArray, List.length_cons, List.length_nil, Nat.reduceAdd, Nat.reduceSub, Array.replicate_succ, Array.replicate_zero, List.push_toArray, List.append_toArray, List.nil_append, List.cons_append]
  have hB1 : Blk W b 9 #[.string s] := hbx.below hW hbx.lt
  clear hW hbx
  replace hJo := Lib.hid hJo
  replace hJxo := Lib.hid hJxo
  gi_wp2
  gi_loopg [3] s.size (fun gg _ wr => ∃ (pre : List (Ln s.size)) (r : ByteArray), J pre wr ∧ Blk wr b 9 #[.string r] ∧ flatLn pre ++ tl r = tl s ∧ pre.length ≤ (flatLn pre).length ∧ r.size ≤ gg)
  case atStart => exact ⟨[], s, h0, hB1, rfl, Nat.zero_le _, Nat.le_refl _⟩
  case round =>
    obtain ⟨pre, r, hJ, hbx, hfl, hpl, hgk⟩ := hrel
    have x0 : wr.cell? ⟨b, 0, none⟩ = some (.string r) := hbx.cell 0
    have f0 := hbx.frozen 0
    have hsz : (flatLn pre).length + r.size = s.size := by have := congrArg List.length hfl; rw [List.length_append, tl_len, tl_len] at this; exact this
    by_cases h0 : r.size = 0
    · have hr0 : tl r = [] := List.eq_nil_of_length_eq_zero (by rw [tl_len]; exact h0)
      rw [hr0, List.append_nil] at hfl
      replace hfl := Lib.hid hfl
      replace hJ := Lib.hid hJ
      replace hbx := Lib.hid hbx
      replace hr0 := Lib.hid hr0
      clear hY
      gi_wp2
      go_end0
      exact ⟨⟨_, rfl⟩, .inl ⟨_, hfl.out, hJ.out⟩⟩
    · have hpos : (0 : Int) < (r.size : Int) := by omega
      have hrs : r.size ≤ s.size := by omega
      have hlen : pre.length < s.size := by omega
      by_cases hi : 0 ≤ Lib.indexByte (tl r) 10
      · obtain ⟨i, hix⟩ : ∃ i : Nat, Lib.indexByte (tl r) 10 = (i : Int) := ⟨(Lib.indexByte (tl r) 10).toNat, by omega⟩
        obtain ⟨g1, g2, g3⟩ := ln_yes hix
        have HI := Lib.hid (nlIdx_any r wr)
        rw [hix] at HI
        have k1 : (0 : Int) ≤ (i : Int) := by omega
        have k2 : IntKind.i64.wrap ((i : Int) + 1) = ((i + 1 : Nat) : Int) := by rw [IntWalk.i64_in _ (by omega)]; omega
        have k3 : ((i + 1 : Nat) : Int) ≤ (r.size : Int) := by omega
        have k4 : (0 : Int) ≤ ((i + 1 : Nat) : Int) := by omega
        have hxs : (r.extract 0 (i + 1)).size ≤ s.size := by rw [ByteArray.size_extract]; omega
        have hx1 : 1 ≤ (tl (r.extract 0 (i + 1))).length := by rw [tl_len, ByteArray.size_extract]; omega
        have hr2 : (r.extract (i + 1) r.size).size + 1 ≤ r.size := by rw [ByteArray.size_extract]; omega
        replace g2 := Lib.hid g2
        replace g3 := Lib.hid g3
        replace hfl := Lib.hid hfl
        replace hix := Lib.hid hix
        replace hJ := Lib.hid hJ
        replace hbx := Lib.hid hbx
        gi_wp2
        refine ⟨trivial, rfl, (callsIn_wide.2 HI.out).mono ?_⟩
        rintro e w2 ⟨rfl, e2⟩
        rw [e2]
        clear e2
        gi_wp2
        gi_region
        have hJ2 := hJo.out.drew (hJo.out.setCell (.string (r.extract (i + 1) r.size)) hJ.out (Nat.le_refl _) (Nat.lt_succ_self _) (i := 0))
        have hb2 : Blk ((wr.setCell ⟨b, 0, none⟩ (.string (r.extract (i + 1) r.size))).drew) b 9 #[.string (r.extract (i + 1) r.size)] := hbx.out.set_ 0 _
        generalize (wr.setCell ⟨b, 0, none⟩ (.string (r.extract (i + 1) r.size))).drew = W1 at *
        have hsn := flatLn_snoc pre (⟨r.extract 0 (i + 1), hxs⟩ : Ln s.size)
        have hf2 : flatLn (pre ++ [(⟨r.extract 0 (i + 1), hxs⟩ : Ln s.size)]) ++ tl (r.extract (i + 1) r.size) = tl s := by rw [hsn, List.append_assoc, g2.out, hfl.out]
        have hp2 : (pre ++ [(⟨r.extract 0 (i + 1), hxs⟩ : Ln s.size)]).length ≤ (flatLn (pre ++ [(⟨r.extract 0 (i + 1), hxs⟩ : Ln s.size)])).length := by
          rw [hsn, List.length_append, List.length_append]
          have : ([(⟨r.extract 0 (i + 1), hxs⟩ : Ln s.size)]).length = 1 := rfl
          dsimp only
          omega
        have hsp : LnPart s (pre ++ [(⟨r.extract 0 (i + 1), hxs⟩ : Ln s.size)]) := ⟨pre, _, _, rfl, hf2, g3.out⟩
        obtain ⟨fn, tmps, assign, body, hy, hR⟩ := hY pre ⟨r.extract 0 (i + 1), hxs⟩ W1 hJ2 hlen
        simp only [encLn] at hy
        have hR' := Lib.hid hR
        replace hf2 := Lib.hid hf2
        replace hp2 := Lib.hid hp2
        replace hsp := Lib.hid hsp
        generalize r.extract (i + 1) r.size = r2 at *
        generalize r.extract 0 (i + 1) = x at *
        clear hR hY hJ hbx hJ2 hsn g2 g3 hfl x0 f0 HI
        gi_wp2
        refine ⟨rfl, hR'.out.mono ?_⟩
        rintro e W3 (⟨rfl, hJ3, hk3⟩ | ⟨rfl, hJx3, -⟩)
        · have hb3 : Blk W3 b 9 #[.string r2] := Eq.trans hk3 hb2
          replace hJ3 := Lib.hid hJ3
          clear hk3 hb2
          gi_wp2
          gi_roundg r2.size
          case measure => omega
          case rel => exact ⟨_, r2, hJ3.out, hb3, hf2.out, hp2.out, Nat.le_refl _⟩
        · replace hJx3 := Lib.hid hJx3
          gi_wp2
          refine bodyPost_ret (results_none rfl _ _ _) rfl ?_
          exact ⟨⟨_, rfl⟩, .inr ⟨_, hsp.out, hJx3.out⟩⟩
      · have g3 := ln_no hi
        have HI := Lib.hid (nlIdx_any r wr)
        have hi' : decide (0 ≤ Lib.indexByte (tl r) 10) = false := decide_eq_false hi
        generalize Lib.indexByte (tl r) 10 = z at *
        have hx1 : 1 ≤ (tl r).length := by rw [tl_len]; omega
        replace g3 := Lib.hid g3
        replace hfl := Lib.hid hfl
        replace hJ := Lib.hid hJ
        replace hbx := Lib.hid hbx
        gi_wp2
        refine ⟨trivial, rfl, (callsIn_wide.2 HI.out).mono ?_⟩
        rintro e w2 ⟨rfl, e2⟩
        rw [e2]
        clear e2
        have hJ2 := hJo.out.setCell (.string ⟨#[]⟩) hJ.out (Nat.le_refl _) (Nat.lt_succ_self _) (i := 0)
        have hb2 : Blk (wr.setCell ⟨b, 0, none⟩ (.string ⟨#[]⟩)) b 9 #[.string ⟨#[]⟩] := hbx.out.set_ 0 _
        have hsn := flatLn_snoc pre (⟨r, hrs⟩ : Ln s.size)
        have hf2 : flatLn (pre ++ [(⟨r, hrs⟩ : Ln s.size)]) ++ tl (⟨#[]⟩ : ByteArray) = tl s := by rw [hsn]; exact (List.append_nil _).trans hfl.out
        have hp2 : (pre ++ [(⟨r, hrs⟩ : Ln s.size)]).length ≤ (flatLn (pre ++ [(⟨r, hrs⟩ : Ln s.size)])).length := by
          rw [hsn, List.length_append, List.length_append]
          have : ([(⟨r, hrs⟩ : Ln s.size)]).length = 1 := rfl
          dsimp only
          omega
        have hsp : LnPart s (pre ++ [(⟨r, hrs⟩ : Ln s.size)]) := ⟨pre, _, _, rfl, hf2, g3.out⟩
        obtain ⟨fn, tmps, assign, body, hy, hR⟩ := hY pre ⟨r, hrs⟩ (wr.setCell ⟨b, 0, none⟩ (.string ⟨#[]⟩)) hJ2 hlen
        simp only [encLn] at hy
        have hR' := Lib.hid hR
        replace hf2 := Lib.hid hf2
        replace hp2 := Lib.hid hp2
        replace hsp := Lib.hid hsp
        have hr1 : 1 ≤ r.size := by omega
        clear hR hY hJ hbx hJ2 hsn g3 hfl HI
        gi_wp2
        refine ⟨rfl, hR'.out.mono ?_⟩
        rintro e W3 (⟨rfl, hJ3, hk3⟩ | ⟨rfl, hJx3, -⟩)
        · have hb3 : Blk W3 b 9 #[.string ⟨#[]⟩] := Eq.trans hk3 hb2
          replace hJ3 := Lib.hid hJ3
          clear hk3 hb2
          gi_wp2
          gi_roundg 0
          case measure => omega
          case rel => exact ⟨_, ⟨#[]⟩, hJ3.out, hb3, hf2.out, hp2.out, Nat.le_refl _⟩
        · replace hJx3 := Lib.hid hJx3
          gi_wp2
          refine bodyPost_ret (results_none rfl _ _ _) rfl ?_
          exact ⟨⟨_, rfl⟩, .inr ⟨_, hsp.out, hJx3.out⟩⟩
end Go.Proofs.YtfmdbmhakkajfaaDoor
