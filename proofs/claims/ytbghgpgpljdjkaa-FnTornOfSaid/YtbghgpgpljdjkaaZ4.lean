/-
  Ways counted from the end of a text, of the program: waysBehind, WaysOf.
-/
import Derived.Test.YtbghgpgpljdjkaaQ4
import Derived.Test.YtbghgpgpljdjkaaZ1
namespace Go.Proofs.Ytbghgpgpljdjkaa
open Go.RowKit

/-- The ways behind all places from p on. -/
structure BackInv (l : List ByteArray) (s : ByteArray) (p : Nat) (xs : List Int) : Prop where
  len : xs.length = s.size + 1
  at_ : ∀ q, p ≤ q → q ≤ s.size → xs.getD q 0 = (wf l s q : Int)
  zero : ∀ q, q < p → xs.getD q 0 = 0
/-- .. and of the place i, by the first k words. -/
structure BackIn (l : List ByteArray) (s : ByteArray) (i k : Nat) (xs : List Int) : Prop where
  len : xs.length = s.size + 1
  at_ : ∀ q, i < q → q ≤ s.size → xs.getD q 0 = (wf l s q : Int)
  here : xs.getD i 0 = (wayTo l s i k : Int)
  zero : ∀ q, q < i → xs.getD q 0 = 0
theorem back_start (l : List ByteArray) (s : ByteArray) : BackInv l s s.size ((List.replicate (s.size + 1) 0).set s.size 1) := by
  have hr : ∀ p, (List.replicate (s.size + 1) (0 : Int)).getD p 0 = 0 := fun p => by
    rw [List.getD_eq_getElem?_getD, List.getElem?_replicate]
    split <;> rfl
  refine ⟨by simp, fun q h1 h2 => ?_, fun q hq => ?_⟩
  · obtain rfl : q = s.size := by omega
    rw [getD_setI _ _ _ (by simp), if_pos rfl, wf_end]; rfl
  · rw [getD_setI _ _ _ (by simp), if_neg (by omega), hr]
theorem back_in {l : List ByteArray} {s : ByteArray} {i : Nat} {xs : List Int} (h : BackInv l s (i + 1) xs) : BackIn l s i 0 xs :=
  ⟨h.len, fun q h1 h2 => h.at_ q (by omega) h2, by rw [h.zero i (by omega), wayTo_zero]; rfl, fun q hq => h.zero q (by omega)⟩
theorem back_out {l : List ByteArray} (hc : codeOk l = true) {s : ByteArray} {i : Nat} {xs : List Int} (hi : i < s.size) (h : BackIn l s i l.length xs) : BackInv l s i xs :=
  ⟨h.len, fun q h1 h2 => by
    by_cases e : q = i
    · subst e; rw [h.here, wayTo_end hc hi]
    · exact h.at_ q (by omega) h2, h.zero⟩
theorem back_skip {l : List ByteArray} {s : ByteArray} {i k : Nat} {xs : List Int} (h : BackIn l s i k xs) (hk : k < l.length) (hf : fitsAt s i (l.getD k ByteArray.empty) = false) : BackIn l s i (k + 1) xs :=
  ⟨h.len, h.at_, by rw [h.here, wayTo_go s i hk, hf]; simp, h.zero⟩
theorem back_put {l : List ByteArray} {s : ByteArray} {i k : Nat} {xs : List Int} (h : BackIn l s i k xs) (hi : i < s.size) (hk : k < l.length) (hu : 1 ≤ (l.getD k ByteArray.empty).size) (hf : fitsAt s i (l.getD k ByteArray.empty) = true) :
    BackIn l s i (k + 1) (xs.set i (xs.getD i 0 + xs.getD (i + (l.getD k ByteArray.empty).size) 0)) := by
  have hle := fits_le (Nat.le_of_lt hi) hf
  have hl : i < xs.length := by rw [h.len]; omega
  refine ⟨by simp [h.len], fun q h1 h2 => ?_, ?_, fun q hq => ?_⟩
  · rw [getD_setI _ _ _ hl, if_neg (by omega)]; exact h.at_ q h1 h2
  · rw [getD_setI _ _ _ hl, if_pos rfl, h.here, h.at_ _ (by omega) hle, wayTo_go s i hk, hf, if_pos rfl]; omega
  · rw [getD_setI _ _ _ hl, if_neg (by omega)]; exact h.zero q hq
theorem back_sum {l : List ByteArray} (hc : codeOk l = true) {s : ByteArray} (hs : s.size ≤ 24) {i k : Nat} {xs : List Int} (h : BackIn l s i k xs) (hi : i < s.size) (hk : k < l.length) (hu : 1 ≤ (l.getD k ByteArray.empty).size) (hf : fitsAt s i (l.getD k ByteArray.empty) = true) :
    -9223372036854775808 ≤ xs.getD i 0 + xs.getD (i + (l.getD k ByteArray.empty).size) 0 ∧ xs.getD i 0 + xs.getD (i + (l.getD k ByteArray.empty).size) 0 ≤ 9223372036854775807 := by
  have hle := fits_le (Nat.le_of_lt hi) hf
  have h1 := h.here
  have h2 := h.at_ (i + (l.getD k ByteArray.empty).size) (by omega) hle
  have h3 := wayTo_small hc hs hi (k := k) (by omega)
  have h4 := wf_small hc hs (i + (l.getD k ByteArray.empty).size)
  have h5 := wayTo_small hc hs hi (k := k + 1) (by omega)
  rw [wayTo_go s i hk, hf, if_pos rfl] at h5
  omega
/-- The counts are told, in a new block. -/
def RetWays (l : List ByteArray) (s : ByteArray) (w : World) (e : Ending) (w' : World) : Prop :=
  ∃ xs, e = .returned (.slice (some ⟨w.heap.size, 0, none⟩) (s.size + 1) (s.size + 1)) ∧ CW w w.heap.size xs w' ∧ BackInv l s 0 xs

set_option maxRecDepth 100000 in
set_option maxHeartbeats 2000000 in
theorem waysBehind_any (A : Option Addr) (n c : Nat) (l : List ByteArray) (s : ByteArray) (w : World) (h : Strs w A n c l) (hok : codeOk l = true) (h24 : s.size ≤ 24) :
    Calls Try.prog 60 #[.slice A n c, .string s] w (RetWays l s w) := by
  obtain ⟨i0, hi, hz0, hz1, hz2⟩ := info_parts int_info
  obtain ⟨rfl, hcap, hat⟩ := h
  replace hat := Lib.hid hat
  have hl6 := (codeOk_iff.1 hok).1.2
  have HLn := Lib.hid (fun k (hk : k < l.length) => codeOk_len hok (getD_mem hk))
  have HO := Lib.hid (fun i xs hi h => back_out hok (s := s) (i := i) (xs := xs) hi h)
  have HSum := Lib.hid (fun i k xs (h : BackIn l s i k xs) hi hk hu hf => back_sum hok h24 h hi hk hu hf)
  have hmk := fun W => run_make_rowN (P := Try.prog) 47 3 i0 _ Try.underlying47 hi hz0 .i64 .i64 (s.size + 1) (s.size + 1) (Nat.le_refl _) (by rw [hz2]; omega) (by omega) W
  rw [hz1] at hmk
  have hmc : madeCells (Value.int IntKind.i64 0).cells ((s.size + 1) * 1) = ((List.replicate (s.size + 1) (0 : Int)).map (Value.int .i64)).toArray := by
    rw [List.map_replicate]
    apply Array.ext_getElem?
    intro i
    by_cases hh : i < s.size + 1
    · simp [madeCells, Value.cells, hh, Nat.mod_one]
    · rw [Array.getElem?_eq_none (by rw [size_madeCells]; omega), Array.getElem?_eq_none (by simp; omega)]
  obtain ⟨cs, hcs⟩ : ∃ cs, cs = ((List.replicate (s.size + 1) (0 : Int)).map (Value.int .i64)).toArray := ⟨_, rfl⟩
  rw [← hcs] at hmc
  simp only [hmc, Int.natCast_add, Int.cast_ofNat_Int] at hmk
  clear hmc
  replace hcs := Lib.hid hcs
  replace hok := Lib.hid hok
  go_enter Try.func60, Try.ntmps60
  go_upto_region 2 with (fail)
  have hW0 : CW w w.heap.size (List.replicate (s.size + 1) 0) (w.alloc (.cells cs 3)) := ⟨by rw [← hcs.out]; exact Blk.new _ _ _, (Below.refl _ _).alloc (Nat.le_refl _) _, Nat.le_refl _⟩
  clear hmk hcs
  generalize w.alloc (.cells cs 3) = W at *
  have c0 := hW0.cell (p := s.size) (by simp)
  have f0 := hW0.blk.frozen s.size
  have hW1 := Lib.hid (hW0.set_ s.size 1)
  have hV := Lib.hid (back_start l s)
  generalize (List.replicate (s.size + 1) (0 : Int)).set s.size 1 = xs0 at *
  replace hW0 := Lib.hid hW0
  go_upto_region 3 with (fail)
  clear c0 f0 hW0
  generalize W.setCell ⟨w.heap.size, s.size, none⟩ (.int .i64 1) = W1 at *
  go_wp2
  go_loopw [6] (fun s6 wr => ∃ (p : Nat) (xs : List Int), p ≤ s.size ∧ s6 = .int .i64 ((p : Int) - 1) ∧ CW w w.heap.size xs wr ∧ BackInv l s p xs) (fun i _ => (intOf i + 1).toNat)
  case atStart => exact ⟨s.size, xs0, Nat.le_refl _, rfl, hW1.out, hV.out⟩
  case round =>
    clear hW1 hV
    obtain ⟨p, xs, hp, rfl, hW, hV⟩ := hrel
    by_cases hp0 : 0 < p
    · obtain ⟨i, rfl⟩ : ∃ i, p = i + 1 := ⟨p - 1, by omega⟩
      have e1 : (((i + 1 : Nat) : Int)) - 1 = (i : Int) := by omega
      rw [e1]
      have hb := Lib.hid (back_in hV)
      replace hW := Lib.hid hW
      clear hV
      replace e1 := Lib.hid e1
      go_wp2
      go_loopw [26] (fun s26 wr => ∃ (k : Nat) (xs : List Int), k ≤ l.length ∧ s26 = .int .i64 k ∧ CW w w.heap.size xs wr ∧ BackIn l s i k xs) (fun i _ => l.length - (intOf i).toNat)
      case atStart => exact ⟨0, xs, Nat.zero_le _, rfl, hW.out, hb.out⟩
      case round =>
        clear hW hb
        obtain ⟨k, xs2, hk, rfl, hW, hV⟩ := hrel
        by_cases hkt : k < l.length
        · obtain ⟨b, o, rfl, hbo, hc⟩ := hat.out (by omega)
          have ck := (hW.low.cell (p := ⟨b, o + k, none⟩) hbo).trans (hc k hkt)
          have hzk := HLn.out k hkt
          have HPk := Lib.hid (back_put hV (by omega) hkt hzk.1)
          have HSk := Lib.hid (back_skip hV hkt)
          have HSm := Lib.hid (HSum.out i k xs2 hV (by omega) hkt hzk.1)
          have hfl := Lib.hid (fun hf => fits_le (s := s) (p := i) (u := l.getD k ByteArray.empty) (by omega) hf)
          have hxl := hV.len
          clear hc
          generalize l.getD k ByteArray.empty = y at *
          have HB := Lib.hid (has_any (s.extract i s.size) y wr (by rw [ByteArray.size_extract]; omega) (by omega))
          have f1 : (i : Int) ≤ (s.size : Int) := by omega
          have f0 : (0 : Int) ≤ (i : Int) := by omega
          have f2 : i ≤ s.size := by omega
          replace hW := Lib.hid hW
          replace hV := Lib.hid hV
          go_wp2_with (fail)
          refine HB.out.mono ?_
          rintro e _ ⟨rfl, rfl⟩
          clear HB ck
          cases hb2 : beg (s.extract i s.size) y
          · have hb : fitsAt s i y = false := hb2
            have hg := Lib.hid (HSk.out hb)
            replace hb2 := Lib.hid hb2
            replace hb := Lib.hid hb
            go_wp2
            go_roundw
            case rel => exact ⟨k+1, xs2, by omega, by go_num, hW.out, hg.out⟩
            case measure => simp [intOf]; omega
          · have hb : fitsAt s i y = true := hb2
            have hg := Lib.hid (HPk.out hb)
            have hsm := HSm.out hb
            have hle := hfl.out hb
            have hW2 := hW.out
            clear hW
            replace hb2 := Lib.hid hb2
            replace hb := Lib.hid hb
            have ca := hW2.cell (p := i) (by omega)
            have cq := hW2.cell (p := i + y.size) (by omega)
            have hW3 := hW2.drew
            have ca3 := hW3.cell (p := i) (by omega)
            clear hW2
            generalize xs2.getD (i + y.size) 0 = x1 at *
            generalize xs2.getD i 0 = x2 at *
            replace ca3 := Lib.hid ca3
            have v2 : (0 : Int) ≤ (i : Int) + (y.size : Int) := by omega
            have v4 : (i : Int) + (y.size : Int) < (s.size : Int) + 1 := by omega
            have v5 : (i : Int) < (s.size : Int) + 1 := by omega
            have v6 : i < s.size + 1 := by omega
            have v3 : ((i : Int) + (y.size : Int)).toNat = i + y.size := by omega
            have v1 : IntKind.i64.wrap ((i : Int) + (y.size : Int)) = (i : Int) + (y.size : Int) := IntWalk.i64_in _ (by omega)
            have v7 : IntKind.i64.wrap (x2 + x1) = x2 + x1 := IntWalk.i64_in _ (by omega)
            go_upto_region 10 with (fail)
            go_still_tail 13, (by kernel_rfl)
            change wpList _ _ _ _ _ wr.drew
            clear ca cq v1 v3 v7
            generalize wr.drew = W5 at *
            have ca := ca3.out
            have fq := hW3.blk.frozen i
            have hW4 := Lib.hid (hW3.set_ i (x2 + x1))
            clear hW3 ca3
            go_wp2
            go_roundw
            case rel => exact ⟨k+1, _, by omega, by go_num, hW4.out, hg.out⟩
            case measure => simp [intOf]; omega
        · obtain rfl : k = l.length := by omega
          have hg := Lib.hid (HO.out i xs2 (by omega) hV)
          replace hW := Lib.hid hW
          clear hV
          go_wp2
          go_roundw
          case rel => exact ⟨i, xs2, by omega, by go_num, hW.out, hg.out⟩
          case measure => simp [intOf] <;> omega
    · obtain rfl : p = 0 := by omega
      replace hW := Lib.hid hW
      replace hV := Lib.hid hV
      go_wp2
      go_ret
      exact ⟨xs, rfl, hW.out, hV.out⟩

set_option maxRecDepth 100000 in
theorem implWaysOf_any (A : Option Addr) (n c : Nat) (l : List ByteArray) (s : ByteArray) (w : World) (h : Strs w A n c l) (hn : n ≤ 2097152) (hs : ∀ x ∈ l, x.size ≤ 1048576) (hz : s.size ≤ 1048576) :
    Calls Try.prog 33 #[.slice A n c, .string s] w fun e w' => e = .returned (.int .i64 (waysV l s)) ∧ Below w.heap.size w w' := by
  have HC := implCodeOk_any A n c l w h hn hs
  cases hok : codeOk l
  · have hr := Lib.hid (waysV_code hok s)
    rw [hok] at HC
    replace HC := Lib.hid HC
    replace hok := Lib.hid hok
    go_enter Try.func33, Try.ntmps33
    go_wp2_with (fail)
    refine HC.out.mono ?_
    rintro e w1 ⟨rfl, b1⟩
    replace b1 := Lib.hid b1
    go_wp2
    go_ret
    exact ⟨ret_int hr.out.symm, b1.out⟩
  · rw [hok] at HC
    by_cases h24 : s.size ≤ 24
    · have hr := Lib.hid (waysV_yes hok h24)
      have KW := Lib.hid (fun W (hb : Below w.heap.size w W) => waysBehind_any A n c l s W (h.below hb (Nat.le_refl _)) hok h24)
      have h24' : ¬ (24 : Int) < (s.size : Int) := by omega
      replace HC := Lib.hid HC
      replace hok := Lib.hid hok
      clear h hs
      go_enter Try.func33, Try.ntmps33
      go_wp2_with (fail)
      refine HC.out.mono ?_
      rintro e w1 ⟨rfl, b1⟩
      have KW1 := Lib.hid (KW.out w1 b1)
      replace b1 := Lib.hid b1
      go_wp2_with (fail)
      refine KW1.out.mono ?_
      rintro e w2 ⟨xs, rfl, hW, hV⟩
      have c0 := hW.cell (p := 0) (by rw [hV.len]; omega)
      rw [hV.at_ 0 (Nat.le_refl _) (Nat.zero_le _), wf_zero, ← hr.out] at c0
      have hB := Lib.hid (b1.out.trans (hW.low.mono b1.out.size))
      clear hW hV KW1
      go_wp2
      go_ret
      exact ⟨rfl, hB.out⟩
    · have hr := Lib.hid (waysV_long l h24)
      have h24' : (24 : Int) < (s.size : Int) := by omega
      replace HC := Lib.hid HC
      replace hok := Lib.hid hok
      go_enter Try.func33, Try.ntmps33
      go_wp2_with (fail)
      refine HC.out.mono ?_
      rintro e w1 ⟨rfl, b1⟩
      replace b1 := Lib.hid b1
      go_wp2
      go_ret
      exact ⟨ret_int hr.out.symm, b1.out⟩
end Go.Proofs.Ytbghgpgpljdjkaa
