/-
  The program's TornOf: a function value that reads the text, the place and the counts; the first word at which it holds.
-/
import Derived.Test.YtbghgpgpljdjkaaZ4
import Derived.Test.YtbghgpgpljdjkaaQ5
import Derived.Deep.LoopGhost
import Derived.Laws.EntriesVeiled
namespace Go.Proofs.Ytbghgpgpljdjkaa
open Go.RowKit

/-- The boxes of the text, of the place and of the counts, and the counts. -/
structure Boxes (s : ByteArray) (p : Nat) (xs : List Int) (gs gp gw g : Nat) (w : World) : Prop where
  bs : Blk w gs 9 #[.string s]
  bp : Blk w gp 3 #[.int .i64 p]
  bw : Blk w gw 47 #[.slice (some ⟨g, 0, none⟩) (s.size + 1) (s.size + 1)]
  bg : Blk w g 3 (xs.map (Value.int .i64)).toArray
/-- Does the word fit, and is what is behind it made? -/
def goodW (l : List ByteArray) (s : ByteArray) (p : Nat) (u : ByteArray) : Bool := fitsAt s p u && decide (0 < wf l s (p + u.size))

set_option maxRecDepth 100000 in
set_option maxHeartbeats 1000000 in
theorem pred_any (l : List ByteArray) (s : ByteArray) (p : Nat) (xs : List Int) (gs gp gw g : Nat) (u : ByteArray) (w : World) (h : Boxes s p xs gs gp gw g w) (hV : BackInv l s 0 xs) (hp : p < s.size) (hz : s.size ≤ 24) (hu : u.size ≤ 4) :
    Calls Try.prog 62 #[.string u, .pointer (some ⟨gs, 0, none⟩), .pointer (some ⟨gp, 0, none⟩), .pointer (some ⟨gw, 0, none⟩)] w fun e w' => e = .returned (.bool (goodW l s p u)) ∧ w = w' := by
  have KB := Lib.hid (has_any (s.extract p s.size) u w (by rw [ByteArray.size_extract]; omega) (by omega))
  have cs : w.cell? ⟨gs, 0, none⟩ = some (.string s) := h.bs.cell 0
  have cp : w.cell? ⟨gp, 0, none⟩ = some (.int .i64 p) := h.bp.cell 0
  have cw : w.cell? ⟨gw, 0, none⟩ = some (.slice (some ⟨g, 0, none⟩) (s.size + 1) (s.size + 1)) := h.bw.cell 0
  have f1 : (p : Int) ≤ (s.size : Int) := by omega
  have f0 : (0 : Int) ≤ (p : Int) := by omega
  have f2 : p ≤ s.size := by omega
  cases hb2 : beg (s.extract p s.size) u
  · have hr : goodW l s p u = false := by unfold goodW fitsAt; rw [hb2]; rfl
    rw [hb2] at KB
    replace hb2 := Lib.hid hb2
    replace hr := Lib.hid hr
    clear h hV
    go_enter Try.func62, Try.ntmps62
    go_wp2_with (fail)
    refine KB.out.mono ?_
    rintro e _ ⟨rfl, rfl⟩
    go_wp2
    go_ret
    exact ⟨ret_bool hr.out.symm, rfl⟩
  · have hb : fitsAt s p u = true := hb2
    have hle := fits_le (by omega) hb
    have hr : goodW l s p u = decide (0 < wf l s (p + u.size)) := by unfold goodW; rw [hb]; rfl
    have cx : w.cell? ⟨g, p + u.size, none⟩ = some (.int .i64 (wf l s (p + u.size) : Nat)) := by
      rw [h.bg.cell]
      have hl : p + u.size < xs.length := by rw [hV.len]; omega
      have := hV.at_ (p + u.size) (Nat.zero_le _) hle
      rw [List.getD_eq_getElem?_getD, List.getElem?_eq_getElem hl] at this
      simp only [Option.getD_some] at this
      rw [List.getElem?_toArray, List.getElem?_map, List.getElem?_eq_getElem hl, Option.map_some, this]
    rw [hb2] at KB
    have hd : decide ((0 : Int) < ((wf l s (p + u.size) : Nat) : Int)) = decide (0 < wf l s (p + u.size)) := by
      by_cases e : 0 < wf l s (p + u.size)
      · rw [decide_eq_true e, decide_eq_true (by omega)]
      · rw [decide_eq_false e, decide_eq_false (by omega)]
    rw [hr]
    replace hb2 := Lib.hid hb2
    replace hb := Lib.hid hb
    replace hr := Lib.hid hr
    replace hd := Lib.hid hd
    clear h hV
    generalize wf l s (p + u.size) = F at *
    go_enter Try.func62, Try.ntmps62
    go_wp2_with (fail)
    refine KB.out.mono ?_
    rintro e _ ⟨rfl, rfl⟩
    go_wp2
    go_ret
    exact ⟨ret_bool (by first | exact hd.out | simp), rfl⟩

/-- The first one at which q holds, or -1. -/
def FirstAt (l : List ByteArray) (q : ByteArray → Bool) (r : Int) : Prop := (∃ k, k < l.length ∧ r = k ∧ q (l.getD k ByteArray.empty) = true) ∨ (r = -1 ∧ ∀ j, j < l.length → q (l.getD j ByteArray.empty) = false)
set_option maxHeartbeats 1000000 in
theorem indexFunc_any (A : Option Addr) (n c : Nat) (l : List ByteArray) (q : ByteArray → Bool) (gs gp gw : Nat) (w : World) (h : Strs w A n c l) (hn : n ≤ 1000)
    (hq : ∀ k, k < l.length → Calls Try.prog 62 #[.string (l.getD k ByteArray.empty), .pointer (some ⟨gs, 0, none⟩), .pointer (some ⟨gp, 0, none⟩), .pointer (some ⟨gw, 0, none⟩)] w fun e w' => e = .returned (.bool (q (l.getD k ByteArray.empty))) ∧ w = w') :
    Calls Try.prog 61 #[.slice A n c, .func (.func 62) #[] #[.pointer (some ⟨gs, 0, none⟩), .pointer (some ⟨gp, 0, none⟩), .pointer (some ⟨gw, 0, none⟩)]] w fun e w' => ∃ r, e = .returned (.int .i64 r) ∧ FirstAt l q r ∧ w = w' := by
  obtain ⟨rfl, hcap, hat⟩ := h
  replace hat := Lib.hid hat
  replace hq := Lib.hid hq
  go_enter Try.func61, Try.ntmps61
  go_wp2
  go_loop [8] (fun i => ∃ k : Nat, k ≤ l.length ∧ i = .int .i64 k ∧ (∀ j, j < k → q (l.getD j ByteArray.empty) = false)) (fun i => l.length - (intOf i).toNat)
  case atStart => exact ⟨0, Nat.zero_le _, rfl, fun i hi => absurd hi (by omega)⟩
  case round =>
    obtain ⟨k, hk, rfl, hd⟩ := hrel
    by_cases hlt : k < l.length
    · obtain ⟨b, o, rfl, hbo, hc⟩ := hat.out (by omega)
      have ck := hc k hlt
      have KQ := Lib.hid (hq.out k hlt)
      have HG : Hid (q (l.getD k ByteArray.empty) = false → ∀ j, j < k + 1 → q (l.getD j ByteArray.empty) = false) := fun hh j hj => by
        by_cases e : j = k
        · subst e; exact hh
        · exact hd j (by omega)
      have HY : Hid (q (l.getD k ByteArray.empty) = true → FirstAt l q (k : Int)) := fun hh => .inl ⟨k, hlt, rfl, hh⟩
      clear hc hd
      generalize l.getD k ByteArray.empty = y at *
      go_wp2_with (fail)
      refine KQ.out.mono ?_
      rintro e _ ⟨rfl, rfl⟩
      clear KQ
      cases hqy : q y
      · have hg := Lib.hid (HG.out hqy)
        replace hqy := Lib.hid hqy
        go_wp2
        go_round
        case rel => exact ⟨k+1, by omega, by go_num, hg.out⟩
        case measure => simp [intOf]; omega
      · have hr := Lib.hid (HY.out hqy)
        replace hqy := Lib.hid hqy
        go_wp2
        go_ret
        exact ⟨_, rfl, hr.out, rfl⟩
    · obtain rfl : k = l.length := by omega
      have hr : Hid (FirstAt l q (-1)) := .inr ⟨rfl, hd⟩
      clear hd
      go_wp2
      go_ret
      exact ⟨_, rfl, hr.out, rfl⟩
end Go.Proofs.Ytbghgpgpljdjkaa
