/-
  Contracts of ReadText and NextName of the model.
-/
import Derived.Test.YteemgkabhkdeaaaDoorR6
import Derived.Deep.RegionHeld3
namespace Go.Proofs.YteemgkabhkdeaaaDoor
open Go.RowKit

theorem cutTo_size (s : ByteArray) : ∀ k, ∀ x ∈ (cutTo s k).1, x.size ≤ s.size := by
  intro k
  induction k with
  | zero => intro x hx; cases hx
  | succ k ih =>
    intro x hx
    rw [cutTo] at hx
    split at hx
    · split at hx
      · rcases List.mem_append.1 hx with h | h
        · exact ih x h
        · have e : x = s.extract (cutTo s k).2 k := by simpa using h
          rw [e, ByteArray.size_extract]; omega
      · exact ih x hx
    · exact ih x hx
theorem cutL_size (s : ByteArray) : ∀ x ∈ cutL s, x.size ≤ s.size := by
  intro x hx
  unfold cutL at hx
  rcases List.mem_append.1 hx with h | h
  · exact cutTo_size s _ x h
  · have e : x = s.extract (cutTo s s.size).2 s.size := by simpa using h
    rw [e, ByteArray.size_extract]; omega
/-- Is a text the text of a number? -/
def readTB (t : Tg) (s : ByteArray) : Bool := readB t (cutL s) && decide (textOf t (readV t (cutL s)) = s)
def readTV (t : Tg) (s : ByteArray) : Int := if readTB t s then readV t (cutL s) else -1
theorem readT_no {t : Tg} {s : ByteArray} (h : readTB t s = false) : readTV t s = -1 := by unfold readTV; rw [h]; rfl

set_option maxRecDepth 100000 in
set_option maxHeartbeats 4000000 in
theorem specReadText_any (v : Value) (t : Tg) (s : ByteArray) (w : World) (h : Tng w v t) (hf : t.Fine) (hs : s.size ≤ 1048576) :
    Calls Tryd.prog 8 #[v, .string s] w fun e w' => e = .returned (.tuple #[.int .i64 (readTV t s), .bool (readTB t s)]) ∧ Below w.heap.size w w' := by
  obtain ⟨A1, c1, A2, c2, A3, c3, rfl, -⟩ := h.ex
  have hB := (Below.refl w.heap.size w).alloc (Nat.le_refl _) (.cells #[.slice A1 t.us.length c1, .slice A2 t.bs.length c2, .slice A3 t.ns.length c3] 26)
  have HX := Blk.new w 26 #[.slice A1 t.us.length c1, .slice A2 t.bs.length c2, .slice A3 t.ns.length c3]
  have HT := h.below hB (Nat.le_refl _)
  have hcl := cutL_len s
  have hcs := Lib.hid (show ∀ x ∈ cutL s, x.size ≤ maxLen from fun x hx => by have := cutL_size s x hx; unfold maxLen; omega)
  replace hB := Lib.hid hB
  replace HX := Lib.hid HX
  replace HT := Lib.hid HT
  clear h
  go_enter Tryd.func8, Tryd.ntmps8
  go_upto_region 1 with (fail)
  generalize w.alloc (.cells #[.slice A1 t.us.length c1, .slice A2 t.bs.length c2, .slice A3 t.ns.length c3] 26) = W at *
  have hXc := Lib.hid (fun W' (h : Below W.heap.size W W') => blk3 (HX.out.below h HX.out.lt))
  have KC := Lib.hid (fun W' => specCut_any s W' (by omega))
  have KR := Lib.hid (fun A c W' (h : Below W.heap.size W W') hs => specReadName_any _ t A (cutL s).length c (cutL s) W' (HT.out.below h (Nat.le_refl _)) hf hs (by omega) hcs.out)
  obtain ⟨x0, x1, x2, -, -, -⟩ := blk3 HX.out
  go_region_held3 (fun w' => w'.cell? ⟨w.heap.size, 0, none⟩ = some (.slice A1 t.us.length c1) ∧ w'.cell? ⟨w.heap.size, 1, none⟩ = some (.slice A2 t.bs.length c2) ∧ w'.cell? ⟨w.heap.size, 2, none⟩ = some (.slice A3 t.ns.length c3))
    (first | go_keep | exact hS2 | exact hS3)
    (first
      | (go_at_call 25; refine (KC.out _).mono ?_; rintro e w2 ⟨v2, rfl, o2, b2'⟩; have b2 : Below W.heap.size W w2 := ⟨b2'.os, b2'.tape, b2'.output, b2'.size, b2'.block⟩; obtain ⟨A5, c5, rfl, s5⟩ := o2.strs; obtain ⟨x0', x1', x2', -, -, -⟩ := hXc.out _ b2; have hS2 := And.intro x0' (And.intro x1' x2'); replace s5 := Lib.hid s5; replace b2 := Lib.hid b2; clear b2' o2)
      | (go_at_call 24; refine (KR.out _ _ _ b2.out s5.out).mono ?_; rintro e w3 ⟨rfl, b3'⟩; have b3 := b2.out.trans (b3'.mono b2.out.size); obtain ⟨x0'', x1'', x2'', -, -, -⟩ := hXc.out _ b3; have hS3 := And.intro x0'' (And.intro x1'' x2''); replace b3 := Lib.hid b3; clear b3'))
  all_goals
    clear hS2 hS3 x0 x1 x2 x0' x1' x2' KC KR s5
    have hB3 := Lib.hid (hB.out.trans (b3.out.mono hB.out.size))
    have HT3 := HT.out.below b3.out (Nat.le_refl _)
    have hrd := readV_bd t (cutL s)
    have HR : readTB t s = (readB t (cutL s) && decide (textOf t (readV t (cutL s)) = s)) := rfl
    have HV : readTB t s = true → readTV t s = readV t (cutL s) := fun h => by unfold readTV; rw [h, if_pos rfl]
    have KT := Lib.hid (specTextOf_any _ t (readV t (cutL s)) w3 HT3 hf (by omega))
    replace HV := Lib.hid HV
    replace HR := Lib.hid HR
    generalize readV t (cutL s) = rv at *
    generalize readB t (cutL s) = rb at *
    generalize textOf t rv = tx at *
    clear HT3
    cases rb
    · have hr : readTB t s = false := by rw [HR.out]; rfl
      have hv := Lib.hid (readT_no hr)
      replace hr := Lib.hid hr
      go_wp2
      go_ret2
      exact ⟨two_ret hv.out.symm hr.out.symm, hB3.out⟩
    · by_cases he : tx = s
      · have hx1 : (tx.toList == s.toList) = true := by rw [str_eq]; exact decide_eq_true he
        have hx2 : (tx.toList != s.toList) = false := by rw [bne, hx1]; rfl
        have hr : readTB t s = true := by rw [HR.out, decide_eq_true he]; rfl
        have hv := Lib.hid (HV.out hr)
        replace hr := Lib.hid hr
        replace he := Lib.hid he
        go_wp2_with (fail)
        refine KT.out.mono ?_
        rintro e w4 ⟨rfl, b4⟩
        have hB4 := Lib.hid (hB3.out.trans (b4.mono hB3.out.size))
        clear b4
        go_wp2
        go_ret2
        exact ⟨two_ret hv.out.symm hr.out.symm, hB4.out⟩
      · have hx1 : (tx.toList == s.toList) = false := by rw [str_eq]; exact decide_eq_false he
        have hx2 : (tx.toList != s.toList) = true := by rw [bne, hx1]; rfl
        have hr : readTB t s = false := by rw [HR.out, decide_eq_false he]; rfl
        have hv := Lib.hid (readT_no hr)
        replace hr := Lib.hid hr
        replace he := Lib.hid he
        go_wp2_with (fail)
        refine KT.out.mono ?_
        rintro e w4 ⟨rfl, b4⟩
        have hB4 := Lib.hid (hB3.out.trans (b4.mono hB3.out.size))
        clear b4
        go_wp2
        go_ret2
        exact ⟨two_ret hv.out.symm hr.out.symm, hB4.out⟩
end Go.Proofs.YteemgkabhkdeaaaDoor
