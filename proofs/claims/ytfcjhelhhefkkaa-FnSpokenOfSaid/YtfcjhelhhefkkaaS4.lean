/-
  The contract of SaidOf of the model.
-/
import Derived.Test.YtfcjhelhhefkkaaS3
namespace Go.Proofs.Ytfcjhelhhefkkaa
open Go.RowKit Go.Lib Go.Sort

/-- A text and true; or no text and false. -/
def optV : Option (List UInt8) → Value
  | some x => .tuple #[.string ⟨x.toArray⟩, .bool true]
  | none => .tuple #[.string ⟨#[]⟩, .bool false]
def strOf (l : List UInt8) : ByteArray := ⟨l.toArray⟩
theorem strOf_tl (l : List UInt8) : tl (strOf l) = l := by simp [strOf, tl]
theorem strOf_size (l : List UInt8) : (strOf l).size = l.length := by rw [← tl_len, strOf_tl]
theorem strOf_of (s : ByteArray) : strOf (tl s) = s := tl_inj (strOf_tl _)
theorem optV_some (x : List UInt8) : optV (some x) = .tuple #[.string (strOf x), .bool true] := rfl
theorem optV_none : optV none = .tuple #[.string ⟨#[]⟩, .bool false] := rfl
def txtO : Option (List UInt8) → ByteArray
  | some x => strOf x
  | none => ⟨#[]⟩
theorem optV_eq (r : Option (List UInt8)) : optV r = .tuple #[.string (txtO r), .bool r.isSome] := by cases r <;> rfl
theorem ret_opt {a b : Option (List UInt8)} (h : a = b) : Ending.returned (optV a) = .returned (optV b) := by rw [h]

set_option maxRecDepth 100000 in
set_option maxHeartbeats 4000000 in
theorem specSaidOf_any (s : ByteArray) (w : World) (hs : s.size ≤ 2097152) :
    Calls Try.prog 27 #[.string s] w fun e w' => e = .returned (optV (saidL (tl s))) ∧ Below w.heap.size w w' := by
  have hR := specRowOk_any s w hs
  cases hrow : rowL (tl s)
  · have hE := Lib.hid (saidL_no hrow)
    rw [hrow] at hR
    replace hrow := Lib.hid hrow
    go_enter Try.func27, Try.ntmps27
    go_wp2_with (fail)
    refine hR.mono ?_
    rintro e _ ⟨rfl, m, rfl⟩
    go_wp2
    go_ret2
    exact ⟨by rw [hE.out]; rfl, below_drewN (Below.refl _ _) m⟩
  · have hY := Lib.hid (saidL_yes hrow)
    have hN := Lib.hid (saidL_long (l := tl s))
    have KS := fun W => l11Said_any s W hs
    rw [runsL_yes hrow] at KS
    have hl : (said (runs (tl s))).length ≤ 120 := by
      rw [said_len]
      have := runsL_len (tl s)
      rw [runsL_yes hrow] at this
      omega
    rw [hrow] at hR
    replace hrow := Lib.hid hrow
    replace KS := Lib.hid KS
    generalize said (runs (tl s)) = x at *
    go_enter Try.func27, Try.ntmps27
    go_wp2_with (fail)
    refine hR.mono ?_
    rintro e _ ⟨rfl, m, rfl⟩
    have hB := Lib.hid (below_drewN (Below.refl w.heap.size w) m)
    generalize w.drewN m = W at *
    go_wp2_with (fail)
    refine (KS.out W).mono ?_
    rintro e W2 ⟨rfl, b2⟩
    replace hB := Lib.hid (hB.out.trans (b2.mono hB.out.size))
    clear b2
    have hR2 := specRowOk_any (strOf x) W2 (by rw [strOf_size]; omega)
    rw [strOf_tl] at hR2
    cases hx : rowL x
    · have hE := Lib.hid (hN.out hx)
      rw [hx] at hR2
      replace hx := Lib.hid hx
      go_wp2_with (fail)
      refine hR2.mono ?_
      rintro e _ ⟨rfl, m2, rfl⟩
      go_wp2
      go_ret2
      exact ⟨by rw [hE.out]; rfl, below_drewN hB.out m2⟩
    · have hE := Lib.hid (hY.out hx)
      rw [hx] at hR2
      replace hx := Lib.hid hx
      go_wp2_with (fail)
      refine hR2.mono ?_
      rintro e _ ⟨rfl, m2, rfl⟩
      replace hB := Lib.hid (below_drewN hB.out m2)
      generalize W2.drewN m2 = W3 at *
      clear hR2
      go_wp2_with (fail)
      refine (KS.out W3).mono ?_
      rintro e W4 ⟨rfl, b4⟩
      replace hB := Lib.hid (hB.out.trans (b4.mono hB.out.size))
      clear b4
      go_wp2
      go_ret2
      exact ⟨by rw [hE.out]; rfl, hB.out⟩
end Go.Proofs.Ytfcjhelhhefkkaa
