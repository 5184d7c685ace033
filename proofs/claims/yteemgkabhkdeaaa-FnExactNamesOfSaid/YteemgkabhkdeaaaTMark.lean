/-
  Contracts of the exact laws' marks: texts of numbers, marks in rows of strings.
-/
import Derived.Test.YteemgkabhkdeaaaOwn
import Derived.Test.YteemgkabhkdeaaaMarks
import Derived.Laws.IdiomStrings
import Derived.IntWalk
namespace Go.Proofs.Yteemgkabhkdeaaa
open Go.RowKit

/-- The digits of k ahead of a text. -/
def mkLoop (k : Nat) (out : ByteArray) : ByteArray := if _h : k = 0 then out else mkLoop (k / 10) (⟨#[UInt8.ofNat (48 + k % 10)]⟩ ++ out)
termination_by k
decreasing_by omega
theorem mkLoop_zero (out : ByteArray) : mkLoop 0 out = out := by rw [mkLoop]; simp
theorem mkLoop_step {k : Nat} (h : k ≠ 0) (out : ByteArray) : mkLoop k out = mkLoop (k / 10) (⟨#[UInt8.ofNat (48 + k % 10)]⟩ ++ out) := by
  rw [mkLoop]; simp [h]
def mkText (k : Int) : ByteArray := if k ≤ 0 then ⟨#[109, 48]⟩ else ⟨#[109]⟩ ++ mkLoop k.toNat ⟨#[]⟩

set_option maxRecDepth 100000 in
set_option maxHeartbeats 1000000 in
theorem markText_any (k : Int) (w : World) (hk : 1 ≤ k) (hk' : k ≤ 10000000) :
    Calls Try.prog 46 #[.int .i64 k] w fun e w' => e = .returned (.string (mkText k)) ∧ Below w.heap.size w w' := by
  obtain ⟨n, rfl⟩ : ∃ n : Nat, k = n := ⟨k.toNat, by omega⟩
  have HT : mkText n = ⟨#[109]⟩ ++ mkLoop n ⟨#[]⟩ := by unfold mkText; rw [if_neg (by omega)]; rfl
  rw [HT]
  clear HT
  generalize hm : mkLoop n ⟨#[]⟩ = m at *
  have hm' := Lib.hid hm
  clear hm
  have hn0 : ¬ n = 0 := by omega
  go_enter Try.func46, Try.ntmps46
  go_wp2
  go_loopw [0, 3] (fun s0 s3 wr => ∃ (j : Nat) (out : ByteArray), j ≤ n ∧ s0 = .int .i64 j ∧ s3 = .string out ∧ mkLoop j out = m ∧ out.size + j ≤ n ∧ Below w.heap.size w wr) (fun s0 _ _ => (intOf s0).toNat)
  case atStart => exact ⟨n, ⟨#[]⟩, Nat.le_refl _, rfl, rfl, hm'.out, by show 0 + n ≤ n; omega, Below.refl _ _⟩
  case round =>
    obtain ⟨j, out, hj, rfl, rfl, hl, hs, hB⟩ := hrel
    by_cases h0 : j = 0
    · subst h0
      rw [mkLoop_zero] at hl
      subst hl
      have hcat : ¬ (9223372036854775807 < 1 + out.size) := by omega
      replace hB := Lib.hid hB
      go_wp2
      go_ret
      exact ⟨rfl, hB.out⟩
    · have HL := Lib.hid ((mkLoop_step h0 out).symm.trans hl)
      clear hl
      have h1 : 0 < (j : Int) := by omega
      have hbn : (UInt8.ofNat (48 + j % 10)).toNat = 48 + j % 10 := by
        show (48 + j % 10) % 256 = _; omega
      have hbi : ((UInt8.ofNat (48 + j % 10)).toNat : Int) = 48 + (j : Int) % 10 := by rw [hbn]; omega
      have hcv : (convert 22 9 (.slice (some ⟨wr.heap.size, 0, none⟩) 1 1)).run Try.prog (wr.alloc (.cells #[.int .u8 (48 + (j : Int) % 10)] 5)) = .ok (.string ⟨#[UInt8.ofNat (48 + j % 10)]⟩) (wr.alloc (.cells #[.int .u8 (48 + (j : Int) % 10)] 5)) :=
        run_convert_bytes_back _ _ _ 5 ⟨wr.heap.size, 0, none⟩ 1 [UInt8.ofNat (48 + j % 10)] Try.underlying22 Try.underlying5 Try.underlying9 (fun i hi => by
          obtain rfl : i = 0 := by simpa using hi
          rw [add_plain', (Blk.new wr _ _).cell]
          show some (Value.int .u8 (48 + (j : Int) % 10)) = some (Value.int .u8 ((UInt8.ofNat (48 + j % 10)).toNat : Int))
          rw [hbi])
      have hB2 := Lib.hid (hB.alloc hB.size (.cells #[.int .u8 (48 + (j : Int) % 10)] 5))
      have hq : ((j : Int) / 10) = ((j / 10 : Nat) : Int) := by omega
      have hcat : ¬ (9223372036854775807 < (⟨#[UInt8.ofNat (48 + j % 10)]⟩ : ByteArray).size + out.size) := by show ¬ (9223372036854775807 < 1 + out.size); omega
      have hsz1 : ((⟨#[UInt8.ofNat (48 + j % 10)]⟩ : ByteArray) ++ out).size = 1 + out.size := by rw [ByteArray.size_append]; rfl
      replace hq := Lib.hid hq
      replace hsz1 := Lib.hid hsz1
      clear hbn hbi hB
      generalize (⟨#[UInt8.ofNat (48 + j % 10)]⟩ : ByteArray) = dg at *
      go_wp2
      go_roundw
      case rel => exact ⟨j / 10, dg ++ out, by omega, by rw [← hq.out], rfl, HL.out, by rw [hsz1.out]; omega, hB2.out⟩
      case measure => simp [intOf]; omega
end Go.Proofs.Yteemgkabhkdeaaa
