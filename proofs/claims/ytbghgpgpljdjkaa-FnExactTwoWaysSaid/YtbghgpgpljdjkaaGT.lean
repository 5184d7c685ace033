/-
  GT: OpenS TMark TMarkB.
-/
import Derived.Test.YtbghgpgpljdjkaaChecked
import Derived.Test.YtbghgpgpljdjkaaGA
import Derived.Lib.SmallJoins
import Derived.Deep.Strs
import Derived.OpenShut
import Derived.KernelRfl
import Derived.Laws.IdiomStrings
import Derived.IntWalk
import Derived.Deep.RegionHeld3
/- OpenS -/
namespace Go.Proofs.Ytbghgpgpljdjkaa
open Go.ChangeShapes Go.WideShapes Go.RowKit Go.Joins Go.Deep

theorem in_strs {H : Type} {enc : TypeId × Value → H} {W : World} {v : Value} {n : Nat} {y : DataW H × List MemPlace} (h : DataW.trod enc Try.prog W 0 (fun _ => true) true n 23 [v] = some y) :
    ∃ A c xs, v = .slice A (List.length xs) c ∧ Strs W A xs.length c xs ∧ c ≤ maxLen ∧ ∀ x ∈ xs, x.size ≤ maxLen := by
  rcases open_strs Try.underlying23 Try.underlying9 (by kernel_rfl) h with ⟨hcs, _⟩ | ⟨a, len, cap, m, Sx, hcs, _, hl, hm, hmm, _, hx⟩
  · simp at hcs
    subst hcs
    exact ⟨none, 0, [], rfl, Strs.none_, Nat.zero_le _, by simp⟩
  · simp at hcs
    subst hcs
    have hmc : m = cap := by simpa using hmm
    have hs := strs_of_cells (w := W) (x := a) (Sx := Sx) (m := m) (n := len) (c := cap) hl (by omega) (fun i hi => (hx i hi).1)
    have hlen : ((List.range len).map Sx).length = len := by simp
    refine ⟨some a, cap, (List.range len).map Sx, by rw [hlen], by rw [hlen]; exact hs, hm, fun x hxm => ?_⟩
    obtain ⟨i, hi, rfl⟩ := List.mem_map.1 hxm
    exact (hx i (by have := List.mem_range.1 hi; omega)).2
end Go.Proofs.Ytbghgpgpljdjkaa

/- TMark -/
namespace Go.Proofs.Ytbghgpgpljdjkaa
open Go.RowKit

/-- The digits of k ahead of a text. -/
def mkLoop (k : Nat) (out : ByteArray) : ByteArray := if _h : k = 0 then out else mkLoop (k / 10) (⟨#[UInt8.ofNat (48 + k % 10)]⟩ ++ out)
termination_by k
decreasing_by omega
theorem mkLoop_zero (out : ByteArray) : mkLoop 0 out = out := by rw [mkLoop]; simp
theorem mkLoop_step {k : Nat} (h : k ≠ 0) (out : ByteArray) : mkLoop k out = mkLoop (k / 10) (⟨#[UInt8.ofNat (48 + k % 10)]⟩ ++ out) := by
  rw [mkLoop]; simp [h]
def mkText (k : Int) : ByteArray := if k ≤ 0 then ⟨#[109, 48]⟩ else ⟨#[109]⟩ ++ mkLoop k.toNat ⟨#[]⟩

set_option maxRecDepth 100000 in
set_option maxHeartbeats 1000000 in
theorem markText_any (k : Int) (w : World) (hk : 1 ≤ k) (hk' : k ≤ 10000000) :
    Calls Try.prog 64 #[.int .i64 k] w fun e w' => e = .returned (.string (mkText k)) ∧ Below w.heap.size w w' := by
  obtain ⟨n, rfl⟩ : ∃ n : Nat, k = n := ⟨k.toNat, by omega⟩
  have HT : mkText n = ⟨#[109]⟩ ++ mkLoop n ⟨#[]⟩ := by unfold mkText; rw [if_neg (by omega)]; rfl
  rw [HT]
  clear HT
  generalize hm : mkLoop n ⟨#[]⟩ = m at *
  have hm' := Lib.hid hm
  clear hm
  have hn0 : ¬ n = 0 := by omega
  go_enter Try.func64, Try.ntmps64
  go_wp2
  go_loopw [0, 3] (fun s0 s3 wr => ∃ (j : Nat) (out : ByteArray), j ≤ n ∧ s0 = .int .i64 j ∧ s3 = .string out ∧ mkLoop j out = m ∧ out.size + j ≤ n ∧ Below w.heap.size w wr) (fun s0 _ _ => (intOf s0).toNat)
  case atStart => exact ⟨n, ⟨#[]⟩, Nat.le_refl _, rfl, rfl, hm'.out, by show 0 + n ≤ n; omega, Below.refl _ _⟩
  case round =>
    obtain ⟨j, out, hj, rfl, rfl, hl, hs, hB⟩ := hrel
    by_cases h0 : j = 0
    · subst h0
      rw [mkLoop_zero] at hl
      subst hl
      have hcat : ¬ (9223372036854775807 < 1 + out.size) := by omega
      replace hB := Lib.hid hB
      go_wp2
      go_ret
      exact ⟨rfl, hB.out⟩
    · have HL := Lib.hid ((mkLoop_step h0 out).symm.trans hl)
      clear hl
      have h1 : 0 < (j : Int) := by omega
      have hbn : (UInt8.ofNat (48 + j % 10)).toNat = 48 + j % 10 := by
        show (48 + j % 10) % 256 = _; omega
      have hbi : ((UInt8.ofNat (48 + j % 10)).toNat : Int) = 48 + (j : Int) % 10 := by rw [hbn]; omega
      have hcv : (convert 22 9 (.slice (some ⟨wr.heap.size, 0, none⟩) 1 1)).run Try.prog (wr.alloc (.cells #[.int .u8 (48 + (j : Int) % 10)] 5)) = .ok (.string ⟨#[UInt8.ofNat (48 + j % 10)]⟩) (wr.alloc (.cells #[.int .u8 (48 + (j : Int) % 10)] 5)) :=
        run_convert_bytes_back _ _ _ 5 ⟨wr.heap.size, 0, none⟩ 1 [UInt8.ofNat (48 + j % 10)] Try.underlying22 Try.underlying5 Try.underlying9 (fun i hi => by
          obtain rfl : i = 0 := by simpa using hi
          rw [add_plain', (Blk.new wr _ _).cell]
          show some (Value.int .u8 (48 + (j : Int) % 10)) = some (Value.int .u8 ((UInt8.ofNat (48 + j % 10)).toNat : Int))
          rw [hbi])
      have hB2 := Lib.hid (hB.alloc hB.size (.cells #[.int .u8 (48 + (j : Int) % 10)] 5))
      have hq : ((j : Int) / 10) = ((j / 10 : Nat) : Int) := by omega
      have hcat : ¬ (9223372036854775807 < (⟨#[UInt8.ofNat (48 + j % 10)]⟩ : ByteArray).size + out.size) := by show ¬ (9223372036854775807 < 1 + out.size); omega
      have hsz1 : ((⟨#[UInt8.ofNat (48 + j % 10)]⟩ : ByteArray) ++ out).size = 1 + out.size := by rw [ByteArray.size_append]; rfl
      replace hq := Lib.hid hq
      replace hsz1 := Lib.hid hsz1
      clear hbn hbi hB
      generalize (⟨#[UInt8.ofNat (48 + j % 10)]⟩ : ByteArray) = dg at *
      go_wp2
      go_roundw
      case rel => exact ⟨j / 10, dg ++ out, by omega, by rw [← hq.out], rfl, HL.out, by rw [hsz1.out]; omega, hB2.out⟩
      case measure => simp [intOf]; omega
end Go.Proofs.Ytbghgpgpljdjkaa

/- TMarkB -/
namespace Go.Proofs.Ytbghgpgpljdjkaa
open Go.RowKit

def marksS (k : Int) (n : Nat) : List ByteArray := (List.range n).map (fun i : Nat => mkText (k + (i : Int)))
theorem marksS_length (k : Int) (n : Nat) : (marksS k n).length = n := by simp [marksS]
theorem marksS_at (k : Int) {n j : Nat} (hj : j < n) : (marksS k n).getD j ByteArray.empty = mkText (k + j) := by simp [marksS, List.getD_eq_getElem?_getD, hj]

set_option maxHeartbeats 1000000 in
theorem markStringS_any (B : Nat) (v : Value) (n : Nat) (xs : List ByteArray) (k : Int) (w : World) (h : w.ownsRow B 9 1 v n (xs.map Value.string)) (hn : n ≤ 1048576) (hk : 1 ≤ k ∧ k ≤ 5000000) :
    Calls Try.prog 39 #[v, .int .i64 k] w fun e w' => e = .returned (.int .i64 (k + n)) ∧ w'.ownsRow B 9 1 v n ((marksS k n).map Value.string) ∧ w.grownBy w' v.ownBlock := by
  have hl : xs.length = n := by have := h.1; simpa using this
  by_cases hn0 : 0 < n
  · obtain ⟨g, cap, rfl, hB, hlt⟩ := h.form hn0
    replace hl := Lib.hid hl
    go_enter Try.func39, Try.ntmps39
    go_wp2
    go_loopw [1, 5] (fun kk i wr => ∃ (j : Nat) (zs : List ByteArray), j ≤ n ∧ i = .int .i64 j ∧ kk = .int .i64 (k + j) ∧ wr.ownsRow B 9 1 (.slice (some ⟨g, 0, none⟩) n cap) n (zs.map Value.string) ∧ (∀ i, i < j → zs.getD i ByteArray.empty = mkText (k + i)) ∧ w.grownBy wr (some g)) (fun _ i _ => n - (intOf i).toNat)
    case atStart => exact ⟨0, xs, Nat.zero_le _, rfl, by simp, h, fun i hi => by omega, World.grownBy.refl w _⟩
    case round =>
      obtain ⟨j, zs, hj, rfl, rfl, ho, hz, hg⟩ := hrel
      have hzl : zs.length = n := by have := ho.1; simpa using this
      by_cases hlt2 : j < n
      · have hM := markText_any (k + j) wr (by omega) (by omega)
        replace ho := Lib.hid ho
        replace hz := Lib.hid hz
        replace hg := Lib.hid hg
        replace hzl := Lib.hid hzl
        clear h
        go_wp2_with (fail)
        refine hM.mono ?_
        rintro e w1 ⟨rfl, hb⟩
        have ho1 := own_below ho.out hb (Nat.le_refl _)
        have c1 : w1.cell? ⟨g, j, none⟩ = some (.string (zs.getD j ByteArray.empty)) := by
          have hjl : j < zs.length := by rw [hzl.out]; exact hlt2
          rw [ho1.cellAt j (by omega)]
          simp [List.getD_eq_getElem?_getD, hjl]
        have f1 := ho1.frozenAt j
        have hst := ho1.stored j (.string (mkText (k + j)))
        have HZ : ∀ i, i < j + 1 → (zs.set j (mkText (k + j))).getD i ByteArray.empty = mkText (k + i) := fun i hi => by
          have hjl : j < zs.length := by rw [hzl.out]; exact hlt2
          by_cases e : j = i
          · subst e; simp [List.getD_eq_getElem?_getD, hjl]
          · have := hz.out i (by omega)
            simpa [List.getD_eq_getElem?_getD, List.getElem?_set, e] using this
        have HG := (hg.out.trans (grown_of_below (some g) hb)).trans hst.2
        have HO : (w1.setCell ⟨g, j, none⟩ (.string (mkText (k + j)))).ownsRow B 9 1 (.slice (some ⟨g, 0, none⟩) n cap) n ((zs.set j (mkText (k + j))).map Value.string) := by rw [List.map_set]; exact hst.1
        generalize zs.getD j ByteArray.empty = z at *
        replace HZ := Lib.hid HZ
        replace HG := Lib.hid HG
        replace HO := Lib.hid HO
        clear hst ho hz hg hzl hM hb ho1
        generalize mkText (k + j) = mt at *
        go_wp2
        go_roundw
        case rel => exact ⟨j + 1, _, by omega, by go_num, by simp; omega, HO.out, HZ.out, HG.out⟩
        case measure => simp [intOf]; omega
      · obtain rfl : j = n := by omega
        have hm : zs = marksS k j := by
          apply List.ext_getElem (by rw [marksS_length]; exact hzl)
          intro i h1 h2
          have h3 := hz i (by omega)
          have h4 := marksS_at k (n := j) (j := i) (by omega)
          simp only [List.getD_eq_getElem?_getD, List.getElem?_eq_getElem h1, Option.getD_some] at h3
          simp only [List.getD_eq_getElem?_getD, List.getElem?_eq_getElem h2, Option.getD_some] at h4
          rw [h3, h4]
        rw [hm] at ho
        replace ho := Lib.hid ho
        replace hg := Lib.hid hg
        clear hz hm hzl h
        go_wp2
        go_ret
        exact ⟨rfl, ho.out, hg.out⟩
  · obtain rfl : n = 0 := by omega
    obtain ⟨A, c, rfl⟩ := ownsRow_nil_n h
    have hx : xs = [] := List.eq_nil_of_length_eq_zero hl
    subst hx
    replace h := Lib.hid h
    go_enter Try.func39, Try.ntmps39
    go_wp2
    refine wp_loop_rounds 1 ?_
    rw [rounds_succ]
    go_wp2
    go_ret
    exact ⟨by simp, by simpa [marksS] using h.out, World.grownBy.refl w _⟩

set_option maxHeartbeats 1000000 in
theorem heldStringS_any (A : Option Addr) (n c : Nat) (k : Int) (w : World) (h : Strs w A n c (marksS k n)) (hn : n ≤ 1048576) (hk : 1 ≤ k ∧ k ≤ 5000000) :
    Calls Try.prog 40 #[.slice A n c, .int .i64 k] w fun e w' => e = .returned (.int .i64 (k + n)) ∧ Below w.heap.size w w' := by
  obtain ⟨-, hcap, h⟩ := h
  go_enter Try.func40, Try.ntmps40
  go_wp2
  go_loopw [1, 5] (fun kk i wr => ∃ (j : Nat), j ≤ n ∧ i = .int .i64 j ∧ kk = .int .i64 (k + j) ∧ Below w.heap.size w wr) (fun _ i _ => n - (intOf i).toNat)
  case atStart => exact ⟨0, Nat.zero_le _, rfl, by simp, Below.refl _ _⟩
  case round =>
    obtain ⟨j, hj, rfl, rfl, hB⟩ := hrel
    by_cases hlt2 : j < n
    · obtain ⟨b, o, rfl, hbo, h⟩ := h (by omega)
      have c0 := h j hlt2
      rw [marksS_at k hlt2] at c0
      have c1 := (hB.cell (p := ⟨b, o + j, none⟩) hbo).trans c0
      have hM := Lib.hid (fun W => markText_any (k + j) W (by omega) (by omega))
      have hbr : b < wr.heap.size := Nat.lt_of_lt_of_le hbo hB.size
      generalize mkText (k + j) = mt at *
      have heq : (mt.toList != mt.toList) = false := by simp
      replace hB := Lib.hid hB
      clear h c0
      go_wp2
      go_region_held3 (fun w' => w'.cell? ⟨b, o + j, none⟩ = some (.string mt)) (first | go_keep | exact c2)
        (first
          | (go_at_call 64; refine (hM.out _).mono ?_; rintro e w1 ⟨rfl, hb1⟩; have hb2 : Below wr.heap.size wr w1 := ⟨hb1.os, hb1.tape, hb1.output, hb1.size, hb1.block⟩; have c2 := (hb2.cell (p := ⟨b, o + j, none⟩) hbr).trans c1; have HB := Lib.hid (hB.out.trans (hb2.mono hB.out.size)); clear hb1 hb2))
      all_goals
        go_wp2
        go_roundw
        case rel => exact ⟨j + 1, by omega, by go_num, by simp; omega, HB.out⟩
        case measure => simp [intOf]; omega
    · obtain rfl : j = n := by omega
      replace hB := Lib.hid hB
      clear h
      go_wp2
      go_ret
      exact ⟨rfl, hB.out⟩
end Go.Proofs.Ytbghgpgpljdjkaa
