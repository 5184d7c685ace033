/-
  The program's RoundOf: bytes of a text turned round in a block of their own.
-/
import Derived.Test.YtbghgpgpljdjkaaRevB
import Derived.Test.YtbghgpgpljdjkaaQ3
import Derived.Lib.ConvBytes
import Derived.Laws.IdiomStrings
namespace Go.Proofs.Ytbghgpgpljdjkaa
open Go.RowKit Go.Sort

def encB (b : UInt8) : Value := .int .u8 (b.toNat : Int)
theorem below_conv (w : World) (e : TypeId) (s : ByteArray) : Below w.heap.size w (Lib.bytesWorld w e s) := by
  refine ⟨rfl, ?_, ?_, by rw [Lib.bytesWorld_size]; omega, fun k hk => Lib.bytesWorld_at_old w e s k hk⟩ <;>
    simp [Lib.bytesWorld, World.freeze, World.alloc, World.drew, -World.alloc_eq, -World.drew_eq]
theorem holds_conv (w : World) (e : TypeId) (s : ByteArray) : Holds encB (Lib.bytesWorld w e s) w.heap.size 0 (tl s).toArray := by
  intro j hj
  have hj' : j < s.size := by simpa using hj
  refine ⟨?_, ?_⟩
  · rw [Nat.zero_add, Lib.bytesWorld_cell w e s j hj']
    have h2 : j < (tl s).length := by rw [tl_len]; exact hj'
    unfold encB
    rw [getElem!_pos _ j (by simpa using hj'), List.getElem_toArray, List.getD_eq_getElem?_getD, List.getElem?_eq_getElem h2]
    rfl
  · have hs : s.size ≤ (Lib.bytesCells w e s).size := by simp [Lib.bytesCells]
    simp [World.frozen?, Lib.bytesWorld_at_new]
    omega
theorem below_put {w : World} {g n : Nat} (d : Array UInt8) {B : Nat} (hB : B ≤ g) : Below B w (putRow encB (Sort.ahead w n) g 0 d) := by
  refine ⟨rfl, rfl, rfl, by simp, fun k hk => ?_⟩
  have : g ≠ k := by omega
  simp [putRow, mapBlock, Sort.ahead, Array.getElem?_modify, this]
/-- The bytes of a text, turned round. -/
theorem revB_any (u : ByteArray) (c : Nat) (w : World) (hu : u.size ≤ 1048576) :
    Calls Try.prog 58 #[.slice (some ⟨w.heap.size, 0, none⟩) u.size c] (Lib.bytesWorld w 5 u) fun e w' => e = .returned (.tuple #[]) ∧ Below w.heap.size w w' ∧ ∀ j, (hj : j < (tl (rev u)).length) → w'.cell? ((⟨w.heap.size, 0, none⟩ : Addr).add j) = some (.int .u8 ((tl (rev u))[j].toNat : Int)) := by
  have K := AnyE.slices_Reverse revLays encB (fun _ => rfl) w.heap.size 0 c (tl u) (Lib.bytesWorld w 5 u) (holds_conv w _ u) (by rw [tl_len]; omega)
  rw [tl_len] at K
  refine K.mono fun e w' ⟨he, n, hw⟩ => ⟨he, ?_, fun j hj => ?_⟩
  · rw [hw]
    exact (below_conv w _ u).trans ((below_put _ (Nat.le_refl _)).mono (Nat.le_refl _))
  · have hh := holds_putRow encB (Sort.ahead (Lib.bytesWorld w 5 u) n) w.heap.size 0 (tl u).toArray (tl u).reverse.toArray (holds_ahead encB _ n _ 0 _ (holds_conv w _ u)) (by simp)
    rw [rev_tl] at hj
    have := (hh j (by simpa using hj)).1
    rw [Nat.zero_add] at this
    rw [add_plain', Nat.zero_add, hw, this]
    have e1 : (tl u).reverse.toArray[j]! = (tl (rev u))[j]'(by rw [rev_tl]; exact hj) := by
      rw [getElem!_pos _ j (by simpa using hj), List.getElem_toArray]
      simp only [rev_tl]
    rw [e1]
    rfl

set_option maxRecDepth 100000 in
set_option maxHeartbeats 2000000 in
theorem implRoundOf_any (A : Option Addr) (n c : Nat) (l : List ByteArray) (w : World) (h : Strs w A n c l) (hn : n ≤ 2097152) (hs : ∀ x ∈ l, x.size ≤ 1048576) :
    Calls Try.prog 31 #[.slice A n c] w (RetStrs w (roundOf l)) := by
  obtain ⟨i0, hi, hz0, hz1, hz2⟩ := info_parts str_info
  have HC := implCodeOk_any A n c l w h hn hs
  obtain ⟨rfl, hcap, hat⟩ := h
  replace hat := Lib.hid hat
  clear hs
  cases hok : codeOk l
  · have hr : roundOf l = [] := by unfold roundOf; rw [hok]; rfl
    rw [hr]
    rw [hok] at HC
    replace HC := Lib.hid HC
    replace hok := Lib.hid hok
    replace hr := Lib.hid hr
    go_enter Try.func31, Try.ntmps31
    go_wp2_with (fail)
    refine HC.out.mono ?_
    rintro e w1 ⟨rfl, b1⟩
    replace b1 := Lib.hid b1
    go_wp2
    go_ret
    exact ⟨_, rfl, owns_none _ _ _, b1.out⟩
  · have hr : roundOf l = l.map rev := by unfold roundOf; rw [hok]; rfl
    rw [hr]
    rw [hok] at HC
    have hl6 := (codeOk_iff.1 hok).1.2
    have hl1 := (codeOk_iff.1 hok).1.1
    have HLn := Lib.hid (fun k (hk : k < l.length) => codeOk_len hok (getD_mem hk))
    have hmk := fun W => run_make_rowN (P := Try.prog) 23 9 i0 _ Try.underlying23 hi hz0 .i64 .i64 l.length l.length (Nat.le_refl _) (by rw [hz2]; omega) (by omega) W
    rw [hz1] at hmk
    replace HC := Lib.hid HC
    replace hok := Lib.hid hok
    replace hr := Lib.hid hr
    go_enter Try.func31, Try.ntmps31
    go_wp2_with (fail)
    refine HC.out.mono ?_
    rintro e w1 ⟨rfl, b1⟩
    have hs1 := b1.size
    replace b1 := Lib.hid b1
    go_wp2
    go_loopw [15] (fun i wr => ∃ (k : Nat) (cs : Array Value), k ≤ l.length ∧ i = .int .i64 k ∧ cs.size = l.length ∧ (∀ j, j < k → cs[j]? = some (.string (rev (l.getD j ByteArray.empty)))) ∧ Blk wr w1.heap.size 9 cs ∧ Below w.heap.size w wr) (fun i _ => l.length - (intOf i).toNat)
    case atStart => exact ⟨0, _, Nat.zero_le _, rfl, size_madeCells _ _, fun j hj => absurd hj (by omega), Blk.new _ _ _, b1.out.alloc b1.out.size _⟩
    case round =>
      obtain ⟨k, cs, hk, rfl, hcs, hj, hb, hB⟩ := hrel
      by_cases hlt : k < l.length
      · obtain ⟨b, o, rfl, hbo, hc⟩ := hat.out (by omega)
        have ck := (hB.cell (p := ⟨b, o + k, none⟩) hbo).trans (hc k hlt)
        have hzu := HLn.out k hlt
        have HJ : Hid (∀ j, j < k + 1 → (cs.setIfInBounds k (.string (rev (l.getD k ByteArray.empty))))[j]? = some (.string (rev (l.getD j ByteArray.empty)))) := fun j hjk => by
          rw [Array.getElem?_setIfInBounds]
          by_cases he : k = j
          · subst he; simp [show k < cs.size by omega]
          · rw [if_neg he]; exact hj j (by omega)
        clear hc hj
        generalize l.getD k ByteArray.empty = u at *
        have hcv : (convert 9 22 (.string u)).run Try.prog wr = .ok (.slice (some ⟨wr.heap.size, 0, none⟩) u.size (grownCap wr u.size 0 5)) (Lib.bytesWorld wr 5 u) := Lib.run_convert_string_bytes wr _ _ _ u Try.underlying9 Try.underlying22 Try.underlying5
        have KR := Lib.hid (revB_any u (grownCap wr u.size 0 5) wr (by omega))
        have hbl := hb.lt
        replace hb := Lib.hid hb
        replace hB := Lib.hid hB
        go_wp2_with (fail)
        refine KR.out.mono ?_
        rintro e w2 ⟨rfl, b2, hcell⟩
        have hb2 := hb.out.below b2 hbl
        have hB2 := hB.out.trans (b2.mono hB.out.size)
        have hback := run_convert_bytes_back (P := Try.prog) w2 22 9 5 ⟨wr.heap.size, 0, none⟩ (grownCap wr u.size 0 5) (tl (rev u)) Try.underlying22 Try.underlying5 Try.underlying9 hcell
        rw [tl_len, rev_size, show (⟨(tl (rev u)).toArray⟩ : ByteArray) = rev u from tl_inj (by simp [tl])] at hback
        have c2 : w2.cell? ⟨w1.heap.size, k, none⟩ = some (cs[k]'(by omega)) := by rw [hb2.cell, Array.getElem?_eq_getElem (by omega)]
        have f2 := hb2.frozen k
        have HB3 := Lib.hid (hb2.set_ k (.string (rev u)))
        have HBel := Lib.hid (hB2.setCell (p := ⟨w1.heap.size, k, none⟩) hs1 (.string (rev u)))
        generalize rev u = r at *
        clear hcell b2 hb2 hB2 KR hcv hb hB ck
        go_wp2
        go_roundw
        case rel => exact ⟨k+1, _, by omega, by go_num, by simpa using hcs, HJ.out, HB3.out, HBel.out⟩
        case measure => simp [intOf]; omega
      · obtain rfl : k = l.length := by omega
        have hcs2 : cs = ((l.map rev).map Value.string).toArray := by
          apply Array.ext_getElem?
          intro i
          by_cases hi : i < l.length
          · rw [hj i hi]; simp [hi, List.getD_eq_getElem?_getD]
          · rw [Array.getElem?_eq_none (by omega), Array.getElem?_eq_none (by simp; omega)]
        subst hcs2
        have HO := owns_blk (B := w.heap.size) (n := l.length) hb (by simp) hs1 (by unfold maxLen; omega)
        have HO2 : Hid (OwnStrs wr w.heap.size (.slice (some ⟨w1.heap.size, 0, none⟩) l.length l.length) (l.map rev)) := by
          unfold Hid OwnStrs
          rw [List.length_map]; exact HO
        replace hB := Lib.hid hB
        clear hj hb HO hmk
        go_wp2
        go_ret
        exact ⟨_, rfl, HO2.out, hB.out⟩
end Go.Proofs.Ytbghgpgpljdjkaa
