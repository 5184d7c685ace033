/-
  The contract of the program's function value that puts the unit behind again.
-/
import Derived.Test.YtbckckicffjccaaV2
import Derived.StillTailTactics
namespace Go.Proofs.Ytbckckicffjccaa
open Go.RowKit

/-- The words put back, wherever they lie. -/
def RetPlain (w : World) (ys : List ByteArray) (e : Ending) (w' : World) : Prop := ∃ A c, e = .returned (.slice A ys.length c) ∧ Strs w' A ys.length c ys ∧ Below w.heap.size w w'

set_option maxRecDepth 100000 in
set_option maxHeartbeats 2000000 in
theorem plain_any (x : ByteArray) (A : Option Addr) (n c g : Nat) (l : List ByteArray) (w : World) (hg : Blk w g 9 #[.string x]) (h : Strs w A n c l) (hn : n ≤ 1048576) (hcm : c ≤ maxLen) :
    Calls Try.prog 60 #[.slice A n c, .pointer (some ⟨g, 0, none⟩)] w (RetPlain w (plainI x l)) := by
  have cg := hg.cell 0
  simp only [List.getElem?_toArray, List.getElem?_cons_zero] at cg
  have hln := h.len
  have hle := h.le
  have K := index_any A n c l x w h (by omega)
  unfold maxLen at hcm
  by_cases hp : 1 ≤ place l x ∧ place l x < l.length
  · obtain ⟨hp1, hp2⟩ := hp
    have hI : plainI x l = l.take (place l x - 1) ++ l.drop (place l x + 1) ++ (l.take (place l x)).drop (place l x - 1) := by unfold plainI; rw [if_pos ⟨hp1, hp2⟩]
    have hv : idxV l x = place l x := by unfold idxV; rw [if_pos hp2]
    rw [hv] at K
    obtain ⟨b, o, rfl, -, -⟩ := h.at_ (by omega)
    have s1 := h.take (m := place l x - 1) (by omega)
    have s2 := h.drop (m := place l x + 1) (by omega)
    have s3 := (h.take (m := place l x) (by omega)).drop (m := place l x - 1) (by omega)
    generalize place l x = p at *
    replace s2 : Strs w (if c = p + 1 then some ⟨b, o, none⟩ else some ⟨b, o + (p + 1), none⟩) (n - (p + 1)) (c - (p + 1)) (l.drop (p + 1)) := by
      split
      · exact ⟨s2.len, s2.le, fun h => absurd h (by omega)⟩
      · exact s2
    replace s3 : Strs w (if c = p - 1 then some ⟨b, o, none⟩ else some ⟨b, o + (p - 1), none⟩) (p - (p - 1)) (c - (p - 1)) ((l.take p).drop (p - 1)) := by
      rw [if_neg (by omega)]; exact s3
    have w1 : IntKind.i64.wrap ((p : Int) - 1) = (p : Int) - 1 := IntWalk.i64_in _ (by omega)
    have w2 : IntKind.i64.wrap ((p : Int) + 1) = (p : Int) + 1 := IntWalk.i64_in _ (by omega)
    have w3 : ((p : Int) - 1).toNat = p - 1 := by omega
    have w4 : ((p : Int) + 1).toNat = p + 1 := by omega
    have u1 : ¬ (p : Int) < 1 := by omega
    have u2 : (0 : Int) ≤ (p : Int) - 1 := by omega
    have u3 : (p : Int) - 1 ≤ (c : Int) := by omega
    have u4 : (0 : Int) ≤ (p : Int) + 1 := by omega
    have u5 : (p : Int) + 1 ≤ (n : Int) := by omega
    have u6 : (p : Int) ≤ (c : Int) := by omega
    have u7 : (p : Int) - 1 ≤ (p : Int) := by omega
    have u8 : (n : Int) ≤ (c : Int) := by omega
    have hln' : n = l.length := hln.symm
    replace hln := Lib.hid hln
    replace hln' := Lib.hid hln'
    replace K := Lib.hid K
    replace hI := Lib.hid hI
    replace s1 := Lib.hid s1
    replace s2 := Lib.hid s2
    replace s3 := Lib.hid s3
    replace hv := Lib.hid hv
    clear hg h
    go_enter Try.func60, Try.ntmps60
    go_wp2_with (fail)
    refine K.out.mono ?_
    rintro e _ ⟨rfl, rfl⟩
    go_upto_region 4 with (fail)
    go_still_tail 13, (by kernel_rfl)
    change wpList _ _ _ _ _ w.drew
    have bd := (Below.refl w.heap.size w).drew
    generalize (if c = p + 1 then (some ⟨b, o, none⟩ : Option Addr) else some ⟨b, o + (p + 1), none⟩) = A2 at *
    generalize (if c = p - 1 then (some ⟨b, o, none⟩ : Option Addr) else some ⟨b, o + (p - 1), none⟩) = A3 at *
    replace s1 := s1.out.below bd (Nat.le_refl _)
    replace s2 := s2.out.below bd (Nat.le_refl _)
    replace s3 := s3.out.below bd (Nat.le_refl _)
    generalize w.drew = W at *
    have ba := (Below.refl W.heap.size W).alloc (Nat.le_refl _) (.cells #[.slice (some ⟨b, o, none⟩) (p - 1) c, .slice A2 (n - (p + 1)) (c - (p + 1)), .slice A3 (p - (p - 1)) (c - (p - 1))] 23)
    have KC := concat3_any (some ⟨b, o, none⟩) A2 A3 W.heap.size (p - 1) c (n - (p + 1)) (c - (p + 1)) (p - (p - 1)) (c - (p - 1)) _ _ _ (W.alloc (.cells #[.slice (some ⟨b, o, none⟩) (p - 1) c, .slice A2 (n - (p + 1)) (c - (p + 1)), .slice A3 (p - (p - 1)) (c - (p - 1))] 23)) (by simp) (by go_simp) (by go_simp) (by go_simp) (s1.below ba (Nat.le_refl _)) (s2.below ba (Nat.le_refl _)) (s3.below ba (Nat.le_refl _)) (by omega) (by omega) (by omega)
    have hlen : (plainI x l).length = p - 1 + (n - (p + 1)) + (p - (p - 1)) := by
      rw [hI.out, List.length_append, List.length_append, s1.len, s2.len, s3.len]
    replace KC := Lib.hid KC
    replace hlen := Lib.hid hlen
    replace bd := Lib.hid bd
    replace ba := Lib.hid ba
    clear s1 s2 s3 w1 w2 w3 w4
    go_wp2_with (fail)
    refine KC.out.mono ?_
    rintro e w3 ⟨v3, rfl, o3, b3⟩
    have hBB := bd.out.trans (ba.out.mono bd.out.size)
    have hsz := hBB.size
    have o4 : OwnStrs w3 w.heap.size v3 (plainI x l) := by
      unfold OwnStrs
      rw [hlen.out, hI.out]
      exact own_mono o3 hsz
    obtain ⟨A4, c4, rfl, s4⟩ := o4.strs
    have hF : RetPlain w (plainI x l) (.returned (.slice A4 (plainI x l).length c4)) w3 := ⟨_, _, rfl, s4, hBB.trans (b3.mono hsz)⟩
    replace hF := Lib.hid hF
    clear o3 o4 s4 b3 hBB hsz
    go_wp2
    go_ret
    exact hF.out
  · have hI : plainI x l = l := by unfold plainI; rw [if_neg hp]
    have hd : idxV l x < 1 := by
      unfold idxV
      split
      · rename_i h2
        have : ¬ 1 ≤ place l x := fun h1 => hp ⟨h1, h2⟩
        omega
      · omega
    have h' := Lib.hid h
    replace K := Lib.hid K
    replace hI := Lib.hid hI
    replace hln := Lib.hid hln
    generalize idxV l x = v at *
    clear hg h hp
    go_enter Try.func60, Try.ntmps60
    go_wp2_with (fail)
    refine K.out.mono ?_
    rintro e _ ⟨rfl, rfl⟩
    go_wp2
    go_ret
    unfold RetPlain
    rw [hI.out, hln.out]
    exact ⟨_, _, rfl, h'.out, Below.refl _ _⟩
end Go.Proofs.Ytbckckicffjccaa
