/-
  DrawReadJournal.
-/
import Derived.Test.YtmhgpbfogdoaeaaGreatDoorRjDrawJt
namespace Go.Proofs.YtmhgpbfogdoaeaaGreatDoor
open Go.RowKit

/-- A short text is drawn. -/
def DrawnTx (m : Nat) (w : World) (e : Ending) (w' : World) : Prop := ∃ s : ByteArray, e = .returned (.string s) ∧ s.size ≤ m ∧ Below w.heap.size w w'
set_option maxRecDepth 100000 in
set_option maxHeartbeats 4000000 in
theorem drawReadJournal_any (A : Option Addr) (n c : Nat) (xs : List Int) (w : World) (h : Ints w .u8 A n c xs) (hn : n ≤ 1048576) (hwf : ∀ x ∈ xs, (Lit.int .u8 x).wf = true) (hc : c ≤ maxLen) :
    Calls Tryz.prog 8 #[.slice A n c] w (DrawnTx 100 w) := by
  have HO := Lib.hid (open_any A n c xs w h hn hwf hc)
  clear h hwf hc
  go_enter Tryz.func8, Tryz.ntmps8
  go_wp2_with (fail)
  refine HO.out.mono ?_
  rintro e w1 ⟨rfl, hr, hb, hs1⟩
  replace hb := Lib.hid hb
  clear HO
  go_wp2_with (fail)
  refine (written_any _ 0 w1 hr (by omega)).mono ?_
  rintro e w2 ⟨v, qs, r, rfl, ho, hq5, -, hr2, hrp, hg⟩
  have hB2 := Lib.hid (below_readD hb.out hg (by omega) (Nat.le_refl _))
  have hs2 := hg.size
  obtain ⟨A2, c2, rfl, hd⟩ := ho.deeds
  have hjz := jT_size qs
  clear hr hg hb ho
  go_wp2_with (fail)
  refine (specJournalText_any A2 qs.length c2 qs w2 hd (by omega)).mono ?_
  rintro e w3 ⟨rfl, b3⟩
  replace hB2 := Lib.hid (hB2.out.trans (b3.mono hB2.out.size))
  have hr3 := hr2.below b3 (Nat.le_refl _)
  have hsz : (jT qs).size ≤ 75 := by omega
  generalize jT qs = s at *
  have hs3 := b3.size
  clear b3 hd hr2 hjz
  go_wp2_with (fail)
  refine (pick_any _ r 3 w3 hr3 (by omega) (by omega) (by omega)).mono ?_
  rintro e w4 ⟨k, rfl, hk, hr4, hg4, hs4⟩
  replace hB2 := Lib.hid (below_readD hB2.out hg4 hB2.out.size (Nat.le_refl _))
  have hs14 : w.heap.size ≤ w4.heap.size := hB2.out.size
  clear hr3 hg4 hs4
  obtain rfl | rfl | rfl : k = 0 ∨ k = 1 ∨ k = 2 := by omega
  · go_wp2_with (fail)
    refine (spoil_any _ (r + 1) s w4 hr4 (by omega) (by omega)).mono ?_
    rintro e w5 ⟨y, q5, rfl, hy, -, -, hg5⟩
    replace hB2 := Lib.hid (below_readD hB2.out hg5 hB2.out.size (Nat.le_refl _))
    go_wp2
    go_ret
    exact ⟨_, rfl, by omega, hB2.out⟩
  · have kw : IntKind.i64.wrap ((s.size : Int) + 1) = (s.size : Int) + 1 := IntWalk.i64_in _ (by omega)
    go_wp2_with (fail)
    refine (pick_any _ (r + 1) ((s.size : Int) + 1) w4 hr4 (by omega) (by omega) (by omega)).mono ?_
    rintro e w5 ⟨k, rfl, hk, -, hg5, hs5⟩
    obtain ⟨m, rfl⟩ : ∃ m : Nat, k = (m : Int) := ⟨k.toNat, by omega⟩
    have q0 : (0 : Int) ≤ (m : Int) := by omega
    have q1 : (m : Int) ≤ (s.size : Int) := by omega
    have hxz : (s.extract 0 m).size ≤ 100 := by rw [ByteArray.size_extract]; omega
    replace hB2 := Lib.hid (below_readD hB2.out hg5 hB2.out.size (Nat.le_refl _))
    clear hg5 hs5 hr4 hk
    go_wp2
    go_ret
    exact ⟨_, rfl, hxz, hB2.out⟩
  · go_wp2
    go_ret
    exact ⟨_, rfl, by omega, hB2.out⟩
end Go.Proofs.YtmhgpbfogdoaeaaGreatDoor
