/-
  Contracts of the draws of a word between, and of a tongue, a number and such a word.
-/
import Derived.Test.YtbckckicffjccaaGD
namespace Go.Proofs.Ytbckckicffjccaa
open Go.RowKit

abbrev andWords : Array Value := #[.string ⟨#[97, 110, 100]⟩, .string ⟨#[101]⟩, .string ⟨#[111, 110, 101]⟩, .string ⟨#[65, 110, 100]⟩, .string ⟨#[122, 121]⟩, .string ⟨#[97, 110, 100]⟩]
theorem andWords_at (kk : Nat) (hk : kk < 6) : ∃ y : ByteArray, andWords[kk]? = some (.string y) ∧ y.size ≤ 16 := by
  obtain rfl | rfl | rfl | rfl | rfl | rfl : kk = 0 ∨ kk = 1 ∨ kk = 2 ∨ kk = 3 ∨ kk = 4 ∨ kk = 5 := by omega
  all_goals exact ⟨_, rfl, by decide⟩

set_option maxRecDepth 100000 in
set_option maxHeartbeats 2000000 in
theorem and_any (g q : Nat) (w : World) (h : Rd w g q) (hq : q ≤ 100000) :
    Calls Try.prog 32 #[.pointer (some ⟨g, 0, none⟩)] w fun e w' => ∃ x : ByteArray, e = .returned (.string x) ∧ x.size ≤ 16 ∧ Rd w' g (q + 1) ∧ w.grownBy w' (some g) := by
  have hg0 := h.lt
  have hr := Lib.hid (h.alloc' (.cells andWords 9))
  have hbk := Lib.hid (Blk.new w 9 andWords)
  have hgr := Lib.hid (grown_of_below (some g) ((Below.refl w.heap.size w).alloc (Nat.le_refl _) (.cells andWords 9)))
  clear h
  go_enter Try.func32, Try.ntmps32
  go_upto_region 1 with (fail)
  go_wp2_with (fail)
  refine (pick_any g q 6 _ hr.out (by omega) (by omega) (by omega)).mono ?_
  rintro e V ⟨k, rfl, hk, hr1, hg1, -⟩
  obtain ⟨kk, rfl⟩ : ∃ kk : Nat, k = (kk : Int) := ⟨k.toNat, by omega⟩
  obtain ⟨y, hy, hys⟩ := andWords_at kk (by omega)
  have ck : V.cell? ⟨w.heap.size, kk, none⟩ = some (.string y) := ((hbk.out.grown hg1 (by simp; omega)).cell kk).trans hy
  have k0 : (0 : Int) ≤ (kk : Int) := by omega
  have k1 : (kk : Int) < 6 := by omega
  have hG := Lib.hid (hgr.out.trans hg1)
  replace hr1 := Lib.hid hr1
  clear hk hg1 hy hbk hgr hr
  go_wp2
  go_ret
  exact ⟨y, rfl, hys, hr1.out, hG.out⟩

/-- A tongue, a number and a word are drawn. -/
def DrawnNumW (w : World) (e : Ending) (w' : World) : Prop := ∃ v t n x, e = .returned (.tuple #[v, .int .i64 n, .string x]) ∧ OwnTng w' w.heap.size v t ∧ SmallT 40 t ∧ (-200000 ≤ n ∧ n ≤ 200000) ∧ x.size ≤ 16 ∧ Below w.heap.size w w'

set_option maxRecDepth 100000 in
set_option maxHeartbeats 4000000 in
theorem drawTurnedName_any (A : Option Addr) (n c : Nat) (xs : List Int) (w : World) (h : Ints w .u8 A n c xs) (hn : n ≤ 1048576) (hwf : ∀ x ∈ xs, (Lit.int .u8 x).wf = true) (hc : c ≤ maxLen) :
    Calls Try.prog 9 #[.slice A n c] w (DrawnNumW w) := by
  have hB0 : Below w.heap.size w (w.alloc zeroTng) := (Below.refl _ _).alloc (Nat.le_refl _) _
  have HO := Lib.hid (open_any A n c xs (w.alloc zeroTng) (h.below hB0 (Nat.le_refl _)) hn hwf hc)
  have HB0 := Lib.hid hB0
  have HX := Lib.hid (Blk.new w 26 #[.slice none 0 0, .slice none 0 0, .slice none 0 0])
  clear h hwf hc hB0
  go_enter Try.func9, Try.ntmps9
  go_wp2_with (fail)
  refine HO.out.mono ?_
  rintro e w1 ⟨rfl, hr, hb, -⟩
  have hX1 := Lib.hid (HX.out.below hb (by simp))
  have hB1 := Lib.hid (HB0.out.trans (hb.mono (by simp)))
  have hs1 := hb.size
  simp only [World.size_alloc] at hs1
  rw [World.size_alloc] at hr
  have hl1 := hr.lt
  clear hb HO
  go_wp2_with (fail)
  refine (named_any _ w1 hr).mono ?_
  rintro e w2 ⟨v, t, m, q, rfl, ho, hsm, hm, hr2, hq, hg⟩
  obtain ⟨A1, c1, A2, c2, A3, c3, rfl⟩ := ho.shape
  have hX2 : Blk w2 w.heap.size 26 #[.slice none 0 0, .slice none 0 0, .slice none 0 0] := hX1.out.grown hg (by simp)
  have hB2 := below_read hB1.out hg (by omega) (by omega)
  have hA := (Below.refl w2.heap.size w2).alloc (Nat.le_refl _) (.cells #[.slice A1 t.us.length c1, .slice A2 t.bs.length c2, .slice A3 t.ns.length c3] 26)
  have hs2 := hg.size
  have D : DM w w2.heap.size #[.slice A1 t.us.length c1, .slice A2 t.bs.length c2, .slice A3 t.ns.length c3] (.agg #[.slice A1 t.us.length c1, .slice A2 t.bs.length c2, .slice A3 t.ns.length c3]) t (w2.alloc (.cells #[.slice A1 t.us.length c1, .slice A2 t.bs.length c2, .slice A3 t.ns.length c3] 26)) q :=
    ⟨hr2.below hA (Nat.le_refl _), hX2.below hA hX2.lt, Blk.new w2 26 #[.slice A1 t.us.length c1, .slice A2 t.bs.length c2, .slice A3 t.ns.length c3], (ho.mono (by omega)).below hA (Nat.le_refl _), hB2.trans (hA.mono hB2.size)⟩
  have hz : w.heap.size + 1 < w2.heap.size := by omega
  replace D := Lib.hid D
  replace hsm := Lib.hid hsm
  obtain ⟨m1, m2⟩ := hm
  clear hA hB2 hX2 ho hr2 hg hs1 hs2 hl1 hr hB1 hX1 HX HB0
  go_upto_region 3 with (fail)
  generalize w2.alloc (.cells #[.slice A1 t.us.length c1, .slice A2 t.bs.length c2, .slice A3 t.ns.length c3] 26) = W at *
  generalize w2.heap.size = z at *
  obtain ⟨z0, z1, z2, -, -, -⟩ := blk3 D.out.hz
  obtain ⟨r0, r1, r2, f0, f1, f2⟩ := blk3 D.out.hx
  go_region_law (first
    | (go_simp; go_at_call 32; refine (and_any (w.heap.size + 1) q _ (by first | exact D.out.rd.drew | exact D.out.rd) (by omega)).mono ?_; rintro e V9 ⟨x9, rfl, hx9, hr9, hg9⟩; have hg9' : W.grownBy V9 (some (w.heap.size + 1)) := ⟨hg9.os, hg9.tape, hg9.output, hg9.size, hg9.block⟩; have D9 := Lib.hid (D.out.pick hg9' hr9 hz); obtain ⟨z0', z1', z2', -, -, -⟩ := blk3 D9.out.hz; obtain ⟨r0', r1', r2', f0', f1', f2'⟩ := blk3 D9.out.hx; clear hr9 hg9 hg9'))
  all_goals
    clear z0 z1 z2 r0 r1 r2 f0 f1 f2 z0' z1' z2'
    have HF : DrawnNumW w (.returned (.tuple #[.agg #[.slice A1 t.us.length c1, .slice A2 t.bs.length c2, .slice A3 t.ns.length c3], .int .i64 m, .string x9])) (((V9.setCell ⟨w.heap.size, 0, none⟩ (.slice A1 t.us.length c1)).setCell ⟨w.heap.size, 1, none⟩ (.slice A2 t.bs.length c2)).setCell ⟨w.heap.size, 2, none⟩ (.slice A3 t.ns.length c3)) :=
      ⟨_, t, _, _, rfl, (D9.out.own.set3 D9.out.hx).mono (by omega), hsm.out, ⟨m1, m2⟩, hx9, below_tng3 D9.out.low (Nat.le_refl _)⟩
    replace HF := Lib.hid HF
    clear D D9
    go_wp2
    refine bodyPost_ret (v := .tuple #[.agg #[.slice A1 t.us.length c1, .slice A2 t.bs.length c2, .slice A3 t.ns.length c3], .int .i64 m, .string x9]) (by simp [results, Try.results9, go_sem, r0', r1', r2']) rfl ?_
    exact HF.out

set_option maxRecDepth 100000 in
set_option maxHeartbeats 2000000 in
theorem drawIsTurned_any (A : Option Addr) (n c : Nat) (xs : List Int) (w : World) (h : Ints w .u8 A n c xs) (hn : n ≤ 1048576) (hwf : ∀ x ∈ xs, (Lit.int .u8 x).wf = true) (hc : c ≤ maxLen) :
    Calls Try.prog 19 #[.slice A n c] w (DrawnNumW w) := by
  have hB0 : Below w.heap.size w (w.alloc zeroTng) := (Below.refl _ _).alloc (Nat.le_refl _) _
  have HO := Lib.hid (drawTurnedName_any A n c xs (w.alloc zeroTng) (h.below hB0 (Nat.le_refl _)) hn hwf hc)
  have HB0 := Lib.hid hB0
  have HX := Lib.hid (Blk.new w 26 #[.slice none 0 0, .slice none 0 0, .slice none 0 0])
  clear h hwf hc hB0
  go_enter Try.func19, Try.ntmps19
  go_wp2_with (fail)
  refine HO.out.mono ?_
  rintro e w2 ⟨v, t, m, x, rfl, ho, hsm, hm, hx, hb⟩
  obtain ⟨A1, c1, A2, c2, A3, c3, rfl⟩ := ho.shape
  have hX2 := HX.out.below hb (by simp)
  have hB2 := HB0.out.trans (hb.mono (by simp))
  obtain ⟨r0, r1, r2, f0, f1, f2⟩ := blk3 hX2
  have HF := fun u0 u1 u2 => ho.set3 (u0 := u0) (u1 := u1) (u2 := u2) hX2
  replace HF := Lib.hid HF
  replace hB2 := Lib.hid hB2
  replace hsm := Lib.hid hsm
  clear hb ho hX2
  go_wp2
  refine bodyPost_ret (v := .tuple #[.agg #[.slice A1 t.us.length c1, .slice A2 t.bs.length c2, .slice A3 t.ns.length c3], .int .i64 m, .string x]) (by simp [results, Try.results19, go_sem, r0, r1, r2]) rfl ?_
  exact ⟨_, t, m, x, rfl, (HF.out _ _ _).mono (by simp), hsm.out, hm, hx, below_tng3 hB2.out (Nat.le_refl _)⟩
end Go.Proofs.Ytbckckicffjccaa
