/-
  Contracts of the draws of chapter 2.
-/
import Derived.Test.YtdmldgikfjgmhaaDTngB
namespace Go.Proofs.Ytdmldgikfjgmhaa
open Go.RowKit

theorem Src.lit {w : World} {b n : Nat} {t : TypeId} {us : List Value} (h : Blk w b t us.toArray) (hn : us.length = n := by rfl) (h1 : ∀ u ∈ us, u.oneCell' = true := by decide) : Src w (some ⟨b, 0, none⟩) n us :=
  ⟨hn, h1, fun _ => ⟨b, 0, rfl, h.lt, fun j u hu => by rw [Nat.zero_add, h.cell]; simpa using hu⟩⟩
/-- A tongue is drawn. -/
def DrawnTng (w : World) (e : Ending) (w' : World) : Prop := ∃ v t, e = .returned v ∧ OwnTng w' w.heap.size v t ∧ SmallT 40 t ∧ Below w.heap.size w w'
/-- What was below stays below, behind a reader's draws. -/
theorem below_read {w a b : World} {g B : Nat} (h : Below B w a) (hg : a.grownBy b (some g)) (hB : B ≤ a.heap.size) (hgB : B ≤ g) : Below B w b := h.grown hg hB (fun k e => by cases e; exact hgB)
/-- A tongue's rows are not the cell of a tongue. -/
theorem OwnTng.set3 {w : World} {B g : Nat} {v u0 u1 u2 : Value} {t : Tg} {cs : Array Value} (h : OwnTng w B v t) (hb : Blk w g 30 cs) :
    OwnTng (((w.setCell ⟨g, 0, none⟩ u0).setCell ⟨g, 1, none⟩ u1).setCell ⟨g, 2, none⟩ u2) B v t := by
  obtain ⟨v1, v2, v3, e, o1, o2, o3, ap⟩ := h.ex
  have m1 := own_blk_ne o1 hb ne_string_tongue
  have m2 := own_blk_ne o2 hb ne_int_tongue
  have m3 := own_blk_ne o3 hb ne_string_tongue
  exact ⟨v1, v2, v3, e, own_set (own_set (own_set o1 m1) m1) m1, own_set (own_set (own_set o2 m2) m2) m2, own_set (own_set (own_set o3 m3) m3) m3, ap⟩
theorem OwnTng.shape {w : World} {B : Nat} {v : Value} {t : Tg} (h : OwnTng w B v t) : ∃ A1 c1 A2 c2 A3 c3, v = .agg #[.slice A1 t.us.length c1, .slice A2 t.bs.length c2, .slice A3 t.ns.length c3] := by
  obtain ⟨A1, c1, A2, c2, A3, c3, e, _⟩ := h.tng.ex
  exact ⟨A1, c1, A2, c2, A3, c3, e⟩

set_option maxRecDepth 100000 in
set_option maxHeartbeats 1000000 in
theorem drawTongueOk_any (A : Option Addr) (n c : Nat) (xs : List Int) (w : World) (h : Ints w .u8 A n c xs) (hn : n ≤ 1048576) (hwf : ∀ x ∈ xs, (Lit.int .u8 x).wf = true) (hc : c ≤ maxLen) :
    Calls Try.prog 19 #[.slice A n c] w (DrawnTng w) := by
  have hB0 : Below w.heap.size w (w.alloc zeroTng) := (Below.refl _ _).alloc (Nat.le_refl _) _
  have HO := Lib.hid (open_any A n c xs (w.alloc zeroTng) (h.below hB0 (Nat.le_refl _)) hn hwf hc)
  have HB0 := Lib.hid hB0
  have HX := Lib.hid (Blk.new w 30 #[.slice none 0 0, .slice none 0 0, .slice none 0 0])
  clear h hwf hc hB0
  go_enter Try.func19, Try.ntmps19
  go_wp2_with (fail)
  refine HO.out.mono ?_
  rintro e w1 ⟨rfl, hr, hb, -⟩
  have hX1 := Lib.hid (HX.out.below hb (by simp))
  have hB1 := Lib.hid (HB0.out.trans (hb.mono (by simp)))
  have hs1 := hb.size
  simp only [World.size_alloc] at hs1
  rw [World.size_alloc] at hr
  clear hb HO
  go_wp2_with (fail)
  refine (drawn_any _ 0 2 w1 hr (by omega) (by omega) (by omega)).mono ?_
  rintro e w2 ⟨v, t, q, rfl, ho, hsm, hr2, hq, hg⟩
  obtain ⟨A1, c1, A2, c2, A3, c3, rfl⟩ := ho.shape
  have hX2 : Blk w2 w.heap.size 30 #[.slice none 0 0, .slice none 0 0, .slice none 0 0] := hX1.out.grown hg (by simp)
  have hB2 := below_read hB1.out hg (by omega) (by simp)
  obtain ⟨r0, r1, r2, f0, f1, f2⟩ := blk3 hX2
  have HF := fun u0 u1 u2 => ho.set3 (u0 := u0) (u1 := u1) (u2 := u2) hX2
  replace HF := Lib.hid HF
  replace hB2 := Lib.hid hB2
  replace hsm := Lib.hid hsm
  clear hr hr2 hg ho hX2
  go_wp2
  refine bodyPost_ret (v := .agg #[.slice A1 t.us.length c1, .slice A2 t.bs.length c2, .slice A3 t.ns.length c3]) (by simp [results, Try.results19, go_sem, r0, r1, r2]) rfl ?_
  exact ⟨_, t, rfl, (HF.out _ _ _).mono (by omega), hsm.out, below_tng3 hB2.out (Nat.le_refl _)⟩

set_option maxRecDepth 100000 in
set_option maxHeartbeats 1000000 in
theorem drawWordsOf_any (A : Option Addr) (n c : Nat) (xs : List Int) (w : World) (h : Ints w .u8 A n c xs) (hn : n ≤ 1048576) (hwf : ∀ x ∈ xs, (Lit.int .u8 x).wf = true) (hc : c ≤ maxLen) :
    Calls Try.prog 28 #[.slice A n c] w (DrawnTng w) := by
  have hB0 : Below w.heap.size w (w.alloc zeroTng) := (Below.refl _ _).alloc (Nat.le_refl _) _
  have HO := Lib.hid (open_any A n c xs (w.alloc zeroTng) (h.below hB0 (Nat.le_refl _)) hn hwf hc)
  have HB0 := Lib.hid hB0
  have HX := Lib.hid (Blk.new w 30 #[.slice none 0 0, .slice none 0 0, .slice none 0 0])
  clear h hwf hc hB0
  go_enter Try.func28, Try.ntmps28
  go_wp2_with (fail)
  refine HO.out.mono ?_
  rintro e w1 ⟨rfl, hr, hb, -⟩
  have hX1 := Lib.hid (HX.out.below hb (by simp))
  have hB1 := Lib.hid (HB0.out.trans (hb.mono (by simp)))
  have hs1 := hb.size
  simp only [World.size_alloc] at hs1
  rw [World.size_alloc] at hr
  clear hb HO
  go_wp2_with (fail)
  refine (drawn_any _ 0 9 w1 hr (by omega) (by omega) (by omega)).mono ?_
  rintro e w2 ⟨v, t, q, rfl, ho, hsm, hr2, hq, hg⟩
  obtain ⟨A1, c1, A2, c2, A3, c3, rfl⟩ := ho.shape
  have hX2 : Blk w2 w.heap.size 30 #[.slice none 0 0, .slice none 0 0, .slice none 0 0] := hX1.out.grown hg (by simp)
  have hB2 := below_read hB1.out hg (by omega) (by simp)
  obtain ⟨r0, r1, r2, f0, f1, f2⟩ := blk3 hX2
  have HF := fun u0 u1 u2 => ho.set3 (u0 := u0) (u1 := u1) (u2 := u2) hX2
  replace HF := Lib.hid HF
  replace hB2 := Lib.hid hB2
  replace hsm := Lib.hid hsm
  clear hr hr2 hg ho hX2
  go_wp2
  refine bodyPost_ret (v := .agg #[.slice A1 t.us.length c1, .slice A2 t.bs.length c2, .slice A3 t.ns.length c3]) (by simp [results, Try.results28, go_sem, r0, r1, r2]) rfl ?_
  exact ⟨_, t, rfl, (HF.out _ _ _).mono (by omega), hsm.out, below_tng3 hB2.out (Nat.le_refl _)⟩
end Go.Proofs.Ytdmldgikfjgmhaa
