/-
  Contracts of the drawn tongue with a word.
-/
import Derived.Test.YtdmldgikfjgmhaaDrawT
namespace Go.Proofs.Ytdmldgikfjgmhaa
open Go.RowKit

/-- A drawn tongue with a word is returned. -/
def RetWorded (w : World) (g : Nat) (e : Ending) (w' : World) : Prop := ∃ v t x, e = .returned (.tuple #[v, .string x]) ∧ OwnTng w' w.heap.size v t ∧ SmallT 40 t ∧ x.size ≤ 16 ∧ w.grownBy w' (some g)

theorem OwnTng.kept {w w' : World} {B g : Nat} {v : Value} {t : Tg} (h : OwnTng w B v t) (hg : w.grownBy w' (some g)) (hgB : g < B) : OwnTng w' B v t := by
  obtain ⟨v1, v2, v3, e, o1, o2, o3, ap⟩ := h.ex
  exact ⟨v1, v2, v3, e, own_kept o1 hg (fun r e => .inl (by cases e; exact hgB)), own_kept o2 hg (fun r e => .inl (by cases e; exact hgB)), own_kept o3 hg (fun r e => .inl (by cases e; exact hgB)), ap⟩

set_option maxRecDepth 100000 in
set_option maxHeartbeats 4000000 in
theorem worded_any (g : Nat) (w : World) (h : Rd w g 0) :
    Calls Try.prog 53 #[.pointer (some ⟨g, 0, none⟩)] w (RetWorded w g) := by
  obtain ⟨is0, his, hzs0, hzs1, hzs2⟩ := info_parts str_info
  have hg0 := h.lt
  have HD := Lib.hid (drawn_any g 0 12 (w.alloc zeroTng) (h.alloc' _) (by omega) (by omega) (by omega))
  have HX := Lib.hid (Blk.new w 30 #[.slice none 0 0, .slice none 0 0, .slice none 0 0])
  clear h
  go_enter Try.func53, Try.ntmps53
  go_wp2_with (fail)
  refine HD.out.mono ?_
  rintro e w1 ⟨v, t, q, rfl, ho, hsm, hr, hq, hg⟩
  obtain ⟨A1, c1, A2, c2, A3, c3, rfl⟩ := ho.shape
  have hu := hsm.us
  have hn := hsm.ns
  have hX1 : Blk w1 w.heap.size 30 #[.slice none 0 0, .slice none 0 0, .slice none 0 0] := HX.out.grown hg (by simp; omega)
  have hs1 := hg.size
  rw [World.size_alloc] at hs1
  have hB2 := (Below.refl w1.heap.size w1).alloc (Nat.le_refl _) (.cells #[.slice A1 t.us.length c1, .slice A2 t.bs.length c2, .slice A3 t.ns.length c3] 30)
  have hZ2 := Blk.new w1 30 #[.slice A1 t.us.length c1, .slice A2 t.bs.length c2, .slice A3 t.ns.length c3]
  have hX2 := hX1.below hB2 hX1.lt
  have hr2 := hr.below hB2 (Nat.le_refl _)
  have ho2 := ho.below hB2 (Nat.le_refl _)
  have hg2 : w.grownBy (w1.alloc (.cells #[.slice A1 t.us.length c1, .slice A2 t.bs.length c2, .slice A3 t.ns.length c3] 30)) (some g) := ((grown_of_below (some g) ((Below.refl w.heap.size w).alloc (Nat.le_refl _) zeroTng)).trans hg).trans (grown_of_below (some g) hB2)
  have hsW : (w1.alloc (.cells #[.slice A1 t.us.length c1, .slice A2 t.bs.length c2, .slice A3 t.ns.length c3] 30)).heap.size = w1.heap.size + 1 := World.size_alloc ..
  replace hg2 := Lib.hid hg2
  replace hX2 := Lib.hid hX2
  replace hZ2 := Lib.hid hZ2
  replace hr2 := Lib.hid hr2
  replace ho2 := Lib.hid ho2
  replace hsm := Lib.hid hsm
  replace hsW := Lib.hid hsW
  clear hB2 hX1 hr ho hg HD HX
  go_upto_region 2 with (fail)
  generalize w1.alloc (.cells #[.slice A1 t.us.length c1, .slice A2 t.bs.length c2, .slice A3 t.ns.length c3] 30) = W at *
  obtain ⟨z0, z1, z2, -, -, -⟩ := blk3 hZ2.out
  have hzw : w1.heap.size < W.heap.size := hZ2.out.lt
  obtain ⟨S1', c1', S2', c2', S3', c3', ev, hS1, hI2, hS3⟩ := ho2.out.tng.ex
  cases ev
  have HB0 : Below W.heap.size W ((W.alloc (.cells #[] 9)).drew) := ((Below.refl _ _).alloc (Nat.le_refl _) _).drew
  have HO0 : ((W.alloc (.cells #[] 9)).drew).ownsRow W.heap.size 9 1 (.slice (some ⟨W.heap.size, 0, none⟩) 0 0) 0 [] := owns_empty ((Blk.new W 9 #[]).drew) (Nat.le_refl _)
  have HS1 := Lib.hid ((hS1.below HB0 (Nat.le_refl _)).src)
  have HS3 := Lib.hid hS3
  have k1 := Lib.hid (show 0 + t.us.length ≤ maxLen by unfold maxLen; omega)
  have k2 := Lib.hid (show (0 + t.us.length) * 16 ≤ 140737488355328 by omega)
  have k3 := Lib.hid (show 0 + t.us.length + t.ns.length ≤ maxLen by unfold maxLen; omega)
  have k4 := Lib.hid (show (0 + t.us.length + t.ns.length) * 16 ≤ 140737488355328 by omega)
  have k5 := Lib.hid (show t.words.length + 2 ≤ maxLen by rw [words_length]; unfold maxLen; omega)
  have k6 := Lib.hid (show (t.words.length + 2) * 16 ≤ 140737488355328 by rw [words_length]; omega)
  have hwl := Lib.hid (words_length t)
  replace HB0 := Lib.hid HB0
  replace HO0 := Lib.hid HO0
  clear hS1 hI2 hS3
  go_cut [5] (fun s5 wx => ∃ v6, s5 = v6 ∧ OwnStrs wx W.heap.size v6 t.words ∧ Below W.heap.size W wx)
  case first =>
    go_region_law (first
      | (refine step_app _ (by rfl) (.tmp 8) (.tmp 10) _ (by rfl) W.heap.size 9 is0 _ 16 Try.underlying27 his hzs0 hzs1 hzs2 rfl (.slice (some ⟨W.heap.size, 0, none⟩) 0 0) 0 [] (by rfl) HO0.out A1 _ c1 _ (by rfl) HS1.out k1.out k2.out (by simp) ?_; intro v5 w5 ho5 hg5 hat5; have hB5 := below_own HB0.out HO0.out hg5 (by simp) (Nat.le_refl _); have x2' : w5.cell? ⟨w1.heap.size, 2, none⟩ = some (.slice A3 t.ns.length c3) := (hB5.cell (p := ⟨w1.heap.size, 2, none⟩) hzw).trans z2; have hS5 := (HS3.out.below hB5 (Nat.le_refl _)).src; replace ho5 := Lib.hid ho5; replace hg5 := Lib.hid hg5; replace hB5 := Lib.hid hB5; replace hS5 := Lib.hid hS5)
      | (refine step_app _ (by rfl) (.tmp 11) (.tmp 13) _ (by rfl) W.heap.size 9 is0 _ 16 Try.underlying27 his hzs0 hzs1 hzs2 rfl v5 _ _ (by rfl) ho5.out A3 _ c3 _ (by rfl) hS5.out k3.out k4.out hB5.out.size ?_; intro v6 w6 ho6 hg6 hat6; have hB6 := below_own hB5.out ho5.out hg6 hB5.out.size (Nat.le_refl _); replace ho6 := Lib.hid ho6; replace hg6 := Lib.hid hg6; replace hB6 := Lib.hid hB6))
    all_goals
      have ho7 : OwnStrs w6 W.heap.size v6 t.words := by
        have := ho6.out
        unfold OwnStrs
        rw [hwl.out]
        simpa [Tg.words] using this
      replace ho7 := Lib.hid ho7
      go_wp2
      go_meet
      exact ⟨v6, rfl, ho7.out, hB6.out⟩
  case rest =>
    obtain ⟨v6, rfl, ho6, hB6⟩ := hcut
    obtain ⟨A6, c6, rfl, -⟩ := ho6.strs
    replace ho6 := Lib.hid ho6
    replace hB6 := Lib.hid hB6
    clear z0 z1 z2 HS1 HS3 HO0 HB0 k1 k2 k3 k4
    have hsz6 := hB6.out.size
    go_wp2_with (at_builtin; refine wpList_app _ rfl (.tmp 15) (.tmp 16) _ rfl W.heap.size 9 is0 _ 16 Try.underlying27 his hzs0 hzs1 hzs2 rfl (.slice A6 t.words.length c6) _ _ rfl (World.ownsRow.alloc ho6.out _) (some ⟨_, 0, none⟩) 2 2 [.string ⟨#[122, 122]⟩, .string ⟨#[97]⟩] rfl (Src.lit (blk_new_at _ rfl)) k5.out k6.out (by simp; omega) ?_; intro v7 w7 ho7 hg7 hat7)
    have hB7 := below_own (hB6.out.alloc hsz6 _) (World.ownsRow.alloc ho6.out _) hg7 (by simp; omega) (Nat.le_refl _)
    have hr7 := hr2.out.below hB7 (Nat.le_refl _)
    have hZ7 := hZ2.out.below hB7 hZ2.out.lt
    have hX7 := hX2.out.below hB7 hX2.out.lt
    have ho27 := ho2.out.below hB7 (Nat.le_refl _)
    have hg27 := hg2.out.trans (grown_of_below (some g) hB7)
    have hwW := hX2.out.lt
    obtain ⟨ga, ca, rfl, hga0, hga⟩ := World.ownsRow.form ho7 (by omega)
    have hall : ∀ kk, kk < t.words.length + 2 → ∃ y : ByteArray, (t.words.map Value.string ++ [.string ⟨#[122, 122]⟩, .string ⟨#[97]⟩])[kk]? = some (.string y) ∧ y.size ≤ 16 := fun kk hk => by
      by_cases h1 : kk < t.words.length
      · refine ⟨t.words[kk], by rw [List.getElem?_append_left (by simpa using h1)]; simp [h1], hsm.out.size _ (List.getElem_mem h1)⟩
      · have h2 : kk = t.words.length ∨ kk = t.words.length + 1 := by omega
        rcases h2 with rfl | rfl
        · exact ⟨⟨#[122, 122]⟩, by rw [List.getElem?_append_right (by simp)]; simp, by decide⟩
        · exact ⟨⟨#[97]⟩, by rw [List.getElem?_append_right (by simp)]; simp, by decide⟩
    obtain ⟨z0, z1, z2, -, -, -⟩ := blk3 hZ7
    obtain ⟨r0, r1, r2, f0, f1, f2⟩ := blk3 hX7
    have hNl : t.words.length ≤ 100 := by rw [hwl.out]; omega
    have hN0 : (0 : Int) ≤ (t.words.length : Int) + 2 := by omega
    have hgw : g < w.heap.size := hg0
    replace hr7 := Lib.hid hr7
    replace ho7 := Lib.hid ho7
    replace hall := Lib.hid hall
    replace hZ7 := Lib.hid hZ7
    replace hX7 := Lib.hid hX7
    replace ho27 := Lib.hid ho27
    replace hg27 := Lib.hid hg27
    clear hB7 hg7 hat7 hsz6 ho6 hB6 hX2 hZ2 hr2 ho2 hg2 k5 k6 hwl
    go_region_law (first
      | (go_simp; go_at_call 46; refine (pick_any g q ((t.words.length : Int) + 2) _ (by first | exact hr7.out.drew | exact hr7.out) (by omega) (by omega) (by omega)).mono ?_; rintro e W8 ⟨k7, rfl, hk7, hr8, hg8, -⟩; obtain ⟨kk, rfl⟩ : ∃ kk : Nat, k7 = (kk : Int) := ⟨k7.toNat, by omega⟩; have hkk : kk < t.words.length + 2 := (by omega); obtain ⟨y, hy, hys⟩ := hall.out kk hkk; have hkk1 : (kk : Int) < (t.words.length : Int) + 2 := (by omega); have hkk0 : (0 : Int) ≤ (kk : Int) := (by omega); have hg8' : w7.grownBy W8 (some g) := ⟨hg8.os, hg8.tape, hg8.output, hg8.size, hg8.block⟩; have ho8 := World.ownsRow.kept ho7.out hg8' (.inr (by simp [Value.ownBlock]; omega)); have cy : W8.cell? ⟨ga, kk, none⟩ = some (.string y) := (World.ownsRow.cellAt ho8 kk (by omega)).trans hy; have hX8 := hX7.out.grown hg8' (by simp; omega); have hZ8 := hZ7.out.grown hg8' (by simp; omega); obtain ⟨z0', z1', z2', -, -, -⟩ := blk3 hZ8; obtain ⟨r0', r1', r2', f0', f1', f2'⟩ := blk3 hX8; have hT8 := ho27.out.kept hg8' (by simp; omega); have hG8 := hg27.out.trans hg8'; replace hT8 := Lib.hid hT8; replace hG8 := Lib.hid hG8; replace hX8 := Lib.hid hX8; clear hr8 hg8 hg8' ho8 hk7 hZ8 hy))
    all_goals
      clear z0 z1 z2 r0 r1 r2 f0 f1 f2 z0' z1' z2' cy hkk0 hkk1 hr7 ho7 hZ7 hX7 ho27 hg27 hall
      go_wp2
      refine bodyPost_ret (v := .tuple #[.agg #[.slice A1 t.us.length c1, .slice A2 t.bs.length c2, .slice A3 t.ns.length c3], .string y]) (by simp [results, Try.results53, go_sem, r0', r1', r2']) rfl ?_
      exact ⟨_, t, y, rfl, (hT8.out.set3 hX8.out).mono (by simp), hsm.out, hys, grown_set (grown_set (grown_set hG8.out (Nat.le_refl _) _) (Nat.le_refl _) _) (Nat.le_refl _) _⟩

/-- A tongue and a word are drawn. -/
def DrawnWorded (w : World) (e : Ending) (w' : World) : Prop := ∃ v t x, e = .returned (.tuple #[v, .string x]) ∧ OwnTng w' w.heap.size v t ∧ SmallT 40 t ∧ x.size ≤ 16 ∧ Below w.heap.size w w'

set_option maxRecDepth 100000 in
set_option maxHeartbeats 2000000 in
theorem drawUnitOf_any (A : Option Addr) (n c : Nat) (xs : List Int) (w : World) (h : Ints w .u8 A n c xs) (hn : n ≤ 1048576) (hwf : ∀ x ∈ xs, (Lit.int .u8 x).wf = true) (hc : c ≤ maxLen) :
    Calls Try.prog 22 #[.slice A n c] w (DrawnWorded w) := by
  have hB0 : Below w.heap.size w (w.alloc zeroTng) := (Below.refl _ _).alloc (Nat.le_refl _) _
  have HO := Lib.hid (open_any A n c xs (w.alloc zeroTng) (h.below hB0 (Nat.le_refl _)) hn hwf hc)
  have HB0 := Lib.hid hB0
  have HX := Lib.hid (Blk.new w 30 #[.slice none 0 0, .slice none 0 0, .slice none 0 0])
  clear h hwf hc hB0
  go_enter Try.func22, Try.ntmps22
  go_wp2_with (fail)
  refine HO.out.mono ?_
  rintro e w1 ⟨rfl, hr, hb, -⟩
  have hX1 := Lib.hid (HX.out.below hb (by simp))
  have hB1 := Lib.hid (HB0.out.trans (hb.mono (by simp)))
  have hs1 := hb.size
  simp only [World.size_alloc] at hs1
  rw [World.size_alloc] at hr
  clear hb HO
  go_wp2_with (fail)
  refine (worded_any _ w1 hr).mono ?_
  rintro e w2 ⟨v, t, x, rfl, ho, hsm, hx, hg⟩
  obtain ⟨A1, c1, A2, c2, A3, c3, rfl⟩ := ho.shape
  have hX2 : Blk w2 w.heap.size 30 #[.slice none 0 0, .slice none 0 0, .slice none 0 0] := hX1.out.grown hg (by simp)
  have hB2 := below_read hB1.out hg (by omega) (by simp)
  obtain ⟨r0, r1, r2, f0, f1, f2⟩ := blk3 hX2
  have HF := fun u0 u1 u2 => ho.set3 (u0 := u0) (u1 := u1) (u2 := u2) hX2
  replace HF := Lib.hid HF
  replace hB2 := Lib.hid hB2
  replace hsm := Lib.hid hsm
  clear hr hg ho hX2
  go_wp2
  refine bodyPost_ret (v := .tuple #[.agg #[.slice A1 t.us.length c1, .slice A2 t.bs.length c2, .slice A3 t.ns.length c3], .string x]) (by simp [results, Try.results22, go_sem, r0, r1, r2]) rfl ?_
  exact ⟨_, t, x, rfl, (HF.out _ _ _).mono (by omega), hsm.out, hx, below_tng3 hB2.out (Nat.le_refl _)⟩

set_option maxRecDepth 100000 in
set_option maxHeartbeats 2000000 in
theorem drawBaseOf_any (A : Option Addr) (n c : Nat) (xs : List Int) (w : World) (h : Ints w .u8 A n c xs) (hn : n ≤ 1048576) (hwf : ∀ x ∈ xs, (Lit.int .u8 x).wf = true) (hc : c ≤ maxLen) :
    Calls Try.prog 26 #[.slice A n c] w (DrawnWorded w) := by
  have hB0 : Below w.heap.size w (w.alloc zeroTng) := (Below.refl _ _).alloc (Nat.le_refl _) _
  have HO := Lib.hid (open_any A n c xs (w.alloc zeroTng) (h.below hB0 (Nat.le_refl _)) hn hwf hc)
  have HB0 := Lib.hid hB0
  have HX := Lib.hid (Blk.new w 30 #[.slice none 0 0, .slice none 0 0, .slice none 0 0])
  clear h hwf hc hB0
  go_enter Try.func26, Try.ntmps26
  go_wp2_with (fail)
  refine HO.out.mono ?_
  rintro e w1 ⟨rfl, hr, hb, -⟩
  have hX1 := Lib.hid (HX.out.below hb (by simp))
  have hB1 := Lib.hid (HB0.out.trans (hb.mono (by simp)))
  have hs1 := hb.size
  simp only [World.size_alloc] at hs1
  rw [World.size_alloc] at hr
  clear hb HO
  go_wp2_with (fail)
  refine (worded_any _ w1 hr).mono ?_
  rintro e w2 ⟨v, t, x, rfl, ho, hsm, hx, hg⟩
  obtain ⟨A1, c1, A2, c2, A3, c3, rfl⟩ := ho.shape
  have hX2 : Blk w2 w.heap.size 30 #[.slice none 0 0, .slice none 0 0, .slice none 0 0] := hX1.out.grown hg (by simp)
  have hB2 := below_read hB1.out hg (by omega) (by simp)
  obtain ⟨r0, r1, r2, f0, f1, f2⟩ := blk3 hX2
  have HF := fun u0 u1 u2 => ho.set3 (u0 := u0) (u1 := u1) (u2 := u2) hX2
  replace HF := Lib.hid HF
  replace hB2 := Lib.hid hB2
  replace hsm := Lib.hid hsm
  clear hr hg ho hX2
  go_wp2
  refine bodyPost_ret (v := .tuple #[.agg #[.slice A1 t.us.length c1, .slice A2 t.bs.length c2, .slice A3 t.ns.length c3], .string x]) (by simp [results, Try.results26, go_sem, r0, r1, r2]) rfl ?_
  exact ⟨_, t, x, rfl, (HF.out _ _ _).mono (by omega), hsm.out, hx, below_tng3 hB2.out (Nat.le_refl _)⟩
end Go.Proofs.Ytdmldgikfjgmhaa
