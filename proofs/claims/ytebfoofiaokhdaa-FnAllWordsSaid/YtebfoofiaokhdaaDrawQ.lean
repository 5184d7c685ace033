/-
  The draws of chapter 10.
-/
import Derived.Test.YtebfoofiaokhdaaGD
import Derived.Test.YtebfoofiaokhdaaInv
namespace Go.Proofs.Ytebfoofiaokhdaa
open Go.RowKit

theorem cnt_set {l : Array Bool} {i : Nat} (h : i < l.size) (hu : l.getD i false = false) : (l.setIfInBounds i true).toList.count false + 1 = l.toList.count false := by
  have e : l.getD i false = l.toList[i] := by simp [Array.getD, h]
  rw [e] at hu
  have := count_set_true (l := l.toList) (i := i) (by simpa using h) hu
  rw [Array.toList_setIfInBounds]
  exact this
/-- A literal's block of three numbers, apart from the reader and from the result. -/
structure QLit (w : World) (g d p : Nat) : Prop where
  blk : ∃ a b c : Int, (0 ≤ a ∧ a ≤ 3001) ∧ (0 ≤ b ∧ b ≤ 3001) ∧ (0 ≤ c ∧ c ≤ 3001) ∧ Blk w p 3 #[.int .i64 a, .int .i64 b, .int .i64 c]
  ng : p ≠ g
  nd : p ≠ d
/-- While the results are gathered: the reader, the result's own block (filled or not yet), the tongue (drawn or not yet). -/
structure QW (w0 : World) (l : Array Bool) (i1 iS : Nat) (u0 u1 u2 : Value) (t : Tg) (w : World) : Prop where
  rd : ∃ q, Rd w (w0.heap.size + 1) q ∧ q + l.toList.count false ≤ (if l.getD i1 false = true then 2000 else 100)
  hz : l.getD iS false = false → Blk w w0.heap.size 26 #[.slice none 0 0, .slice none 0 0, .slice none 0 0]
  hs : l.getD iS false = true → l.getD i1 false = true ∧ Blk w w0.heap.size 26 #[u0, u1, u2]
  own : l.getD i1 false = true → OwnTng w (w0.heap.size + 2) (.agg #[u0, u1, u2]) t ∧ SmallT 40 t
  sh : l.getD i1 false = true → (∃ A n c, u0 = .slice A n c) ∧ (∃ A n c, u1 = .slice A n c) ∧ (∃ A n c, u2 = .slice A n c)
  low : Below w0.heap.size w0 w
section
variable {w0 w w' : World} {g d p i i1 iS q : Nat} {u0 u1 u2 : Value} {t : Tg} {l : Array Bool}
theorem QLit.al (h : QLit w g d p) (o : Obj) : QLit (w.alloc o) g d p := ⟨let ⟨a, b, c, ha, hb, hc, hh⟩ := h.blk; ⟨a, b, c, ha, hb, hc, hh.alloc o⟩, h.ng, h.nd⟩
theorem QLit.pick (h : QLit w g d p) (hg : w.grownBy w' (some g)) : QLit w' g d p := ⟨let ⟨a, b, c, ha, hb, hc, hh⟩ := h.blk; ⟨a, b, c, ha, hb, hc, hh.grown hg (by simpa using h.ng)⟩, h.ng, h.nd⟩
theorem QLit.set3 (h : QLit w g d p) (u0 u1 u2 : Value) : QLit (((w.setCell ⟨d, 0, none⟩ u0).setCell ⟨d, 1, none⟩ u1).setCell ⟨d, 2, none⟩ u2) g d p :=
  ⟨let ⟨a, b, c, ha, hb, hc, hh⟩ := h.blk; ⟨a, b, c, ha, hb, hc, ((hh.far (p := ⟨d, 0, none⟩) h.nd u0).far (p := ⟨d, 1, none⟩) h.nd u1).far (p := ⟨d, 2, none⟩) h.nd u2⟩, h.ng, h.nd⟩
theorem QLit.at_ (h : QLit w g d p) (k : Nat) (hk : k < 3) : ∃ y : Int, (0 ≤ y ∧ y ≤ 3001) ∧ w.cell? ⟨p, k, none⟩ = some (.int .i64 y) := by
  obtain ⟨a, b, c, ha, hb, hc, hh⟩ := h.blk
  obtain rfl | rfl | rfl : k = 0 ∨ k = 1 ∨ k = 2 := by omega
  · exact ⟨a, ha, (hh.cell 0).trans rfl⟩
  · exact ⟨b, hb, (hh.cell 1).trans rfl⟩
  · exact ⟨c, hc, (hh.cell 2).trans rfl⟩
theorem rd_apart {w w' : World} {g p d : Nat} (h : Rd w g p) (hx : Blk w d 26 #[.slice none 0 0, .slice none 0 0, .slice none 0 0]) (hne : g ≠ d) (hk : ∀ k, k ≠ d → w'.heap[k]? = w.heap[k]?) (hs : w.heap.size ≤ w'.heap.size) : Rd w' g p := by
  obtain ⟨A, n, c, xs, hb, hi, hn, hx', ha⟩ := h.ex
  refine ⟨A, n, c, xs, (hk g hne).trans hb, ⟨hi.len, hi.le, fun hn0 => ?_⟩, hn, hx', ha⟩
  obtain ⟨b, o, e, hlt, hc⟩ := hi.at_ hn0
  have hbd : b ≠ d := by
    rintro rfl
    have h0 := hc 0 hn0
    rw [hx.cell] at h0
    obtain ⟨h3, he⟩ := Array.getElem?_eq_some_iff.1 h0
    have h3' : o + 0 < 3 := by simpa using h3
    obtain h | h | h : o = 0 ∨ o = 1 ∨ o = 2 := by omega
    all_goals
      subst h
      cases he
  exact ⟨b, o, e, by omega, fun j hj => (World.cell?_of_block (a := ⟨b, o + j, none⟩) (w := w) (hk b hbd)).trans (hc j hj)⟩
theorem QW.gt (h : QW w0 l i1 iS u0 u1 u2 t w) : w0.heap.size + 1 < w.heap.size := by obtain ⟨q, hr, -⟩ := h.rd; exact hr.lt
theorem QW.other (h : QW w0 l i1 iS u0 u1 u2 t w) (hi : i < l.size) (hu : l.getD i false = false) (h1 : i1 ≠ i) (hS : iS ≠ i) : QW w0 (l.setIfInBounds i true) i1 iS u0 u1 u2 t w := by
  obtain ⟨q, hr, hq⟩ := h.rd
  have hc := cnt_set hi hu
  exact ⟨⟨q, hr, by rw [listed_same h1]; omega⟩, by rw [listed_same hS]; exact h.hz, by rw [listed_same hS, listed_same h1]; exact h.hs, by rw [listed_same h1]; exact h.own, by rw [listed_same h1]; exact h.sh, h.low⟩
theorem QW.al (h : QW w0 l i1 iS u0 u1 u2 t w) (o : Obj) : QW w0 l i1 iS u0 u1 u2 t (w.alloc o) := by
  obtain ⟨q, hr, hq⟩ := h.rd
  have hb := (Below.refl w.heap.size w).alloc (Nat.le_refl _) o
  exact ⟨⟨q, hr.alloc' o, hq⟩, fun e => (h.hz e).alloc o, fun e => ⟨(h.hs e).1, (h.hs e).2.alloc o⟩, fun e => ⟨(h.own e).1.below hb (Nat.le_refl _), (h.own e).2⟩, h.sh, h.low.alloc h.low.size o⟩
theorem QW.pick (h : QW w0 l i1 iS u0 u1 u2 t w) (hi : i < l.size) (hu : l.getD i false = false) (h1 : i1 ≠ i) (hS : iS ≠ i) (hg : w.grownBy w' (some (w0.heap.size + 1)))
    (hr : Rd w' (w0.heap.size + 1) (q + 1)) (hq : q + l.toList.count false ≤ (if l.getD i1 false = true then 2000 else 100)) : QW w0 (l.setIfInBounds i true) i1 iS u0 u1 u2 t w' := by
  have hc := cnt_set hi hu
  refine ⟨⟨q + 1, hr, by rw [listed_same h1]; omega⟩, ?_, ?_, ?_, by rw [listed_same h1]; exact h.sh, below_read h.low hg h.low.size (by omega)⟩
  · rw [listed_same hS]; exact fun e => (h.hz e).grown hg (by simp)
  · rw [listed_same hS, listed_same h1]; exact fun e => ⟨(h.hs e).1, (h.hs e).2.grown hg (by simp)⟩
  · rw [listed_same h1]; exact fun e => ⟨(h.own e).1.kept hg (by omega), (h.own e).2⟩
theorem QW.tongue {B1 B2 B3 : Option Addr} {n1 n2 n3 d1 d2 d3 : Nat} {t' : Tg} (h : QW w0 l i1 iS u0 u1 u2 t w) (hi : i1 < l.size) (hu : l.getD i1 false = false) (hS : iS ≠ i1) (hl : l.size ≤ 30) (hg : w.grownBy w' (some (w0.heap.size + 1)))
    (hr : Rd w' (w0.heap.size + 1) q) (hq : q ≤ 1000) (ho : OwnTng w' w.heap.size (.agg #[.slice B1 n1 d1, .slice B2 n2 d2, .slice B3 n3 d3]) t') (hsm : SmallT 40 t') : QW w0 (l.setIfInBounds i1 true) i1 iS (.slice B1 n1 d1) (.slice B2 n2 d2) (.slice B3 n3 d3) t' w' := by
  have hc := cnt_set hi hu
  have hcl : l.toList.count false ≤ 30 := Nat.le_trans List.count_le_length (by simpa using hl)
  refine ⟨⟨q, hr, by rw [listed_at hi, if_pos rfl]; omega⟩, ?_, ?_, fun _ => ⟨ho.mono (by have := h.gt; omega), hsm⟩, fun _ => ⟨⟨_, _, _, rfl⟩, ⟨_, _, _, rfl⟩, ⟨_, _, _, rfl⟩⟩, below_read h.low hg h.low.size (by omega)⟩
  · rw [listed_same hS]; exact fun e => (h.hz e).grown hg (by simp)
  · rw [listed_same hS]; intro e; have := (h.hs e).1; rw [hu] at this; cases this
theorem QW.set3 (h : QW w0 l i1 iS u0 u1 u2 t w) (hi : iS < l.size) (hu : l.getD iS false = false) (hS : i1 ≠ iS) (h1 : l.getD i1 false = true) :
    QW w0 (l.setIfInBounds iS true) i1 iS u0 u1 u2 t (((w.setCell ⟨w0.heap.size, 0, none⟩ u0).setCell ⟨w0.heap.size, 1, none⟩ u1).setCell ⟨w0.heap.size, 2, none⟩ u2) := by
  obtain ⟨q, hr, hq⟩ := h.rd
  have hc := cnt_set hi hu
  have hx := h.hz hu
  have hk : ∀ k, k ≠ w0.heap.size → (((w.setCell ⟨w0.heap.size, 0, none⟩ u0).setCell ⟨w0.heap.size, 1, none⟩ u1).setCell ⟨w0.heap.size, 2, none⟩ u2).heap[k]? = w.heap[k]? := fun k hk =>
    (Below.heap_setCell _ ⟨w0.heap.size, 2, none⟩ u2 k hk).trans ((Below.heap_setCell _ ⟨w0.heap.size, 1, none⟩ u1 k hk).trans (Below.heap_setCell _ ⟨w0.heap.size, 0, none⟩ u0 k hk))
  exact ⟨⟨q, rd_apart hr hx (by omega) hk (by simp), by rw [listed_same hS]; omega⟩, (fun e => by rw [listed_at hi] at e; cases e), fun _ => ⟨by rw [listed_same hS]; exact h1, ((hx.set_ 0 u0).set_ 1 u1).set_ 2 u2⟩, fun _ => ⟨(h.own h1).1.set3 hx, (h.own h1).2⟩, fun _ => h.sh h1, below_tng3 h.low (Nat.le_refl _)⟩
end

/-- A tongue and a number up to 3001 are drawn. -/
def DrawnQ (w : World) (e : Ending) (w' : World) : Prop := ∃ v t n, e = .returned (.tuple #[v, .int .i64 n]) ∧ OwnTng w' w.heap.size v t ∧ SmallT 40 t ∧ (0 ≤ n ∧ n ≤ 3001) ∧ Below w.heap.size w w'
/-- A tongue and two numbers are drawn. -/
def DrawnQ2 (w : World) (e : Ending) (w' : World) : Prop := ∃ v t n m, e = .returned (.tuple #[v, .int .i64 n, .int .i64 m]) ∧ OwnTng w' w.heap.size v t ∧ SmallT 40 t ∧ (0 ≤ n ∧ n ≤ 3001) ∧ (0 ≤ m ∧ m ≤ 5) ∧ Below w.heap.size w w'

set_option maxRecDepth 100000 in
set_option maxHeartbeats 8000000 in
theorem drawLeastOf_any (A : Option Addr) (n c : Nat) (xs : List Int) (w : World) (h : Ints w .u8 A n c xs) (hn : n ≤ 1048576) (hwf : ∀ x ∈ xs, (Lit.int .u8 x).wf = true) (hc : c ≤ maxLen) :
    Calls Try.prog 16 #[.slice A n c] w (DrawnQ w) := by
  have hB0 : Below w.heap.size w (w.alloc zeroTng) := (Below.refl _ _).alloc (Nat.le_refl _) _
  have HO := Lib.hid (open_any A n c xs (w.alloc zeroTng) (h.below hB0 (Nat.le_refl _)) hn hwf hc)
  have HB0 := Lib.hid hB0
  have HX := Lib.hid (Blk.new w 26 #[.slice none 0 0, .slice none 0 0, .slice none 0 0])
  clear h hwf hc hB0
  go_enter Try.func16, Try.ntmps16
  go_wp2_with (fail)
  refine HO.out.mono ?_
  rintro e w1 ⟨rfl, hr, hb, -⟩
  have hX1 := Lib.hid (HX.out.below hb (by simp))
  have hB1 := Lib.hid (HB0.out.trans (hb.mono (by simp)))
  have hs1 := hb.size
  simp only [World.size_alloc] at hs1
  rw [World.size_alloc] at hr
  clear hb HO
  go_wp2_with (fail)
  refine (drawn_any _ 0 12 w1 hr (by omega) (by omega) (by omega)).mono ?_
  rintro e w2 ⟨v, t, q, rfl, ho, hsm, hr2, hq, hg⟩
  obtain ⟨A1, c1, A2, c2, A3, c3, rfl⟩ := ho.shape
  have hgl := hr.lt
  replace ho := Lib.hid ho
  replace hsm := Lib.hid hsm
  replace hg := Lib.hid hg
  clear hr
  go_wp2_with (fail)
  refine (pick_any _ q 7 w2 hr2 (by omega) (by omega) (by omega)).mono ?_
  rintro e w3 ⟨k3, rfl, hk3, hr3, hg3, -⟩
  have a3 : 0 ≤ k3 := hk3.1
  have b3 : k3 < 7 := by omega
  have hgg := hg.out.trans hg3
  have hX2 : Blk w3 w.heap.size 26 #[.slice none 0 0, .slice none 0 0, .slice none 0 0] := hX1.out.grown hgg (by simp)
  have hB2 := below_read hB1.out hgg (by omega) (by simp)
  have ho5 := ho.out.kept hg3 hgl
  obtain ⟨r0, r1, r2, f0, f1, f2⟩ := blk3 hX2
  have HF := fun u0 u1 u2 => ho5.set3 (u0 := u0) (u1 := u1) (u2 := u2) hX2
  replace HF := Lib.hid HF
  replace hB2 := Lib.hid hB2
  clear hr2 hr3 hg3 hgg hg ho ho5 hX2 hk3 hX1 hB1 HX HB0
  go_wp2
  refine bodyPost_ret (v := .tuple #[(.agg #[.slice A1 t.us.length c1, .slice A2 t.bs.length c2, .slice A3 t.ns.length c3]), .int .i64 k3]) (by simp [results, Try.results16, go_sem, r0, r1, r2]) rfl ?_
  exact ⟨_, t, _, rfl, (HF.out _ _ _).mono (by omega), hsm.out, by omega, below_tng3 hB2.out (Nat.le_refl _)⟩

/-- What is known of the operations that have come up. -/
structure DMostWords (g d : Nat) (u0 u1 u2 : Value) (l : Array Bool) (w : World) (s3 s7 s8 s9 s10 s11 s12 s13 s14 s15 s16 s17 s18 : Value) : Prop where
  f0 : l.getD 0 false = true → s7 = .pointer (some ⟨g, 0, none⟩)
  f1 : l.getD 1 false = true → s8 = .agg #[u0, u1, u2]
  f2 : l.getD 2 false = true → s9 = .pointer (some ⟨g, 0, none⟩)
  f3 : l.getD 3 false = true → ∃ y : Int, (0 ≤ y ∧ y < 40) ∧ s10 = .int .i64 y
  f4 : l.getD 4 false = true → s11 = .pointer (some ⟨g, 0, none⟩)
  f5 : l.getD 5 false = true → ∃ y : Int, (0 ≤ y ∧ y < 250) ∧ s12 = .int .i64 y
  f6 : l.getD 6 false = true → ∃ p, s13 = .slice (some ⟨p, 0, none⟩) 3 3 ∧ QLit w g d p
  f7 : l.getD 7 false = true → s14 = .pointer (some ⟨g, 0, none⟩)
  f8 : l.getD 8 false = true → ∃ y : Int, (0 ≤ y ∧ y < 9) ∧ s15 = .int .i64 y
  f9 : l.getD 9 false = true → ∃ k : Nat, k < 3 ∧ s16 = .int .i64 k
  f10 : l.getD 10 false = true → ∃ p k : Nat, k < 3 ∧ s17 = .pointer (some ⟨p, k, none⟩) ∧ QLit w g d p
  f11 : l.getD 11 false = true → ∃ y : Int, (0 ≤ y ∧ y ≤ 3001) ∧ s18 = .int .i64 y
  f13 : l.getD 13 false = true → ∃ y : Int, (0 ≤ y ∧ y ≤ 3001) ∧ s3 = .int .i64 y
section
variable {g d : Nat} {u0 u1 u2 v0 v1 v2 : Value} {l : Array Bool} {w w' : World} {s3 s7 s8 s9 s10 s11 s12 s13 s14 s15 s16 s17 s18 : Value}
theorem DMostWords.world (h : DMostWords g d u0 u1 u2 l w s3 s7 s8 s9 s10 s11 s12 s13 s14 s15 s16 s17 s18) (hm : ∀ p, QLit w g d p → QLit w' g d p) : DMostWords g d u0 u1 u2 l w' s3 s7 s8 s9 s10 s11 s12 s13 s14 s15 s16 s17 s18 :=
  ⟨h.f0, h.f1, h.f2, h.f3, h.f4, h.f5, fun h' => let ⟨p, e, hl⟩ := h.f6 h'; ⟨p, e, hm _ hl⟩, h.f7, h.f8, h.f9, fun h' => let ⟨p, k, hk, e, hl⟩ := h.f10 h'; ⟨p, k, hk, e, hm _ hl⟩, h.f11, h.f13⟩
theorem DMostWords.up0 {v : Value} (h : DMostWords g d u0 u1 u2 l w s3 s7 s8 s9 s10 s11 s12 s13 s14 s15 s16 s17 s18) (hv : v = .pointer (some ⟨g, 0, none⟩)) : DMostWords g d u0 u1 u2 (l.setIfInBounds 0 true) w s3 v s8 s9 s10 s11 s12 s13 s14 s15 s16 s17 s18 :=
  ⟨fun _ => hv, fun h' => h.f1 (listed_set h' (by decide)), fun h' => h.f2 (listed_set h' (by decide)), fun h' => h.f3 (listed_set h' (by decide)), fun h' => h.f4 (listed_set h' (by decide)), fun h' => h.f5 (listed_set h' (by decide)), fun h' => h.f6 (listed_set h' (by decide)), fun h' => h.f7 (listed_set h' (by decide)), fun h' => h.f8 (listed_set h' (by decide)), fun h' => h.f9 (listed_set h' (by decide)), fun h' => h.f10 (listed_set h' (by decide)), fun h' => h.f11 (listed_set h' (by decide)), fun h' => h.f13 (listed_set h' (by decide))⟩
theorem DMostWords.up1 (h : DMostWords g d u0 u1 u2 l w s3 s7 s8 s9 s10 s11 s12 s13 s14 s15 s16 s17 s18) : DMostWords g d v0 v1 v2 (l.setIfInBounds 1 true) w s3 s7 (.agg #[v0, v1, v2]) s9 s10 s11 s12 s13 s14 s15 s16 s17 s18 :=
  ⟨fun h' => h.f0 (listed_set h' (by decide)), fun _ => rfl, fun h' => h.f2 (listed_set h' (by decide)), fun h' => h.f3 (listed_set h' (by decide)), fun h' => h.f4 (listed_set h' (by decide)), fun h' => h.f5 (listed_set h' (by decide)), fun h' => h.f6 (listed_set h' (by decide)), fun h' => h.f7 (listed_set h' (by decide)), fun h' => h.f8 (listed_set h' (by decide)), fun h' => h.f9 (listed_set h' (by decide)), fun h' => h.f10 (listed_set h' (by decide)), fun h' => h.f11 (listed_set h' (by decide)), fun h' => h.f13 (listed_set h' (by decide))⟩
theorem DMostWords.up2 {v : Value} (h : DMostWords g d u0 u1 u2 l w s3 s7 s8 s9 s10 s11 s12 s13 s14 s15 s16 s17 s18) (hv : v = .pointer (some ⟨g, 0, none⟩)) : DMostWords g d u0 u1 u2 (l.setIfInBounds 2 true) w s3 s7 s8 v s10 s11 s12 s13 s14 s15 s16 s17 s18 :=
  ⟨fun h' => h.f0 (listed_set h' (by decide)), fun h' => h.f1 (listed_set h' (by decide)), fun _ => hv, fun h' => h.f3 (listed_set h' (by decide)), fun h' => h.f4 (listed_set h' (by decide)), fun h' => h.f5 (listed_set h' (by decide)), fun h' => h.f6 (listed_set h' (by decide)), fun h' => h.f7 (listed_set h' (by decide)), fun h' => h.f8 (listed_set h' (by decide)), fun h' => h.f9 (listed_set h' (by decide)), fun h' => h.f10 (listed_set h' (by decide)), fun h' => h.f11 (listed_set h' (by decide)), fun h' => h.f13 (listed_set h' (by decide))⟩
theorem DMostWords.up3 {v : Value} (h : DMostWords g d u0 u1 u2 l w s3 s7 s8 s9 s10 s11 s12 s13 s14 s15 s16 s17 s18) (hv : ∃ y : Int, (0 ≤ y ∧ y < 40) ∧ v = .int .i64 y) : DMostWords g d u0 u1 u2 (l.setIfInBounds 3 true) w s3 s7 s8 s9 v s11 s12 s13 s14 s15 s16 s17 s18 :=
  ⟨fun h' => h.f0 (listed_set h' (by decide)), fun h' => h.f1 (listed_set h' (by decide)), fun h' => h.f2 (listed_set h' (by decide)), fun _ => hv, fun h' => h.f4 (listed_set h' (by decide)), fun h' => h.f5 (listed_set h' (by decide)), fun h' => h.f6 (listed_set h' (by decide)), fun h' => h.f7 (listed_set h' (by decide)), fun h' => h.f8 (listed_set h' (by decide)), fun h' => h.f9 (listed_set h' (by decide)), fun h' => h.f10 (listed_set h' (by decide)), fun h' => h.f11 (listed_set h' (by decide)), fun h' => h.f13 (listed_set h' (by decide))⟩
theorem DMostWords.up4 {v : Value} (h : DMostWords g d u0 u1 u2 l w s3 s7 s8 s9 s10 s11 s12 s13 s14 s15 s16 s17 s18) (hv : v = .pointer (some ⟨g, 0, none⟩)) : DMostWords g d u0 u1 u2 (l.setIfInBounds 4 true) w s3 s7 s8 s9 s10 v s12 s13 s14 s15 s16 s17 s18 :=
  ⟨fun h' => h.f0 (listed_set h' (by decide)), fun h' => h.f1 (listed_set h' (by decide)), fun h' => h.f2 (listed_set h' (by decide)), fun h' => h.f3 (listed_set h' (by decide)), fun _ => hv, fun h' => h.f5 (listed_set h' (by decide)), fun h' => h.f6 (listed_set h' (by decide)), fun h' => h.f7 (listed_set h' (by decide)), fun h' => h.f8 (listed_set h' (by decide)), fun h' => h.f9 (listed_set h' (by decide)), fun h' => h.f10 (listed_set h' (by decide)), fun h' => h.f11 (listed_set h' (by decide)), fun h' => h.f13 (listed_set h' (by decide))⟩
theorem DMostWords.up5 {v : Value} (h : DMostWords g d u0 u1 u2 l w s3 s7 s8 s9 s10 s11 s12 s13 s14 s15 s16 s17 s18) (hv : ∃ y : Int, (0 ≤ y ∧ y < 250) ∧ v = .int .i64 y) : DMostWords g d u0 u1 u2 (l.setIfInBounds 5 true) w s3 s7 s8 s9 s10 s11 v s13 s14 s15 s16 s17 s18 :=
  ⟨fun h' => h.f0 (listed_set h' (by decide)), fun h' => h.f1 (listed_set h' (by decide)), fun h' => h.f2 (listed_set h' (by decide)), fun h' => h.f3 (listed_set h' (by decide)), fun h' => h.f4 (listed_set h' (by decide)), fun _ => hv, fun h' => h.f6 (listed_set h' (by decide)), fun h' => h.f7 (listed_set h' (by decide)), fun h' => h.f8 (listed_set h' (by decide)), fun h' => h.f9 (listed_set h' (by decide)), fun h' => h.f10 (listed_set h' (by decide)), fun h' => h.f11 (listed_set h' (by decide)), fun h' => h.f13 (listed_set h' (by decide))⟩
theorem DMostWords.up6 {v : Value} (h : DMostWords g d u0 u1 u2 l w s3 s7 s8 s9 s10 s11 s12 s13 s14 s15 s16 s17 s18) (hv : ∃ p, v = .slice (some ⟨p, 0, none⟩) 3 3 ∧ QLit w g d p) : DMostWords g d u0 u1 u2 (l.setIfInBounds 6 true) w s3 s7 s8 s9 s10 s11 s12 v s14 s15 s16 s17 s18 :=
  ⟨fun h' => h.f0 (listed_set h' (by decide)), fun h' => h.f1 (listed_set h' (by decide)), fun h' => h.f2 (listed_set h' (by decide)), fun h' => h.f3 (listed_set h' (by decide)), fun h' => h.f4 (listed_set h' (by decide)), fun h' => h.f5 (listed_set h' (by decide)), fun _ => hv, fun h' => h.f7 (listed_set h' (by decide)), fun h' => h.f8 (listed_set h' (by decide)), fun h' => h.f9 (listed_set h' (by decide)), fun h' => h.f10 (listed_set h' (by decide)), fun h' => h.f11 (listed_set h' (by decide)), fun h' => h.f13 (listed_set h' (by decide))⟩
theorem DMostWords.up7 {v : Value} (h : DMostWords g d u0 u1 u2 l w s3 s7 s8 s9 s10 s11 s12 s13 s14 s15 s16 s17 s18) (hv : v = .pointer (some ⟨g, 0, none⟩)) : DMostWords g d u0 u1 u2 (l.setIfInBounds 7 true) w s3 s7 s8 s9 s10 s11 s12 s13 v s15 s16 s17 s18 :=
  ⟨fun h' => h.f0 (listed_set h' (by decide)), fun h' => h.f1 (listed_set h' (by decide)), fun h' => h.f2 (listed_set h' (by decide)), fun h' => h.f3 (listed_set h' (by decide)), fun h' => h.f4 (listed_set h' (by decide)), fun h' => h.f5 (listed_set h' (by decide)), fun h' => h.f6 (listed_set h' (by decide)), fun _ => hv, fun h' => h.f8 (listed_set h' (by decide)), fun h' => h.f9 (listed_set h' (by decide)), fun h' => h.f10 (listed_set h' (by decide)), fun h' => h.f11 (listed_set h' (by decide)), fun h' => h.f13 (listed_set h' (by decide))⟩
theorem DMostWords.up8 {v : Value} (h : DMostWords g d u0 u1 u2 l w s3 s7 s8 s9 s10 s11 s12 s13 s14 s15 s16 s17 s18) (hv : ∃ y : Int, (0 ≤ y ∧ y < 9) ∧ v = .int .i64 y) : DMostWords g d u0 u1 u2 (l.setIfInBounds 8 true) w s3 s7 s8 s9 s10 s11 s12 s13 s14 v s16 s17 s18 :=
  ⟨fun h' => h.f0 (listed_set h' (by decide)), fun h' => h.f1 (listed_set h' (by decide)), fun h' => h.f2 (listed_set h' (by decide)), fun h' => h.f3 (listed_set h' (by decide)), fun h' => h.f4 (listed_set h' (by decide)), fun h' => h.f5 (listed_set h' (by decide)), fun h' => h.f6 (listed_set h' (by decide)), fun h' => h.f7 (listed_set h' (by decide)), fun _ => hv, fun h' => h.f9 (listed_set h' (by decide)), fun h' => h.f10 (listed_set h' (by decide)), fun h' => h.f11 (listed_set h' (by decide)), fun h' => h.f13 (listed_set h' (by decide))⟩
theorem DMostWords.up9 {v : Value} (h : DMostWords g d u0 u1 u2 l w s3 s7 s8 s9 s10 s11 s12 s13 s14 s15 s16 s17 s18) (hv : ∃ k : Nat, k < 3 ∧ v = .int .i64 k) : DMostWords g d u0 u1 u2 (l.setIfInBounds 9 true) w s3 s7 s8 s9 s10 s11 s12 s13 s14 s15 v s17 s18 :=
  ⟨fun h' => h.f0 (listed_set h' (by decide)), fun h' => h.f1 (listed_set h' (by decide)), fun h' => h.f2 (listed_set h' (by decide)), fun h' => h.f3 (listed_set h' (by decide)), fun h' => h.f4 (listed_set h' (by decide)), fun h' => h.f5 (listed_set h' (by decide)), fun h' => h.f6 (listed_set h' (by decide)), fun h' => h.f7 (listed_set h' (by decide)), fun h' => h.f8 (listed_set h' (by decide)), fun _ => hv, fun h' => h.f10 (listed_set h' (by decide)), fun h' => h.f11 (listed_set h' (by decide)), fun h' => h.f13 (listed_set h' (by decide))⟩
theorem DMostWords.up10 {v : Value} (h : DMostWords g d u0 u1 u2 l w s3 s7 s8 s9 s10 s11 s12 s13 s14 s15 s16 s17 s18) (hv : ∃ p k : Nat, k < 3 ∧ v = .pointer (some ⟨p, k, none⟩) ∧ QLit w g d p) : DMostWords g d u0 u1 u2 (l.setIfInBounds 10 true) w s3 s7 s8 s9 s10 s11 s12 s13 s14 s15 s16 v s18 :=
  ⟨fun h' => h.f0 (listed_set h' (by decide)), fun h' => h.f1 (listed_set h' (by decide)), fun h' => h.f2 (listed_set h' (by decide)), fun h' => h.f3 (listed_set h' (by decide)), fun h' => h.f4 (listed_set h' (by decide)), fun h' => h.f5 (listed_set h' (by decide)), fun h' => h.f6 (listed_set h' (by decide)), fun h' => h.f7 (listed_set h' (by decide)), fun h' => h.f8 (listed_set h' (by decide)), fun h' => h.f9 (listed_set h' (by decide)), fun _ => hv, fun h' => h.f11 (listed_set h' (by decide)), fun h' => h.f13 (listed_set h' (by decide))⟩
theorem DMostWords.up11 {v : Value} (h : DMostWords g d u0 u1 u2 l w s3 s7 s8 s9 s10 s11 s12 s13 s14 s15 s16 s17 s18) (hv : ∃ y : Int, (0 ≤ y ∧ y ≤ 3001) ∧ v = .int .i64 y) : DMostWords g d u0 u1 u2 (l.setIfInBounds 11 true) w s3 s7 s8 s9 s10 s11 s12 s13 s14 s15 s16 s17 v :=
  ⟨fun h' => h.f0 (listed_set h' (by decide)), fun h' => h.f1 (listed_set h' (by decide)), fun h' => h.f2 (listed_set h' (by decide)), fun h' => h.f3 (listed_set h' (by decide)), fun h' => h.f4 (listed_set h' (by decide)), fun h' => h.f5 (listed_set h' (by decide)), fun h' => h.f6 (listed_set h' (by decide)), fun h' => h.f7 (listed_set h' (by decide)), fun h' => h.f8 (listed_set h' (by decide)), fun h' => h.f9 (listed_set h' (by decide)), fun h' => h.f10 (listed_set h' (by decide)), fun _ => hv, fun h' => h.f13 (listed_set h' (by decide))⟩
theorem DMostWords.up12 (h : DMostWords g d u0 u1 u2 l w s3 s7 s8 s9 s10 s11 s12 s13 s14 s15 s16 s17 s18) : DMostWords g d u0 u1 u2 (l.setIfInBounds 12 true) w s3 s7 s8 s9 s10 s11 s12 s13 s14 s15 s16 s17 s18 :=
  ⟨fun h' => h.f0 (listed_set h' (by decide)), fun h' => h.f1 (listed_set h' (by decide)), fun h' => h.f2 (listed_set h' (by decide)), fun h' => h.f3 (listed_set h' (by decide)), fun h' => h.f4 (listed_set h' (by decide)), fun h' => h.f5 (listed_set h' (by decide)), fun h' => h.f6 (listed_set h' (by decide)), fun h' => h.f7 (listed_set h' (by decide)), fun h' => h.f8 (listed_set h' (by decide)), fun h' => h.f9 (listed_set h' (by decide)), fun h' => h.f10 (listed_set h' (by decide)), fun h' => h.f11 (listed_set h' (by decide)), fun h' => h.f13 (listed_set h' (by decide))⟩
theorem DMostWords.up13 {v : Value} (h : DMostWords g d u0 u1 u2 l w s3 s7 s8 s9 s10 s11 s12 s13 s14 s15 s16 s17 s18) (hv : ∃ y : Int, (0 ≤ y ∧ y ≤ 3001) ∧ v = .int .i64 y) : DMostWords g d u0 u1 u2 (l.setIfInBounds 13 true) w v s7 s8 s9 s10 s11 s12 s13 s14 s15 s16 s17 s18 :=
  ⟨fun h' => h.f0 (listed_set h' (by decide)), fun h' => h.f1 (listed_set h' (by decide)), fun h' => h.f2 (listed_set h' (by decide)), fun h' => h.f3 (listed_set h' (by decide)), fun h' => h.f4 (listed_set h' (by decide)), fun h' => h.f5 (listed_set h' (by decide)), fun h' => h.f6 (listed_set h' (by decide)), fun h' => h.f7 (listed_set h' (by decide)), fun h' => h.f8 (listed_set h' (by decide)), fun h' => h.f9 (listed_set h' (by decide)), fun h' => h.f10 (listed_set h' (by decide)), fun h' => h.f11 (listed_set h' (by decide)), fun _ => hv⟩
end

set_option maxRecDepth 100000 in
set_option maxHeartbeats 8000000 in
theorem drawMostWords_any (A : Option Addr) (n c : Nat) (xs : List Int) (w : World) (h : Ints w .u8 A n c xs) (hn : n ≤ 1048576) (hwf : ∀ x ∈ xs, (Lit.int .u8 x).wf = true) (hc : c ≤ maxLen) :
    Calls Try.prog 26 #[.slice A n c] w (DrawnQ w) := by
  have hB0 : Below w.heap.size w (w.alloc zeroTng) := (Below.refl _ _).alloc (Nat.le_refl _) _
  have HO := Lib.hid (open_any A n c xs (w.alloc zeroTng) (h.below hB0 (Nat.le_refl _)) hn hwf hc)
  have HB0 := Lib.hid hB0
  have HX := Lib.hid (Blk.new w 26 #[.slice none 0 0, .slice none 0 0, .slice none 0 0])
  clear h hwf hc hB0
  go_enter Try.func26, Try.ntmps26
  go_wp2_with (fail)
  refine HO.out.mono ?_
  rintro e w1 ⟨rfl, hr, hb, -⟩
  have hX1 := Lib.hid (HX.out.below hb (by simp))
  have hB1 := Lib.hid (HB0.out.trans (hb.mono (by simp)))
  have hs1 := hb.size
  simp only [World.size_alloc] at hs1
  rw [World.size_alloc] at hr
  clear hb HO HX HB0
  go_upto_region 2 with (fail)
  refine wp_region_any (by kernel_rfl) ?_
  refine wpAny_inv (Inv := fun l a w' => ∃ (u0 u1 u2 : Value) (t : Tg) (s3 s7 s8 s9 s10 s11 s12 s13 s14 s15 s16 s17 s18 : Value), a = ⟨#[.slice A n c, undef, .pointer (some ⟨w.heap.size, 0, none⟩), s3, .pointer (some ⟨w.heap.size + 1, 0, none⟩), .slice A n c, .pointer (some ⟨w.heap.size + 1, 0, none⟩), s7, s8, s9, s10, s11, s12, s13, s14, s15, s16, s17, s18], []⟩ ∧ QW w l 1 12 u0 u1 u2 t w' ∧ DMostWords (w.heap.size + 1) w.heap.size u0 u1 u2 l w' s3 s7 s8 s9 s10 s11 s12 s13 s14 s15 s16 s17 s18) (ord_spec (by kernel_rfl)) ?_ ?_ _ _ _ _ rfl (by decide) ?_
  · rintro l a w' ⟨u0, u1, u2, t, s3, s7, s8, s9, s10, s11, s12, s13, s14, s15, s16, s17, s18, rfl, hAW, hF⟩ hsz hl
    have hl' : ∀ j, j < 14 → l.getD j false = true := hl
    obtain ⟨y3, hy3, e3⟩ := hF.f13 (hl' 13 (by decide))
    subst e3
    obtain ⟨r0, r1, r2, -, -, -⟩ := blk3 (hAW.hs (hl' 12 (by decide))).2
    obtain ⟨ho, hsm⟩ := hAW.own (hl' 1 (by decide))
    have HF : DrawnQ w (.returned (.tuple #[.agg #[u0, u1, u2], .int .i64 y3])) w' := ⟨_, t, _, rfl, ho.mono (by omega), hsm, by omega, hAW.low⟩
    replace HF := Lib.hid HF
    clear hAW hF hl hl' ho hsm hsz
    go_wp2
    refine bodyPost_ret (v := .tuple #[.agg #[u0, u1, u2], .int .i64 y3]) (by simp [results, Try.results26, go_sem, r0, r1, r2]) rfl ?_
    exact HF.out
  · rintro l a w' ⟨u0, u1, u2, t, s3, s7, s8, s9, s10, s11, s12, s13, s14, s15, s16, s17, s18, rfl, hAW, hF⟩ hsz i o hlt ho hun hall
    have hlt' : i < 14 := hlt
    refine wpOp_step ho (fun K' hK => ?_)
    replace hK := Lib.hid hK
    have hgt := hAW.gt
    obtain rfl | rfl | rfl | rfl | rfl | rfl | rfl | rfl | rfl | rfl | rfl | rfl | rfl | rfl : i = 0 ∨ i = 1 ∨ i = 2 ∨ i = 3 ∨ i = 4 ∨ i = 5 ∨ i = 6 ∨ i = 7 ∨ i = 8 ∨ i = 9 ∨ i = 10 ∨ i = 11 ∨ i = 12 ∨ i = 13 := by omega
    · simp only [List.getElem?_toArray, List.getElem?_cons_zero, Option.some.injEq] at ho
      subst ho
      replace hAW := Lib.hid hAW
      replace hF := Lib.hid hF
      clear hall
      go_simp
      refine hK.out _ _ ?_
      exact ⟨_, _, _, _, _, _, _, _, _, _, _, _, _, _, _, _, _, rfl, hAW.out.other (by rw [hsz]; decide) hun (by decide) (by decide), hF.out.up0 rfl⟩
    · simp only [List.getElem?_toArray, List.getElem?_cons_succ, List.getElem?_cons_zero, Option.some.injEq] at ho
      subst ho
      have e1 := hF.f0 (hall ⟨0, Ground.data⟩ (by simp) rfl)
      subst e1
      obtain ⟨q, hr', hq⟩ := hAW.rd
      rw [hun, if_neg (by decide)] at hq
      replace hAW := Lib.hid hAW
      replace hF := Lib.hid hF
      clear hall
      go_simp
      go_at_call 44
      refine (drawn_any (w.heap.size + 1) q 12 _ hr' (by omega) (by omega) (by omega)).mono ?_
      rintro e V ⟨v, t', q', rfl, ho', hsm, hr2, hq2, hg⟩
      obtain ⟨A1, c1, A2, c2, A3, c3, rfl⟩ := ho'.shape
      go_simp
      refine hK.out _ _ ?_
      exact ⟨_, _, _, _, _, _, _, _, _, _, _, _, _, _, _, _, _, rfl, hAW.out.tongue (by rw [hsz]; decide) hun (by decide) (by rw [hsz]; decide) hg hr2 (by omega) ho' hsm, (hF.out.world (fun _ hl => hl.pick hg)).up1⟩
    · simp only [List.getElem?_toArray, List.getElem?_cons_succ, List.getElem?_cons_zero, Option.some.injEq] at ho
      subst ho
      replace hAW := Lib.hid hAW
      replace hF := Lib.hid hF
      clear hall
      go_simp
      refine hK.out _ _ ?_
      exact ⟨_, _, _, _, _, _, _, _, _, _, _, _, _, _, _, _, _, rfl, hAW.out.other (by rw [hsz]; decide) hun (by decide) (by decide), hF.out.up2 rfl⟩
    · simp only [List.getElem?_toArray, List.getElem?_cons_succ, List.getElem?_cons_zero, Option.some.injEq] at ho
      subst ho
      have e1 := hF.f2 (hall ⟨2, Ground.data⟩ (by simp) rfl)
      subst e1
      obtain ⟨q, hr', hq⟩ := hAW.rd
      have hq3 : q ≤ 2000 := by split at hq <;> omega
      replace hAW := Lib.hid hAW
      replace hF := Lib.hid hF
      clear hall
      go_simp
      go_at_call 45
      refine (pick_any (w.heap.size + 1) q 40 _ hr' (by omega) (by omega) (by omega)).mono ?_
      rintro e V ⟨k, rfl, hk, hr2, hg, -⟩
      go_simp
      refine hK.out _ _ ?_
      exact ⟨_, _, _, _, _, _, _, _, _, _, _, _, _, _, _, _, _, rfl, hAW.out.pick (by rw [hsz]; decide) hun (by decide) (by decide) hg hr2 hq, (hF.out.world (fun _ hl => hl.pick hg)).up3 ⟨k, by omega, rfl⟩⟩
    · simp only [List.getElem?_toArray, List.getElem?_cons_succ, List.getElem?_cons_zero, Option.some.injEq] at ho
      subst ho
      replace hAW := Lib.hid hAW
      replace hF := Lib.hid hF
      clear hall
      go_simp
      refine hK.out _ _ ?_
      exact ⟨_, _, _, _, _, _, _, _, _, _, _, _, _, _, _, _, _, rfl, hAW.out.other (by rw [hsz]; decide) hun (by decide) (by decide), hF.out.up4 rfl⟩
    · simp only [List.getElem?_toArray, List.getElem?_cons_succ, List.getElem?_cons_zero, Option.some.injEq] at ho
      subst ho
      have e1 := hF.f4 (hall ⟨4, Ground.data⟩ (by simp) rfl)
      subst e1
      obtain ⟨q, hr', hq⟩ := hAW.rd
      have hq3 : q ≤ 2000 := by split at hq <;> omega
      replace hAW := Lib.hid hAW
      replace hF := Lib.hid hF
      clear hall
      go_simp
      go_at_call 45
      refine (pick_any (w.heap.size + 1) q 250 _ hr' (by omega) (by omega) (by omega)).mono ?_
      rintro e V ⟨k, rfl, hk, hr2, hg, -⟩
      go_simp
      refine hK.out _ _ ?_
      exact ⟨_, _, _, _, _, _, _, _, _, _, _, _, _, _, _, _, _, rfl, hAW.out.pick (by rw [hsz]; decide) hun (by decide) (by decide) hg hr2 hq, (hF.out.world (fun _ hl => hl.pick hg)).up5 ⟨k, by omega, rfl⟩⟩
    · simp only [List.getElem?_toArray, List.getElem?_cons_succ, List.getElem?_cons_zero, Option.some.injEq] at ho
      subst ho
      obtain ⟨a, ha, ea⟩ := hF.f3 (hall ⟨3, Ground.data⟩ (by simp) rfl)
      subst ea
      obtain ⟨b, hb, eb⟩ := hF.f5 (hall ⟨5, Ground.data⟩ (by simp) rfl)
      subst eb
      replace hAW := Lib.hid hAW
      replace hF := Lib.hid hF
      clear hall
      go_simp
      refine hK.out _ _ ?_
      exact ⟨_, _, _, _, _, _, _, _, _, _, _, _, _, _, _, _, _, rfl, (hAW.out.other (by rw [hsz]; decide) hun (by decide) (by decide)).al _, (hF.out.world (fun _ hl => hl.al _)).up6 ⟨_, rfl, ⟨a, b, 3001, by omega, by omega, by omega, Blk.new _ _ _⟩, by omega, by omega⟩⟩
    · simp only [List.getElem?_toArray, List.getElem?_cons_succ, List.getElem?_cons_zero, Option.some.injEq] at ho
      subst ho
      replace hAW := Lib.hid hAW
      replace hF := Lib.hid hF
      clear hall
      go_simp
      refine hK.out _ _ ?_
      exact ⟨_, _, _, _, _, _, _, _, _, _, _, _, _, _, _, _, _, rfl, hAW.out.other (by rw [hsz]; decide) hun (by decide) (by decide), hF.out.up7 rfl⟩
    · simp only [List.getElem?_toArray, List.getElem?_cons_succ, List.getElem?_cons_zero, Option.some.injEq] at ho
      subst ho
      have e1 := hF.f7 (hall ⟨7, Ground.data⟩ (by simp) rfl)
      subst e1
      obtain ⟨q, hr', hq⟩ := hAW.rd
      have hq3 : q ≤ 2000 := by split at hq <;> omega
      replace hAW := Lib.hid hAW
      replace hF := Lib.hid hF
      clear hall
      go_simp
      go_at_call 45
      refine (pick_any (w.heap.size + 1) q 9 _ hr' (by omega) (by omega) (by omega)).mono ?_
      rintro e V ⟨k, rfl, hk, hr2, hg, -⟩
      go_simp
      refine hK.out _ _ ?_
      exact ⟨_, _, _, _, _, _, _, _, _, _, _, _, _, _, _, _, _, rfl, hAW.out.pick (by rw [hsz]; decide) hun (by decide) (by decide) hg hr2 hq, (hF.out.world (fun _ hl => hl.pick hg)).up8 ⟨k, by omega, rfl⟩⟩
    · simp only [List.getElem?_toArray, List.getElem?_cons_succ, List.getElem?_cons_zero, Option.some.injEq] at ho
      subst ho
      obtain ⟨y, hy, e1⟩ := hF.f8 (hall ⟨8, Ground.data⟩ (by simp) rfl)
      subst e1
      obtain ⟨kk, hkk⟩ : ∃ kk : Nat, y / 4 = (kk : Int) := ⟨(y / 4).toNat, by omega⟩
      have t1 : y.tdiv 4 = (kk : Int) := by rw [Int.tdiv_eq_ediv_of_nonneg (by omega)]; exact hkk
      have t2 : IntKind.i64.wrap (kk : Int) = (kk : Int) := IntWalk.i64_in _ (by omega)
      replace hAW := Lib.hid hAW
      replace hF := Lib.hid hF
      clear hall
      go_simp
      refine hK.out _ _ ?_
      exact ⟨_, _, _, _, _, _, _, _, _, _, _, _, _, _, _, _, _, rfl, hAW.out.other (by rw [hsz]; decide) hun (by decide) (by decide), hF.out.up9 ⟨kk, by omega, rfl⟩⟩
    · simp only [List.getElem?_toArray, List.getElem?_cons_succ, List.getElem?_cons_zero, Option.some.injEq] at ho
      subst ho
      obtain ⟨p, e1, hl⟩ := hF.f6 (hall ⟨6, Ground.data⟩ (by simp) rfl)
      subst e1
      obtain ⟨k, hk, e2⟩ := hF.f9 (hall ⟨9, Ground.data⟩ (by simp) rfl)
      subst e2
      have k0 : (0 : Int) ≤ (k : Int) := by omega
      have k1 : (k : Int) < 3 := by omega
      replace hl := Lib.hid hl
      replace hAW := Lib.hid hAW
      replace hF := Lib.hid hF
      clear hall
      go_simp
      refine hK.out _ _ ?_
      exact ⟨_, _, _, _, _, _, _, _, _, _, _, _, _, _, _, _, _, rfl, hAW.out.other (by rw [hsz]; decide) hun (by decide) (by decide), hF.out.up10 ⟨p, k, hk, rfl, hl.out⟩⟩
    · simp only [List.getElem?_toArray, List.getElem?_cons_succ, List.getElem?_cons_zero, Option.some.injEq] at ho
      subst ho
      obtain ⟨p, k, hk, e1, hl⟩ := hF.f10 (hall ⟨10, Ground.data⟩ (by simp) rfl)
      subst e1
      obtain ⟨y, hy, ck⟩ := hl.at_ k hk
      replace hl := Lib.hid hl
      replace hAW := Lib.hid hAW
      replace hF := Lib.hid hF
      clear hall
      go_simp
      refine hK.out _ _ ?_
      exact ⟨_, _, _, _, _, _, _, _, _, _, _, _, _, _, _, _, _, rfl, hAW.out.other (by rw [hsz]; decide) hun (by decide) (by decide), hF.out.up11 ⟨y, hy, rfl⟩⟩
    · simp only [List.getElem?_toArray, List.getElem?_cons_succ, List.getElem?_cons_zero, Option.some.injEq] at ho
      subst ho
      have h1t := (hall ⟨1, Ground.data⟩ (by simp) rfl)
      have e1 := hF.f1 h1t
      subst e1
      have hAW2 := hAW.set3 (by rw [hsz]; decide) hun (by decide) h1t
      obtain ⟨r0, r1, r2, f0, f1, f2⟩ := blk3 (hAW.hz hun)
      obtain ⟨⟨C1, m1, k1, rfl⟩, ⟨C2, m2, k2, rfl⟩, ⟨C3, m3, k3, rfl⟩⟩ := hAW.sh h1t
      replace hAW2 := Lib.hid hAW2
      replace hAW := Lib.hid hAW
      replace hF := Lib.hid hF
      clear hall
      go_simp
      refine hK.out _ _ ?_
      exact ⟨_, _, _, _, _, _, _, _, _, _, _, _, _, _, _, _, _, rfl, hAW2.out, (hF.out.world (fun _ hl => hl.set3 _ _ _)).up12⟩
    · simp only [List.getElem?_toArray, List.getElem?_cons_succ, List.getElem?_cons_zero, Option.some.injEq] at ho
      subst ho
      obtain ⟨y, hy, e1⟩ := hF.f11 (hall ⟨11, Ground.data⟩ (by simp) rfl)
      subst e1
      replace hAW := Lib.hid hAW
      replace hF := Lib.hid hF
      clear hall
      go_simp
      refine hK.out _ _ ?_
      exact ⟨_, _, _, _, _, _, _, _, _, _, _, _, _, _, _, _, _, rfl, hAW.out.other (by rw [hsz]; decide) hun (by decide) (by decide), hF.out.up13 ⟨y, hy, rfl⟩⟩
  · refine ⟨undef, undef, undef, Tg.mk [] [] [], _, _, _, _, _, _, _, _, _, _, _, _, _, rfl, ⟨⟨0, hr.drew, by decide⟩, fun _ => hX1.out, (fun h => by cases h), (fun h => by cases h), (fun h => by cases h), hB1.out.drew⟩, ?_⟩
    exact ⟨(fun h => by cases h), (fun h => by cases h), (fun h => by cases h), (fun h => by cases h), (fun h => by cases h), (fun h => by cases h), (fun h => by cases h), (fun h => by cases h), (fun h => by cases h), (fun h => by cases h), (fun h => by cases h), (fun h => by cases h), (fun h => by cases h)⟩

/-- What is known of the operations that have come up. -/
structure DCountOf (g d : Nat) (u0 u1 u2 : Value) (l : Array Bool) (w : World) (s3 s4 s8 s9 s10 s11 s12 s13 s14 s15 s16 s17 s18 s19 s20 s21 : Value) : Prop where
  f0 : l.getD 0 false = true → s8 = .pointer (some ⟨g, 0, none⟩)
  f1 : l.getD 1 false = true → s9 = .agg #[u0, u1, u2]
  f2 : l.getD 2 false = true → s10 = .pointer (some ⟨g, 0, none⟩)
  f3 : l.getD 3 false = true → ∃ y : Int, (0 ≤ y ∧ y < 40) ∧ s11 = .int .i64 y
  f4 : l.getD 4 false = true → s12 = .pointer (some ⟨g, 0, none⟩)
  f5 : l.getD 5 false = true → ∃ y : Int, (0 ≤ y ∧ y < 250) ∧ s13 = .int .i64 y
  f6 : l.getD 6 false = true → ∃ p, s14 = .slice (some ⟨p, 0, none⟩) 3 3 ∧ QLit w g d p
  f7 : l.getD 7 false = true → s15 = .pointer (some ⟨g, 0, none⟩)
  f8 : l.getD 8 false = true → ∃ y : Int, (0 ≤ y ∧ y < 9) ∧ s16 = .int .i64 y
  f9 : l.getD 9 false = true → ∃ k : Nat, k < 3 ∧ s17 = .int .i64 k
  f10 : l.getD 10 false = true → ∃ p k : Nat, k < 3 ∧ s18 = .pointer (some ⟨p, k, none⟩) ∧ QLit w g d p
  f11 : l.getD 11 false = true → ∃ y : Int, (0 ≤ y ∧ y ≤ 3001) ∧ s19 = .int .i64 y
  f12 : l.getD 12 false = true → s20 = .pointer (some ⟨g, 0, none⟩)
  f13 : l.getD 13 false = true → ∃ y : Int, (0 ≤ y ∧ y < 6) ∧ s21 = .int .i64 y
  f15 : l.getD 15 false = true → ∃ y : Int, (0 ≤ y ∧ y ≤ 3001) ∧ s3 = .int .i64 y
  f16 : l.getD 16 false = true → ∃ y : Int, (0 ≤ y ∧ y < 6) ∧ s4 = .int .i64 y
section
variable {g d : Nat} {u0 u1 u2 v0 v1 v2 : Value} {l : Array Bool} {w w' : World} {s3 s4 s8 s9 s10 s11 s12 s13 s14 s15 s16 s17 s18 s19 s20 s21 : Value}
theorem DCountOf.world (h : DCountOf g d u0 u1 u2 l w s3 s4 s8 s9 s10 s11 s12 s13 s14 s15 s16 s17 s18 s19 s20 s21) (hm : ∀ p, QLit w g d p → QLit w' g d p) : DCountOf g d u0 u1 u2 l w' s3 s4 s8 s9 s10 s11 s12 s13 s14 s15 s16 s17 s18 s19 s20 s21 :=
  ⟨h.f0, h.f1, h.f2, h.f3, h.f4, h.f5, fun h' => let ⟨p, e, hl⟩ := h.f6 h'; ⟨p, e, hm _ hl⟩, h.f7, h.f8, h.f9, fun h' => let ⟨p, k, hk, e, hl⟩ := h.f10 h'; ⟨p, k, hk, e, hm _ hl⟩, h.f11, h.f12, h.f13, h.f15, h.f16⟩
theorem DCountOf.up0 {v : Value} (h : DCountOf g d u0 u1 u2 l w s3 s4 s8 s9 s10 s11 s12 s13 s14 s15 s16 s17 s18 s19 s20 s21) (hv : v = .pointer (some ⟨g, 0, none⟩)) : DCountOf g d u0 u1 u2 (l.setIfInBounds 0 true) w s3 s4 v s9 s10 s11 s12 s13 s14 s15 s16 s17 s18 s19 s20 s21 :=
  ⟨fun _ => hv, fun h' => h.f1 (listed_set h' (by decide)), fun h' => h.f2 (listed_set h' (by decide)), fun h' => h.f3 (listed_set h' (by decide)), fun h' => h.f4 (listed_set h' (by decide)), fun h' => h.f5 (listed_set h' (by decide)), fun h' => h.f6 (listed_set h' (by decide)), fun h' => h.f7 (listed_set h' (by decide)), fun h' => h.f8 (listed_set h' (by decide)), fun h' => h.f9 (listed_set h' (by decide)), fun h' => h.f10 (listed_set h' (by decide)), fun h' => h.f11 (listed_set h' (by decide)), fun h' => h.f12 (listed_set h' (by decide)), fun h' => h.f13 (listed_set h' (by decide)), fun h' => h.f15 (listed_set h' (by decide)), fun h' => h.f16 (listed_set h' (by decide))⟩
theorem DCountOf.up1 (h : DCountOf g d u0 u1 u2 l w s3 s4 s8 s9 s10 s11 s12 s13 s14 s15 s16 s17 s18 s19 s20 s21) : DCountOf g d v0 v1 v2 (l.setIfInBounds 1 true) w s3 s4 s8 (.agg #[v0, v1, v2]) s10 s11 s12 s13 s14 s15 s16 s17 s18 s19 s20 s21 :=
  ⟨fun h' => h.f0 (listed_set h' (by decide)), fun _ => rfl, fun h' => h.f2 (listed_set h' (by decide)), fun h' => h.f3 (listed_set h' (by decide)), fun h' => h.f4 (listed_set h' (by decide)), fun h' => h.f5 (listed_set h' (by decide)), fun h' => h.f6 (listed_set h' (by decide)), fun h' => h.f7 (listed_set h' (by decide)), fun h' => h.f8 (listed_set h' (by decide)), fun h' => h.f9 (listed_set h' (by decide)), fun h' => h.f10 (listed_set h' (by decide)), fun h' => h.f11 (listed_set h' (by decide)), fun h' => h.f12 (listed_set h' (by decide)), fun h' => h.f13 (listed_set h' (by decide)), fun h' => h.f15 (listed_set h' (by decide)), fun h' => h.f16 (listed_set h' (by decide))⟩
theorem DCountOf.up2 {v : Value} (h : DCountOf g d u0 u1 u2 l w s3 s4 s8 s9 s10 s11 s12 s13 s14 s15 s16 s17 s18 s19 s20 s21) (hv : v = .pointer (some ⟨g, 0, none⟩)) : DCountOf g d u0 u1 u2 (l.setIfInBounds 2 true) w s3 s4 s8 s9 v s11 s12 s13 s14 s15 s16 s17 s18 s19 s20 s21 :=
  ⟨fun h' => h.f0 (listed_set h' (by decide)), fun h' => h.f1 (listed_set h' (by decide)), fun _ => hv, fun h' => h.f3 (listed_set h' (by decide)), fun h' => h.f4 (listed_set h' (by decide)), fun h' => h.f5 (listed_set h' (by decide)), fun h' => h.f6 (listed_set h' (by decide)), fun h' => h.f7 (listed_set h' (by decide)), fun h' => h.f8 (listed_set h' (by decide)), fun h' => h.f9 (listed_set h' (by decide)), fun h' => h.f10 (listed_set h' (by decide)), fun h' => h.f11 (listed_set h' (by decide)), fun h' => h.f12 (listed_set h' (by decide)), fun h' => h.f13 (listed_set h' (by decide)), fun h' => h.f15 (listed_set h' (by decide)), fun h' => h.f16 (listed_set h' (by decide))⟩
theorem DCountOf.up3 {v : Value} (h : DCountOf g d u0 u1 u2 l w s3 s4 s8 s9 s10 s11 s12 s13 s14 s15 s16 s17 s18 s19 s20 s21) (hv : ∃ y : Int, (0 ≤ y ∧ y < 40) ∧ v = .int .i64 y) : DCountOf g d u0 u1 u2 (l.setIfInBounds 3 true) w s3 s4 s8 s9 s10 v s12 s13 s14 s15 s16 s17 s18 s19 s20 s21 :=
  ⟨fun h' => h.f0 (listed_set h' (by decide)), fun h' => h.f1 (listed_set h' (by decide)), fun h' => h.f2 (listed_set h' (by decide)), fun _ => hv, fun h' => h.f4 (listed_set h' (by decide)), fun h' => h.f5 (listed_set h' (by decide)), fun h' => h.f6 (listed_set h' (by decide)), fun h' => h.f7 (listed_set h' (by decide)), fun h' => h.f8 (listed_set h' (by decide)), fun h' => h.f9 (listed_set h' (by decide)), fun h' => h.f10 (listed_set h' (by decide)), fun h' => h.f11 (listed_set h' (by decide)), fun h' => h.f12 (listed_set h' (by decide)), fun h' => h.f13 (listed_set h' (by decide)), fun h' => h.f15 (listed_set h' (by decide)), fun h' => h.f16 (listed_set h' (by decide))⟩
theorem DCountOf.up4 {v : Value} (h : DCountOf g d u0 u1 u2 l w s3 s4 s8 s9 s10 s11 s12 s13 s14 s15 s16 s17 s18 s19 s20 s21) (hv : v = .pointer (some ⟨g, 0, none⟩)) : DCountOf g d u0 u1 u2 (l.setIfInBounds 4 true) w s3 s4 s8 s9 s10 s11 v s13 s14 s15 s16 s17 s18 s19 s20 s21 :=
  ⟨fun h' => h.f0 (listed_set h' (by decide)), fun h' => h.f1 (listed_set h' (by decide)), fun h' => h.f2 (listed_set h' (by decide)), fun h' => h.f3 (listed_set h' (by decide)), fun _ => hv, fun h' => h.f5 (listed_set h' (by decide)), fun h' => h.f6 (listed_set h' (by decide)), fun h' => h.f7 (listed_set h' (by decide)), fun h' => h.f8 (listed_set h' (by decide)), fun h' => h.f9 (listed_set h' (by decide)), fun h' => h.f10 (listed_set h' (by decide)), fun h' => h.f11 (listed_set h' (by decide)), fun h' => h.f12 (listed_set h' (by decide)), fun h' => h.f13 (listed_set h' (by decide)), fun h' => h.f15 (listed_set h' (by decide)), fun h' => h.f16 (listed_set h' (by decide))⟩
theorem DCountOf.up5 {v : Value} (h : DCountOf g d u0 u1 u2 l w s3 s4 s8 s9 s10 s11 s12 s13 s14 s15 s16 s17 s18 s19 s20 s21) (hv : ∃ y : Int, (0 ≤ y ∧ y < 250) ∧ v = .int .i64 y) : DCountOf g d u0 u1 u2 (l.setIfInBounds 5 true) w s3 s4 s8 s9 s10 s11 s12 v s14 s15 s16 s17 s18 s19 s20 s21 :=
  ⟨fun h' => h.f0 (listed_set h' (by decide)), fun h' => h.f1 (listed_set h' (by decide)), fun h' => h.f2 (listed_set h' (by decide)), fun h' => h.f3 (listed_set h' (by decide)), fun h' => h.f4 (listed_set h' (by decide)), fun _ => hv, fun h' => h.f6 (listed_set h' (by decide)), fun h' => h.f7 (listed_set h' (by decide)), fun h' => h.f8 (listed_set h' (by decide)), fun h' => h.f9 (listed_set h' (by decide)), fun h' => h.f10 (listed_set h' (by decide)), fun h' => h.f11 (listed_set h' (by decide)), fun h' => h.f12 (listed_set h' (by decide)), fun h' => h.f13 (listed_set h' (by decide)), fun h' => h.f15 (listed_set h' (by decide)), fun h' => h.f16 (listed_set h' (by decide))⟩
theorem DCountOf.up6 {v : Value} (h : DCountOf g d u0 u1 u2 l w s3 s4 s8 s9 s10 s11 s12 s13 s14 s15 s16 s17 s18 s19 s20 s21) (hv : ∃ p, v = .slice (some ⟨p, 0, none⟩) 3 3 ∧ QLit w g d p) : DCountOf g d u0 u1 u2 (l.setIfInBounds 6 true) w s3 s4 s8 s9 s10 s11 s12 s13 v s15 s16 s17 s18 s19 s20 s21 :=
  ⟨fun h' => h.f0 (listed_set h' (by decide)), fun h' => h.f1 (listed_set h' (by decide)), fun h' => h.f2 (listed_set h' (by decide)), fun h' => h.f3 (listed_set h' (by decide)), fun h' => h.f4 (listed_set h' (by decide)), fun h' => h.f5 (listed_set h' (by decide)), fun _ => hv, fun h' => h.f7 (listed_set h' (by decide)), fun h' => h.f8 (listed_set h' (by decide)), fun h' => h.f9 (listed_set h' (by decide)), fun h' => h.f10 (listed_set h' (by decide)), fun h' => h.f11 (listed_set h' (by decide)), fun h' => h.f12 (listed_set h' (by decide)), fun h' => h.f13 (listed_set h' (by decide)), fun h' => h.f15 (listed_set h' (by decide)), fun h' => h.f16 (listed_set h' (by decide))⟩
theorem DCountOf.up7 {v : Value} (h : DCountOf g d u0 u1 u2 l w s3 s4 s8 s9 s10 s11 s12 s13 s14 s15 s16 s17 s18 s19 s20 s21) (hv : v = .pointer (some ⟨g, 0, none⟩)) : DCountOf g d u0 u1 u2 (l.setIfInBounds 7 true) w s3 s4 s8 s9 s10 s11 s12 s13 s14 v s16 s17 s18 s19 s20 s21 :=
  ⟨fun h' => h.f0 (listed_set h' (by decide)), fun h' => h.f1 (listed_set h' (by decide)), fun h' => h.f2 (listed_set h' (by decide)), fun h' => h.f3 (listed_set h' (by decide)), fun h' => h.f4 (listed_set h' (by decide)), fun h' => h.f5 (listed_set h' (by decide)), fun h' => h.f6 (listed_set h' (by decide)), fun _ => hv, fun h' => h.f8 (listed_set h' (by decide)), fun h' => h.f9 (listed_set h' (by decide)), fun h' => h.f10 (listed_set h' (by decide)), fun h' => h.f11 (listed_set h' (by decide)), fun h' => h.f12 (listed_set h' (by decide)), fun h' => h.f13 (listed_set h' (by decide)), fun h' => h.f15 (listed_set h' (by decide)), fun h' => h.f16 (listed_set h' (by decide))⟩
theorem DCountOf.up8 {v : Value} (h : DCountOf g d u0 u1 u2 l w s3 s4 s8 s9 s10 s11 s12 s13 s14 s15 s16 s17 s18 s19 s20 s21) (hv : ∃ y : Int, (0 ≤ y ∧ y < 9) ∧ v = .int .i64 y) : DCountOf g d u0 u1 u2 (l.setIfInBounds 8 true) w s3 s4 s8 s9 s10 s11 s12 s13 s14 s15 v s17 s18 s19 s20 s21 :=
  ⟨fun h' => h.f0 (listed_set h' (by decide)), fun h' => h.f1 (listed_set h' (by decide)), fun h' => h.f2 (listed_set h' (by decide)), fun h' => h.f3 (listed_set h' (by decide)), fun h' => h.f4 (listed_set h' (by decide)), fun h' => h.f5 (listed_set h' (by decide)), fun h' => h.f6 (listed_set h' (by decide)), fun h' => h.f7 (listed_set h' (by decide)), fun _ => hv, fun h' => h.f9 (listed_set h' (by decide)), fun h' => h.f10 (listed_set h' (by decide)), fun h' => h.f11 (listed_set h' (by decide)), fun h' => h.f12 (listed_set h' (by decide)), fun h' => h.f13 (listed_set h' (by decide)), fun h' => h.f15 (listed_set h' (by decide)), fun h' => h.f16 (listed_set h' (by decide))⟩
theorem DCountOf.up9 {v : Value} (h : DCountOf g d u0 u1 u2 l w s3 s4 s8 s9 s10 s11 s12 s13 s14 s15 s16 s17 s18 s19 s20 s21) (hv : ∃ k : Nat, k < 3 ∧ v = .int .i64 k) : DCountOf g d u0 u1 u2 (l.setIfInBounds 9 true) w s3 s4 s8 s9 s10 s11 s12 s13 s14 s15 s16 v s18 s19 s20 s21 :=
  ⟨fun h' => h.f0 (listed_set h' (by decide)), fun h' => h.f1 (listed_set h' (by decide)), fun h' => h.f2 (listed_set h' (by decide)), fun h' => h.f3 (listed_set h' (by decide)), fun h' => h.f4 (listed_set h' (by decide)), fun h' => h.f5 (listed_set h' (by decide)), fun h' => h.f6 (listed_set h' (by decide)), fun h' => h.f7 (listed_set h' (by decide)), fun h' => h.f8 (listed_set h' (by decide)), fun _ => hv, fun h' => h.f10 (listed_set h' (by decide)), fun h' => h.f11 (listed_set h' (by decide)), fun h' => h.f12 (listed_set h' (by decide)), fun h' => h.f13 (listed_set h' (by decide)), fun h' => h.f15 (listed_set h' (by decide)), fun h' => h.f16 (listed_set h' (by decide))⟩
theorem DCountOf.up10 {v : Value} (h : DCountOf g d u0 u1 u2 l w s3 s4 s8 s9 s10 s11 s12 s13 s14 s15 s16 s17 s18 s19 s20 s21) (hv : ∃ p k : Nat, k < 3 ∧ v = .pointer (some ⟨p, k, none⟩) ∧ QLit w g d p) : DCountOf g d u0 u1 u2 (l.setIfInBounds 10 true) w s3 s4 s8 s9 s10 s11 s12 s13 s14 s15 s16 s17 v s19 s20 s21 :=
  ⟨fun h' => h.f0 (listed_set h' (by decide)), fun h' => h.f1 (listed_set h' (by decide)), fun h' => h.f2 (listed_set h' (by decide)), fun h' => h.f3 (listed_set h' (by decide)), fun h' => h.f4 (listed_set h' (by decide)), fun h' => h.f5 (listed_set h' (by decide)), fun h' => h.f6 (listed_set h' (by decide)), fun h' => h.f7 (listed_set h' (by decide)), fun h' => h.f8 (listed_set h' (by decide)), fun h' => h.f9 (listed_set h' (by decide)), fun _ => hv, fun h' => h.f11 (listed_set h' (by decide)), fun h' => h.f12 (listed_set h' (by decide)), fun h' => h.f13 (listed_set h' (by decide)), fun h' => h.f15 (listed_set h' (by decide)), fun h' => h.f16 (listed_set h' (by decide))⟩
theorem DCountOf.up11 {v : Value} (h : DCountOf g d u0 u1 u2 l w s3 s4 s8 s9 s10 s11 s12 s13 s14 s15 s16 s17 s18 s19 s20 s21) (hv : ∃ y : Int, (0 ≤ y ∧ y ≤ 3001) ∧ v = .int .i64 y) : DCountOf g d u0 u1 u2 (l.setIfInBounds 11 true) w s3 s4 s8 s9 s10 s11 s12 s13 s14 s15 s16 s17 s18 v s20 s21 :=
  ⟨fun h' => h.f0 (listed_set h' (by decide)), fun h' => h.f1 (listed_set h' (by decide)), fun h' => h.f2 (listed_set h' (by decide)), fun h' => h.f3 (listed_set h' (by decide)), fun h' => h.f4 (listed_set h' (by decide)), fun h' => h.f5 (listed_set h' (by decide)), fun h' => h.f6 (listed_set h' (by decide)), fun h' => h.f7 (listed_set h' (by decide)), fun h' => h.f8 (listed_set h' (by decide)), fun h' => h.f9 (listed_set h' (by decide)), fun h' => h.f10 (listed_set h' (by decide)), fun _ => hv, fun h' => h.f12 (listed_set h' (by decide)), fun h' => h.f13 (listed_set h' (by decide)), fun h' => h.f15 (listed_set h' (by decide)), fun h' => h.f16 (listed_set h' (by decide))⟩
theorem DCountOf.up12 {v : Value} (h : DCountOf g d u0 u1 u2 l w s3 s4 s8 s9 s10 s11 s12 s13 s14 s15 s16 s17 s18 s19 s20 s21) (hv : v = .pointer (some ⟨g, 0, none⟩)) : DCountOf g d u0 u1 u2 (l.setIfInBounds 12 true) w s3 s4 s8 s9 s10 s11 s12 s13 s14 s15 s16 s17 s18 s19 v s21 :=
  ⟨fun h' => h.f0 (listed_set h' (by decide)), fun h' => h.f1 (listed_set h' (by decide)), fun h' => h.f2 (listed_set h' (by decide)), fun h' => h.f3 (listed_set h' (by decide)), fun h' => h.f4 (listed_set h' (by decide)), fun h' => h.f5 (listed_set h' (by decide)), fun h' => h.f6 (listed_set h' (by decide)), fun h' => h.f7 (listed_set h' (by decide)), fun h' => h.f8 (listed_set h' (by decide)), fun h' => h.f9 (listed_set h' (by decide)), fun h' => h.f10 (listed_set h' (by decide)), fun h' => h.f11 (listed_set h' (by decide)), fun _ => hv, fun h' => h.f13 (listed_set h' (by decide)), fun h' => h.f15 (listed_set h' (by decide)), fun h' => h.f16 (listed_set h' (by decide))⟩
theorem DCountOf.up13 {v : Value} (h : DCountOf g d u0 u1 u2 l w s3 s4 s8 s9 s10 s11 s12 s13 s14 s15 s16 s17 s18 s19 s20 s21) (hv : ∃ y : Int, (0 ≤ y ∧ y < 6) ∧ v = .int .i64 y) : DCountOf g d u0 u1 u2 (l.setIfInBounds 13 true) w s3 s4 s8 s9 s10 s11 s12 s13 s14 s15 s16 s17 s18 s19 s20 v :=
  ⟨fun h' => h.f0 (listed_set h' (by decide)), fun h' => h.f1 (listed_set h' (by decide)), fun h' => h.f2 (listed_set h' (by decide)), fun h' => h.f3 (listed_set h' (by decide)), fun h' => h.f4 (listed_set h' (by decide)), fun h' => h.f5 (listed_set h' (by decide)), fun h' => h.f6 (listed_set h' (by decide)), fun h' => h.f7 (listed_set h' (by decide)), fun h' => h.f8 (listed_set h' (by decide)), fun h' => h.f9 (listed_set h' (by decide)), fun h' => h.f10 (listed_set h' (by decide)), fun h' => h.f11 (listed_set h' (by decide)), fun h' => h.f12 (listed_set h' (by decide)), fun _ => hv, fun h' => h.f15 (listed_set h' (by decide)), fun h' => h.f16 (listed_set h' (by decide))⟩
theorem DCountOf.up14 (h : DCountOf g d u0 u1 u2 l w s3 s4 s8 s9 s10 s11 s12 s13 s14 s15 s16 s17 s18 s19 s20 s21) : DCountOf g d u0 u1 u2 (l.setIfInBounds 14 true) w s3 s4 s8 s9 s10 s11 s12 s13 s14 s15 s16 s17 s18 s19 s20 s21 :=
  ⟨fun h' => h.f0 (listed_set h' (by decide)), fun h' => h.f1 (listed_set h' (by decide)), fun h' => h.f2 (listed_set h' (by decide)), fun h' => h.f3 (listed_set h' (by decide)), fun h' => h.f4 (listed_set h' (by decide)), fun h' => h.f5 (listed_set h' (by decide)), fun h' => h.f6 (listed_set h' (by decide)), fun h' => h.f7 (listed_set h' (by decide)), fun h' => h.f8 (listed_set h' (by decide)), fun h' => h.f9 (listed_set h' (by decide)), fun h' => h.f10 (listed_set h' (by decide)), fun h' => h.f11 (listed_set h' (by decide)), fun h' => h.f12 (listed_set h' (by decide)), fun h' => h.f13 (listed_set h' (by decide)), fun h' => h.f15 (listed_set h' (by decide)), fun h' => h.f16 (listed_set h' (by decide))⟩
theorem DCountOf.up15 {v : Value} (h : DCountOf g d u0 u1 u2 l w s3 s4 s8 s9 s10 s11 s12 s13 s14 s15 s16 s17 s18 s19 s20 s21) (hv : ∃ y : Int, (0 ≤ y ∧ y ≤ 3001) ∧ v = .int .i64 y) : DCountOf g d u0 u1 u2 (l.setIfInBounds 15 true) w v s4 s8 s9 s10 s11 s12 s13 s14 s15 s16 s17 s18 s19 s20 s21 :=
  ⟨fun h' => h.f0 (listed_set h' (by decide)), fun h' => h.f1 (listed_set h' (by decide)), fun h' => h.f2 (listed_set h' (by decide)), fun h' => h.f3 (listed_set h' (by decide)), fun h' => h.f4 (listed_set h' (by decide)), fun h' => h.f5 (listed_set h' (by decide)), fun h' => h.f6 (listed_set h' (by decide)), fun h' => h.f7 (listed_set h' (by decide)), fun h' => h.f8 (listed_set h' (by decide)), fun h' => h.f9 (listed_set h' (by decide)), fun h' => h.f10 (listed_set h' (by decide)), fun h' => h.f11 (listed_set h' (by decide)), fun h' => h.f12 (listed_set h' (by decide)), fun h' => h.f13 (listed_set h' (by decide)), fun _ => hv, fun h' => h.f16 (listed_set h' (by decide))⟩
theorem DCountOf.up16 {v : Value} (h : DCountOf g d u0 u1 u2 l w s3 s4 s8 s9 s10 s11 s12 s13 s14 s15 s16 s17 s18 s19 s20 s21) (hv : ∃ y : Int, (0 ≤ y ∧ y < 6) ∧ v = .int .i64 y) : DCountOf g d u0 u1 u2 (l.setIfInBounds 16 true) w s3 v s8 s9 s10 s11 s12 s13 s14 s15 s16 s17 s18 s19 s20 s21 :=
  ⟨fun h' => h.f0 (listed_set h' (by decide)), fun h' => h.f1 (listed_set h' (by decide)), fun h' => h.f2 (listed_set h' (by decide)), fun h' => h.f3 (listed_set h' (by decide)), fun h' => h.f4 (listed_set h' (by decide)), fun h' => h.f5 (listed_set h' (by decide)), fun h' => h.f6 (listed_set h' (by decide)), fun h' => h.f7 (listed_set h' (by decide)), fun h' => h.f8 (listed_set h' (by decide)), fun h' => h.f9 (listed_set h' (by decide)), fun h' => h.f10 (listed_set h' (by decide)), fun h' => h.f11 (listed_set h' (by decide)), fun h' => h.f12 (listed_set h' (by decide)), fun h' => h.f13 (listed_set h' (by decide)), fun h' => h.f15 (listed_set h' (by decide)), fun _ => hv⟩
end

set_option maxRecDepth 100000 in
set_option maxHeartbeats 8000000 in
theorem drawCountOf_any (A : Option Addr) (n c : Nat) (xs : List Int) (w : World) (h : Ints w .u8 A n c xs) (hn : n ≤ 1048576) (hwf : ∀ x ∈ xs, (Lit.int .u8 x).wf = true) (hc : c ≤ maxLen) :
    Calls Try.prog 21 #[.slice A n c] w (DrawnQ2 w) := by
  have hB0 : Below w.heap.size w (w.alloc zeroTng) := (Below.refl _ _).alloc (Nat.le_refl _) _
  have HO := Lib.hid (open_any A n c xs (w.alloc zeroTng) (h.below hB0 (Nat.le_refl _)) hn hwf hc)
  have HB0 := Lib.hid hB0
  have HX := Lib.hid (Blk.new w 26 #[.slice none 0 0, .slice none 0 0, .slice none 0 0])
  clear h hwf hc hB0
  go_enter Try.func21, Try.ntmps21
  go_wp2_with (fail)
  refine HO.out.mono ?_
  rintro e w1 ⟨rfl, hr, hb, -⟩
  have hX1 := Lib.hid (HX.out.below hb (by simp))
  have hB1 := Lib.hid (HB0.out.trans (hb.mono (by simp)))
  have hs1 := hb.size
  simp only [World.size_alloc] at hs1
  rw [World.size_alloc] at hr
  clear hb HO HX HB0
  go_upto_region 2 with (fail)
  refine wp_region_any (by kernel_rfl) ?_
  refine wpAny_inv (Inv := fun l a w' => ∃ (u0 u1 u2 : Value) (t : Tg) (s3 s4 s8 s9 s10 s11 s12 s13 s14 s15 s16 s17 s18 s19 s20 s21 : Value), a = ⟨#[.slice A n c, undef, .pointer (some ⟨w.heap.size, 0, none⟩), s3, s4, .pointer (some ⟨w.heap.size + 1, 0, none⟩), .slice A n c, .pointer (some ⟨w.heap.size + 1, 0, none⟩), s8, s9, s10, s11, s12, s13, s14, s15, s16, s17, s18, s19, s20, s21], []⟩ ∧ QW w l 1 14 u0 u1 u2 t w' ∧ DCountOf (w.heap.size + 1) w.heap.size u0 u1 u2 l w' s3 s4 s8 s9 s10 s11 s12 s13 s14 s15 s16 s17 s18 s19 s20 s21) (ord_spec (by kernel_rfl)) ?_ ?_ _ _ _ _ rfl (by decide) ?_
  · rintro l a w' ⟨u0, u1, u2, t, s3, s4, s8, s9, s10, s11, s12, s13, s14, s15, s16, s17, s18, s19, s20, s21, rfl, hAW, hF⟩ hsz hl
    have hl' : ∀ j, j < 17 → l.getD j false = true := hl
    obtain ⟨y3, hy3, e3⟩ := hF.f15 (hl' 15 (by decide))
    subst e3
    obtain ⟨y4, hy4, e4⟩ := hF.f16 (hl' 16 (by decide))
    subst e4
    obtain ⟨r0, r1, r2, -, -, -⟩ := blk3 (hAW.hs (hl' 14 (by decide))).2
    obtain ⟨ho, hsm⟩ := hAW.own (hl' 1 (by decide))
    have HF : DrawnQ2 w (.returned (.tuple #[.agg #[u0, u1, u2], .int .i64 y3, .int .i64 y4])) w' := ⟨_, t, _, _, rfl, ho.mono (by omega), hsm, by omega, by omega, hAW.low⟩
    replace HF := Lib.hid HF
    clear hAW hF hl hl' ho hsm hsz
    go_wp2
    refine bodyPost_ret (v := .tuple #[.agg #[u0, u1, u2], .int .i64 y3, .int .i64 y4]) (by simp [results, Try.results21, go_sem, r0, r1, r2]) rfl ?_
    exact HF.out
  · rintro l a w' ⟨u0, u1, u2, t, s3, s4, s8, s9, s10, s11, s12, s13, s14, s15, s16, s17, s18, s19, s20, s21, rfl, hAW, hF⟩ hsz i o hlt ho hun hall
    have hlt' : i < 17 := hlt
    refine wpOp_step ho (fun K' hK => ?_)
    replace hK := Lib.hid hK
    have hgt := hAW.gt
    obtain rfl | rfl | rfl | rfl | rfl | rfl | rfl | rfl | rfl | rfl | rfl | rfl | rfl | rfl | rfl | rfl | rfl : i = 0 ∨ i = 1 ∨ i = 2 ∨ i = 3 ∨ i = 4 ∨ i = 5 ∨ i = 6 ∨ i = 7 ∨ i = 8 ∨ i = 9 ∨ i = 10 ∨ i = 11 ∨ i = 12 ∨ i = 13 ∨ i = 14 ∨ i = 15 ∨ i = 16 := by omega
    · simp only [List.getElem?_toArray, List.getElem?_cons_zero, Option.some.injEq] at ho
      subst ho
      replace hAW := Lib.hid hAW
      replace hF := Lib.hid hF
      clear hall
      go_simp
      refine hK.out _ _ ?_
      exact ⟨_, _, _, _, _, _, _, _, _, _, _, _, _, _, _, _, _, _, _, _, rfl, hAW.out.other (by rw [hsz]; decide) hun (by decide) (by decide), hF.out.up0 rfl⟩
    · simp only [List.getElem?_toArray, List.getElem?_cons_succ, List.getElem?_cons_zero, Option.some.injEq] at ho
      subst ho
      have e1 := hF.f0 (hall ⟨0, Ground.data⟩ (by simp) rfl)
      subst e1
      obtain ⟨q, hr', hq⟩ := hAW.rd
      rw [hun, if_neg (by decide)] at hq
      replace hAW := Lib.hid hAW
      replace hF := Lib.hid hF
      clear hall
      go_simp
      go_at_call 44
      refine (drawn_any (w.heap.size + 1) q 12 _ hr' (by omega) (by omega) (by omega)).mono ?_
      rintro e V ⟨v, t', q', rfl, ho', hsm, hr2, hq2, hg⟩
      obtain ⟨A1, c1, A2, c2, A3, c3, rfl⟩ := ho'.shape
      go_simp
      refine hK.out _ _ ?_
      exact ⟨_, _, _, _, _, _, _, _, _, _, _, _, _, _, _, _, _, _, _, _, rfl, hAW.out.tongue (by rw [hsz]; decide) hun (by decide) (by rw [hsz]; decide) hg hr2 (by omega) ho' hsm, (hF.out.world (fun _ hl => hl.pick hg)).up1⟩
    · simp only [List.getElem?_toArray, List.getElem?_cons_succ, List.getElem?_cons_zero, Option.some.injEq] at ho
      subst ho
      replace hAW := Lib.hid hAW
      replace hF := Lib.hid hF
      clear hall
      go_simp
      refine hK.out _ _ ?_
      exact ⟨_, _, _, _, _, _, _, _, _, _, _, _, _, _, _, _, _, _, _, _, rfl, hAW.out.other (by rw [hsz]; decide) hun (by decide) (by decide), hF.out.up2 rfl⟩
    · simp only [List.getElem?_toArray, List.getElem?_cons_succ, List.getElem?_cons_zero, Option.some.injEq] at ho
      subst ho
      have e1 := hF.f2 (hall ⟨2, Ground.data⟩ (by simp) rfl)
      subst e1
      obtain ⟨q, hr', hq⟩ := hAW.rd
      have hq3 : q ≤ 2000 := by split at hq <;> omega
      replace hAW := Lib.hid hAW
      replace hF := Lib.hid hF
      clear hall
      go_simp
      go_at_call 45
      refine (pick_any (w.heap.size + 1) q 40 _ hr' (by omega) (by omega) (by omega)).mono ?_
      rintro e V ⟨k, rfl, hk, hr2, hg, -⟩
      go_simp
      refine hK.out _ _ ?_
      exact ⟨_, _, _, _, _, _, _, _, _, _, _, _, _, _, _, _, _, _, _, _, rfl, hAW.out.pick (by rw [hsz]; decide) hun (by decide) (by decide) hg hr2 hq, (hF.out.world (fun _ hl => hl.pick hg)).up3 ⟨k, by omega, rfl⟩⟩
    · simp only [List.getElem?_toArray, List.getElem?_cons_succ, List.getElem?_cons_zero, Option.some.injEq] at ho
      subst ho
      replace hAW := Lib.hid hAW
      replace hF := Lib.hid hF
      clear hall
      go_simp
      refine hK.out _ _ ?_
      exact ⟨_, _, _, _, _, _, _, _, _, _, _, _, _, _, _, _, _, _, _, _, rfl, hAW.out.other (by rw [hsz]; decide) hun (by decide) (by decide), hF.out.up4 rfl⟩
    · simp only [List.getElem?_toArray, List.getElem?_cons_succ, List.getElem?_cons_zero, Option.some.injEq] at ho
      subst ho
      have e1 := hF.f4 (hall ⟨4, Ground.data⟩ (by simp) rfl)
      subst e1
      obtain ⟨q, hr', hq⟩ := hAW.rd
      have hq3 : q ≤ 2000 := by split at hq <;> omega
      replace hAW := Lib.hid hAW
      replace hF := Lib.hid hF
      clear hall
      go_simp
      go_at_call 45
      refine (pick_any (w.heap.size + 1) q 250 _ hr' (by omega) (by omega) (by omega)).mono ?_
      rintro e V ⟨k, rfl, hk, hr2, hg, -⟩
      go_simp
      refine hK.out _ _ ?_
      exact ⟨_, _, _, _, _, _, _, _, _, _, _, _, _, _, _, _, _, _, _, _, rfl, hAW.out.pick (by rw [hsz]; decide) hun (by decide) (by decide) hg hr2 hq, (hF.out.world (fun _ hl => hl.pick hg)).up5 ⟨k, by omega, rfl⟩⟩
    · simp only [List.getElem?_toArray, List.getElem?_cons_succ, List.getElem?_cons_zero, Option.some.injEq] at ho
      subst ho
      obtain ⟨a, ha, ea⟩ := hF.f3 (hall ⟨3, Ground.data⟩ (by simp) rfl)
      subst ea
      obtain ⟨b, hb, eb⟩ := hF.f5 (hall ⟨5, Ground.data⟩ (by simp) rfl)
      subst eb
      replace hAW := Lib.hid hAW
      replace hF := Lib.hid hF
      clear hall
      go_simp
      refine hK.out _ _ ?_
      exact ⟨_, _, _, _, _, _, _, _, _, _, _, _, _, _, _, _, _, _, _, _, rfl, (hAW.out.other (by rw [hsz]; decide) hun (by decide) (by decide)).al _, (hF.out.world (fun _ hl => hl.al _)).up6 ⟨_, rfl, ⟨a, b, 3001, by omega, by omega, by omega, Blk.new _ _ _⟩, by omega, by omega⟩⟩
    · simp only [List.getElem?_toArray, List.getElem?_cons_succ, List.getElem?_cons_zero, Option.some.injEq] at ho
      subst ho
      replace hAW := Lib.hid hAW
      replace hF := Lib.hid hF
      clear hall
      go_simp
      refine hK.out _ _ ?_
      exact ⟨_, _, _, _, _, _, _, _, _, _, _, _, _, _, _, _, _, _, _, _, rfl, hAW.out.other (by rw [hsz]; decide) hun (by decide) (by decide), hF.out.up7 rfl⟩
    · simp only [List.getElem?_toArray, List.getElem?_cons_succ, List.getElem?_cons_zero, Option.some.injEq] at ho
      subst ho
      have e1 := hF.f7 (hall ⟨7, Ground.data⟩ (by simp) rfl)
      subst e1
      obtain ⟨q, hr', hq⟩ := hAW.rd
      have hq3 : q ≤ 2000 := by split at hq <;> omega
      replace hAW := Lib.hid hAW
      replace hF := Lib.hid hF
      clear hall
      go_simp
      go_at_call 45
      refine (pick_any (w.heap.size + 1) q 9 _ hr' (by omega) (by omega) (by omega)).mono ?_
      rintro e V ⟨k, rfl, hk, hr2, hg, -⟩
      go_simp
      refine hK.out _ _ ?_
      exact ⟨_, _, _, _, _, _, _, _, _, _, _, _, _, _, _, _, _, _, _, _, rfl, hAW.out.pick (by rw [hsz]; decide) hun (by decide) (by decide) hg hr2 hq, (hF.out.world (fun _ hl => hl.pick hg)).up8 ⟨k, by omega, rfl⟩⟩
    · simp only [List.getElem?_toArray, List.getElem?_cons_succ, List.getElem?_cons_zero, Option.some.injEq] at ho
      subst ho
      obtain ⟨y, hy, e1⟩ := hF.f8 (hall ⟨8, Ground.data⟩ (by simp) rfl)
      subst e1
      obtain ⟨kk, hkk⟩ : ∃ kk : Nat, y / 4 = (kk : Int) := ⟨(y / 4).toNat, by omega⟩
      have t1 : y.tdiv 4 = (kk : Int) := by rw [Int.tdiv_eq_ediv_of_nonneg (by omega)]; exact hkk
      have t2 : IntKind.i64.wrap (kk : Int) = (kk : Int) := IntWalk.i64_in _ (by omega)
      replace hAW := Lib.hid hAW
      replace hF := Lib.hid hF
      clear hall
      go_simp
      refine hK.out _ _ ?_
      exact ⟨_, _, _, _, _, _, _, _, _, _, _, _, _, _, _, _, _, _, _, _, rfl, hAW.out.other (by rw [hsz]; decide) hun (by decide) (by decide), hF.out.up9 ⟨kk, by omega, rfl⟩⟩
    · simp only [List.getElem?_toArray, List.getElem?_cons_succ, List.getElem?_cons_zero, Option.some.injEq] at ho
      subst ho
      obtain ⟨p, e1, hl⟩ := hF.f6 (hall ⟨6, Ground.data⟩ (by simp) rfl)
      subst e1
      obtain ⟨k, hk, e2⟩ := hF.f9 (hall ⟨9, Ground.data⟩ (by simp) rfl)
      subst e2
      have k0 : (0 : Int) ≤ (k : Int) := by omega
      have k1 : (k : Int) < 3 := by omega
      replace hl := Lib.hid hl
      replace hAW := Lib.hid hAW
      replace hF := Lib.hid hF
      clear hall
      go_simp
      refine hK.out _ _ ?_
      exact ⟨_, _, _, _, _, _, _, _, _, _, _, _, _, _, _, _, _, _, _, _, rfl, hAW.out.other (by rw [hsz]; decide) hun (by decide) (by decide), hF.out.up10 ⟨p, k, hk, rfl, hl.out⟩⟩
    · simp only [List.getElem?_toArray, List.getElem?_cons_succ, List.getElem?_cons_zero, Option.some.injEq] at ho
      subst ho
      obtain ⟨p, k, hk, e1, hl⟩ := hF.f10 (hall ⟨10, Ground.data⟩ (by simp) rfl)
      subst e1
      obtain ⟨y, hy, ck⟩ := hl.at_ k hk
      replace hl := Lib.hid hl
      replace hAW := Lib.hid hAW
      replace hF := Lib.hid hF
      clear hall
      go_simp
      refine hK.out _ _ ?_
      exact ⟨_, _, _, _, _, _, _, _, _, _, _, _, _, _, _, _, _, _, _, _, rfl, hAW.out.other (by rw [hsz]; decide) hun (by decide) (by decide), hF.out.up11 ⟨y, hy, rfl⟩⟩
    · simp only [List.getElem?_toArray, List.getElem?_cons_succ, List.getElem?_cons_zero, Option.some.injEq] at ho
      subst ho
      replace hAW := Lib.hid hAW
      replace hF := Lib.hid hF
      clear hall
      go_simp
      refine hK.out _ _ ?_
      exact ⟨_, _, _, _, _, _, _, _, _, _, _, _, _, _, _, _, _, _, _, _, rfl, hAW.out.other (by rw [hsz]; decide) hun (by decide) (by decide), hF.out.up12 rfl⟩
    · simp only [List.getElem?_toArray, List.getElem?_cons_succ, List.getElem?_cons_zero, Option.some.injEq] at ho
      subst ho
      have e1 := hF.f12 (hall ⟨12, Ground.data⟩ (by simp) rfl)
      subst e1
      obtain ⟨q, hr', hq⟩ := hAW.rd
      have hq3 : q ≤ 2000 := by split at hq <;> omega
      replace hAW := Lib.hid hAW
      replace hF := Lib.hid hF
      clear hall
      go_simp
      go_at_call 45
      refine (pick_any (w.heap.size + 1) q 6 _ hr' (by omega) (by omega) (by omega)).mono ?_
      rintro e V ⟨k, rfl, hk, hr2, hg, -⟩
      go_simp
      refine hK.out _ _ ?_
      exact ⟨_, _, _, _, _, _, _, _, _, _, _, _, _, _, _, _, _, _, _, _, rfl, hAW.out.pick (by rw [hsz]; decide) hun (by decide) (by decide) hg hr2 hq, (hF.out.world (fun _ hl => hl.pick hg)).up13 ⟨k, by omega, rfl⟩⟩
    · simp only [List.getElem?_toArray, List.getElem?_cons_succ, List.getElem?_cons_zero, Option.some.injEq] at ho
      subst ho
      have h1t := (hall ⟨1, Ground.data⟩ (by simp) rfl)
      have e1 := hF.f1 h1t
      subst e1
      have hAW2 := hAW.set3 (by rw [hsz]; decide) hun (by decide) h1t
      obtain ⟨r0, r1, r2, f0, f1, f2⟩ := blk3 (hAW.hz hun)
      obtain ⟨⟨C1, m1, k1, rfl⟩, ⟨C2, m2, k2, rfl⟩, ⟨C3, m3, k3, rfl⟩⟩ := hAW.sh h1t
      replace hAW2 := Lib.hid hAW2
      replace hAW := Lib.hid hAW
      replace hF := Lib.hid hF
      clear hall
      go_simp
      refine hK.out _ _ ?_
      exact ⟨_, _, _, _, _, _, _, _, _, _, _, _, _, _, _, _, _, _, _, _, rfl, hAW2.out, (hF.out.world (fun _ hl => hl.set3 _ _ _)).up14⟩
    · simp only [List.getElem?_toArray, List.getElem?_cons_succ, List.getElem?_cons_zero, Option.some.injEq] at ho
      subst ho
      obtain ⟨y, hy, e1⟩ := hF.f11 (hall ⟨11, Ground.data⟩ (by simp) rfl)
      subst e1
      replace hAW := Lib.hid hAW
      replace hF := Lib.hid hF
      clear hall
      go_simp
      refine hK.out _ _ ?_
      exact ⟨_, _, _, _, _, _, _, _, _, _, _, _, _, _, _, _, _, _, _, _, rfl, hAW.out.other (by rw [hsz]; decide) hun (by decide) (by decide), hF.out.up15 ⟨y, hy, rfl⟩⟩
    · simp only [List.getElem?_toArray, List.getElem?_cons_succ, List.getElem?_cons_zero, Option.some.injEq] at ho
      subst ho
      obtain ⟨y, hy, e1⟩ := hF.f13 (hall ⟨13, Ground.data⟩ (by simp) rfl)
      subst e1
      replace hAW := Lib.hid hAW
      replace hF := Lib.hid hF
      clear hall
      go_simp
      refine hK.out _ _ ?_
      exact ⟨_, _, _, _, _, _, _, _, _, _, _, _, _, _, _, _, _, _, _, _, rfl, hAW.out.other (by rw [hsz]; decide) hun (by decide) (by decide), hF.out.up16 ⟨y, hy, rfl⟩⟩
  · refine ⟨undef, undef, undef, Tg.mk [] [] [], _, _, _, _, _, _, _, _, _, _, _, _, _, _, _, _, rfl, ⟨⟨0, hr.drew, by decide⟩, fun _ => hX1.out, (fun h => by cases h), (fun h => by cases h), (fun h => by cases h), hB1.out.drew⟩, ?_⟩
    exact ⟨(fun h => by cases h), (fun h => by cases h), (fun h => by cases h), (fun h => by cases h), (fun h => by cases h), (fun h => by cases h), (fun h => by cases h), (fun h => by cases h), (fun h => by cases h), (fun h => by cases h), (fun h => by cases h), (fun h => by cases h), (fun h => by cases h), (fun h => by cases h), (fun h => by cases h), (fun h => by cases h)⟩

set_option maxRecDepth 100000 in
set_option maxHeartbeats 2000000 in
theorem drawAllWords_any (A : Option Addr) (n c : Nat) (xs : List Int) (w : World) (h : Ints w .u8 A n c xs) (hn : n ≤ 1048576) (hwf : ∀ x ∈ xs, (Lit.int .u8 x).wf = true) (hc : c ≤ maxLen) :
    Calls Try.prog 28 #[.slice A n c] w (DrawnQ w) := by
  have hB0 : Below w.heap.size w (w.alloc zeroTng) := (Below.refl _ _).alloc (Nat.le_refl _) _
  have HD := Lib.hid (drawMostWords_any A n c xs (w.alloc zeroTng) (h.below hB0 (Nat.le_refl _)) hn hwf hc)
  have HB0 := Lib.hid hB0
  have HX := Lib.hid (Blk.new w 26 #[.slice none 0 0, .slice none 0 0, .slice none 0 0])
  clear h hwf hc hB0
  go_enter Try.func28, Try.ntmps28
  go_wp2_with (fail)
  refine HD.out.mono ?_
  rintro e w2 ⟨v, t, m, rfl, ho, hsm, hm, hb⟩
  obtain ⟨A1, c1, A2, c2, A3, c3, rfl⟩ := ho.shape
  have hX2 : Blk w2 w.heap.size 26 #[.slice none 0 0, .slice none 0 0, .slice none 0 0] := HX.out.below hb HX.out.lt
  have hB2 := HB0.out.trans (hb.mono HB0.out.size)
  obtain ⟨r0, r1, r2, f0, f1, f2⟩ := blk3 hX2
  have HF := fun u0 u1 u2 => ho.set3 (u0 := u0) (u1 := u1) (u2 := u2) hX2
  replace HF := Lib.hid HF
  replace hB2 := Lib.hid hB2
  replace hsm := Lib.hid hsm
  have hsz : w.heap.size ≤ (w.alloc zeroTng).heap.size := by simp
  clear hb ho hX2 HX HB0 HD
  go_wp2
  refine bodyPost_ret (v := .tuple #[(.agg #[.slice A1 t.us.length c1, .slice A2 t.bs.length c2, .slice A3 t.ns.length c3]), .int .i64 m]) (by simp [results, Try.results28, go_sem, r0, r1, r2]) rfl ?_
  exact ⟨_, t, m, rfl, (HF.out _ _ _).mono hsz, hsm.out, hm, below_tng3 hB2.out (Nat.le_refl _)⟩
end Go.Proofs.Ytebfoofiaokhdaa
