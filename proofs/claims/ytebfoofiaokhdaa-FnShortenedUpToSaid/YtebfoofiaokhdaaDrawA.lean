/-
  The contract of the draw of a tongue, a number, a word and a bound.
-/
import Derived.Test.YtebfoofiaokhdaaGD
import Derived.Test.YtebfoofiaokhdaaInv
namespace Go.Proofs.Ytebfoofiaokhdaa
open Go.RowKit

abbrev awayWords : Array Value := #[.string ⟨#[102, 114, 111, 109]⟩, .string ⟨#[111, 102, 102]⟩, .string ⟨#[111, 110, 101]⟩, .string ⟨#[70, 114, 111, 109]⟩, .string ⟨#[120, 113]⟩, .string ⟨#[102, 114, 111, 109]⟩]
theorem awayWords_at (kk : Nat) (hk : kk < 6) : ∃ y : ByteArray, awayWords[kk]? = some (.string y) ∧ y.size ≤ 16 := by
  obtain rfl | rfl | rfl | rfl | rfl | rfl : kk = 0 ∨ kk = 1 ∨ kk = 2 ∨ kk = 3 ∨ kk = 4 ∨ kk = 5 := by omega
  all_goals exact ⟨_, rfl, by decide⟩
abbrev awayBounds : Array Value := #[.int .i64 1, .int .i64 2, .int .i64 3, .int .i64 10, .int .i64 0, .int .i64 101]
theorem awayBounds_at (kk : Nat) (hk : kk < 6) : ∃ y : Int, awayBounds[kk]? = some (.int .i64 y) ∧ 0 ≤ y ∧ y ≤ 101 := by
  obtain rfl | rfl | rfl | rfl | rfl | rfl : kk = 0 ∨ kk = 1 ∨ kk = 2 ∨ kk = 3 ∨ kk = 4 ∨ kk = 5 := by omega
  all_goals exact ⟨_, rfl, by decide, by decide⟩

/-- A tongue, a number, a word and a bound are drawn by a reader. -/
def RetAway (w : World) (g : Nat) (e : Ending) (w' : World) : Prop := ∃ v t n x b q, e = .returned (.tuple #[v, .int .i64 n, .string x, .int .i64 b]) ∧ OwnTng w' w.heap.size v t ∧ SmallT 40 t ∧ (-200000 ≤ n ∧ n ≤ 4000000) ∧ x.size ≤ 16 ∧ (0 ≤ b ∧ b ≤ 101) ∧ Rd w' g q ∧ q ≤ 50 ∧ w.grownBy w' (some g)

/-- A literal's block, apart from the reader and from the result. -/
structure AwLit (w : World) (g d : Nat) (ty : TypeId) (lits : Array Value) (p : Nat) : Prop where
  blk : Blk w p ty lits
  ng : p ≠ g
  nd : p ≠ d
section
variable {w0 w w' : World} {g d z q p : Nat} {ty : TypeId} {cs lits : Array Value} {v : Value} {t : Tg}
theorem AwLit.al (h : AwLit w g d ty lits p) (o : Obj) : AwLit (w.alloc o) g d ty lits p := ⟨h.blk.alloc o, h.ng, h.nd⟩
theorem AwLit.pick (h : AwLit w g d ty lits p) (hg : w.grownBy w' (some g)) : AwLit w' g d ty lits p := ⟨h.blk.grown hg (by simpa using h.ng), h.ng, h.nd⟩
theorem AwLit.set3 (h : AwLit w g d ty lits p) (u0 u1 u2 : Value) : AwLit (((w.setCell ⟨d, 0, none⟩ u0).setCell ⟨d, 1, none⟩ u1).setCell ⟨d, 2, none⟩ u2) g d ty lits p :=
  ⟨((h.blk.far (p := ⟨d, 0, none⟩) h.nd u0).far (p := ⟨d, 1, none⟩) h.nd u1).far (p := ⟨d, 2, none⟩) h.nd u2, h.ng, h.nd⟩
/-- While the results are gathered: the reader, the box, the result's own block (filled or not yet). -/
structure AW (w0 : World) (g z : Nat) (cs : Array Value) (v : Value) (t : Tg) (q : Nat) (st : Bool) (w : World) : Prop where
  rd : Rd w g q
  hx : Blk w w0.heap.size 26 (if st then cs else #[.slice none 0 0, .slice none 0 0, .slice none 0 0])
  hz : Blk w z 26 cs
  own : OwnTng w (w0.heap.size + 1) v t
  gr : w0.grownBy w (some g)
theorem AW.al {st : Bool} (h : AW w0 g z cs v t q st w) (o : Obj) : AW w0 g z cs v t q st (w.alloc o) :=
  ⟨h.rd.alloc' o, h.hx.alloc o, h.hz.alloc o, h.own.below ((Below.refl _ _).alloc (Nat.le_refl _) o) (Nat.le_refl _), h.gr.trans (World.grownBy_alloc w o (some g))⟩
theorem AW.pick {st : Bool} {q' : Nat} (h : AW w0 g z cs v t q st w) (hg : w.grownBy w' (some g)) (hr : Rd w' g q') (h0 : g < w0.heap.size) (hz : g < z) : AW w0 g z cs v t q' st w' :=
  ⟨hr, h.hx.grown hg (by simp; omega), h.hz.grown hg (by simp; omega), h.own.kept hg (by omega), h.gr.trans hg⟩
theorem AW.set3 {u0 u1 u2 : Value} (h : AW w0 g z #[u0, u1, u2] v t q false w) (h0 : g < w0.heap.size) (hz : w0.heap.size ≠ z) :
    AW w0 g z #[u0, u1, u2] v t q true (((w.setCell ⟨w0.heap.size, 0, none⟩ u0).setCell ⟨w0.heap.size, 1, none⟩ u1).setCell ⟨w0.heap.size, 2, none⟩ u2) :=
  ⟨rd_set (rd_set (rd_set h.rd h0 _) h0 _) h0 _, ((h.hx.set_ 0 u0).set_ 1 u1).set_ 2 u2, ((h.hz.far (p := ⟨w0.heap.size, 0, none⟩) (Ne.symm hz) u0).far (p := ⟨w0.heap.size, 1, none⟩) (Ne.symm hz) u1).far (p := ⟨w0.heap.size, 2, none⟩) (Ne.symm hz) u2,
    h.own.set3 h.hx, grown_set (grown_set (grown_set h.gr (Nat.le_refl _) _) (Nat.le_refl _) _) (Nat.le_refl _) _⟩
end
/-- How many picks have been made. -/
def awQ (q : Nat) (l : Array Bool) : Nat := q + (if l.getD 4 false = true then 1 else 0) + (if l.getD 9 false = true then 1 else 0)
theorem awQ_le (q : Nat) (l : Array Bool) : awQ q l ≤ q + 2 := by unfold awQ; split <;> split <;> omega
theorem awQ_same {q i : Nat} {l : Array Bool} (h4 : 4 ≠ i) (h9 : 9 ≠ i) : awQ q (l.setIfInBounds i true) = awQ q l := by unfold awQ; rw [listed_same h4, listed_same h9]
theorem awQ_4 {q : Nat} {l : Array Bool} (h : 4 < l.size) (hu : l.getD 4 false = false) : awQ q (l.setIfInBounds 4 true) = awQ q l + 1 := by
  unfold awQ; rw [listed_at h, listed_same (by decide), hu]; simp; omega
theorem awQ_9 {q : Nat} {l : Array Bool} (h : 9 < l.size) (hu : l.getD 9 false = false) : awQ q (l.setIfInBounds 9 true) = awQ q l + 1 := by
  unfold awQ; rw [listed_at h, listed_same (by decide), hu]; simp
/-- What is known of the operations that have come up. -/
structure AF (g d : Nat) (agg : Value) (n : Int) (l : Array Bool) (w : World) (s3 s4 s5 s47 s48 s49 s50 s51 s52 s53 s54 s55 s56 s57 s58 : Value) : Prop where
  f0 : l.getD 0 false = true → s47 = agg
  f1 : l.getD 1 false = true → s48 = .int .i64 n
  f2 : l.getD 2 false = true → ∃ p, s49 = .slice (some ⟨p, 0, none⟩) 6 6 ∧ AwLit w g d 9 awayWords p
  f3 : l.getD 3 false = true → s50 = .pointer (some ⟨g, 0, none⟩)
  f4 : l.getD 4 false = true → ∃ k : Nat, k < 6 ∧ s51 = .int .i64 k
  f5 : l.getD 5 false = true → ∃ p k : Nat, k < 6 ∧ s52 = .pointer (some ⟨p, k, none⟩) ∧ AwLit w g d 9 awayWords p
  f6 : l.getD 6 false = true → ∃ y : ByteArray, y.size ≤ 16 ∧ s53 = .string y
  f7 : l.getD 7 false = true → ∃ p, s54 = .slice (some ⟨p, 0, none⟩) 6 6 ∧ AwLit w g d 3 awayBounds p
  f8 : l.getD 8 false = true → s55 = .pointer (some ⟨g, 0, none⟩)
  f9 : l.getD 9 false = true → ∃ k : Nat, k < 6 ∧ s56 = .int .i64 k
  f10 : l.getD 10 false = true → ∃ p k : Nat, k < 6 ∧ s57 = .pointer (some ⟨p, k, none⟩) ∧ AwLit w g d 3 awayBounds p
  f11 : l.getD 11 false = true → ∃ b : Int, (0 ≤ b ∧ b ≤ 101) ∧ s58 = .int .i64 b
  f13 : l.getD 13 false = true → s3 = .int .i64 n
  f14 : l.getD 14 false = true → ∃ y : ByteArray, y.size ≤ 16 ∧ s4 = .string y
  f15 : l.getD 15 false = true → ∃ b : Int, (0 ≤ b ∧ b ≤ 101) ∧ s5 = .int .i64 b
section
variable {g d : Nat} {agg : Value} {n : Int} {l : Array Bool} {w w' : World} {s3 s4 s5 s47 s48 s49 s50 s51 s52 s53 s54 s55 s56 s57 s58 : Value}
theorem AF.world (h : AF g d agg n l w s3 s4 s5 s47 s48 s49 s50 s51 s52 s53 s54 s55 s56 s57 s58) (hm : ∀ ty lits p, AwLit w g d ty lits p → AwLit w' g d ty lits p) : AF g d agg n l w' s3 s4 s5 s47 s48 s49 s50 s51 s52 s53 s54 s55 s56 s57 s58 :=
  ⟨h.f0, h.f1, fun h' => let ⟨p, e, hl⟩ := h.f2 h'; ⟨p, e, hm _ _ _ hl⟩, h.f3, h.f4, fun h' => let ⟨p, k, hk, e, hl⟩ := h.f5 h'; ⟨p, k, hk, e, hm _ _ _ hl⟩, h.f6, fun h' => let ⟨p, e, hl⟩ := h.f7 h'; ⟨p, e, hm _ _ _ hl⟩, h.f8, h.f9, fun h' => let ⟨p, k, hk, e, hl⟩ := h.f10 h'; ⟨p, k, hk, e, hm _ _ _ hl⟩, h.f11, h.f13, h.f14, h.f15⟩
theorem AF.up0 {v : Value} (h : AF g d agg n l w s3 s4 s5 s47 s48 s49 s50 s51 s52 s53 s54 s55 s56 s57 s58) (hv : v = agg) : AF g d agg n (l.setIfInBounds 0 true) w s3 s4 s5 v s48 s49 s50 s51 s52 s53 s54 s55 s56 s57 s58 :=
  ⟨fun _ => hv, fun h' => h.f1 (listed_set h' (by decide)), fun h' => h.f2 (listed_set h' (by decide)), fun h' => h.f3 (listed_set h' (by decide)), fun h' => h.f4 (listed_set h' (by decide)), fun h' => h.f5 (listed_set h' (by decide)), fun h' => h.f6 (listed_set h' (by decide)), fun h' => h.f7 (listed_set h' (by decide)), fun h' => h.f8 (listed_set h' (by decide)), fun h' => h.f9 (listed_set h' (by decide)), fun h' => h.f10 (listed_set h' (by decide)), fun h' => h.f11 (listed_set h' (by decide)), fun h' => h.f13 (listed_set h' (by decide)), fun h' => h.f14 (listed_set h' (by decide)), fun h' => h.f15 (listed_set h' (by decide))⟩
theorem AF.up1 {v : Value} (h : AF g d agg n l w s3 s4 s5 s47 s48 s49 s50 s51 s52 s53 s54 s55 s56 s57 s58) (hv : v = .int .i64 n) : AF g d agg n (l.setIfInBounds 1 true) w s3 s4 s5 s47 v s49 s50 s51 s52 s53 s54 s55 s56 s57 s58 :=
  ⟨fun h' => h.f0 (listed_set h' (by decide)), fun _ => hv, fun h' => h.f2 (listed_set h' (by decide)), fun h' => h.f3 (listed_set h' (by decide)), fun h' => h.f4 (listed_set h' (by decide)), fun h' => h.f5 (listed_set h' (by decide)), fun h' => h.f6 (listed_set h' (by decide)), fun h' => h.f7 (listed_set h' (by decide)), fun h' => h.f8 (listed_set h' (by decide)), fun h' => h.f9 (listed_set h' (by decide)), fun h' => h.f10 (listed_set h' (by decide)), fun h' => h.f11 (listed_set h' (by decide)), fun h' => h.f13 (listed_set h' (by decide)), fun h' => h.f14 (listed_set h' (by decide)), fun h' => h.f15 (listed_set h' (by decide))⟩
theorem AF.up2 {v : Value} (h : AF g d agg n l w s3 s4 s5 s47 s48 s49 s50 s51 s52 s53 s54 s55 s56 s57 s58) (hv : ∃ p, v = .slice (some ⟨p, 0, none⟩) 6 6 ∧ AwLit w g d 9 awayWords p) : AF g d agg n (l.setIfInBounds 2 true) w s3 s4 s5 s47 s48 v s50 s51 s52 s53 s54 s55 s56 s57 s58 :=
  ⟨fun h' => h.f0 (listed_set h' (by decide)), fun h' => h.f1 (listed_set h' (by decide)), fun _ => hv, fun h' => h.f3 (listed_set h' (by decide)), fun h' => h.f4 (listed_set h' (by decide)), fun h' => h.f5 (listed_set h' (by decide)), fun h' => h.f6 (listed_set h' (by decide)), fun h' => h.f7 (listed_set h' (by decide)), fun h' => h.f8 (listed_set h' (by decide)), fun h' => h.f9 (listed_set h' (by decide)), fun h' => h.f10 (listed_set h' (by decide)), fun h' => h.f11 (listed_set h' (by decide)), fun h' => h.f13 (listed_set h' (by decide)), fun h' => h.f14 (listed_set h' (by decide)), fun h' => h.f15 (listed_set h' (by decide))⟩
theorem AF.up3 {v : Value} (h : AF g d agg n l w s3 s4 s5 s47 s48 s49 s50 s51 s52 s53 s54 s55 s56 s57 s58) (hv : v = .pointer (some ⟨g, 0, none⟩)) : AF g d agg n (l.setIfInBounds 3 true) w s3 s4 s5 s47 s48 s49 v s51 s52 s53 s54 s55 s56 s57 s58 :=
  ⟨fun h' => h.f0 (listed_set h' (by decide)), fun h' => h.f1 (listed_set h' (by decide)), fun h' => h.f2 (listed_set h' (by decide)), fun _ => hv, fun h' => h.f4 (listed_set h' (by decide)), fun h' => h.f5 (listed_set h' (by decide)), fun h' => h.f6 (listed_set h' (by decide)), fun h' => h.f7 (listed_set h' (by decide)), fun h' => h.f8 (listed_set h' (by decide)), fun h' => h.f9 (listed_set h' (by decide)), fun h' => h.f10 (listed_set h' (by decide)), fun h' => h.f11 (listed_set h' (by decide)), fun h' => h.f13 (listed_set h' (by decide)), fun h' => h.f14 (listed_set h' (by decide)), fun h' => h.f15 (listed_set h' (by decide))⟩
theorem AF.up4 {v : Value} (h : AF g d agg n l w s3 s4 s5 s47 s48 s49 s50 s51 s52 s53 s54 s55 s56 s57 s58) (hv : ∃ k : Nat, k < 6 ∧ v = .int .i64 k) : AF g d agg n (l.setIfInBounds 4 true) w s3 s4 s5 s47 s48 s49 s50 v s52 s53 s54 s55 s56 s57 s58 :=
  ⟨fun h' => h.f0 (listed_set h' (by decide)), fun h' => h.f1 (listed_set h' (by decide)), fun h' => h.f2 (listed_set h' (by decide)), fun h' => h.f3 (listed_set h' (by decide)), fun _ => hv, fun h' => h.f5 (listed_set h' (by decide)), fun h' => h.f6 (listed_set h' (by decide)), fun h' => h.f7 (listed_set h' (by decide)), fun h' => h.f8 (listed_set h' (by decide)), fun h' => h.f9 (listed_set h' (by decide)), fun h' => h.f10 (listed_set h' (by decide)), fun h' => h.f11 (listed_set h' (by decide)), fun h' => h.f13 (listed_set h' (by decide)), fun h' => h.f14 (listed_set h' (by decide)), fun h' => h.f15 (listed_set h' (by decide))⟩
theorem AF.up5 {v : Value} (h : AF g d agg n l w s3 s4 s5 s47 s48 s49 s50 s51 s52 s53 s54 s55 s56 s57 s58) (hv : ∃ p k : Nat, k < 6 ∧ v = .pointer (some ⟨p, k, none⟩) ∧ AwLit w g d 9 awayWords p) : AF g d agg n (l.setIfInBounds 5 true) w s3 s4 s5 s47 s48 s49 s50 s51 v s53 s54 s55 s56 s57 s58 :=
  ⟨fun h' => h.f0 (listed_set h' (by decide)), fun h' => h.f1 (listed_set h' (by decide)), fun h' => h.f2 (listed_set h' (by decide)), fun h' => h.f3 (listed_set h' (by decide)), fun h' => h.f4 (listed_set h' (by decide)), fun _ => hv, fun h' => h.f6 (listed_set h' (by decide)), fun h' => h.f7 (listed_set h' (by decide)), fun h' => h.f8 (listed_set h' (by decide)), fun h' => h.f9 (listed_set h' (by decide)), fun h' => h.f10 (listed_set h' (by decide)), fun h' => h.f11 (listed_set h' (by decide)), fun h' => h.f13 (listed_set h' (by decide)), fun h' => h.f14 (listed_set h' (by decide)), fun h' => h.f15 (listed_set h' (by decide))⟩
theorem AF.up6 {v : Value} (h : AF g d agg n l w s3 s4 s5 s47 s48 s49 s50 s51 s52 s53 s54 s55 s56 s57 s58) (hv : ∃ y : ByteArray, y.size ≤ 16 ∧ v = .string y) : AF g d agg n (l.setIfInBounds 6 true) w s3 s4 s5 s47 s48 s49 s50 s51 s52 v s54 s55 s56 s57 s58 :=
  ⟨fun h' => h.f0 (listed_set h' (by decide)), fun h' => h.f1 (listed_set h' (by decide)), fun h' => h.f2 (listed_set h' (by decide)), fun h' => h.f3 (listed_set h' (by decide)), fun h' => h.f4 (listed_set h' (by decide)), fun h' => h.f5 (listed_set h' (by decide)), fun _ => hv, fun h' => h.f7 (listed_set h' (by decide)), fun h' => h.f8 (listed_set h' (by decide)), fun h' => h.f9 (listed_set h' (by decide)), fun h' => h.f10 (listed_set h' (by decide)), fun h' => h.f11 (listed_set h' (by decide)), fun h' => h.f13 (listed_set h' (by decide)), fun h' => h.f14 (listed_set h' (by decide)), fun h' => h.f15 (listed_set h' (by decide))⟩
theorem AF.up7 {v : Value} (h : AF g d agg n l w s3 s4 s5 s47 s48 s49 s50 s51 s52 s53 s54 s55 s56 s57 s58) (hv : ∃ p, v = .slice (some ⟨p, 0, none⟩) 6 6 ∧ AwLit w g d 3 awayBounds p) : AF g d agg n (l.setIfInBounds 7 true) w s3 s4 s5 s47 s48 s49 s50 s51 s52 s53 v s55 s56 s57 s58 :=
  ⟨fun h' => h.f0 (listed_set h' (by decide)), fun h' => h.f1 (listed_set h' (by decide)), fun h' => h.f2 (listed_set h' (by decide)), fun h' => h.f3 (listed_set h' (by decide)), fun h' => h.f4 (listed_set h' (by decide)), fun h' => h.f5 (listed_set h' (by decide)), fun h' => h.f6 (listed_set h' (by decide)), fun _ => hv, fun h' => h.f8 (listed_set h' (by decide)), fun h' => h.f9 (listed_set h' (by decide)), fun h' => h.f10 (listed_set h' (by decide)), fun h' => h.f11 (listed_set h' (by decide)), fun h' => h.f13 (listed_set h' (by decide)), fun h' => h.f14 (listed_set h' (by decide)), fun h' => h.f15 (listed_set h' (by decide))⟩
theorem AF.up8 {v : Value} (h : AF g d agg n l w s3 s4 s5 s47 s48 s49 s50 s51 s52 s53 s54 s55 s56 s57 s58) (hv : v = .pointer (some ⟨g, 0, none⟩)) : AF g d agg n (l.setIfInBounds 8 true) w s3 s4 s5 s47 s48 s49 s50 s51 s52 s53 s54 v s56 s57 s58 :=
  ⟨fun h' => h.f0 (listed_set h' (by decide)), fun h' => h.f1 (listed_set h' (by decide)), fun h' => h.f2 (listed_set h' (by decide)), fun h' => h.f3 (listed_set h' (by decide)), fun h' => h.f4 (listed_set h' (by decide)), fun h' => h.f5 (listed_set h' (by decide)), fun h' => h.f6 (listed_set h' (by decide)), fun h' => h.f7 (listed_set h' (by decide)), fun _ => hv, fun h' => h.f9 (listed_set h' (by decide)), fun h' => h.f10 (listed_set h' (by decide)), fun h' => h.f11 (listed_set h' (by decide)), fun h' => h.f13 (listed_set h' (by decide)), fun h' => h.f14 (listed_set h' (by decide)), fun h' => h.f15 (listed_set h' (by decide))⟩
theorem AF.up9 {v : Value} (h : AF g d agg n l w s3 s4 s5 s47 s48 s49 s50 s51 s52 s53 s54 s55 s56 s57 s58) (hv : ∃ k : Nat, k < 6 ∧ v = .int .i64 k) : AF g d agg n (l.setIfInBounds 9 true) w s3 s4 s5 s47 s48 s49 s50 s51 s52 s53 s54 s55 v s57 s58 :=
  ⟨fun h' => h.f0 (listed_set h' (by decide)), fun h' => h.f1 (listed_set h' (by decide)), fun h' => h.f2 (listed_set h' (by decide)), fun h' => h.f3 (listed_set h' (by decide)), fun h' => h.f4 (listed_set h' (by decide)), fun h' => h.f5 (listed_set h' (by decide)), fun h' => h.f6 (listed_set h' (by decide)), fun h' => h.f7 (listed_set h' (by decide)), fun h' => h.f8 (listed_set h' (by decide)), fun _ => hv, fun h' => h.f10 (listed_set h' (by decide)), fun h' => h.f11 (listed_set h' (by decide)), fun h' => h.f13 (listed_set h' (by decide)), fun h' => h.f14 (listed_set h' (by decide)), fun h' => h.f15 (listed_set h' (by decide))⟩
theorem AF.up10 {v : Value} (h : AF g d agg n l w s3 s4 s5 s47 s48 s49 s50 s51 s52 s53 s54 s55 s56 s57 s58) (hv : ∃ p k : Nat, k < 6 ∧ v = .pointer (some ⟨p, k, none⟩) ∧ AwLit w g d 3 awayBounds p) : AF g d agg n (l.setIfInBounds 10 true) w s3 s4 s5 s47 s48 s49 s50 s51 s52 s53 s54 s55 s56 v s58 :=
  ⟨fun h' => h.f0 (listed_set h' (by decide)), fun h' => h.f1 (listed_set h' (by decide)), fun h' => h.f2 (listed_set h' (by decide)), fun h' => h.f3 (listed_set h' (by decide)), fun h' => h.f4 (listed_set h' (by decide)), fun h' => h.f5 (listed_set h' (by decide)), fun h' => h.f6 (listed_set h' (by decide)), fun h' => h.f7 (listed_set h' (by decide)), fun h' => h.f8 (listed_set h' (by decide)), fun h' => h.f9 (listed_set h' (by decide)), fun _ => hv, fun h' => h.f11 (listed_set h' (by decide)), fun h' => h.f13 (listed_set h' (by decide)), fun h' => h.f14 (listed_set h' (by decide)), fun h' => h.f15 (listed_set h' (by decide))⟩
theorem AF.up11 {v : Value} (h : AF g d agg n l w s3 s4 s5 s47 s48 s49 s50 s51 s52 s53 s54 s55 s56 s57 s58) (hv : ∃ b : Int, (0 ≤ b ∧ b ≤ 101) ∧ v = .int .i64 b) : AF g d agg n (l.setIfInBounds 11 true) w s3 s4 s5 s47 s48 s49 s50 s51 s52 s53 s54 s55 s56 s57 v :=
  ⟨fun h' => h.f0 (listed_set h' (by decide)), fun h' => h.f1 (listed_set h' (by decide)), fun h' => h.f2 (listed_set h' (by decide)), fun h' => h.f3 (listed_set h' (by decide)), fun h' => h.f4 (listed_set h' (by decide)), fun h' => h.f5 (listed_set h' (by decide)), fun h' => h.f6 (listed_set h' (by decide)), fun h' => h.f7 (listed_set h' (by decide)), fun h' => h.f8 (listed_set h' (by decide)), fun h' => h.f9 (listed_set h' (by decide)), fun h' => h.f10 (listed_set h' (by decide)), fun _ => hv, fun h' => h.f13 (listed_set h' (by decide)), fun h' => h.f14 (listed_set h' (by decide)), fun h' => h.f15 (listed_set h' (by decide))⟩
theorem AF.up12 (h : AF g d agg n l w s3 s4 s5 s47 s48 s49 s50 s51 s52 s53 s54 s55 s56 s57 s58) : AF g d agg n (l.setIfInBounds 12 true) w s3 s4 s5 s47 s48 s49 s50 s51 s52 s53 s54 s55 s56 s57 s58 :=
  ⟨fun h' => h.f0 (listed_set h' (by decide)), fun h' => h.f1 (listed_set h' (by decide)), fun h' => h.f2 (listed_set h' (by decide)), fun h' => h.f3 (listed_set h' (by decide)), fun h' => h.f4 (listed_set h' (by decide)), fun h' => h.f5 (listed_set h' (by decide)), fun h' => h.f6 (listed_set h' (by decide)), fun h' => h.f7 (listed_set h' (by decide)), fun h' => h.f8 (listed_set h' (by decide)), fun h' => h.f9 (listed_set h' (by decide)), fun h' => h.f10 (listed_set h' (by decide)), fun h' => h.f11 (listed_set h' (by decide)), fun h' => h.f13 (listed_set h' (by decide)), fun h' => h.f14 (listed_set h' (by decide)), fun h' => h.f15 (listed_set h' (by decide))⟩
theorem AF.up13 {v : Value} (h : AF g d agg n l w s3 s4 s5 s47 s48 s49 s50 s51 s52 s53 s54 s55 s56 s57 s58) (hv : v = .int .i64 n) : AF g d agg n (l.setIfInBounds 13 true) w v s4 s5 s47 s48 s49 s50 s51 s52 s53 s54 s55 s56 s57 s58 :=
  ⟨fun h' => h.f0 (listed_set h' (by decide)), fun h' => h.f1 (listed_set h' (by decide)), fun h' => h.f2 (listed_set h' (by decide)), fun h' => h.f3 (listed_set h' (by decide)), fun h' => h.f4 (listed_set h' (by decide)), fun h' => h.f5 (listed_set h' (by decide)), fun h' => h.f6 (listed_set h' (by decide)), fun h' => h.f7 (listed_set h' (by decide)), fun h' => h.f8 (listed_set h' (by decide)), fun h' => h.f9 (listed_set h' (by decide)), fun h' => h.f10 (listed_set h' (by decide)), fun h' => h.f11 (listed_set h' (by decide)), fun _ => hv, fun h' => h.f14 (listed_set h' (by decide)), fun h' => h.f15 (listed_set h' (by decide))⟩
theorem AF.up14 {v : Value} (h : AF g d agg n l w s3 s4 s5 s47 s48 s49 s50 s51 s52 s53 s54 s55 s56 s57 s58) (hv : ∃ y : ByteArray, y.size ≤ 16 ∧ v = .string y) : AF g d agg n (l.setIfInBounds 14 true) w s3 v s5 s47 s48 s49 s50 s51 s52 s53 s54 s55 s56 s57 s58 :=
  ⟨fun h' => h.f0 (listed_set h' (by decide)), fun h' => h.f1 (listed_set h' (by decide)), fun h' => h.f2 (listed_set h' (by decide)), fun h' => h.f3 (listed_set h' (by decide)), fun h' => h.f4 (listed_set h' (by decide)), fun h' => h.f5 (listed_set h' (by decide)), fun h' => h.f6 (listed_set h' (by decide)), fun h' => h.f7 (listed_set h' (by decide)), fun h' => h.f8 (listed_set h' (by decide)), fun h' => h.f9 (listed_set h' (by decide)), fun h' => h.f10 (listed_set h' (by decide)), fun h' => h.f11 (listed_set h' (by decide)), fun h' => h.f13 (listed_set h' (by decide)), fun _ => hv, fun h' => h.f15 (listed_set h' (by decide))⟩
theorem AF.up15 {v : Value} (h : AF g d agg n l w s3 s4 s5 s47 s48 s49 s50 s51 s52 s53 s54 s55 s56 s57 s58) (hv : ∃ b : Int, (0 ≤ b ∧ b ≤ 101) ∧ v = .int .i64 b) : AF g d agg n (l.setIfInBounds 15 true) w s3 s4 v s47 s48 s49 s50 s51 s52 s53 s54 s55 s56 s57 s58 :=
  ⟨fun h' => h.f0 (listed_set h' (by decide)), fun h' => h.f1 (listed_set h' (by decide)), fun h' => h.f2 (listed_set h' (by decide)), fun h' => h.f3 (listed_set h' (by decide)), fun h' => h.f4 (listed_set h' (by decide)), fun h' => h.f5 (listed_set h' (by decide)), fun h' => h.f6 (listed_set h' (by decide)), fun h' => h.f7 (listed_set h' (by decide)), fun h' => h.f8 (listed_set h' (by decide)), fun h' => h.f9 (listed_set h' (by decide)), fun h' => h.f10 (listed_set h' (by decide)), fun h' => h.f11 (listed_set h' (by decide)), fun h' => h.f13 (listed_set h' (by decide)), fun h' => h.f14 (listed_set h' (by decide)), fun _ => hv⟩
end

set_option maxRecDepth 100000 in
set_option maxHeartbeats 8000000 in
theorem away_any (g : Nat) (w : World) (h : Rd w g 0) :
    Calls Try.prog 64 #[.pointer (some ⟨g, 0, none⟩)] w (RetAway w g) := by
  have hg0 := h.lt
  have HD := Lib.hid (named_any g (w.alloc zeroTng) (h.alloc' _))
  have HX := Lib.hid (Blk.new w 26 #[.slice none 0 0, .slice none 0 0, .slice none 0 0])
  clear h
  go_enter Try.func64, Try.ntmps64
  go_wp2_with (fail)
  refine HD.out.mono ?_
  rintro e w1 ⟨v, t, n, q, rfl, ho, hsm, hn, hr, hq, hg⟩
  obtain ⟨n1, n2⟩ := hn
  obtain ⟨A1, c1, A2, c2, A3, c3, rfl⟩ := ho.shape
  have hX1 : Blk w1 w.heap.size 26 #[.slice none 0 0, .slice none 0 0, .slice none 0 0] := HX.out.grown hg (by simp; omega)
  have hs1 := hg.size
  rw [World.size_alloc] at hs1
  rw [World.size_alloc] at ho
  have hB2 := (Below.refl w1.heap.size w1).alloc (Nat.le_refl _) (.cells #[.slice A1 t.us.length c1, .slice A2 t.bs.length c2, .slice A3 t.ns.length c3] 26)
  have D : DN w g w1.heap.size #[.slice A1 t.us.length c1, .slice A2 t.bs.length c2, .slice A3 t.ns.length c3] (.agg #[.slice A1 t.us.length c1, .slice A2 t.bs.length c2, .slice A3 t.ns.length c3]) t (w1.alloc (.cells #[.slice A1 t.us.length c1, .slice A2 t.bs.length c2, .slice A3 t.ns.length c3] 26)) q :=
    ⟨hr.below hB2 (Nat.le_refl _), hX1.below hB2 hX1.lt, Blk.new w1 26 #[.slice A1 t.us.length c1, .slice A2 t.bs.length c2, .slice A3 t.ns.length c3], ho.below hB2 (Nat.le_refl _), ((grown_of_below (some g) ((Below.refl w.heap.size w).alloc (Nat.le_refl _) zeroTng)).trans hg).trans (grown_of_below (some g) hB2)⟩
  replace D := Lib.hid D
  have hgz : g < w1.heap.size := by omega
  have hzw : w.heap.size < w1.heap.size := by omega
  have hfi := Lib.hid (hsm.fine (by omega))
  replace hsm := Lib.hid hsm
  clear hB2 hX1 hr ho hg HD HX
  go_upto_region 2 with (fail)
  generalize w1.alloc (.cells #[.slice A1 t.us.length c1, .slice A2 t.bs.length c2, .slice A3 t.ns.length c3] 26) = W at *
  generalize w1.heap.size = z at *
  go_cut [26] (fun s26 wx => (∃ c, s26 = .bool c ∧ (c = true → t.ok = true ∧ 2 ≤ t.bs.length)) ∧ DN w g z #[.slice A1 t.us.length c1, .slice A2 t.bs.length c2, .slice A3 t.ns.length c3] (.agg #[.slice A1 t.us.length c1, .slice A2 t.bs.length c2, .slice A3 t.ns.length c3]) t wx (q+1))
  case first =>
    go_wp2_with (fail)
    refine (pick_any g q 2 W D.out.rd (by omega) (by omega) (by omega)).mono ?_
    rintro e V1 ⟨k1, rfl, hk1, hr1, hg1, -⟩
    replace D := Lib.hid (D.out.pick hg1 hr1 hg0 hgz)
    have a1 : 0 ≤ k1 := hk1.1
    have b1 : k1 < 2 := by omega
    clear hk1 hr1 hg1
    by_cases h0 : k1 = 0
    · subst h0
      obtain ⟨z0, z1, z2, -, -, -⟩ := blk3 D.out.hz
      have KT := Lib.hid (specTongueOk_any _ t V1 D.out.own.tng hfi.out)
      go_wp2_with (fail)
      refine KT.out.mono ?_
      rintro e V8 ⟨rfl, b8⟩
      replace D := Lib.hid (D.out.below b8)
      clear b8 z0 z1 z2 KT
      obtain ⟨z0, z1, z2, -, -, -⟩ := blk3 D.out.hz
      cases hok : t.ok
      · replace hok := Lib.hid hok
        go_wp2
        go_meet
        exact ⟨⟨false, rfl, fun h => by cases h⟩, D.out⟩
      · replace hok := Lib.hid hok
        go_wp2
        go_meet
        exact ⟨⟨_, rfl, fun h => ⟨hok.out, by have := of_decide_eq_true h; omega⟩⟩, D.out⟩
    · have h0' : (k1 == 0) = false := by rw [beq_eq_false_iff_ne]; exact h0
      go_wp2
      go_meet
      exact ⟨⟨false, rfl, fun h => by cases h⟩, D.out⟩
  case rest =>
    clear D
    obtain ⟨⟨c, rfl, hcc⟩, D⟩ := hcut
    replace D := Lib.hid D
    go_upto_if 26 with (fail)
    go_cut [7] (fun s7 wx => (∃ n' q', s7 = .int .i64 n' ∧ (-200000 ≤ n' ∧ n' ≤ 4000000) ∧ q' ≤ q + 4 ∧ DN w g z #[.slice A1 t.us.length c1, .slice A2 t.bs.length c2, .slice A3 t.ns.length c3] (.agg #[.slice A1 t.us.length c1, .slice A2 t.bs.length c2, .slice A3 t.ns.length c3]) t wx q'))
    case first =>
      cases c
      · clear hcc
        go_wp2
        go_meet
        exact ⟨_, _, rfl, ⟨by omega, by omega⟩, by omega, D.out⟩
      · obtain ⟨hok, h2⟩ := hcc rfl
        have hbs := (ok_shape hok).bs
        have hbl := bases_len hbs
        have hps := bases_pos hbs
        obtain ⟨_, _, _, _, _, _, ev, -, I2, -⟩ := D.out.own.tng.ex
        cases ev
        obtain ⟨b2, o2, rfl, -, -⟩ := I2.at_ (by omega)
        clear I2
        replace hok := Lib.hid hok
        replace hbs := Lib.hid hbs
        replace hps := Lib.hid hps
        have w1 : IntKind.i64.wrap ((t.bs.length : Int) - 1) = (t.bs.length : Int) - 1 := IntWalk.i64_in _ (by omega)
        obtain ⟨z0, z1, z2, -, -, -⟩ := blk3 D.out.hz
        go_upto_region 3 with (fail)
        go_cut [8] (fun s8 wx => (∃ a, s8 = .int .i64 a ∧ 1 ≤ a ∧ a ≤ 999999) ∧ DN w g z #[.slice A1 t.us.length c1, .slice (some ⟨b2, o2, none⟩) t.bs.length c2, .slice A3 t.ns.length c3] (.agg #[.slice A1 t.us.length c1, .slice (some ⟨b2, o2, none⟩) t.bs.length c2, .slice A3 t.ns.length c3]) t wx (q+1+1))
        case first =>
          go_region_law (first
            | (go_simp; go_at_call 45; refine (pick_any g (q+1) ((t.bs.length : Int) - 1) _ (by first | exact D.out.rd.drew | exact D.out.rd) (by omega) (by omega) (by omega)).mono ?_; rintro e V9 ⟨k9, rfl, hk9, hr9, hg9, -⟩; have hg9' : wc.grownBy V9 (some g) := ⟨hg9.os, hg9.tape, hg9.output, hg9.size, hg9.block⟩; have D9 := Lib.hid (D.out.pick hg9' hr9 hg0 hgz); obtain ⟨kk, rfl⟩ : ∃ kk : Nat, k9 = (kk : Int) := ⟨k9.toNat, by omega⟩; have hkk : 1 + kk < t.bs.length := (by omega); obtain ⟨z0', z1', z2', -, -, -⟩ := blk3 D9.out.hz; obtain ⟨y, hy, y1, y2⟩ : ∃ y : Int, V9.cell? ⟨b2, o2 + (1 + kk), none⟩ = some (.int .i64 y) ∧ 1 ≤ y ∧ y ≤ 999999 := (by obtain ⟨_, _, _, _, _, _, ev, -, I2, -⟩ := D9.out.own.tng.ex; cases ev; obtain ⟨_, _, ea, -, hc2⟩ := I2.at_ (by omega); cases ea; exact ⟨_, hc2 _ hkk, (hps.out _ hkk).1, (hps.out _ hkk).2⟩); have w2 : IntKind.i64.wrap ((1 : Int) + (kk : Int)) = (1 : Int) + (kk : Int) := IntWalk.i64_in _ (by omega); have w3 : (0 : Int) ≤ 1 + (kk : Int) := (by omega); have w4 : (1 : Int) + (kk : Int) < (t.bs.length : Int) := (by omega); have w5 : ((1 : Int) + (kk : Int)).toNat = 1 + kk := (by omega); clear hk9 hr9 hg9 hg9'))
          all_goals
            go_wp2
            go_meet
            exact ⟨⟨_, rfl, by omega, by omega⟩, D9.out⟩
        case rest =>
          clear D z0 z1 z2
          obtain ⟨⟨a, rfl, a1, a2⟩, D⟩ := hcut
          replace D := Lib.hid D
          go_wp2_with (fail)
          refine (pick_any g (q+1+1) 4 _ D.out.rd (by omega) (by omega) (by omega)).mono ?_
          rintro e V4 ⟨k4, rfl, hk4, hr4, hg4, -⟩
          replace D := Lib.hid (D.out.pick hg4 hr4 hg0 hgz)
          have a4 : 0 ≤ k4 := hk4.1
          have b4 : k4 < 4 := by omega
          clear hk4 hr4 hg4
          have m1 : 1 ≤ a * (1 + k4) ∧ a * (1 + k4) ≤ 3999996 := by
            have e1 := Int.mul_le_mul_of_nonneg_left (show (1 : Int) ≤ 1 + k4 by omega) (show (0 : Int) ≤ a by omega)
            have e2 := Int.mul_le_mul_of_nonneg_left (show 1 + k4 ≤ 4 by omega) (show (0 : Int) ≤ a by omega)
            omega
          obtain ⟨m1, m2⟩ := m1
          have w2 : IntKind.i64.wrap ((1 : Int) + k4) = (1 : Int) + k4 := IntWalk.i64_in _ (by omega)
          have w3 : IntKind.i64.wrap (a * (1 + k4)) = a * (1 + k4) := IntWalk.i64_in _ (by omega)
          have w4 : IntKind.i64.wrap (a * (1 + k4) - 1) = a * (1 + k4) - 1 := IntWalk.i64_in _ (by omega)
          go_wp2_with (fail)
          refine (pick_any g (q+1+1+1) 3 _ D.out.rd (by omega) (by omega) (by omega)).mono ?_
          rintro e V5 ⟨k5, rfl, hk5, hr5, hg5, -⟩
          replace D := Lib.hid (D.out.pick hg5 hr5 hg0 hgz)
          have a5 : 0 ≤ k5 := hk5.1
          have b5 : k5 < 3 := by omega
          clear hk5 hr5 hg5
          have w5 : IntKind.i64.wrap (a * (1 + k4) - 1 - k5) = a * (1 + k4) - 1 - k5 := IntWalk.i64_in _ (by omega)
          go_wp2
          go_meet
          exact ⟨_, _, rfl, ⟨by omega, by omega⟩, by omega, D.out⟩
    case rest =>
      clear D
      obtain ⟨n', q', rfl, ⟨n1', n2'⟩, hq', D⟩ := hcut
      replace D := Lib.hid D
      have hzne : w.heap.size ≠ z := by omega
      go_upto_region 5 with (fail)
      generalize wc = W at *
      refine wp_region_any (by kernel_rfl) ?_
      refine wpAny_inv (Inv := fun l a w' => ∃ s3 s4 s5 s47 s48 s49 s50 s51 s52 s53 s54 s55 s56 s57 s58 : Value, a = ⟨#[.pointer (some ⟨g, 0, none⟩), undef, .pointer (some ⟨w.heap.size, 0, none⟩), s3, s4, s5, .pointer (some ⟨z, 0, none⟩), .int .i64 n', u8, u9, u10, u11, u12, u13, u14, u15, u16, u17, u18, u19, u20, u21, u22, u23, u24, u25, u26, u27, u28, u29, u30, u31, u32, u33, u34, u35, u36, u37, u38, u39, u40, u41, u42, u43, u44, u45, u46, s47, s48, s49, s50, s51, s52, s53, s54, s55, s56, s57, s58], []⟩ ∧ AW w g z #[.slice A1 t.us.length c1, .slice A2 t.bs.length c2, .slice A3 t.ns.length c3] (.agg #[.slice A1 t.us.length c1, .slice A2 t.bs.length c2, .slice A3 t.ns.length c3]) t (awQ q' l) (l.getD 12 false) w' ∧ AF g w.heap.size (.agg #[.slice A1 t.us.length c1, .slice A2 t.bs.length c2, .slice A3 t.ns.length c3]) n' l w' s3 s4 s5 s47 s48 s49 s50 s51 s52 s53 s54 s55 s56 s57 s58) (ord_spec (by kernel_rfl)) ?_ ?_ _ _ _ _ rfl (by decide) ?_
      · rintro l a w' ⟨s3, s4, s5, s47, s48, s49, s50, s51, s52, s53, s54, s55, s56, s57, s58, rfl, hAW, hF⟩ hsz hl
        have hl' : ∀ j, j < 16 → l.getD j false = true := hl
        have e3 := hF.f13 (hl' 13 (by decide))
        obtain ⟨y, hys, e4⟩ := hF.f14 (hl' 14 (by decide))
        obtain ⟨b, hb, e5⟩ := hF.f15 (hl' 15 (by decide))
        subst e3
        subst e4
        subst e5
        rw [hl' 12 (by decide)] at hAW
        have hq2 := awQ_le q' l
        obtain ⟨r0, r1, r2, -, -, -⟩ := blk3 hAW.hx
        have HF : RetAway w g (.returned (.tuple #[(.agg #[.slice A1 t.us.length c1, .slice A2 t.bs.length c2, .slice A3 t.ns.length c3]), .int .i64 n', .string y, .int .i64 b])) w' := ⟨_, t, n', y, b, _, rfl, hAW.own.mono (by omega), hsm.out, ⟨n1', n2'⟩, hys, hb, hAW.rd, by omega, hAW.gr⟩
        replace HF := Lib.hid HF
        clear hAW hF hl hl'
        go_wp2
        refine bodyPost_ret (v := .tuple #[(.agg #[.slice A1 t.us.length c1, .slice A2 t.bs.length c2, .slice A3 t.ns.length c3]), .int .i64 n', .string y, .int .i64 b]) (by simp [results, Try.results64, go_sem, r0, r1, r2]) rfl ?_
        exact HF.out
      · rintro l a w' ⟨s3, s4, s5, s47, s48, s49, s50, s51, s52, s53, s54, s55, s56, s57, s58, rfl, hAW, hF⟩ hsz i o hlt ho hun hall
        have hlt' : i < 16 := hlt
        refine wpOp_step ho (fun K' hK => ?_)
        replace hK := Lib.hid hK
        obtain rfl | rfl | rfl | rfl | rfl | rfl | rfl | rfl | rfl | rfl | rfl | rfl | rfl | rfl | rfl | rfl : i = 0 ∨ i = 1 ∨ i = 2 ∨ i = 3 ∨ i = 4 ∨ i = 5 ∨ i = 6 ∨ i = 7 ∨ i = 8 ∨ i = 9 ∨ i = 10 ∨ i = 11 ∨ i = 12 ∨ i = 13 ∨ i = 14 ∨ i = 15 := by omega
        · simp only [List.getElem?_toArray, List.getElem?_cons_zero, Option.some.injEq] at ho
          subst ho
          obtain ⟨z0, z1, z2, -, -, -⟩ := blk3 hAW.hz
          replace hAW := Lib.hid hAW
          replace hF := Lib.hid hF
          clear hall
          go_simp
          refine hK.out _ _ ?_
          exact ⟨_, _, _, _, _, _, _, _, _, _, _, _, _, _, _, rfl, (by rw [awQ_same (by decide) (by decide), listed_same (by decide)]; exact hAW.out), hF.out.up0 rfl⟩
        · simp only [List.getElem?_toArray, List.getElem?_cons_succ, List.getElem?_cons_zero, Option.some.injEq] at ho
          subst ho
          replace hAW := Lib.hid hAW
          replace hF := Lib.hid hF
          clear hall
          go_simp
          refine hK.out _ _ ?_
          exact ⟨_, _, _, _, _, _, _, _, _, _, _, _, _, _, _, rfl, (by rw [awQ_same (by decide) (by decide), listed_same (by decide)]; exact hAW.out), hF.out.up1 rfl⟩
        · simp only [List.getElem?_toArray, List.getElem?_cons_succ, List.getElem?_cons_zero, Option.some.injEq] at ho
          subst ho
          replace hAW := Lib.hid hAW
          replace hF := Lib.hid hF
          clear hall
          go_simp
          refine hK.out _ _ ?_
          exact ⟨_, _, _, _, _, _, _, _, _, _, _, _, _, _, _, rfl, (by rw [awQ_same (by decide) (by decide), listed_same (by decide)]; exact hAW.out.al _), (hF.out.world (fun _ _ _ hl => hl.al _)).up2 ⟨_, rfl, Blk.new _ 9 awayWords, by have := hAW.out.rd.lt; omega, by have := hAW.out.hx.lt; omega⟩⟩
        · simp only [List.getElem?_toArray, List.getElem?_cons_succ, List.getElem?_cons_zero, Option.some.injEq] at ho
          subst ho
          replace hAW := Lib.hid hAW
          replace hF := Lib.hid hF
          clear hall
          go_simp
          refine hK.out _ _ ?_
          exact ⟨_, _, _, _, _, _, _, _, _, _, _, _, _, _, _, rfl, (by rw [awQ_same (by decide) (by decide), listed_same (by decide)]; exact hAW.out), hF.out.up3 rfl⟩
        · simp only [List.getElem?_toArray, List.getElem?_cons_succ, List.getElem?_cons_zero, Option.some.injEq] at ho
          subst ho
          have e1 := hF.f3 (hall ⟨3, Ground.data⟩ (by simp) rfl)
          subst e1
          replace hAW := Lib.hid hAW
          replace hF := Lib.hid hF
          clear hall
          go_simp
          go_at_call 45
          refine (pick_any g (awQ q' l) 6 _ hAW.out.rd (by have := awQ_le q' l; omega) (by omega) (by omega)).mono ?_
          rintro e V ⟨k, rfl, hk, hr, hg, -⟩
          obtain ⟨kk, rfl⟩ : ∃ kk : Nat, k = (kk : Int) := ⟨k.toNat, by omega⟩
          go_simp
          refine hK.out _ _ ?_
          exact ⟨_, _, _, _, _, _, _, _, _, _, _, _, _, _, _, rfl, (by rw [awQ_4 (by rw [hsz]; decide) hun, listed_same (by decide)]; exact hAW.out.pick hg hr hg0 hgz), (hF.out.world (fun _ _ _ hl => hl.pick hg)).up4 ⟨kk, by omega, rfl⟩⟩
        · simp only [List.getElem?_toArray, List.getElem?_cons_succ, List.getElem?_cons_zero, Option.some.injEq] at ho
          subst ho
          obtain ⟨p, e1, hl⟩ := hF.f2 (hall ⟨2, Ground.data⟩ (by simp) rfl)
          subst e1
          obtain ⟨k, hk, e2⟩ := hF.f4 (hall ⟨4, Ground.data⟩ (by simp) rfl)
          subst e2
          have k0 : (0 : Int) ≤ (k : Int) := by omega
          have k1 : (k : Int) < 6 := by omega
          replace hAW := Lib.hid hAW
          replace hF := Lib.hid hF
          clear hall
          go_simp
          refine hK.out _ _ ?_
          exact ⟨_, _, _, _, _, _, _, _, _, _, _, _, _, _, _, rfl, (by rw [awQ_same (by decide) (by decide), listed_same (by decide)]; exact hAW.out), hF.out.up5 ⟨p, k, hk, rfl, hl⟩⟩
        · simp only [List.getElem?_toArray, List.getElem?_cons_succ, List.getElem?_cons_zero, Option.some.injEq] at ho
          subst ho
          obtain ⟨p, k, hk, e1, hl⟩ := hF.f5 (hall ⟨5, Ground.data⟩ (by simp) rfl)
          subst e1
          obtain ⟨y, hy, hys⟩ := awayWords_at k hk
          have ck := (hl.blk.cell k).trans hy
          clear hy
          replace hAW := Lib.hid hAW
          replace hF := Lib.hid hF
          clear hall
          go_simp
          refine hK.out _ _ ?_
          exact ⟨_, _, _, _, _, _, _, _, _, _, _, _, _, _, _, rfl, (by rw [awQ_same (by decide) (by decide), listed_same (by decide)]; exact hAW.out), hF.out.up6 ⟨y, hys, rfl⟩⟩
        · simp only [List.getElem?_toArray, List.getElem?_cons_succ, List.getElem?_cons_zero, Option.some.injEq] at ho
          subst ho
          replace hAW := Lib.hid hAW
          replace hF := Lib.hid hF
          clear hall
          go_simp
          refine hK.out _ _ ?_
          exact ⟨_, _, _, _, _, _, _, _, _, _, _, _, _, _, _, rfl, (by rw [awQ_same (by decide) (by decide), listed_same (by decide)]; exact hAW.out.al _), (hF.out.world (fun _ _ _ hl => hl.al _)).up7 ⟨_, rfl, Blk.new _ 3 awayBounds, by have := hAW.out.rd.lt; omega, by have := hAW.out.hx.lt; omega⟩⟩
        · simp only [List.getElem?_toArray, List.getElem?_cons_succ, List.getElem?_cons_zero, Option.some.injEq] at ho
          subst ho
          replace hAW := Lib.hid hAW
          replace hF := Lib.hid hF
          clear hall
          go_simp
          refine hK.out _ _ ?_
          exact ⟨_, _, _, _, _, _, _, _, _, _, _, _, _, _, _, rfl, (by rw [awQ_same (by decide) (by decide), listed_same (by decide)]; exact hAW.out), hF.out.up8 rfl⟩
        · simp only [List.getElem?_toArray, List.getElem?_cons_succ, List.getElem?_cons_zero, Option.some.injEq] at ho
          subst ho
          have e1 := hF.f8 (hall ⟨8, Ground.data⟩ (by simp) rfl)
          subst e1
          replace hAW := Lib.hid hAW
          replace hF := Lib.hid hF
          clear hall
          go_simp
          go_at_call 45
          refine (pick_any g (awQ q' l) 6 _ hAW.out.rd (by have := awQ_le q' l; omega) (by omega) (by omega)).mono ?_
          rintro e V ⟨k, rfl, hk, hr, hg, -⟩
          obtain ⟨kk, rfl⟩ : ∃ kk : Nat, k = (kk : Int) := ⟨k.toNat, by omega⟩
          go_simp
          refine hK.out _ _ ?_
          exact ⟨_, _, _, _, _, _, _, _, _, _, _, _, _, _, _, rfl, (by rw [awQ_9 (by rw [hsz]; decide) hun, listed_same (by decide)]; exact hAW.out.pick hg hr hg0 hgz), (hF.out.world (fun _ _ _ hl => hl.pick hg)).up9 ⟨kk, by omega, rfl⟩⟩
        · simp only [List.getElem?_toArray, List.getElem?_cons_succ, List.getElem?_cons_zero, Option.some.injEq] at ho
          subst ho
          obtain ⟨p, e1, hl⟩ := hF.f7 (hall ⟨7, Ground.data⟩ (by simp) rfl)
          subst e1
          obtain ⟨k, hk, e2⟩ := hF.f9 (hall ⟨9, Ground.data⟩ (by simp) rfl)
          subst e2
          have k0 : (0 : Int) ≤ (k : Int) := by omega
          have k1 : (k : Int) < 6 := by omega
          replace hAW := Lib.hid hAW
          replace hF := Lib.hid hF
          clear hall
          go_simp
          refine hK.out _ _ ?_
          exact ⟨_, _, _, _, _, _, _, _, _, _, _, _, _, _, _, rfl, (by rw [awQ_same (by decide) (by decide), listed_same (by decide)]; exact hAW.out), hF.out.up10 ⟨p, k, hk, rfl, hl⟩⟩
        · simp only [List.getElem?_toArray, List.getElem?_cons_succ, List.getElem?_cons_zero, Option.some.injEq] at ho
          subst ho
          obtain ⟨p, k, hk, e1, hl⟩ := hF.f10 (hall ⟨10, Ground.data⟩ (by simp) rfl)
          subst e1
          obtain ⟨y, hy, hys⟩ := awayBounds_at k hk
          have ck := (hl.blk.cell k).trans hy
          clear hy
          replace hAW := Lib.hid hAW
          replace hF := Lib.hid hF
          clear hall
          go_simp
          refine hK.out _ _ ?_
          exact ⟨_, _, _, _, _, _, _, _, _, _, _, _, _, _, _, rfl, (by rw [awQ_same (by decide) (by decide), listed_same (by decide)]; exact hAW.out), hF.out.up11 ⟨y, hys, rfl⟩⟩
        · simp only [List.getElem?_toArray, List.getElem?_cons_succ, List.getElem?_cons_zero, Option.some.injEq] at ho
          subst ho
          have e1 := hF.f0 (hall ⟨0, Ground.data⟩ (by simp) rfl)
          subst e1
          rw [hun] at hAW
          have hAW2 := hAW.set3 hg0 hzne
          obtain ⟨r0, r1, r2, f0, f1, f2⟩ := blk3 hAW.hx
          replace hAW := Lib.hid hAW
          replace hF := Lib.hid hF
          clear hall
          go_simp
          refine hK.out _ _ ?_
          exact ⟨_, _, _, _, _, _, _, _, _, _, _, _, _, _, _, rfl, (by rw [awQ_same (by decide) (by decide), listed_at (by rw [hsz]; decide)]; exact hAW2), (hF.out.world (fun _ _ _ hl => hl.set3 _ _ _)).up12⟩
        · simp only [List.getElem?_toArray, List.getElem?_cons_succ, List.getElem?_cons_zero, Option.some.injEq] at ho
          subst ho
          have e1 := hF.f1 (hall ⟨1, Ground.data⟩ (by simp) rfl)
          subst e1
          replace hAW := Lib.hid hAW
          replace hF := Lib.hid hF
          clear hall
          go_simp
          refine hK.out _ _ ?_
          exact ⟨_, _, _, _, _, _, _, _, _, _, _, _, _, _, _, rfl, (by rw [awQ_same (by decide) (by decide), listed_same (by decide)]; exact hAW.out), hF.out.up13 rfl⟩
        · simp only [List.getElem?_toArray, List.getElem?_cons_succ, List.getElem?_cons_zero, Option.some.injEq] at ho
          subst ho
          obtain ⟨y, hys, e1⟩ := hF.f6 (hall ⟨6, Ground.data⟩ (by simp) rfl)
          subst e1
          replace hAW := Lib.hid hAW
          replace hF := Lib.hid hF
          clear hall
          go_simp
          refine hK.out _ _ ?_
          exact ⟨_, _, _, _, _, _, _, _, _, _, _, _, _, _, _, rfl, (by rw [awQ_same (by decide) (by decide), listed_same (by decide)]; exact hAW.out), hF.out.up14 ⟨y, hys, rfl⟩⟩
        · simp only [List.getElem?_toArray, List.getElem?_cons_succ, List.getElem?_cons_zero, Option.some.injEq] at ho
          subst ho
          obtain ⟨y, hys, e1⟩ := hF.f11 (hall ⟨11, Ground.data⟩ (by simp) rfl)
          subst e1
          replace hAW := Lib.hid hAW
          replace hF := Lib.hid hF
          clear hall
          go_simp
          refine hK.out _ _ ?_
          exact ⟨_, _, _, _, _, _, _, _, _, _, _, _, _, _, _, rfl, (by rw [awQ_same (by decide) (by decide), listed_same (by decide)]; exact hAW.out), hF.out.up15 ⟨y, hys, rfl⟩⟩
      · refine ⟨_, _, _, _, _, _, _, _, _, _, _, _, _, _, _, rfl, ⟨D.out.rd.drew, D.out.hx, D.out.hz, D.out.own.below ((Below.refl _ _).drew) (Nat.le_refl _), grown_drew D.out.gr⟩, ?_⟩
        exact ⟨(fun h => by cases h), (fun h => by cases h), (fun h => by cases h), (fun h => by cases h), (fun h => by cases h), (fun h => by cases h), (fun h => by cases h), (fun h => by cases h), (fun h => by cases h), (fun h => by cases h), (fun h => by cases h), (fun h => by cases h), (fun h => by cases h), (fun h => by cases h), (fun h => by cases h)⟩
end Go.Proofs.Ytebfoofiaokhdaa
