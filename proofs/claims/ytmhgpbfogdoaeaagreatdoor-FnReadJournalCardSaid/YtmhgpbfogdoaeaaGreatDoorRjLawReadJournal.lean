/-
  FnReadJournal holds for every input: a drawn text is read as the model reads it, wherever it is cut; its deeds, done line by line to a drawn desk, are those of DeskRun, and are written as they stand. No condition but that the library's variables read as the program lays them.
-/
import Derived.Test.YtmhgpbfogdoaeaaGreatDoorCards
import Derived.Test.YtmhgpbfogdoaeaaGreatDoorTie
import Derived.Lay
import Derived.LaidMore
import Derived.SevenTiedAt
import Derived.Stop.Joined
import Derived.Test.YtmhgpbfogdoaeaaGreatDoorRjLaidV
import Derived.Test.YtmhgpbfogdoaeaaGreatDoorRjGJ
import Derived.Test.YtmhgpbfogdoaeaaGreatDoorRjSdd
import Derived.Test.YtmhgpbfogdoaeaaGreatDoorRjDrawRj
import Derived.Test.YtmhgpbfogdoaeaaGreatDoorRjGQ
import Derived.Test.YtmhgpbfogdoaeaaGreatDoorRjDSa
import Derived.Test.YtmhgpbfogdoaeaaGreatDoorRjGK
import Derived.Test.YtmhgpbfogdoaeaaGreatDoorRjGL
import Derived.Lib.QuietBelow
namespace Go.Proofs.YtmhgpbfogdoaeaaGreatDoor.fnReadJournal
open Go.ChangeShapes Go.WideShapes Go.ChangeAt Go.RowKit Go.Sort
open Go.ChangeMaps (open_string shut_string)

theorem own : ownKnob Tryz.prog.godebug = none := by kernel_rfl
theorem laidOut : laidOutB Tryz.prog = true := by kernel_rfl
theorem libs {W : World} (h : laidMet Tryz.prog Rows.fnReadJournalRow.laid W) : LibV W := ⟨libT_of h.tail.tail, libE_of h.tail.tail.tail.tail⟩
theorem tl_pre {s : ByteArray} {k : Nat} : tl (s.extract 0 k) = (tl s).take k := by
  show (s.extract 0 k).data.toList = _
  rw [Lib.extract_data]
  rfl

/-- What is known of the operations that have come up. -/
structure RJ19 (V : World) (B : Nat) (DV LV KV PV AV : Value) (dt an : ByteArray) (du : Dk) (l : Array Bool) (w : World) (s17 s18 s101 s102 s103 s104 s105 s106 s107 s108 s109 s110 : Value) : Prop where
  f0 : l.getD 0 false = true → s102 = DV
  f1 : l.getD 1 false = true → s103 = LV
  f2 : l.getD 2 false = true → s104 = KV
  f3 : l.getD 3 false = true → s105 = PV
  f4 : l.getD 4 false = true → s106 = AV
  f5 : l.getD 5 false = true → s107 = .string dt
  f6 : l.getD 6 false = true → ∃ x y, s108 = .tuple #[x, y] ∧ OwnDk w B x du ∧ y = .string an
  f7 : l.getD 7 false = true → ∃ x y, s101 = .tuple #[x, y] ∧ OwnDk w B x du ∧ y = .string an
  f8 : l.getD 8 false = true → OwnDk w B s109 du
  f9 : l.getD 9 false = true → s110 = .string an
  f10 : l.getD 10 false = true → ∃ q, s17 = .pointer (some ⟨q, 0, none⟩) ∧ V.heap.size ≤ q ∧ (l.getD 11 false = false → Blk w q 33 #[.slice none 0 0, .slice none 0 0, .slice none 0 0, .int .i64 0, .slice none 0 0])
  f11 : l.getD 11 false = true → ∃ (q : Nat) (u0 u1 u2 u3 u4 : Value), s17 = .pointer (some ⟨q, 0, none⟩) ∧ V.heap.size ≤ q ∧ Blk w q 33 #[u0, u1, u2, u3, u4] ∧ OwnDk w B (.agg #[u0, u1, u2, u3, u4]) du
  f12 : l.getD 12 false = true → s18 = .string an
  da : l.getD 11 false = true → l.getD 10 false = true
  low : Below V.heap.size V w
section
variable {V : World} {B : Nat} {DV LV KV PV AV : Value} {dt an : ByteArray} {du : Dk} {l : Array Bool} {w w' : World} {s17 s18 s101 s102 s103 s104 s105 s106 s107 s108 s109 s110 v : Value}
theorem RJ19.up0 (h : RJ19 V B DV LV KV PV AV dt an du l w s17 s18 s101 s102 s103 s104 s105 s106 s107 s108 s109 s110) (hv : v = DV) : RJ19 V B DV LV KV PV AV dt an du (l.setIfInBounds 0 true) w s17 s18 s101 v s103 s104 s105 s106 s107 s108 s109 s110 := by
  exact ⟨(fun _ => hv), (fun h' => h.f1 (listed_set h' (by decide))), (fun h' => h.f2 (listed_set h' (by decide))), (fun h' => h.f3 (listed_set h' (by decide))), (fun h' => h.f4 (listed_set h' (by decide))), (fun h' => h.f5 (listed_set h' (by decide))), (fun h' => h.f6 (listed_set h' (by decide))), (fun h' => h.f7 (listed_set h' (by decide))), (fun h' => h.f8 (listed_set h' (by decide))), (fun h' => h.f9 (listed_set h' (by decide))), (fun h' => (let ⟨q, e, hq, hh⟩ := h.f10 (listed_set h' (by decide)); ⟨q, e, hq, fun hn => hh (by rwa [listed_same (by decide)] at hn)⟩)), (fun h' => h.f11 (listed_set h' (by decide))), (fun h' => h.f12 (listed_set h' (by decide))), (fun h' => by rw [listed_same (by decide)] at h' ⊢; exact h.da h'), h.low⟩
theorem RJ19.up1 (h : RJ19 V B DV LV KV PV AV dt an du l w s17 s18 s101 s102 s103 s104 s105 s106 s107 s108 s109 s110) (hv : v = LV) : RJ19 V B DV LV KV PV AV dt an du (l.setIfInBounds 1 true) w s17 s18 s101 s102 v s104 s105 s106 s107 s108 s109 s110 := by
  exact ⟨(fun h' => h.f0 (listed_set h' (by decide))), (fun _ => hv), (fun h' => h.f2 (listed_set h' (by decide))), (fun h' => h.f3 (listed_set h' (by decide))), (fun h' => h.f4 (listed_set h' (by decide))), (fun h' => h.f5 (listed_set h' (by decide))), (fun h' => h.f6 (listed_set h' (by decide))), (fun h' => h.f7 (listed_set h' (by decide))), (fun h' => h.f8 (listed_set h' (by decide))), (fun h' => h.f9 (listed_set h' (by decide))), (fun h' => (let ⟨q, e, hq, hh⟩ := h.f10 (listed_set h' (by decide)); ⟨q, e, hq, fun hn => hh (by rwa [listed_same (by decide)] at hn)⟩)), (fun h' => h.f11 (listed_set h' (by decide))), (fun h' => h.f12 (listed_set h' (by decide))), (fun h' => by rw [listed_same (by decide)] at h' ⊢; exact h.da h'), h.low⟩
theorem RJ19.up2 (h : RJ19 V B DV LV KV PV AV dt an du l w s17 s18 s101 s102 s103 s104 s105 s106 s107 s108 s109 s110) (hv : v = KV) : RJ19 V B DV LV KV PV AV dt an du (l.setIfInBounds 2 true) w s17 s18 s101 s102 s103 v s105 s106 s107 s108 s109 s110 := by
  exact ⟨(fun h' => h.f0 (listed_set h' (by decide))), (fun h' => h.f1 (listed_set h' (by decide))), (fun _ => hv), (fun h' => h.f3 (listed_set h' (by decide))), (fun h' => h.f4 (listed_set h' (by decide))), (fun h' => h.f5 (listed_set h' (by decide))), (fun h' => h.f6 (listed_set h' (by decide))), (fun h' => h.f7 (listed_set h' (by decide))), (fun h' => h.f8 (listed_set h' (by decide))), (fun h' => h.f9 (listed_set h' (by decide))), (fun h' => (let ⟨q, e, hq, hh⟩ := h.f10 (listed_set h' (by decide)); ⟨q, e, hq, fun hn => hh (by rwa [listed_same (by decide)] at hn)⟩)), (fun h' => h.f11 (listed_set h' (by decide))), (fun h' => h.f12 (listed_set h' (by decide))), (fun h' => by rw [listed_same (by decide)] at h' ⊢; exact h.da h'), h.low⟩
theorem RJ19.up3 (h : RJ19 V B DV LV KV PV AV dt an du l w s17 s18 s101 s102 s103 s104 s105 s106 s107 s108 s109 s110) (hv : v = PV) : RJ19 V B DV LV KV PV AV dt an du (l.setIfInBounds 3 true) w s17 s18 s101 s102 s103 s104 v s106 s107 s108 s109 s110 := by
  exact ⟨(fun h' => h.f0 (listed_set h' (by decide))), (fun h' => h.f1 (listed_set h' (by decide))), (fun h' => h.f2 (listed_set h' (by decide))), (fun _ => hv), (fun h' => h.f4 (listed_set h' (by decide))), (fun h' => h.f5 (listed_set h' (by decide))), (fun h' => h.f6 (listed_set h' (by decide))), (fun h' => h.f7 (listed_set h' (by decide))), (fun h' => h.f8 (listed_set h' (by decide))), (fun h' => h.f9 (listed_set h' (by decide))), (fun h' => (let ⟨q, e, hq, hh⟩ := h.f10 (listed_set h' (by decide)); ⟨q, e, hq, fun hn => hh (by rwa [listed_same (by decide)] at hn)⟩)), (fun h' => h.f11 (listed_set h' (by decide))), (fun h' => h.f12 (listed_set h' (by decide))), (fun h' => by rw [listed_same (by decide)] at h' ⊢; exact h.da h'), h.low⟩
theorem RJ19.up4 (h : RJ19 V B DV LV KV PV AV dt an du l w s17 s18 s101 s102 s103 s104 s105 s106 s107 s108 s109 s110) (hv : v = AV) : RJ19 V B DV LV KV PV AV dt an du (l.setIfInBounds 4 true) w s17 s18 s101 s102 s103 s104 s105 v s107 s108 s109 s110 := by
  exact ⟨(fun h' => h.f0 (listed_set h' (by decide))), (fun h' => h.f1 (listed_set h' (by decide))), (fun h' => h.f2 (listed_set h' (by decide))), (fun h' => h.f3 (listed_set h' (by decide))), (fun _ => hv), (fun h' => h.f5 (listed_set h' (by decide))), (fun h' => h.f6 (listed_set h' (by decide))), (fun h' => h.f7 (listed_set h' (by decide))), (fun h' => h.f8 (listed_set h' (by decide))), (fun h' => h.f9 (listed_set h' (by decide))), (fun h' => (let ⟨q, e, hq, hh⟩ := h.f10 (listed_set h' (by decide)); ⟨q, e, hq, fun hn => hh (by rwa [listed_same (by decide)] at hn)⟩)), (fun h' => h.f11 (listed_set h' (by decide))), (fun h' => h.f12 (listed_set h' (by decide))), (fun h' => by rw [listed_same (by decide)] at h' ⊢; exact h.da h'), h.low⟩
theorem RJ19.up5 (h : RJ19 V B DV LV KV PV AV dt an du l w s17 s18 s101 s102 s103 s104 s105 s106 s107 s108 s109 s110) (hv : v = .string dt) (hb : Below w.heap.size w w') : RJ19 V B DV LV KV PV AV dt an du (l.setIfInBounds 5 true) w' s17 s18 s101 s102 s103 s104 s105 s106 v s108 s109 s110 := by
  exact ⟨(fun h' => h.f0 (listed_set h' (by decide))), (fun h' => h.f1 (listed_set h' (by decide))), (fun h' => h.f2 (listed_set h' (by decide))), (fun h' => h.f3 (listed_set h' (by decide))), (fun h' => h.f4 (listed_set h' (by decide))), (fun _ => hv), (fun h' => (let ⟨x, y, e, hp, hq⟩ := h.f6 (listed_set h' (by decide)); ⟨x, y, e, OwnDk.below (hp) hb (Nat.le_refl _), hq⟩)), (fun h' => (let ⟨x, y, e, hp, hq⟩ := h.f7 (listed_set h' (by decide)); ⟨x, y, e, OwnDk.below (hp) hb (Nat.le_refl _), hq⟩)), (fun h' => OwnDk.below (h.f8 (listed_set h' (by decide))) hb (Nat.le_refl _)), (fun h' => h.f9 (listed_set h' (by decide))), (fun h' => (let ⟨q, e, hq, hh⟩ := h.f10 (listed_set h' (by decide)); ⟨q, e, hq, fun hn => let b := hh (by rwa [listed_same (by decide)] at hn); b.below hb b.lt⟩)), (fun h' => (let ⟨q, u0, u1, u2, u3, u4, e, hq, b, ho⟩ := h.f11 (listed_set h' (by decide)); ⟨q, u0, u1, u2, u3, u4, e, hq, b.below hb b.lt, OwnDk.below (ho) hb (Nat.le_refl _)⟩)), (fun h' => h.f12 (listed_set h' (by decide))), (fun h' => by rw [listed_same (by decide)] at h' ⊢; exact h.da h'), h.low.trans (hb.mono h.low.size)⟩
theorem RJ19.up6 (h : RJ19 V B DV LV KV PV AV dt an du l w s17 s18 s101 s102 s103 s104 s105 s106 s107 s108 s109 s110) (hv : ∃ x y, v = .tuple #[x, y] ∧ OwnDk w' B x du ∧ y = .string an) (hb : Below w.heap.size w w') : RJ19 V B DV LV KV PV AV dt an du (l.setIfInBounds 6 true) w' s17 s18 s101 s102 s103 s104 s105 s106 s107 v s109 s110 := by
  exact ⟨(fun h' => h.f0 (listed_set h' (by decide))), (fun h' => h.f1 (listed_set h' (by decide))), (fun h' => h.f2 (listed_set h' (by decide))), (fun h' => h.f3 (listed_set h' (by decide))), (fun h' => h.f4 (listed_set h' (by decide))), (fun h' => h.f5 (listed_set h' (by decide))), (fun _ => hv), (fun h' => (let ⟨x, y, e, hp, hq⟩ := h.f7 (listed_set h' (by decide)); ⟨x, y, e, OwnDk.below (hp) hb (Nat.le_refl _), hq⟩)), (fun h' => OwnDk.below (h.f8 (listed_set h' (by decide))) hb (Nat.le_refl _)), (fun h' => h.f9 (listed_set h' (by decide))), (fun h' => (let ⟨q, e, hq, hh⟩ := h.f10 (listed_set h' (by decide)); ⟨q, e, hq, fun hn => let b := hh (by rwa [listed_same (by decide)] at hn); b.below hb b.lt⟩)), (fun h' => (let ⟨q, u0, u1, u2, u3, u4, e, hq, b, ho⟩ := h.f11 (listed_set h' (by decide)); ⟨q, u0, u1, u2, u3, u4, e, hq, b.below hb b.lt, OwnDk.below (ho) hb (Nat.le_refl _)⟩)), (fun h' => h.f12 (listed_set h' (by decide))), (fun h' => by rw [listed_same (by decide)] at h' ⊢; exact h.da h'), h.low.trans (hb.mono h.low.size)⟩
theorem RJ19.up7 (h : RJ19 V B DV LV KV PV AV dt an du l w s17 s18 s101 s102 s103 s104 s105 s106 s107 s108 s109 s110) (hv : ∃ x y, v = .tuple #[x, y] ∧ OwnDk w B x du ∧ y = .string an) : RJ19 V B DV LV KV PV AV dt an du (l.setIfInBounds 7 true) w s17 s18 v s102 s103 s104 s105 s106 s107 s108 s109 s110 := by
  exact ⟨(fun h' => h.f0 (listed_set h' (by decide))), (fun h' => h.f1 (listed_set h' (by decide))), (fun h' => h.f2 (listed_set h' (by decide))), (fun h' => h.f3 (listed_set h' (by decide))), (fun h' => h.f4 (listed_set h' (by decide))), (fun h' => h.f5 (listed_set h' (by decide))), (fun h' => h.f6 (listed_set h' (by decide))), (fun _ => hv), (fun h' => h.f8 (listed_set h' (by decide))), (fun h' => h.f9 (listed_set h' (by decide))), (fun h' => (let ⟨q, e, hq, hh⟩ := h.f10 (listed_set h' (by decide)); ⟨q, e, hq, fun hn => hh (by rwa [listed_same (by decide)] at hn)⟩)), (fun h' => h.f11 (listed_set h' (by decide))), (fun h' => h.f12 (listed_set h' (by decide))), (fun h' => by rw [listed_same (by decide)] at h' ⊢; exact h.da h'), h.low⟩
theorem RJ19.up8 (h : RJ19 V B DV LV KV PV AV dt an du l w s17 s18 s101 s102 s103 s104 s105 s106 s107 s108 s109 s110) (hv : OwnDk w B v du) : RJ19 V B DV LV KV PV AV dt an du (l.setIfInBounds 8 true) w s17 s18 s101 s102 s103 s104 s105 s106 s107 s108 v s110 := by
  exact ⟨(fun h' => h.f0 (listed_set h' (by decide))), (fun h' => h.f1 (listed_set h' (by decide))), (fun h' => h.f2 (listed_set h' (by decide))), (fun h' => h.f3 (listed_set h' (by decide))), (fun h' => h.f4 (listed_set h' (by decide))), (fun h' => h.f5 (listed_set h' (by decide))), (fun h' => h.f6 (listed_set h' (by decide))), (fun h' => h.f7 (listed_set h' (by decide))), (fun _ => hv), (fun h' => h.f9 (listed_set h' (by decide))), (fun h' => (let ⟨q, e, hq, hh⟩ := h.f10 (listed_set h' (by decide)); ⟨q, e, hq, fun hn => hh (by rwa [listed_same (by decide)] at hn)⟩)), (fun h' => h.f11 (listed_set h' (by decide))), (fun h' => h.f12 (listed_set h' (by decide))), (fun h' => by rw [listed_same (by decide)] at h' ⊢; exact h.da h'), h.low⟩
theorem RJ19.up9 (h : RJ19 V B DV LV KV PV AV dt an du l w s17 s18 s101 s102 s103 s104 s105 s106 s107 s108 s109 s110) (hv : v = .string an) : RJ19 V B DV LV KV PV AV dt an du (l.setIfInBounds 9 true) w s17 s18 s101 s102 s103 s104 s105 s106 s107 s108 s109 v := by
  exact ⟨(fun h' => h.f0 (listed_set h' (by decide))), (fun h' => h.f1 (listed_set h' (by decide))), (fun h' => h.f2 (listed_set h' (by decide))), (fun h' => h.f3 (listed_set h' (by decide))), (fun h' => h.f4 (listed_set h' (by decide))), (fun h' => h.f5 (listed_set h' (by decide))), (fun h' => h.f6 (listed_set h' (by decide))), (fun h' => h.f7 (listed_set h' (by decide))), (fun h' => h.f8 (listed_set h' (by decide))), (fun _ => hv), (fun h' => (let ⟨q, e, hq, hh⟩ := h.f10 (listed_set h' (by decide)); ⟨q, e, hq, fun hn => hh (by rwa [listed_same (by decide)] at hn)⟩)), (fun h' => h.f11 (listed_set h' (by decide))), (fun h' => h.f12 (listed_set h' (by decide))), (fun h' => by rw [listed_same (by decide)] at h' ⊢; exact h.da h'), h.low⟩
theorem RJ19.up10 (h : RJ19 V B DV LV KV PV AV dt an du l w s17 s18 s101 s102 s103 s104 s105 s106 s107 s108 s109 s110) (hsz : l.size = 13) (hun : l.getD 10 false = false) : RJ19 V B DV LV KV PV AV dt an du (l.setIfInBounds 10 true) (w.alloc (.cells #[.slice none 0 0, .slice none 0 0, .slice none 0 0, .int .i64 0, .slice none 0 0] 33)) (.pointer (some ⟨w.heap.size, 0, none⟩)) s18 s101 s102 s103 s104 s105 s106 s107 s108 s109 s110 := by
  have hb := (Below.refl w.heap.size w).alloc (Nat.le_refl _) (.cells #[.slice none 0 0, .slice none 0 0, .slice none 0 0, .int .i64 0, .slice none 0 0] 33)
  exact ⟨(fun h' => h.f0 (listed_set h' (by decide))), (fun h' => h.f1 (listed_set h' (by decide))), (fun h' => h.f2 (listed_set h' (by decide))), (fun h' => h.f3 (listed_set h' (by decide))), (fun h' => h.f4 (listed_set h' (by decide))), (fun h' => h.f5 (listed_set h' (by decide))), (fun h' => (let ⟨x, y, e, hp, hq⟩ := h.f6 (listed_set h' (by decide)); ⟨x, y, e, OwnDk.below (hp) hb (Nat.le_refl _), hq⟩)), (fun h' => (let ⟨x, y, e, hp, hq⟩ := h.f7 (listed_set h' (by decide)); ⟨x, y, e, OwnDk.below (hp) hb (Nat.le_refl _), hq⟩)), (fun h' => OwnDk.below (h.f8 (listed_set h' (by decide))) hb (Nat.le_refl _)), (fun h' => h.f9 (listed_set h' (by decide))), (fun _ => ⟨w.heap.size, rfl, h.low.size, fun _ => Blk.new _ _ _⟩), (fun h' => absurd (h.da (listed_set h' (by decide))) (by rw [hun]; simp)), (fun h' => h.f12 (listed_set h' (by decide))), (fun _ => listed_at (by omega)), h.low.trans (hb.mono h.low.size)⟩
theorem RJ19.up11 (h : RJ19 V B DV LV KV PV AV dt an du l w s17 s18 s101 s102 s103 s104 s105 s106 s107 s108 s109 s110) (hsz : l.size = 13) {q : Nat} {u0 u1 u2 u3 u4 : Value} (hA : l.getD 10 false = true) (e8 : s17 = .pointer (some ⟨q, 0, none⟩)) (hq : V.heap.size ≤ q) (hz : Blk w q 33 #[.slice none 0 0, .slice none 0 0, .slice none 0 0, .int .i64 0, .slice none 0 0]) (ho : OwnDk w B (.agg #[u0, u1, u2, u3, u4]) du) : RJ19 V B DV LV KV PV AV dt an du (l.setIfInBounds 11 true) (((((w.setCell ⟨q, 0, none⟩ u0).setCell ⟨q, 1, none⟩ u1).setCell ⟨q, 2, none⟩ u2).setCell ⟨q, 3, none⟩ u3).setCell ⟨q, 4, none⟩ u4) s17 s18 s101 s102 s103 s104 s105 s106 s107 s108 s109 s110 := by
  exact ⟨(fun h' => h.f0 (listed_set h' (by decide))), (fun h' => h.f1 (listed_set h' (by decide))), (fun h' => h.f2 (listed_set h' (by decide))), (fun h' => h.f3 (listed_set h' (by decide))), (fun h' => h.f4 (listed_set h' (by decide))), (fun h' => h.f5 (listed_set h' (by decide))), (fun h' => (let ⟨x, y, e, hp, hq⟩ := h.f6 (listed_set h' (by decide)); ⟨x, y, e, OwnDk.set5 (hp) hz, hq⟩)), (fun h' => (let ⟨x, y, e, hp, hq⟩ := h.f7 (listed_set h' (by decide)); ⟨x, y, e, OwnDk.set5 (hp) hz, hq⟩)), (fun h' => OwnDk.set5 (h.f8 (listed_set h' (by decide))) hz), (fun h' => h.f9 (listed_set h' (by decide))), (fun h' => (let ⟨q, e, hq, hh⟩ := h.f10 (listed_set h' (by decide)); ⟨q, e, hq, fun hn => by rw [listed_at (by omega)] at hn; cases hn⟩)), (fun _ => ⟨q, u0, u1, u2, u3, u4, e8, hq, hz.set5 u0 u1 u2 u3 u4, OwnDk.set5 (ho) hz⟩), (fun h' => h.f12 (listed_set h' (by decide))), (fun _ => by rw [listed_same (by decide)]; exact hA), below_dk5 h.low hq⟩
theorem RJ19.up12 (h : RJ19 V B DV LV KV PV AV dt an du l w s17 s18 s101 s102 s103 s104 s105 s106 s107 s108 s109 s110) (hv : v = .string an) : RJ19 V B DV LV KV PV AV dt an du (l.setIfInBounds 12 true) w s17 v s101 s102 s103 s104 s105 s106 s107 s108 s109 s110 := by
  exact ⟨(fun h' => h.f0 (listed_set h' (by decide))), (fun h' => h.f1 (listed_set h' (by decide))), (fun h' => h.f2 (listed_set h' (by decide))), (fun h' => h.f3 (listed_set h' (by decide))), (fun h' => h.f4 (listed_set h' (by decide))), (fun h' => h.f5 (listed_set h' (by decide))), (fun h' => h.f6 (listed_set h' (by decide))), (fun h' => h.f7 (listed_set h' (by decide))), (fun h' => h.f8 (listed_set h' (by decide))), (fun h' => h.f9 (listed_set h' (by decide))), (fun h' => (let ⟨q, e, hq, hh⟩ := h.f10 (listed_set h' (by decide)); ⟨q, e, hq, fun hn => hh (by rwa [listed_same (by decide)] at hn)⟩)), (fun h' => h.f11 (listed_set h' (by decide))), (fun _ => hv), (fun h' => by rw [listed_same (by decide)] at h' ⊢; exact h.da h'), h.low⟩
end
set_option maxRecDepth 100000 in
set_option maxHeartbeats 16000000 in
theorem walk (w : World) (hL : LibV w) (A : Option Addr) (n c : Nat) (xs : List Int) (h : Ints w .u8 A n c xs) (hwf : ∀ x ∈ xs, (Lit.int .u8 x).wf = true) (hc : c ≤ maxLen)
    (A2 : Option Addr) (n2 c2 : Nat) (xs2 : List Int) (h2 : Ints w .u8 A2 n2 c2 xs2) (hwf2 : ∀ x ∈ xs2, (Lit.int .u8 x).wf = true) (hc2 : c2 ≤ maxLen) :
    Calls Tryz.prog 3 #[.slice A n c, .slice A2 n2 c2] w fun e w' => e = .returned (.bool true) ∧ Below w.heap.size w w' := by
  have hn : n ≤ 9223372036854775807 := by have := h.le; unfold maxLen at hc; omega
  have hn2 : n2 ≤ 9223372036854775807 := by have := h2.le; unfold maxLen at hc2; omega
  by_cases hl : n ≤ 1048576
  · by_cases hl2 : n2 ≤ 1048576
    · have HD := Lib.hid (drawReadJournal_any A n c xs w h hl hwf hc)
      have t1 : ¬ (1048576 : Int) < (n : Int) := by omega
      have t2 : ¬ (1048576 : Int) < (n2 : Int) := by omega
      have HI := Lib.hid h2
      clear h hwf hc h2
      go_enter Tryz.func3, Tryz.ntmps3
      go_wp2_with (fail)
      refine HD.out.mono ?_
      rintro e w1 ⟨s, rfl, hs, b1⟩
      have hB := Lib.hid b1
      clear b1 HD
      have hcut := Lib.hid (fun k => rj_cut _ (tl s) (Nat.le_refl _) k)
      have htx := rj_text _ (tl s) (Nat.le_refl _)
      have hbk := Lib.hid (rj_back (tl s))
      have hNs : (rj (tl s)).2 ≤ s.size := by have := htx.1; rw [tl_len] at this; exact this
      have hLl : (rj (tl s)).1.length ≤ 100 := by have := htx.2.2.2; rw [tl_len] at this; omega
      have hLne := Lib.hid htx.2.2.1
      have KI := Lib.hid (implReadJournal_any s w1 (by omega) (hL.t.below hB.out (Nat.le_refl _)) (hL.e.below hB.out (Nat.le_refl _)))
      have KS := Lib.hid (fun W => specReadJournal_any s W (by omega))
      have KP := Lib.hid (fun (k : Nat) W hT hE => implReadJournal_any (s.extract 0 k) W (by rw [ByteArray.size_extract]; omega) hT hE)
      unfold RetJ at KI KS KP
      simp only [tl_pre] at KP
      generalize rj (tl s) = R at *
      obtain ⟨L, N⟩ := R
      dsimp only at KI KS hcut hNs hLl hLne hbk
      clear htx
      generalize hm : L.length = m at *
      replace hm := Lib.hid hm
      have hne : ((N : Int) != (N : Int)) = false := by simp
      go_wp2_with (go_at_call 9; refine KI.out.mono ?_; rintro e w2 ⟨v1, rfl, o1, b2⟩; refine Hid.out ?_)
      obtain ⟨A1, c1, e1, d1⟩ := o1.deeds
      rw [hm.out] at e1 d1
      subst e1
      replace hB := Lib.hid (hB.out.trans (b2.mono hB.out.size))
      have hmc : m ≤ c1 := d1.le
      clear o1 b2 KI
      refine Lib.hid ?_
      go_wp2_with (go_at_call 10; refine (KS.out w2).mono ?_; rintro e w3 ⟨v3, rfl, o3, b3⟩; refine Hid.out ?_)
      obtain ⟨A3, c3, e3, d3⟩ := o3.deeds
      rw [hm.out] at e3 d3
      subst e3
      replace hB := Lib.hid (hB.out.trans (b3.mono hB.out.size))
      replace d1 := d1.below b3 (Nat.le_refl _)
      clear o3 b3 KS
      refine Lib.hid ?_
      go_wp2_with (go_at_call 11; refine (sameDeeds_same A1 A3 m c1 c3 L w3 d1 d3 (by omega)).mono ?_; rintro e _ ⟨rfl, k, rfl⟩; refine Hid.out ?_)
      replace hB := Lib.hid (below_drewJ hB.out k)
      replace d1 := Lib.hid (d1.drewN k)
      clear d3
      generalize w3.drewN k = w4 at *
      refine Lib.hid ?_
      go_wp2
      go_loopw [10] (fun s10 wr => ∃ k : Nat, k ≤ s.size + 1 ∧ s10 = .int .i64 (k : Int) ∧ DeedsAre wr A1 m c1 L ∧ Below w.heap.size w wr) (fun s10 _ => s.size + 1 - (intOf s10).toNat)
      case atStart => exact ⟨0, by omega, rfl, d1.out, hB.out⟩
      case round =>
        clear d1 hB
        obtain ⟨k, hk, rfl, d1, hb⟩ := hrel
        by_cases hlt : k ≤ s.size
        · have hlt' : (k : Int) ≤ (s.size : Int) := by omega
          have q0 : (0 : Int) ≤ (k : Int) := by omega
          have hct := hcut.out k
          have KK := KP.out k wr (hL.t.below hb (Nat.le_refl _)) (hL.e.below hb (Nat.le_refl _))
          generalize rj ((tl s).take k) = R at *
          obtain ⟨L', N'⟩ := R
          dsimp only at hct KK
          obtain ⟨g1, g2, g3⟩ := hct
          generalize hm' : L'.length = m' at *
          replace hm' := Lib.hid hm'
          have hcu := d1.cutHi m' g1
          have dt := d1.take m' g1
          rw [← g2] at dt
          have t4 : ¬ (m : Int) < (m' : Int) := by omega
          have t5 : min (m' : Int) (m : Int) = (m' : Int) := by omega
          have t6 : ¬ (k : Int) < (N' : Int) := by omega
          replace dt := Lib.hid dt
          replace d1 := Lib.hid d1
          replace hb := Lib.hid hb
          replace g2 := Lib.hid g2
          replace KK := Lib.hid KK
          go_wp2_with (go_at_call 9; refine KK.out.mono ?_; rintro e w5 ⟨v5, rfl, o5, b5⟩; refine Hid.out ?_)
          obtain ⟨A5, c5, e5, d5⟩ := o5.deeds
          rw [hm'.out] at e5 d5
          subst e5
          replace hb := Lib.hid (hb.out.trans (b5.mono hb.out.size))
          replace d1 := d1.out.below b5 (Nat.le_refl _)
          replace dt := dt.out.below b5 (Nat.le_refl _)
          clear o5 b5 KK
          refine Lib.hid ?_
          go_wp2_with (go_at_call 11; refine (sameDeeds_same A5 A1 m' c5 c1 L' w5 d5 dt (by omega)).mono ?_; rintro e _ ⟨rfl, kk, rfl⟩; refine Hid.out ?_)
          replace hb := Lib.hid (below_drewJ hb.out kk)
          replace d1 := Lib.hid (d1.drewN kk)
          clear d5 dt
          generalize w5.drewN kk = w6 at *
          refine Lib.hid ?_
          go_wp2
          go_roundw
          case rel => exact ⟨k + 1, by omega, by go_num, d1.out, hb.out⟩
          case measure => simp [intOf]; omega
        · have hlt' : ¬ (k : Int) ≤ (s.size : Int) := by omega
          obtain ⟨kx, hkx⟩ : ∃ kx : Nat, kx = k := ⟨k, rfl⟩
          subst hkx
          have KD := Lib.hid (drawDeskRun_any A2 n2 c2 xs2 wr (HI.out.below hb (Nat.le_refl _)) hl2 hwf2 hc2)
          replace d1 := Lib.hid d1
          have hB := Lib.hid hb
          clear hb KP hcut HI
          go_wp2_with (go_at_call 12; refine KD.out.mono ?_; rintro e w5 ⟨v5, d, A5, c5, qs, rfl, o5, sd, -, -, b5⟩; refine Hid.out ?_)
          have hf := Lib.hid sd.fine
          obtain ⟨X1, k1, X2, k2, X3, k3, X5, k5, rfl, -⟩ := o5.dsk.ex
          have hwr : w.heap.size ≤ wr.heap.size := hB.out.size
          replace hB := Lib.hid (hB.out.trans (b5.mono hwr))
          replace d1 := Lib.hid (d1.out.below b5 (Nat.le_refl _))
          have BX := BXM.new (cs := #[.slice X1 d.t.us.length k1, .slice X2 d.t.bs.length k2, .slice X3 d.t.ns.length k3, .int .i64 d.now, .slice X5 d.past.length k5]) (o5.mono (B' := w.heap.size) hwr)
          have hba := (Below.refl w5.heap.size w5).alloc (Nat.le_refl _) (.cells #[.slice X1 d.t.us.length k1, .slice X2 d.t.bs.length k2, .slice X3 d.t.ns.length k3, .int .i64 d.now, .slice X5 d.past.length k5] 33)
          clear o5 b5 KD sd
          refine Lib.hid ?_
          go_upto_region 15 with (fail)
          generalize hw6 : w5.alloc (.cells #[.slice X1 d.t.us.length k1, .slice X2 d.t.bs.length k2, .slice X3 d.t.ns.length k3, .int .i64 d.now, .slice X5 d.past.length k5] 33) = w6 at *
          have hq6 : w6.heap.size = w5.heap.size + 1 := by rw [← hw6]; simp
          have hs65 : w5.heap.size < w6.heap.size := by omega
          replace hq6 := Lib.hid hq6
          replace hw6 := Lib.hid hw6
          obtain ⟨x0, x1, x2, x3, x4⟩ := (blk5 BX.k).1
          have hbb := hba.trans (((Below.refl w6.heap.size w6).alloc (Nat.le_refl _) (.cells #[.slice X1 d.t.us.length k1, .slice X2 d.t.bs.length k2, .slice X3 d.t.ns.length k3, .int .i64 d.now, .slice X5 d.past.length k5] 33)).mono (Nat.le_of_lt hs65))
          have BY := Lib.hid (BXM.new (W := w6) BX.o)
          have BX' := Lib.hid (BX.step ((Below.refl w6.heap.size w6).alloc (Nat.le_refl _) (.cells #[.slice X1 d.t.us.length k1, .slice X2 d.t.bs.length k2, .slice X3 d.t.ns.length k3, .int .i64 d.now, .slice X5 d.past.length k5] 33)))
          replace hbb := Lib.hid hbb
          clear hba BX
          go_upto_region 16 with (fail)
          generalize w6.alloc (.cells #[.slice X1 d.t.us.length k1, .slice X2 d.t.bs.length k2, .slice X3 d.t.ns.length k3, .int .i64 d.now, .slice X5 d.past.length k5] 33) = w7 at *
          clear x0 x1 x2 x3 x4 hw6
          generalize hq13 : w5.heap.size = q13 at *
          generalize hq15 : w6.heap.size = q15 at *
          replace hq13 := Lib.hid hq13
          replace hq15 := Lib.hid hq15
          have hz0 : runTo d (L.take 0) = (d, 0) := rfl
          replace hz0 := Lib.hid hz0
          go_wp2
          have hw13 : w.heap.size ≤ q13 := by have := hB.out.size; have := hq13.out; omega
          have hjt : jT L = s.extract 0 N := tl_inj (by rw [tl_pre]; exact hbk.out)
          replace hjt := Lib.hid hjt
          go_loopw [16] (fun s16 wr => ∃ (k : Nat) (dk : Dk) (cs : Array Value), k ≤ m ∧ s16 = .int .i64 (k : Int) ∧ (runTo d (L.take k)).1 = dk ∧ BXM wr w.heap.size q13 #[.slice X1 d.t.us.length k1, .slice X2 d.t.bs.length k2, .slice X3 d.t.ns.length k3, .int .i64 d.now, .slice X5 d.past.length k5] d ∧ BXM wr w.heap.size q15 cs dk ∧ Below q13 w5 wr) (fun s16 _ => m - (intOf s16).toNat)
          case atStart => exact ⟨0, d, _, Nat.zero_le _, rfl, by rw [hz0.out], BX'.out, BY.out, hbb.out⟩
          case round =>
            clear BX' BY hbb
            obtain ⟨k, dk, cs, hk, rfl, hr, BX, BY, hbb⟩ := hrel
            have HBz := Lib.hid (hB.out.trans (hbb.mono hw13))
            have d1z := Lib.hid (d1.out.below hbb (by rw [hq13.out]; exact Nat.le_refl _))
            by_cases hlt : k < m
            · have hlt' : (k : Int) < (m : Int) := by omega
              have KO := Lib.hid (specDeskOk_any _ d wr BX.o.dsk hf.out)
              obtain ⟨x0, x1, x2, x3, x4⟩ := (blk5 BX.k).1
              cases hok : dkOk d
              · rw [hok] at KO
                replace hok := Lib.hid hok
                go_wp2_with (go_at_call 13; refine KO.out.mono ?_; rintro e wz ⟨rfl, bz⟩; refine Hid.out ?_)
                have BXz := Lib.hid (BX.step bz)
                have BYz := Lib.hid (BY.step bz)
                replace d1z := Lib.hid (d1z.out.below bz (Nat.le_refl _))
                replace HBz := Lib.hid (HBz.out.trans (bz.mono HBz.out.size))
                clear x0 x1 x2 x3 x4 BX BY hbb bz KO hr
                refine Lib.hid ?_
                have KR := Lib.hid (implDeskRun_any _ d A1 m c1 L wz BXz.out.o.dsk hf.out d1z.out (by omega))
                obtain ⟨x0, x1, x2, x3, x4⟩ := (blk5 BXz.out.k).1
                generalize dkRun d L = ru at *
                obtain ⟨u, mu⟩ := ru
                dsimp only at KR
                go_wp2_with (go_at_call 16; refine KR.out.mono ?_; rintro e w8 ⟨v8, rfl, o8, b8⟩; obtain ⟨G1, g1, G2, g2, G3, g3, G5, g5, rfl, -⟩ := o8.dsk.ex; refine Hid.out ?_)
                have hb8 := b8.alloc b8.size (.cells #[.slice G1 u.t.us.length g1, .slice G2 u.t.bs.length g2, .slice G3 u.t.ns.length g3, .int .i64 u.now, .slice G5 u.past.length g5] 33)
                have BU := Lib.hid (BXM.new (cs := #[.slice G1 u.t.us.length g1, .slice G2 u.t.bs.length g2, .slice G3 u.t.ns.length g3, .int .i64 u.now, .slice G5 u.past.length g5]) (o8.m.mono (B' := w.heap.size) HBz.out.size))
                have BX9 := Lib.hid (BXz.out.step hb8)
                have BY9 := Lib.hid (BYz.out.step hb8)
                have d9 := Lib.hid (d1z.out.below hb8 (Nat.le_refl _))
                have HB := Lib.hid (HBz.out.trans (hb8.mono HBz.out.size))
                clear x0 x1 x2 x3 x4 o8 b8 hb8 KR BXz BYz d1z HBz
                refine Lib.hid ?_
                go_upto_region 24 with (fail)
                generalize w8.alloc (.cells #[.slice G1 u.t.us.length g1, .slice G2 u.t.bs.length g2, .slice G3 u.t.ns.length g3, .int .i64 u.now, .slice G5 u.past.length g5] 33) = w9 at *
                generalize w8.heap.size = q19 at *
                obtain ⟨H1, h1, H2, h2, H3, h3, H5, h5, rfl⟩ := BY9.out.shape
                have x0' := (blk5 BX9.out.k).1
                have y0' := (blk5 BY9.out.k).1
                have z0' := (blk5 BU.out.k).1
                obtain ⟨x0', x1', x2', x3', x4'⟩ := x0'
                have x0 := fun dd os => cell_regrown x0' dd os
                have x1 := fun dd os => cell_regrown x1' dd os
                have x2 := fun dd os => cell_regrown x2' dd os
                have x3 := fun dd os => cell_regrown x3' dd os
                have x4 := fun dd os => cell_regrown x4' dd os
                obtain ⟨y0', y1', y2', y3', y4'⟩ := y0'
                have y0 := fun dd os => cell_regrown y0' dd os
                have y1 := fun dd os => cell_regrown y1' dd os
                have y2 := fun dd os => cell_regrown y2' dd os
                have y3 := fun dd os => cell_regrown y3' dd os
                have y4 := fun dd os => cell_regrown y4' dd os
                obtain ⟨z0', z1', z2', z3', z4'⟩ := z0'
                have z0 := fun dd os => cell_regrown z0' dd os
                have z1 := fun dd os => cell_regrown z1' dd os
                have z2 := fun dd os => cell_regrown z2' dd os
                have z3 := fun dd os => cell_regrown z3' dd os
                have z4 := fun dd os => cell_regrown z4' dd os
                have KJ := Lib.hid (fun dd os => implJournalText_any A1 m c1 L (grow (redrawn w9 dd) os) (d9.out.below (below_regrown w9 dd os) (Nat.le_refl _)) (by omega) (hL.t.below (HB.out.trans ((below_regrown w9 dd os).mono HB.out.size)) (Nat.le_refl _)))
                have KO := Lib.hid (fun dd os => specDeskOk_any _ d (grow (redrawn w9 dd) os) (BX9.out.o.dsk.below (below_regrown w9 dd os) (Nat.le_refl _)) hf.out)
                rw [hok.out] at KO
                have heq : ((jT L).toList == (s.extract 0 N).toList) = true := by rw [hjt.out]; simp
                generalize jT L = js at *
                have n1 : (N : Int) ≤ (s.size : Int) := by omega
                have n0 : (0 : Int) ≤ (N : Int) := by omega
                clear x0' x1' x2' x3' x4' y0' y1' y2' y3' y4' z0' z1' z2' z3' z4' d9 BX9 BY9 BU
                refine wp_region_quiet_below (by kernel_rfl) (by kernel_rfl) ?_
                repeat (go_big_quiet_step (first | (go_at_call 17; exact Calls.regrown_of (KJ.out _ _)) | (go_at_call 13; exact Calls.regrown_of (KO.out _ _)) | (go_at_call 19; exact Calls.regrown_of (alive_any _))))
                refine wpQuiet_nil ?_
                intro _ hw'
                obtain ⟨pq, hw''⟩ := hw'
                have HBq := HB.out.trans ((below_regrown w9 pq.d pq.os).mono HB.out.size)
                subst hw''
                replace HBq := Lib.hid HBq
                clear x0 x1 x2 x3 x4 y0 y1 y2 y3 y4 z0 z1 z2 z3 z4
                go_wp2
                go_ret
                exact ⟨rfl, HBq.out⟩
              · rw [hok] at KO
                have hkk := run_ok hok (L.take k)
                have hx : L[k]? = some (L[k]'(by have := hm.out; omega)) := List.getElem?_eq_getElem (by have := hm.out; omega)
                have hsn := run_snoc (d := d) hx
                have hxne := hLne.out _ (List.getElem_mem (l := L) (n := k) (by have := hm.out; omega))
                generalize L[k]'(by have := hm.out; omega) = x at *
                rw [hr] at hkk
                obtain ⟨hk1, hk2, -⟩ := hkk
                have hfk := Lib.hid (fine_of_ok hk1 (by rw [hk2]; exact hf.out.t))
                have hstep : (runTo d (L.take (k + 1))).1 = (dkDo dk x).1 := by
                  rw [hsn]
                  have e : ∀ p : Dk × Nat, p.1 = dk → (stepDk p x).1 = (dkDo dk x).1 := fun p hp => by
                    unfold stepDk
                    rw [hp]
                    split
                    · rfl
                    · rename_i hno
                      exact hp.trans (do_same hk1 (by simpa using hno)).symm
                  exact e _ hr
                replace hok := Lib.hid hok
                replace hr := Lib.hid hr
                replace hsn := Lib.hid hsn
                replace hx := Lib.hid hx
                replace hk1 := Lib.hid hk1
                replace hk2 := Lib.hid hk2
                go_wp2_with (go_at_call 13; refine KO.out.mono ?_; rintro e wz ⟨rfl, bz⟩; refine Hid.out ?_)
                replace BX := BX.step bz
                replace BY := BY.step bz
                replace d1z := d1z.out.below bz (Nat.le_refl _)
                replace HBz := Lib.hid (HBz.out.trans (bz.mono HBz.out.size))
                replace hbb := hbb.trans (bz.mono (by rw [← hq13.out]; exact hbb.size))
                obtain ⟨Y1, j1, Y2, j2, Y3, j3, Y5, j5, rfl⟩ := BY.shape
                obtain ⟨b, o, rfl, hbl, hcd⟩ := d1z.at_ (by omega)
                obtain ⟨y0, y1⟩ := hcd k x hx.out
                have hrd := rd_deed (a := x) (l := tl (deedT x)) rfl hxne
                have hdz : (deedT x).size ≤ 14 := by have := deedL_size x; rw [← deedT_tl, tl_len] at this; exact this
                have hXc := Lib.hid (fun W (hb : Below wz.heap.size wz W) => (blk5 (BY.step hb).k).1)
                have hDc := Lib.hid (fun W (hb : Below wz.heap.size wz W) => (⟨(hb.cell (p := ⟨b, o + k * 2, none⟩) hbl).trans y0, (hb.cell (p := ⟨b, o + k * 2 + 1, none⟩) hbl).trans y1⟩ : W.cell? ⟨b, o + k * 2, none⟩ = some (.int .i64 x.kind) ∧ W.cell? ⟨b, o + k * 2 + 1, none⟩ = some (.int .i64 x.n)))
                have KT := Lib.hid (fun W (hb : Below wz.heap.size wz W) => implDeedText_any x W (hL.t.below (HBz.out.trans (hb.mono HBz.out.size)) (Nat.le_refl _)))
                have KL := Lib.hid (fun W (hb : Below wz.heap.size wz W) => by
                  have := implDeskLine_deed _ dk (deedT x) W (BY.step hb).o.dsk hfk.out hk1.out (by omega) hrd.1 (hL.t.below (HBz.out.trans (hb.mono HBz.out.size)) (Nat.le_refl _)) (hL.e.below (HBz.out.trans (hb.mono HBz.out.size)) (Nat.le_refl _))
                  rw [hrd.2] at this
                  exact this)
                have cs2 := dd_cells
                have hwz : w.heap.size ≤ wz.heap.size := HBz.out.size
                have hwq : q13 ≤ wz.heap.size := by have h1 := hbb.size; have h2 := hq13.out; omega
                replace BX := Lib.hid BX
                replace BY := Lib.hid BY
                replace d1z := Lib.hid d1z
                replace hbb := Lib.hid hbb
                clear x0 x1 x2 x3 x4 KO bz hcd hrd y0 y1 hxne hsn
                generalize hdd : dkDo dk x = r at *
                obtain ⟨du, ru⟩ := r
                generalize deedT x = dt at *
                generalize han : doneT (du, ru).2 = an at *
                obtain ⟨xk, xn⟩ := x
                dsimp only at *
                replace hdd := Lib.hid hdd
                refine Lib.hid ?_
                go_upto_region 19 with (fail)
                refine wp_region_any (by kernel_rfl) ?_
                refine wpAny_inv (Inv := fun l a w' => ∃ (s17 s18 s101 s102 s103 s104 s105 s106 s107 s108 s109 s110 : Value), a = ⟨#[Value.slice A n c, Value.slice A2 n2 c2, undef, undef, u4, Value.string s, Value.slice (some { block := b, off := o }) m c1, Value.int IntKind.i64 (N : Int), Value.slice A3 m c3, Value.int IntKind.i64 (N : Int), Value.int IntKind.i64 (kx : Int), u11, u12, Value.pointer (some { block := q13, off := 0 }), Value.slice A5 qs.length c5, Value.pointer (some { block := q15, off := 0 }), Value.int IntKind.i64 (k : Int), s17, s18, undef, undef, Value.slice A n c, Value.int IntKind.i64 (n : Int), Value.bool false, Value.bool false, Value.slice A2 n2 c2, Value.int IntKind.i64 (n2 : Int), Value.bool false, Value.bool false, Value.slice A n c, Value.string s, Value.tuple #[Value.slice (some { block := b, off := o }) m c1, Value.int IntKind.i64 (N : Int)], Value.string s, Value.tuple #[Value.slice (some { block := b, off := o }) m c1, Value.int IntKind.i64 (N : Int)], Value.slice (some { block := b, off := o }) m c1, Value.int IntKind.i64 (N : Int), Value.tuple #[Value.slice A3 m c3, Value.int IntKind.i64 (N : Int)], Value.string s, Value.tuple #[Value.slice A3 m c3, Value.int IntKind.i64 (N : Int)], Value.slice A3 m c3, Value.int IntKind.i64 (N : Int), Value.slice (some { block := b, off := o }) m c1, Value.slice A3 m c3, Value.bool true, Value.bool false, Value.bool false, Value.int IntKind.i64 (N : Int), Value.int IntKind.i64 (N : Int), Value.bool false, Value.bool false, Value.int IntKind.i64 (kx : Int), Value.string s, Value.int IntKind.i64 (s.size : Int), Value.bool false, u54, u55, u56, u57, u58, u59, u60, u61, u62, u63, u64, u65, u66, u67, u68, u69, u70, u71, u72, u73, u74, u75, u76, u77, u78, u79, u80, u81, u82, u83, u84, Value.tuple #[Value.agg #[Value.slice X1 d.t.us.length k1, Value.slice X2 d.t.bs.length k2, Value.slice X3 d.t.ns.length k3, Value.int IntKind.i64 d.now, Value.slice X5 d.past.length k5], Value.slice A5 qs.length c5], Value.slice A2 n2 c2, Value.tuple #[Value.agg #[Value.slice X1 d.t.us.length k1, Value.slice X2 d.t.bs.length k2, Value.slice X3 d.t.ns.length k3, Value.int IntKind.i64 d.now, Value.slice X5 d.past.length k5], Value.slice A5 qs.length c5], Value.agg #[Value.slice X1 d.t.us.length k1, Value.slice X2 d.t.bs.length k2, Value.slice X3 d.t.ns.length k3, Value.int IntKind.i64 d.now, Value.slice X5 d.past.length k5], Value.slice A5 qs.length c5, Value.agg #[Value.slice X1 d.t.us.length k1, Value.slice X2 d.t.bs.length k2, Value.slice X3 d.t.ns.length k3, Value.int IntKind.i64 d.now, Value.slice X5 d.past.length k5], Value.int IntKind.i64 (k : Int), Value.slice (some { block := b, off := o }) m c1, Value.int IntKind.i64 (m : Int), Value.bool true, Value.bool true, Value.agg #[Value.slice X1 d.t.us.length k1, Value.slice X2 d.t.bs.length k2, Value.slice X3 d.t.ns.length k3, Value.int IntKind.i64 d.now, Value.slice X5 d.past.length k5], Value.bool true, Value.bool true, u99, u100, s101, s102, s103, s104, s105, s106, s107, s108, s109, s110, u111, u112, u113, u114, u115, u116, u117, undef, undef, undef, undef, undef, undef, undef, undef, undef, undef, undef, undef, undef, undef, undef, undef, undef, undef, undef, undef, undef, undef, undef, undef, undef, undef, undef, undef, undef, undef, undef, undef, undef, undef, undef, undef], []⟩ ∧ RJ19 wz w.heap.size (.agg #[.slice Y1 dk.t.us.length j1, .slice Y2 dk.t.bs.length j2, .slice Y3 dk.t.ns.length j3, .int .i64 dk.now, .slice Y5 dk.past.length j5]) (.slice (some ⟨b, o, none⟩) m c1) (.int .i64 (k : Int)) (.pointer (some ⟨b, o + k * 2, none⟩)) (.agg #[.int .i64 xk, .int .i64 xn]) dt an du l w' s17 s18 s101 s102 s103 s104 s105 s106 s107 s108 s109 s110) (ord_spec (by kernel_rfl)) ?_ ?_ _ _ _ _ rfl (by decide) ?_
                · rintro l a w' ⟨s17, s18, s101, s102, s103, s104, s105, s106, s107, s108, s109, s110, rfl, hF⟩ hsz hl
                  have hl' : ∀ j, j < 13 → l.getD j false = true := hl
                  obtain ⟨q9, u0, u1, u2, u3, u4, e8, hq9, hbx, how⟩ := hF.f11 (hl' 11 (by decide))
                  subst e8
                  have e9 := hF.f12 (hl' 12 (by decide))
                  subst e9
                  obtain ⟨Z1, l1, Z2, l2, Z3, l3, Z5, l5, e1, -⟩ := how.dsk.ex
                  injection e1 with e1
                  have e1 : #[u0, u1, u2, u3, u4] = (_ : Array Value) := e1
                  injection e1 with e1
                  simp only [List.cons.injEq, and_true] at e1
                  obtain ⟨rfl, rfl, rfl, rfl, rfl⟩ := e1
                  have BC := Lib.hid (BXM.mk (q := q9) hbx how.m)
                  replace BX := Lib.hid (BX.out.step hF.low)
                  replace BY := Lib.hid (BY.out.step hF.low)
                  have hbw := Lib.hid (hbb.out.trans (hF.low.mono hwq))
                  clear hF hl hl' hbx how hXc hDc KT KL d1z HBz
                  have hok2 : an.toList = [111, 107] ∨ an.toList = [110, 111, 116] := by
                    rw [← han]
                    cases ru
                    · right; rw [Lib.toList_data]; rfl
                    · left; rw [Lib.toList_data]; rfl
                  have hfin : Hid (∃ W5, W5 = (((((w'.setCell ⟨q15, 0, none⟩ (.slice Z1 du.t.us.length l1)).setCell ⟨q15, 1, none⟩ (.slice Z2 du.t.bs.length l2)).setCell ⟨q15, 2, none⟩ (.slice Z3 du.t.ns.length l3)).setCell ⟨q15, 3, none⟩ (.int .i64 du.now)).setCell ⟨q15, 4, none⟩ (.slice Z5 du.past.length l5)) ∧ BXM W5 w.heap.size q13 #[.slice X1 d.t.us.length k1, .slice X2 d.t.bs.length k2, .slice X3 d.t.ns.length k3, .int .i64 d.now, .slice X5 d.past.length k5] d ∧ BXM W5 w.heap.size q15 #[.slice Z1 du.t.us.length l1, .slice Z2 du.t.bs.length l2, .slice Z3 du.t.ns.length l3, .int .i64 du.now, .slice Z5 du.past.length l5] du ∧ Below q13 w5 W5) :=
                    ⟨_, rfl, ⟨BX.out.k.far5 (by have h1 := hq13.out; have h2 := hq15.out; have h3 := hq6.out; omega) _ _ _ _ _, own_md5 BX.out.o BY.out.k⟩, ⟨BY.out.k.set5 _ _ _ _ _, own_md5 BC.out.o BY.out.k⟩, below_dk5 hbw.out (by have h1 := hq13.out; have h2 := hq15.out; have h3 := hq6.out; omega)⟩
                  obtain ⟨⟨x0, x1, x2, x3, x4⟩, ⟨f0, f1, f2, f3, f4⟩⟩ := blk5 BY.out.k
                  obtain ⟨z0, z1, z2, z3, z4⟩ := (blk5 BC.out.k).1
                  replace hstep := Lib.hid hstep
                  clear BX BY BC hbw
                  rcases hok2 with g1 | g1
                  all_goals
                    go_wp2
                    go_roundw
                    case rel =>
                      obtain ⟨W5, e5, r1, r2, r3⟩ := hfin.out
                      subst e5
                      exact ⟨k + 1, du, _, by omega, by go_num, hstep.out, r1, r2, r3⟩
                    case measure => simp [intOf]; omega
                · rintro l a w' ⟨s17, s18, s101, s102, s103, s104, s105, s106, s107, s108, s109, s110, rfl, hF⟩ hsz i o hlt ho hun hall
                  have hlt' : i < 13 := hlt
                  refine wpOp_step ho (fun K' hK => ?_)
                  replace hK := Lib.hid hK
                  obtain rfl | rfl | rfl | rfl | rfl | rfl | rfl | rfl | rfl | rfl | rfl | rfl | rfl : i = 0 ∨ i = 1 ∨ i = 2 ∨ i = 3 ∨ i = 4 ∨ i = 5 ∨ i = 6 ∨ i = 7 ∨ i = 8 ∨ i = 9 ∨ i = 10 ∨ i = 11 ∨ i = 12 := by omega
                  · simp only [List.getElem?_toArray, List.getElem?_cons_zero, Option.some.injEq] at ho
                    subst ho
                    obtain ⟨x0, x1, x2, x3, x4⟩ := hXc.out _ hF.low
                    replace hF := Lib.hid hF
                    clear hall
                    go_simp
                    refine hK.out _ _ ?_
                    exact ⟨_, _, _, _, _, _, _, _, _, _, _, _, rfl, hF.out.up0 rfl⟩
                  · simp only [List.getElem?_toArray, List.getElem?_cons_succ, List.getElem?_cons_zero, Option.some.injEq] at ho
                    subst ho
                    replace hF := Lib.hid hF
                    clear hall
                    go_simp
                    refine hK.out _ _ ?_
                    exact ⟨_, _, _, _, _, _, _, _, _, _, _, _, rfl, hF.out.up1 rfl⟩
                  · simp only [List.getElem?_toArray, List.getElem?_cons_succ, List.getElem?_cons_zero, Option.some.injEq] at ho
                    subst ho
                    replace hF := Lib.hid hF
                    clear hall
                    go_simp
                    refine hK.out _ _ ?_
                    exact ⟨_, _, _, _, _, _, _, _, _, _, _, _, rfl, hF.out.up2 rfl⟩
                  · simp only [List.getElem?_toArray, List.getElem?_cons_succ, List.getElem?_cons_zero, Option.some.injEq] at ho
                    subst ho
                    have e1 := hF.f1 (hall ⟨1, Ground.data⟩ (by simp) rfl)
                    subst e1
                    have e2 := hF.f2 (hall ⟨2, Ground.data⟩ (by simp) rfl)
                    subst e2
                    replace hF := Lib.hid hF
                    clear hall
                    go_simp
                    refine hK.out _ _ ?_
                    exact ⟨_, _, _, _, _, _, _, _, _, _, _, _, rfl, hF.out.up3 rfl⟩
                  · simp only [List.getElem?_toArray, List.getElem?_cons_succ, List.getElem?_cons_zero, Option.some.injEq] at ho
                    subst ho
                    have e3 := hF.f3 (hall ⟨3, Ground.data⟩ (by simp) rfl)
                    subst e3
                    obtain ⟨y0, y1⟩ := hDc.out _ hF.low
                    replace hF := Lib.hid hF
                    clear hall
                    go_simp
                    refine hK.out _ _ ?_
                    exact ⟨_, _, _, _, _, _, _, _, _, _, _, _, rfl, hF.out.up4 rfl⟩
                  · simp only [List.getElem?_toArray, List.getElem?_cons_succ, List.getElem?_cons_zero, Option.some.injEq] at ho
                    subst ho
                    have e4 := hF.f4 (hall ⟨4, Ground.data⟩ (by simp) rfl)
                    subst e4
                    have KK := Lib.hid (KT.out _ hF.low)
                    replace hF := Lib.hid hF
                    clear hall
                    go_simp
                    go_at_call 15
                    refine KK.out.mono ?_
                    rintro e V ⟨rfl, bm⟩
                    go_simp
                    refine hK.out _ _ ?_
                    exact ⟨_, _, _, _, _, _, _, _, _, _, _, _, rfl, hF.out.up5 rfl bm⟩
                  · simp only [List.getElem?_toArray, List.getElem?_cons_succ, List.getElem?_cons_zero, Option.some.injEq] at ho
                    subst ho
                    have e0 := hF.f0 (hall ⟨0, Ground.data⟩ (by simp) rfl)
                    subst e0
                    have e5 := hF.f5 (hall ⟨5, Ground.data⟩ (by simp) rfl)
                    subst e5
                    have KK := Lib.hid (KL.out _ hF.low)
                    have hls := hF.low.size
                    replace hF := Lib.hid hF
                    clear hall
                    go_simp
                    go_at_call 14
                    refine KK.out.mono ?_
                    rintro e V ⟨v, rfl, om, bm⟩
                    go_simp
                    refine hK.out _ _ ?_
                    exact ⟨_, _, _, _, _, _, _, _, _, _, _, _, rfl, hF.out.up6 ⟨_, _, rfl, om.mono (by omega), rfl⟩ bm⟩
                  · simp only [List.getElem?_toArray, List.getElem?_cons_succ, List.getElem?_cons_zero, Option.some.injEq] at ho
                    subst ho
                    obtain ⟨xa, ya, ea, pa, qa⟩ := hF.f6 (hall ⟨6, Ground.data⟩ (by simp) rfl)
                    subst ea
                    replace pa := Lib.hid pa
                    subst qa
                    replace hF := Lib.hid hF
                    clear hall
                    go_simp
                    refine hK.out _ _ ?_
                    exact ⟨_, _, _, _, _, _, _, _, _, _, _, _, rfl, hF.out.up7 ⟨_, _, rfl, pa.out, rfl⟩⟩
                  · simp only [List.getElem?_toArray, List.getElem?_cons_succ, List.getElem?_cons_zero, Option.some.injEq] at ho
                    subst ho
                    obtain ⟨xa, ya, ea, pa, qa⟩ := hF.f7 (hall ⟨7, Ground.data⟩ (by simp) rfl)
                    subst ea
                    replace pa := Lib.hid pa
                    subst qa
                    replace hF := Lib.hid hF
                    clear hall
                    go_simp
                    refine hK.out _ _ ?_
                    exact ⟨_, _, _, _, _, _, _, _, _, _, _, _, rfl, hF.out.up8 pa.out⟩
                  · simp only [List.getElem?_toArray, List.getElem?_cons_succ, List.getElem?_cons_zero, Option.some.injEq] at ho
                    subst ho
                    obtain ⟨xa, ya, ea, pa, qa⟩ := hF.f7 (hall ⟨7, Ground.data⟩ (by simp) rfl)
                    subst ea
                    replace pa := Lib.hid pa
                    subst qa
                    replace hF := Lib.hid hF
                    clear hall
                    go_simp
                    refine hK.out _ _ ?_
                    exact ⟨_, _, _, _, _, _, _, _, _, _, _, _, rfl, hF.out.up9 rfl⟩
                  · simp only [List.getElem?_toArray, List.getElem?_cons_succ, List.getElem?_cons_zero, Option.some.injEq] at ho
                    subst ho
                    replace hF := Lib.hid hF
                    clear hall
                    go_simp
                    refine hK.out _ _ ?_
                    exact ⟨_, _, _, _, _, _, _, _, _, _, _, _, rfl, hF.out.up10 hsz hun⟩
                  · simp only [List.getElem?_toArray, List.getElem?_cons_succ, List.getElem?_cons_zero, Option.some.injEq] at ho
                    subst ho
                    have ho' := hF.f8 (hall ⟨8, Ground.data⟩ (by simp) rfl)
                    obtain ⟨Y1, j1, Y2, j2, Y3, j3, Y5, j5, ey, -⟩ := ho'.dsk.ex
                    subst ey
                    have hA := (hall ⟨10, Ground.data⟩ (by simp) rfl)
                    obtain ⟨q8, e3, hq', hh⟩ := hF.f10 hA
                    subst e3
                    have hz := hh hun
                    obtain ⟨⟨r0, r1, r2, r3, r4⟩, ⟨g0, g1, g2, g3, g4⟩⟩ := blk5 hz
                    replace hz := Lib.hid hz
                    replace ho' := Lib.hid ho'
                    replace hF := Lib.hid hF
                    clear hall
                    go_simp
                    refine hK.out _ _ ?_
                    exact ⟨_, _, _, _, _, _, _, _, _, _, _, _, rfl, hF.out.up11 hsz hA rfl hq' hz.out ho'.out⟩
                  · simp only [List.getElem?_toArray, List.getElem?_cons_succ, List.getElem?_cons_zero, Option.some.injEq] at ho
                    subst ho
                    have ea := hF.f9 (hall ⟨9, Ground.data⟩ (by simp) rfl)
                    subst ea
                    replace hF := Lib.hid hF
                    clear hall
                    go_simp
                    refine hK.out _ _ ?_
                    exact ⟨_, _, _, _, _, _, _, _, _, _, _, _, rfl, hF.out.up12 rfl⟩
                · exact ⟨_, _, _, _, _, _, _, _, _, _, _, _, rfl, (fun h => by simp at h), (fun h => by simp at h), (fun h => by simp at h), (fun h => by simp at h), (fun h => by simp at h), (fun h => by simp at h), (fun h => by simp at h), (fun h => by simp at h), (fun h => by simp at h), (fun h => by simp at h), (fun h => by simp at h), (fun h => by simp at h), (fun h => by simp at h), (fun h => by simp at h), (Below.refl _ _).drew⟩
            · have hlt' : ¬ (k : Int) < (m : Int) := by omega
              have hkm : k = m := by omega
              rw [hkm] at hr
              replace hkm := Lib.hid hkm
              cases hok : dkOk d
              · replace hok := Lib.hid hok
                have BXz := Lib.hid BX
                have BYz := Lib.hid BY
                clear BX BY hbb hr
                obtain ⟨wz, hwz⟩ : ∃ wz, wz = wr := ⟨_, rfl⟩
                subst hwz
                have KR := Lib.hid (implDeskRun_any _ d A1 m c1 L wz BXz.out.o.dsk hf.out d1z.out (by omega))
                obtain ⟨x0, x1, x2, x3, x4⟩ := (blk5 BXz.out.k).1
                generalize dkRun d L = ru at *
                obtain ⟨u, mu⟩ := ru
                dsimp only at KR
                go_wp2_with (go_at_call 16; refine KR.out.mono ?_; rintro e w8 ⟨v8, rfl, o8, b8⟩; obtain ⟨G1, g1, G2, g2, G3, g3, G5, g5, rfl, -⟩ := o8.dsk.ex; refine Hid.out ?_)
                have hb8 := b8.alloc b8.size (.cells #[.slice G1 u.t.us.length g1, .slice G2 u.t.bs.length g2, .slice G3 u.t.ns.length g3, .int .i64 u.now, .slice G5 u.past.length g5] 33)
                have BU := Lib.hid (BXM.new (cs := #[.slice G1 u.t.us.length g1, .slice G2 u.t.bs.length g2, .slice G3 u.t.ns.length g3, .int .i64 u.now, .slice G5 u.past.length g5]) (o8.m.mono (B' := w.heap.size) HBz.out.size))
                have BX9 := Lib.hid (BXz.out.step hb8)
                have BY9 := Lib.hid (BYz.out.step hb8)
                have d9 := Lib.hid (d1z.out.below hb8 (Nat.le_refl _))
                have HB := Lib.hid (HBz.out.trans (hb8.mono HBz.out.size))
                clear x0 x1 x2 x3 x4 o8 b8 hb8 KR BXz BYz d1z HBz
                refine Lib.hid ?_
                go_upto_region 24 with (fail)
                generalize w8.alloc (.cells #[.slice G1 u.t.us.length g1, .slice G2 u.t.bs.length g2, .slice G3 u.t.ns.length g3, .int .i64 u.now, .slice G5 u.past.length g5] 33) = w9 at *
                generalize w8.heap.size = q19 at *
                obtain ⟨H1, h1, H2, h2, H3, h3, H5, h5, rfl⟩ := BY9.out.shape
                have x0' := (blk5 BX9.out.k).1
                have y0' := (blk5 BY9.out.k).1
                have z0' := (blk5 BU.out.k).1
                obtain ⟨x0', x1', x2', x3', x4'⟩ := x0'
                have x0 := fun dd os => cell_regrown x0' dd os
                have x1 := fun dd os => cell_regrown x1' dd os
                have x2 := fun dd os => cell_regrown x2' dd os
                have x3 := fun dd os => cell_regrown x3' dd os
                have x4 := fun dd os => cell_regrown x4' dd os
                obtain ⟨y0', y1', y2', y3', y4'⟩ := y0'
                have y0 := fun dd os => cell_regrown y0' dd os
                have y1 := fun dd os => cell_regrown y1' dd os
                have y2 := fun dd os => cell_regrown y2' dd os
                have y3 := fun dd os => cell_regrown y3' dd os
                have y4 := fun dd os => cell_regrown y4' dd os
                obtain ⟨z0', z1', z2', z3', z4'⟩ := z0'
                have z0 := fun dd os => cell_regrown z0' dd os
                have z1 := fun dd os => cell_regrown z1' dd os
                have z2 := fun dd os => cell_regrown z2' dd os
                have z3 := fun dd os => cell_regrown z3' dd os
                have z4 := fun dd os => cell_regrown z4' dd os
                have KJ := Lib.hid (fun dd os => implJournalText_any A1 m c1 L (grow (redrawn w9 dd) os) (d9.out.below (below_regrown w9 dd os) (Nat.le_refl _)) (by omega) (hL.t.below (HB.out.trans ((below_regrown w9 dd os).mono HB.out.size)) (Nat.le_refl _)))
                have KO := Lib.hid (fun dd os => specDeskOk_any _ d (grow (redrawn w9 dd) os) (BX9.out.o.dsk.below (below_regrown w9 dd os) (Nat.le_refl _)) hf.out)
                rw [hok.out] at KO
                have heq : ((jT L).toList == (s.extract 0 N).toList) = true := by rw [hjt.out]; simp
                generalize jT L = js at *
                have n1 : (N : Int) ≤ (s.size : Int) := by omega
                have n0 : (0 : Int) ≤ (N : Int) := by omega
                clear x0' x1' x2' x3' x4' y0' y1' y2' y3' y4' z0' z1' z2' z3' z4' d9 BX9 BY9 BU
                refine wp_region_quiet_below (by kernel_rfl) (by kernel_rfl) ?_
                repeat (go_big_quiet_step (first | (go_at_call 17; exact Calls.regrown_of (KJ.out _ _)) | (go_at_call 13; exact Calls.regrown_of (KO.out _ _)) | (go_at_call 19; exact Calls.regrown_of (alive_any _))))
                refine wpQuiet_nil ?_
                intro _ hw'
                obtain ⟨pq, hw''⟩ := hw'
                have HBq := HB.out.trans ((below_regrown w9 pq.d pq.os).mono HB.out.size)
                subst hw''
                replace HBq := Lib.hid HBq
                clear x0 x1 x2 x3 x4 y0 y1 y2 y3 y4 z0 z1 z2 z3 z4
                go_wp2
                go_ret
                exact ⟨rfl, HBq.out⟩
              · have ht : L.take m = L := List.take_of_length_le (by rw [hm.out]; exact Nat.le_refl _)
                rw [ht] at hr
                have hkk := run_ok hok L
                rw [hr] at hkk
                have hfk := Lib.hid (fine_of_ok hkk.1 (by rw [hkk.2.1]; exact hf.out.t))
                replace hr := Lib.hid hr
                replace hok := Lib.hid hok
                have BXz := Lib.hid BX
                have BYz := Lib.hid BY
                clear BX BY hbb ht hkk
                obtain ⟨wz, hwz⟩ : ∃ wz, wz = wr := ⟨_, rfl⟩
                subst hwz
                have KR := Lib.hid (implDeskRun_any _ d A1 m c1 L wz BXz.out.o.dsk hf.out d1z.out (by omega))
                obtain ⟨x0, x1, x2, x3, x4⟩ := (blk5 BXz.out.k).1
                have hrun := Lib.hid (fun (hm40 : m ≤ 40) => run_yes (d := d) (l := L) ⟨hok.out, by rw [hm.out]; exact hm40⟩)
                generalize dkRun d L = ru at *
                obtain ⟨u, mu⟩ := ru
                dsimp only at KR
                go_wp2_with (go_at_call 16; refine KR.out.mono ?_; rintro e w8 ⟨v8, rfl, o8, b8⟩; obtain ⟨G1, g1, G2, g2, G3, g3, G5, g5, rfl, -⟩ := o8.dsk.ex; refine Hid.out ?_)
                have hb8 := b8.alloc b8.size (.cells #[.slice G1 u.t.us.length g1, .slice G2 u.t.bs.length g2, .slice G3 u.t.ns.length g3, .int .i64 u.now, .slice G5 u.past.length g5] 33)
                have BU := Lib.hid (BXM.new (cs := #[.slice G1 u.t.us.length g1, .slice G2 u.t.bs.length g2, .slice G3 u.t.ns.length g3, .int .i64 u.now, .slice G5 u.past.length g5]) (o8.m.mono (B' := w.heap.size) HBz.out.size))
                have BX9 := Lib.hid (BXz.out.step hb8)
                have BY9 := Lib.hid (BYz.out.step hb8)
                have d9 := Lib.hid (d1z.out.below hb8 (Nat.le_refl _))
                have HB := Lib.hid (HBz.out.trans (hb8.mono HBz.out.size))
                clear x0 x1 x2 x3 x4 o8 b8 hb8 KR BXz BYz d1z HBz
                refine Lib.hid ?_
                go_upto_region 24 with (fail)
                generalize w8.alloc (.cells #[.slice G1 u.t.us.length g1, .slice G2 u.t.bs.length g2, .slice G3 u.t.ns.length g3, .int .i64 u.now, .slice G5 u.past.length g5] 33) = w9 at *
                generalize w8.heap.size = q19 at *
                obtain ⟨H1, h1, H2, h2, H3, h3, H5, h5, rfl⟩ := BY9.out.shape
                have x0' := (blk5 BX9.out.k).1
                have y0' := (blk5 BY9.out.k).1
                have z0' := (blk5 BU.out.k).1
                obtain ⟨x0', x1', x2', x3', x4'⟩ := x0'
                have x0 := fun dd os => cell_regrown x0' dd os
                have x1 := fun dd os => cell_regrown x1' dd os
                have x2 := fun dd os => cell_regrown x2' dd os
                have x3 := fun dd os => cell_regrown x3' dd os
                have x4 := fun dd os => cell_regrown x4' dd os
                obtain ⟨y0', y1', y2', y3', y4'⟩ := y0'
                have y0 := fun dd os => cell_regrown y0' dd os
                have y1 := fun dd os => cell_regrown y1' dd os
                have y2 := fun dd os => cell_regrown y2' dd os
                have y3 := fun dd os => cell_regrown y3' dd os
                have y4 := fun dd os => cell_regrown y4' dd os
                obtain ⟨z0', z1', z2', z3', z4'⟩ := z0'
                have z0 := fun dd os => cell_regrown z0' dd os
                have z1 := fun dd os => cell_regrown z1' dd os
                have z2 := fun dd os => cell_regrown z2' dd os
                have z3 := fun dd os => cell_regrown z3' dd os
                have z4 := fun dd os => cell_regrown z4' dd os
                have KJ := Lib.hid (fun dd os => implJournalText_any A1 m c1 L (grow (redrawn w9 dd) os) (d9.out.below (below_regrown w9 dd os) (Nat.le_refl _)) (by omega) (hL.t.below (HB.out.trans ((below_regrown w9 dd os).mono HB.out.size)) (Nat.le_refl _)))
                have KO := Lib.hid (fun dd os => specDeskOk_any _ d (grow (redrawn w9 dd) os) (BX9.out.o.dsk.below (below_regrown w9 dd os) (Nat.le_refl _)) hf.out)
                rw [hok.out] at KO
                have heq : ((jT L).toList == (s.extract 0 N).toList) = true := by rw [hjt.out]; simp
                generalize jT L = js at *
                have n1 : (N : Int) ≤ (s.size : Int) := by omega
                have n0 : (0 : Int) ≤ (N : Int) := by omega
                by_cases hm40 : m ≤ 40
                · have e1 := hrun.out hm40
                  have e2 : u = dk := by rw [← hr.out, ← e1]
                  have KS := Lib.hid (fun dd os => sameDesk_same _ _ dk (grow (redrawn w9 dd) os) (BY9.out.o.dsk.below (below_regrown w9 dd os) (Nat.le_refl _)) (by rw [← e2]; exact BU.out.o.dsk.below (below_regrown w9 dd os) (Nat.le_refl _)) hfk.out)
                  have t40 : ¬ 40 < (m : Int) := by omega
                  clear x0' x1' x2' x3' x4' y0' y1' y2' y3' y4' z0' z1' z2' z3' z4' d9 BX9 BY9 BU hrun e1 e2
                  refine wp_region_quiet_below (by kernel_rfl) (by kernel_rfl) ?_
                  repeat (go_big_quiet_step (first | (go_at_call 17; exact Calls.regrown_of (KJ.out _ _)) | (go_at_call 13; exact Calls.regrown_of (KO.out _ _)) | (go_at_call 19; exact Calls.regrown_of (alive_any _)) | (go_at_call 18; exact Calls.regrown_of (KS.out _ _))))
                  refine wpQuiet_nil ?_
                  intro _ hw'
                  obtain ⟨pq, hw''⟩ := hw'
                  have HBq := HB.out.trans ((below_regrown w9 pq.d pq.os).mono HB.out.size)
                  subst hw''
                  replace HBq := Lib.hid HBq
                  clear x0 x1 x2 x3 x4 y0 y1 y2 y3 y4 z0 z1 z2 z3 z4
                  go_wp2
                  go_ret
                  exact ⟨rfl, HBq.out⟩
                · have t40 : 40 < (m : Int) := by omega
                  clear x0' x1' x2' x3' x4' y0' y1' y2' y3' y4' z0' z1' z2' z3' z4' d9 BX9 BY9 BU hrun
                  refine wp_region_quiet_below (by kernel_rfl) (by kernel_rfl) ?_
                  repeat (go_big_quiet_step (first | (go_at_call 17; exact Calls.regrown_of (KJ.out _ _)) | (go_at_call 13; exact Calls.regrown_of (KO.out _ _)) | (go_at_call 19; exact Calls.regrown_of (alive_any _))))
                  refine wpQuiet_nil ?_
                  intro _ hw'
                  obtain ⟨pq, hw''⟩ := hw'
                  have HBq := HB.out.trans ((below_regrown w9 pq.d pq.os).mono HB.out.size)
                  subst hw''
                  replace HBq := Lib.hid HBq
                  clear x0 x1 x2 x3 x4 y0 y1 y2 y3 y4 z0 z1 z2 z3 z4
                  go_wp2
                  go_ret
                  exact ⟨rfl, HBq.out⟩
    · have t2 : (1048576 : Int) < (n2 : Int) := by omega
      have t1 : ¬ (1048576 : Int) < (n : Int) := by omega
      go_enter Tryz.func3, Tryz.ntmps3
      go_wp2
      go_ret
      exact ⟨rfl, Below.refl _ _⟩
  · have t1 : (1048576 : Int) < (n : Int) := by omega
    go_enter Tryz.func3, Tryz.ntmps3
    go_wp2
    go_ret
    exact ⟨rfl, Below.refl _ _⟩

set_option maxRecDepth 100000 in
theorem lifted (os : Os) (started : os.Started) (H : Type) (enc : TypeId × Value → H) :
    ReturnsInHanded {} Tryz.checked os 3 .any (fun w args => (Rows.fnReadJournalSpec.pre enc Tryz.prog Tryz.f3 Rows.fnReadJournalRow.domain false w args ∧ laidMetH Tryz.prog Rows.fnReadJournalRow.laid w) ∧ sizedMet enc Tryz.prog Tryz.f3 (OpenSpec.ofChange Rows.fnReadJournalSpec) false w args)
      (Rows.fnReadJournalSpec.post enc Tryz.prog Tryz.f3 false true false false) := by
  refine returnsInHanded_of_change_and (C := Tryz.checked) (X := fun w _ => laidMetH Tryz.prog Rows.fnReadJournalRow.laid w) (fun _ _ _ hh h => h.of_heap hh) own started (by kernel_rfl) Tryz.func3
    (ChangeSpec.witness_shaped (enc := enc) (C := Tryz.checked) (os := os) (X := fun w _ => laidMetH Tryz.prog Rows.fnReadJournalRow.laid w) false (World.laidAll Tryz.prog os Rows.fnReadJournalRow.laid) #[.slice none 0 0, .slice none 0 0] 8 (World.laidAll_os _ _ _)
      (World.shaped_of_ZipB (by kernel_rfl) (by kernel_rfl)) (by kernel_rfl) (by kernel_rfl) (by kernel_rfl)
      (by rw [MakeChecks.laidMetH_plain _ _ _ (by kernel_rfl)]; exact laidMet_laidAll _ (by kernel_rfl) (by kernel_rfl))) ?_
  intro W base args ds gs before hval0 hW _ _ _ _
  have hL : laidMet Tryz.prog Rows.fnReadJournalRow.laid W := by
    have hx : laidMetH Tryz.prog Rows.fnReadJournalRow.laid W := by assumption
    rwa [MakeChecks.laidMetH_plain _ _ _ (by kernel_rfl)] at hx
  have hlib := libs hL
  have hval : ∀ (j : Nat) t v, Tryz.f3.params[j]? = some t → args[j]? = some v → Value.okWide Tryz.prog W .any base t v := hval0
  have hW' := hW
  obtain ⟨p, q, hA0, hV, rfl, hfz, hnd⟩ := hW
  have hA : DataW.TrodAll enc Tryz.prog W 0 (fun _ => true) true Tryz.f3.params.toList args.toList ds p := hA0
  rw [Tryz.params3] at hA hval
  obtain ⟨v0, vs0, d0, ds0, p0, q0, hargs, rfl, rfl, h0, r0⟩ := trodAll_cons hA
  obtain ⟨v1, vs1, d1, ds1, p1, q1, rfl, rfl, rfl, h1, r1⟩ := trodAll_cons r0
  obtain ⟨rfl, rfl, rfl⟩ := trodAll_nil r1
  obtain rfl : args = #[v0, v1] := by cases args; simp_all
  obtain ⟨rfl, rfl⟩ := trodVars_none hV
  obtain ⟨a0, len0, cap0, rfl⟩ := okWide_slice Tryz.underlying22 (hval 0 22 v0 rfl rfl)
  have k0 := h0
  have lt0 : ∀ x ∈ p0, x.block < W.heap.size := by obtain ⟨m, hm⟩ := k0; exact DataW.trod_lt m _ _ _ hm
  obtain ⟨z0, s0, w0, m0⟩ : ∃ zs, Ints W .u8 a0 len0 cap0 zs ∧ (∀ n ∈ zs, (Lit.int .u8 n).wf = true) ∧ cap0 ≤ maxLen := by
    obtain ⟨fuel, hf⟩ := h0
    rcases open_ints Tryz.underlying22 Tryz.underlying5 (by kernel_rfl) hf with ⟨hcs, _⟩ | ⟨x, l, c, zs, hcs, _, hl, hm, hz, _, hcell, hwz⟩
    · simp [Value.cells] at hcs
      obtain ⟨rfl, rfl, rfl⟩ := hcs
      exact ⟨[], Ints.none_, by simp, Nat.zero_le _⟩
    · simp [Value.cells] at hcs
      obtain ⟨rfl, rfl, rfl⟩ := hcs
      exact ⟨_, Ints.of_row hl (by simpa using hz) hcell, fun n hn => hwz n (List.mem_of_mem_take hn), hm⟩
  obtain ⟨a1, len1, cap1, rfl⟩ := okWide_slice Tryz.underlying22 (hval 1 22 v1 rfl rfl)
  have k1 := h1
  have lt1 : ∀ x ∈ p1, x.block < W.heap.size := by obtain ⟨m, hm⟩ := k1; exact DataW.trod_lt m _ _ _ hm
  obtain ⟨z1, s1, w1, m1⟩ : ∃ zs, Ints W .u8 a1 len1 cap1 zs ∧ (∀ n ∈ zs, (Lit.int .u8 n).wf = true) ∧ cap1 ≤ maxLen := by
    obtain ⟨fuel, hf⟩ := h1
    rcases open_ints Tryz.underlying22 Tryz.underlying5 (by kernel_rfl) hf with ⟨hcs, _⟩ | ⟨x, l, c, zs, hcs, _, hl, hm, hz, _, hcell, hwz⟩
    · simp [Value.cells] at hcs
      obtain ⟨rfl, rfl, rfl⟩ := hcs
      exact ⟨[], Ints.none_, by simp, Nat.zero_le _⟩
    · simp [Value.cells] at hcs
      obtain ⟨rfl, rfl, rfl⟩ := hcs
      exact ⟨_, Ints.of_row hl (by simpa using hz) hcell, fun n hn => hwz n (List.mem_of_mem_take hn), hm⟩
  clear hA0 hval0
  refine (walk W hlib a0 len0 cap0 z0 s0 w0 m0 a1 len1 cap1 z1 s1 w1 m1).mono fun e W' ⟨he, bel⟩ => ?_
  subst he
  exact ⟨_, rfl, _, _, _, [], _, [], hW', trodAll_mk1 (shut_bool Tryz.underlying4 _), (trodAll_cons_mk (Below.trod laidOut (by kernel_rfl) (of_decide_eq_true (by kernel_rfl)) k0 bel lt0) (trodAll_cons_mk (Below.trod laidOut (by kernel_rfl) (of_decide_eq_true (by kernel_rfl)) k1 bel lt1) trodAll_mk0)), rfl, bel.frame _, fun h => by cases h⟩

theorem over : Rows.fnReadJournalRow.holds Tryz.pinned (OpenSpec.ofChange Rows.fnReadJournalSpec) :=
  OpenClaim.holds_of_wide 3 Tryz.f3 rfl rfl rfl rfl rfl rfl rfl ⟨rfl, rfl, rfl, rfl, rfl⟩ rfl rfl rfl rfl rfl (by kernel_rfl) Tryz.func3 (by kernel_rfl)
    (of_decide_eq_true (by kernel_rfl)) (by unfold Func.isWrapper; first | (rw [if_pos (by decide +kernel)]; kernel_rfl) | (rw [if_neg (by decide +kernel)]; exact ⟨rfl, rfl⟩))
    (fun os started H enc _ => lifted os started H enc)
theorem proved : Rows.FnReadJournalCardSaid :=
  Claim7.holds_tied_plain_at .later [] [.data, .data, .data, .data, .sentinel, .sentinel, .pinned] true (true, "e0ca9f66cf1c000cf300dbe856fa85471eb6059b2c251a3283c3c9cb8c205070") true over (fun _ h => by cases h) (by kernel_rfl) (fun _ h => by cases h) fnReadJournal_row_tie rfl ⟨rfl, rfl⟩ (by kernel_rfl) rfl
    (fun f fn hf hfn => by
      obtain rfl : f = 3 := Option.some.inj ((show Tryz.prog.funcNamed "loop.example/numberwords/laws.FnReadJournal" = some 3 by kernel_rfl).symm.trans hf) |>.symm
      obtain rfl : fn = Tryz.f3 := (Option.some.inj (Tryz.func3.symm.trans hfn)).symm
      exact ⟨by kernel_rfl, fun j t ht => by
        rw [Tryz.params3] at ht
        have hm : t ∈ [22, 22] := by simpa using Array.mem_of_getElem? ht
        have hall : ([22, 22].all fun u => !Tryz.prog.wantsStandIn u) = true := by kernel_rfl
        exact (show Tryz.prog.wantsStandIn t = false by simpa using List.all_eq_true.1 hall t hm)⟩)
    (by kernel_rfl)
end Go.Proofs.YtmhgpbfogdoaeaaGreatDoor.fnReadJournal
