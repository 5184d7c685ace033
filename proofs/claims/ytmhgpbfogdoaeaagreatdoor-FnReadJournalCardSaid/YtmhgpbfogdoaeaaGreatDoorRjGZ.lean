/-
  GZ: Range MathP MathO S1 S2 S3 S4 S8 T1 T2 T3 T8 P4h.
-/
import Derived.RangeFuncNested
import Derived.RangeFuncBound
import Derived.RangeFuncCalls
import Derived.RangeFuncLeaves
import Derived.Shelf.Abstract
import Derived.Shelf.RegionOpen
import Derived.WalkKit
import Derived.OwnWalkIn
import Derived.TacticsInMore
import Derived.LoopNIn
import Derived.LoopIn
import Derived.Sort.BigQuietIn
import Derived.Sort.QuietThIn
import Derived.Test.YtmhgpbfogdoaeaaGreatDoorRjGX
import Derived.Test.YtmhgpbfogdoaeaaGreatDoorRjGN
import Derived.Lib.Join
import Derived.Test.YtmhgpbfogdoaeaaGreatDoorRjGA
import Derived.Lib.QuietBelow
import Derived.Laws.IdiomStrings
import Derived.Test.YtmhgpbfogdoaeaaGreatDoorRjGB
import Derived.Test.YtmhgpbfogdoaeaaGreatDoorRjGP
import Derived.Deep.RegionHeld3
import Derived.Lib.SplitLaws
import Derived.Lib.IndexLaws
import Derived.Lib.IndexBytes
import Derived.Shelf.Strings.Split
import Derived.Test.YtmhgpbfogdoaeaaGreatDoorRjCutR
import Derived.Test.YtmhgpbfogdoaeaaGreatDoorRjCutD
/- Range -/
namespace Go.Proofs.YtmhgpbfogdoaeaaGreatDoor
open Go Go.RowKit

/-- J abides whatever happens to a block that is no cells, from B on; and to any block from lo up to hi. -/
def Abide {β : Type} (B lo hi : Nat) (J : β → World → Prop) : Prop :=
  ∀ s W W' row, J s W → W.grownBy W' row → (∀ r, row = some r → (B ≤ r ∧ ∃ o : Obj, W.heap[r]? = some o ∧ o.isCells = false) ∨ (lo ≤ r ∧ r < hi)) → J s W'

theorem Abide.putObj {β : Type} {B lo hi : Nat} {I : β → World → Prop} (h : Abide B lo hi I) {s : β} {W : World} {l : Nat} {o : Obj} (o' : Obj) (hs : I s W) (hB : B ≤ l) (hl : W.heap[l]? = some o) (ho : o.isCells = false) : I s (W.putObj l o') :=
  h s W _ (some l) hs (grownBy_putObj' W l o') (fun r e => by cases e; exact .inl ⟨hB, o, hl, ho⟩)
theorem Abide.alloc {β : Type} {B lo hi : Nat} {I : β → World → Prop} (h : Abide B lo hi I) {s : β} {W : World} (o : Obj) (hs : I s W) : I s (W.alloc o) :=
  h s W _ none hs (World.grownBy_alloc W o none) (fun r e => by cases e)
theorem Abide.drew {β : Type} {B lo hi : Nat} {I : β → World → Prop} (h : Abide B lo hi I) {s : β} {W : World} (hs : I s W) : I s W.drew :=
  h s W _ none hs ⟨rfl, rfl, rfl, Nat.le_refl _, fun _ _ _ => rfl⟩ (fun r e => by cases e)
theorem Abide.setCell {β : Type} {B lo hi : Nat} {I : β → World → Prop} (h : Abide B lo hi I) {s : β} {W : World} {k i : Nat} (u : Value) (hs : I s W) (h1 : lo ≤ k) (h2 : k < hi) : I s (W.setCell ⟨k, i, none⟩ u) :=
  h s W _ (some k) hs ⟨rfl, rfl, rfl, by simp [World.setCell], fun j _ hj => Below.heap_setCell W _ u j (fun e => hj (by rw [e]))⟩ (fun r e => by cases e; exact .inr ⟨h1, h2⟩)
theorem Abide.more {β : Type} {B B' lo lo' hi hi' : Nat} {I : β → World → Prop} (h : Abide B lo hi I) (hB : B ≤ B') (hl : lo ≤ lo') (hh : hi' ≤ hi) : Abide B' lo' hi' I :=
  fun s W W' row hs hg hr => h s W W' row hs hg (fun r e => (hr r e).elim (fun x => .inl ⟨Nat.le_trans hB x.1, x.2⟩) (fun x => .inr ⟨Nat.le_trans hl x.1, Nat.lt_of_lt_of_le x.2 hh⟩))
variable {P : Program}

/-- How a round's body may be left. -/
def leaves {α : Type} (B : Nat) (Kp : World → World → Prop) (I : List α → World → Prop) (Ix : Code → List α → World → Prop) (xs : List α) (W : World) : Exit → Act → World → Prop
  | .normal, _, W' => KeepsFrom B W W' ∧ Kp W W' ∧ I xs W'
  | .ret, _, W' => KeepsFrom B W W' ∧ Kp W W' ∧ Ix .ret xs W'
  | .exit id, _, W' => KeepsFrom B W W' ∧ Kp W W' ∧ Ix (.exit id) xs W'
  | .goto t, _, W' => KeepsFrom B W W' ∧ Kp W W' ∧ Ix (.goto t) xs W'
  | .panic _, _, _ => False
  | .outgrown, _, _ => False

end Go.Proofs.YtmhgpbfogdoaeaaGreatDoor

/- MathP -/
namespace Go.Proofs.YtmhgpbfogdoaeaaGreatDoor

end Go.Proofs.YtmhgpbfogdoaeaaGreatDoor

/- MathO -/
namespace Go.Proofs.YtmhgpbfogdoaeaaGreatDoor
open Go.RowKit

/-! Lists in the order of what f tells. -/
section
variable {f : Int → List UInt8}
end

end Go.Proofs.YtmhgpbfogdoaeaaGreatDoor

/- S1 -/
namespace Go.Proofs.YtmhgpbfogdoaeaaGreatDoor
open Go.RowKit

end Go.Proofs.YtmhgpbfogdoaeaaGreatDoor

/- S2 -/
namespace Go.Proofs.YtmhgpbfogdoaeaaGreatDoor
open Go.RowKit

end Go.Proofs.YtmhgpbfogdoaeaaGreatDoor

/- S3 -/
namespace Go.Proofs.YtmhgpbfogdoaeaaGreatDoor
open Go.RowKit Go.Lib Go.Sort

end Go.Proofs.YtmhgpbfogdoaeaaGreatDoor

/- S4 -/
namespace Go.Proofs.YtmhgpbfogdoaeaaGreatDoor
open Go.RowKit Go.Lib Go.Sort

end Go.Proofs.YtmhgpbfogdoaeaaGreatDoor

/- S8 -/
namespace Go.Proofs.YtmhgpbfogdoaeaaGreatDoor
open Go.RowKit Go.Sort

end Go.Proofs.YtmhgpbfogdoaeaaGreatDoor

/- T1 -/
namespace Go.Proofs.YtmhgpbfogdoaeaaGreatDoor
open Go Go.RowKit Go.Shelf
attribute [local go_sem] Oper.semAt_some

end Go.Proofs.YtmhgpbfogdoaeaaGreatDoor

/- T2 -/
namespace Go.Proofs.YtmhgpbfogdoaeaaGreatDoor
open Go Go.RowKit Go.Shelf
attribute [local go_sem] Oper.semAt_some

end Go.Proofs.YtmhgpbfogdoaeaaGreatDoor

/- T3 -/
namespace Go.Proofs.YtmhgpbfogdoaeaaGreatDoor
open Go Go.RowKit Go.Shelf
attribute [local go_sem] Oper.semAt_some

end Go.Proofs.YtmhgpbfogdoaeaaGreatDoor

/- T8 -/
namespace Go.Proofs.YtmhgpbfogdoaeaaGreatDoor
open Go.RowKit Go.Sort

end Go.Proofs.YtmhgpbfogdoaeaaGreatDoor

/- P4h -/
namespace Go.Proofs.YtmhgpbfogdoaeaaGreatDoor
open Go.RowKit

end Go.Proofs.YtmhgpbfogdoaeaaGreatDoor

namespace Go.Proofs.YtmhgpbfogdoaeaaGreatDoor
open Go.Shelf Go.RowKit

end Go.Proofs.YtmhgpbfogdoaeaaGreatDoor

namespace Go.Proofs.YtmhgpbfogdoaeaaGreatDoor
open Go.RowKit

end Go.Proofs.YtmhgpbfogdoaeaaGreatDoor
