/-
  The contract of the draw of a tongue and words that often are a name.
-/
import Derived.Test.YteemgkabhkdeaaaDoorDrawN
import Derived.Test.YteemgkabhkdeaaaDoorMathS
namespace Go.Proofs.YteemgkabhkdeaaaDoor
open Go.RowKit

/-- No row of the tongue is in the row's block. -/
def Apart3 (v u : Value) : Prop := ∃ v1 v2 v3, v = .agg #[v1, v2, v3] ∧ ∀ k, u.ownBlock = some k → v1.ownBlock ≠ some k ∧ v2.ownBlock ≠ some k ∧ v3.ownBlock ≠ some k
theorem own_apart3 {a b : World} {B n : Nat} {e : TypeId} {u : Value} {xs : List Value} {row : Option Nat} (h : a.ownsRow B e 1 u n xs) (hg : a.grownBy b row) (hne : ∀ k, u.ownBlock = some k → row ≠ some k) : b.ownsRow B e 1 u n xs := by
  refine h.kept hg ?_
  cases hv : u.ownBlock with
  | none => exact .inl rfl
  | some k => exact .inr fun e => hne k hv e.symm
theorem OwnTng.apart3 {a b : World} {B : Nat} {v u : Value} {t : Tg} (h : OwnTng a B v t) (hg : a.grownBy b u.ownBlock) (ha : Apart3 v u) : OwnTng b B v t := by
  obtain ⟨v1, v2, v3, e, o1, o2, o3, ap⟩ := h.ex
  obtain ⟨u1, u2, u3, e', hk⟩ := ha
  rw [e] at e'
  cases e'
  exact ⟨v1, v2, v3, e, own_apart3 o1 hg (fun k hk1 hk2 => (hk k hk2).1 hk1), own_apart3 o2 hg (fun k hk1 hk2 => (hk k hk2).2.1 hk1), own_apart3 o3 hg (fun k hk1 hk2 => (hk k hk2).2.2 hk1), ap⟩
theorem apart3_of_lt {w : World} {B : Nat} {v : Value} {t : Tg} (h : OwnTng w B v t) : ∀ u : Value, (∀ k, u.ownBlock = some k → w.heap.size ≤ k) → Apart3 v u := fun u hu => by
  obtain ⟨v1, v2, v3, e, o1, o2, o3, ap⟩ := h.ex
  exact ⟨v1, v2, v3, e, fun k hk => ⟨fun e => by have := (World.ownsRow.lt o1 k e).2; have := hu k hk; omega, fun e => by have := (World.ownsRow.lt o2 k e).2; have := hu k hk; omega, fun e => by have := (World.ownsRow.lt o3 k e).2; have := hu k hk; omega⟩⟩

/-- Texts that are drawn: few and short. -/
def SmallW (m : Nat) (l : List ByteArray) : Prop := l.length ≤ m ∧ ∀ x ∈ l, x.size ≤ 16
/-- A tongue and words are drawn by a reader. -/
def RetSaid (w : World) (g : Nat) (e : Ending) (w' : World) : Prop := ∃ v t u xs q, e = .returned (.tuple #[v, u]) ∧ OwnTng w' w.heap.size v t ∧ OwnStrs w' w.heap.size u xs ∧ SmallT 40 t ∧ SmallW 44 xs ∧ Rd w' g q ∧ q ≤ 100 ∧ w.grownBy w' (some g)
theorem DN.said {w wx : World} {g z q B : Nat} {cs : Array Value} {v u u0 u1 u2 : Value} {t : Tg} {xs : List ByteArray} (h : DN w g z cs v t wx q) (ho : OwnStrs wx B u xs) (hB : w.heap.size + 1 ≤ B) (h0 : g < w.heap.size) (hs : SmallT 40 t) (hx : SmallW 44 xs) (hq : q ≤ 100) :
    RetSaid w g (.returned (.tuple #[v, u])) (((wx.setCell ⟨w.heap.size, 0, none⟩ u0).setCell ⟨w.heap.size, 1, none⟩ u1).setCell ⟨w.heap.size, 2, none⟩ u2) :=
  ⟨v, t, u, xs, q, rfl, (h.own.set3 h.hx).mono (by omega), OwnStrs.mono (own_far (own_far (own_far ho (by omega) _) (by omega) _) (by omega) _) (by omega), hs, hx, rd_set (rd_set (rd_set h.rd h0 _) h0 _) h0 _, hq, grown_set (grown_set (grown_set h.gr (Nat.le_refl _) _) (Nat.le_refl _) _) (Nat.le_refl _) _⟩

/-- While words are drawn: the list, and all words of the tongue. -/
structure DS (w : World) (g z : Nat) (cs : Array Value) (v : Value) (t : Tg) (vl : Value) (l : List ByteArray) (va : Value) (wx : World) (q : Nat) : Prop where
  dn : DN w g z cs v t wx q
  ol : OwnStrs wx (z + 1) vl l
  oa : OwnStrs wx (z + 1) va t.words
  ap : ∀ k, vl.ownBlock = some k → va.ownBlock ≠ some k
section
variable {w wx w' : World} {g z q q' : Nat} {cs : Array Value} {v vl va : Value} {t : Tg} {l : List ByteArray}
theorem DS.pick (h : DS w g z cs v t vl l va wx q) (hg : wx.grownBy w' (some g)) (hr : Rd w' g q') (h0 : g < w.heap.size) (hz : g < z) : DS w g z cs v t vl l va w' q' :=
  ⟨h.dn.pick hg hr h0 hz, own_kept h.ol hg (fun r e => .inl (by cases e; omega)), own_kept h.oa hg (fun r e => .inl (by cases e; omega)), h.ap⟩
theorem DS.below (h : DS w g z cs v t vl l va wx q) (hb : Below wx.heap.size wx w') : DS w g z cs v t vl l va w' q :=
  ⟨h.dn.below hb, h.ol.below hb (Nat.le_refl _), h.oa.below hb (Nat.le_refl _), h.ap⟩
/-- The list has turned, in its own row or in a new one. -/
theorem DS.turn {vl' : Value} {l' : List ByteArray} (h : DS w g z cs v t vl l va wx q) (hg : wx.grownBy w' vl.ownBlock) (hol : OwnStrs w' (z + 1) vl' l') (hat : vl'.ownBlock = vl.ownBlock ∨ ∃ k, vl'.ownBlock = some k ∧ wx.heap.size ≤ k)
    (h0 : g < w.heap.size) (hz : w.heap.size < z) (hap : Apart3 v vl) : DS w g z cs v t vl' l' va w' q := by
  have hlt := h.ol.lt
  have hzl := h.dn.hz.lt
  refine ⟨⟨rd_append h0 h.dn.rd (own_mono h.ol (by omega)) hg, h.dn.hx.grown hg (fun e => ?_), h.dn.hz.grown hg (fun e => ?_), h.dn.own.apart3 hg hap, ?_⟩, hol, own_apart3 h.oa hg (fun k hk e => h.ap k e hk), fun k hk => ?_⟩
  · have := (hlt _ e.symm).1; omega
  · have := (hlt _ e.symm).1; omega
  · exact ⟨hg.os.trans h.dn.gr.os, hg.tape.trans h.dn.gr.tape, hg.output.trans h.dn.gr.output, Nat.le_trans h.dn.gr.size hg.size, fun k hk hne => (hg.block k (Nat.lt_of_lt_of_le hk h.dn.gr.size) (fun e => by have := (hlt k e.symm).1; omega)).trans (h.dn.gr.block k hk hne)⟩
  · rcases hat with e | ⟨k', e, hk'⟩
    · rw [e] at hk; exact h.ap k hk
    · rw [e] at hk
      cases hk
      intro e2
      have := (h.oa.lt _ e2).2
      omega
end
end Go.Proofs.YteemgkabhkdeaaaDoor
