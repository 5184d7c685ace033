/-
  A code while it is drawn.
-/
import Derived.Test.YtbghgpgpljdjkaaQ2
import Derived.Test.YtbghgpgpljdjkaaGA
namespace Go.Proofs.Ytbghgpgpljdjkaa
open Go.RowKit

theorem own_keptB {w w' : World} {B n : Nat} {e : TypeId} {v : Value} {xs : List Value} {row : Option Nat} (h : w.ownsRow B e 1 v n xs) (hg : w.grownBy w' row) (hrow : ∀ r, row = some r → r < B ∨ w.heap.size ≤ r) : w'.ownsRow B e 1 v n xs := by
  refine h.kept hg ?_
  cases hv : v.ownBlock with
  | none => exact .inl rfl
  | some k =>
    refine .inr fun e => ?_
    have h1 := h.lt k hv
    rcases hrow k e.symm with h3 | h3 <;> omega
/-- While a code is drawn in world w: the reader at g, read q times; the texts l as the row v. -/
structure DC (w : World) (g : Nat) (wx : World) (v : Value) (l : List ByteArray) (q : Nat) : Prop where
  rd : Rd wx g q
  own : OwnStrs wx w.heap.size v l
  gr : w.grownBy wx (some g)
  glt : g < w.heap.size
section
variable {w wx w' : World} {g q : Nat} {v : Value} {l : List ByteArray}
theorem DC.kept {row : Option Nat} (h : DC w g wx v l q) {q' : Nat} (hr : Rd w' g q') (hg : wx.grownBy w' row) (hrow : ∀ r, row = some r → r = g ∨ wx.heap.size ≤ r) : DC w g w' v l q' := by
  refine ⟨hr, own_keptB h.own hg (fun r e => ?_), ⟨hg.os.trans h.gr.os, hg.tape.trans h.gr.tape, hg.output.trans h.gr.output, Nat.le_trans h.gr.size hg.size, fun k hk hne => (hg.block k (Nat.lt_of_lt_of_le hk h.gr.size) fun e => ?_).trans (h.gr.block k hk hne)⟩, h.glt⟩
  · have h2 := h.glt
    rcases hrow r e with h3 | h3
    · exact .inl (by omega)
    · exact .inr h3
  · rcases hrow k e.symm with h3 | h3
    · exact hne (by rw [h3])
    · have := h.gr.size; omega
theorem DC.pick (h : DC w g wx v l q) {q' : Nat} (hr : Rd w' g q') (hg : wx.grownBy w' (some g)) : DC w g w' v l q' := h.kept hr hg (fun r e => .inl (by cases e; rfl))
theorem DC.below (h : DC w g wx v l q) (hb : Below wx.heap.size wx w') : DC w g w' v l q := h.kept (row := none) (h.rd.below hb (Nat.le_refl _)) (grown_of_below none hb) (by simp)
theorem DC.alloc (h : DC w g wx v l q) (o : Obj) : DC w g (wx.alloc o) v l q := h.below ((Below.refl _ _).alloc (Nat.le_refl _) _)
theorem DC.drew (h : DC w g wx v l q) : DC w g wx.drew v l q := h.below (Below.refl _ _).drew
/-- The row has grown. -/
theorem DC.put (h : DC w g wx v l q) {v' : Value} {l' : List ByteArray} (ho : OwnStrs w' w.heap.size v' l') (hg : wx.grownBy w' v.ownBlock) : DC w g w' v' l' q :=
  ⟨rd_append (w := w) h.glt h.rd h.own hg, ho, grown_append h.gr h.own hg, h.glt⟩
/-- Another row is the code. -/
theorem DC.turn (h : DC w g wx v l q) {v' : Value} {l' : List ByteArray} (ho : OwnStrs wx w.heap.size v' l') : DC w g wx v' l' q := ⟨h.rd, ho, h.gr, h.glt⟩
/-- The first text is another one. -/
theorem DC.set0 {gb cap n : Nat} (h : DC w g wx (.slice (some ⟨gb, 0, none⟩) n cap) l q) (x : ByteArray) : DC w g (wx.setCell ⟨gb, 0, none⟩ (.string x)) (.slice (some ⟨gb, 0, none⟩) n cap) (l.set 0 x) q := by
  have e1 : n = l.length := by
    rcases h.own.2 with ⟨e, _⟩ | ⟨g', cap', cur, e, _⟩
    · cases e
    · injection e
  subst e1
  have ho := (World.ownsRow.stored h.own 0 (.string x)).1
  refine h.put (v := .slice (some ⟨gb, 0, none⟩) l.length cap) ?_ (grown_setCell wx gb 0 (.string x))
  show World.ownsRow _ _ _ _ _ _ _
  rw [List.length_set, List.map_set]
  exact ho
end
theorem src_blk {w : World} {b : Nat} {t : TypeId} (xs : List ByteArray) (h : Blk w b t (xs.map Value.string).toArray) : Src w (some ⟨b, 0, none⟩) xs.length (xs.map Value.string) := by
  refine ⟨by simp, fun u hu => ?_, fun _ => ⟨b, 0, rfl, h.lt, fun j v hv => ?_⟩⟩
  · obtain ⟨x, _, rfl⟩ := List.mem_map.1 hu; rfl
  · rw [Nat.zero_add, h.cell]
    simpa using hv
theorem strs_new (w : World) (xs : List ByteArray) (cs : Array Value) (h : cs = (xs.map Value.string).toArray) : Strs (w.alloc (.cells cs 9)) (some ⟨w.heap.size, 0, none⟩) xs.length xs.length xs := by
  subst h
  have hB := Blk.new w 9 (xs.map Value.string).toArray
  refine ⟨rfl, Nat.le_refl _, fun _ => ⟨w.heap.size, 0, rfl, hB.lt, fun j hj => ?_⟩⟩
  rw [Nat.zero_add, hB.cell]
  simp [List.getD_eq_getElem?_getD, hj]
/-- Short texts, few of them. -/
def FewT (m n : Nat) (l : List ByteArray) : Prop := l.length ≤ m ∧ ∀ x ∈ l, x.size ≤ n
theorem FewT.put {m n : Nat} {l : List ByteArray} (h : FewT m n l) {s : ByteArray} (hs : s.size ≤ n) : FewT (m + 1) n (putL l s) :=
  ⟨by have := (putL_len l s).1; have := h.1; omega, fun x hx => by
    rcases putL_mem.1 hx with h1 | h1
    · exact h.2 x h1
    · subst h1; exact hs⟩
theorem putL_pos (l : List ByteArray) (s : ByteArray) : 1 ≤ (putL l s).length := by
  unfold putL
  split
  · next h => exact List.length_pos_of_mem h
  · simp
theorem FewT.mono {m n m' n' : Nat} {l : List ByteArray} (h : FewT m n l) (hm : m ≤ m') (hn : n ≤ n') : FewT m' n' l := ⟨Nat.le_trans h.1 hm, fun x hx => Nat.le_trans (h.2 x hx) hn⟩
theorem FewT.snoc {m n : Nat} {l : List ByteArray} (h : FewT m n l) {s : ByteArray} (hs : s.size ≤ n) : FewT (m + 1) n (l ++ [s]) :=
  ⟨by have := h.1; simp; omega, fun x hx => by
    rcases List.mem_append.1 hx with h1 | h1
    · exact h.2 x h1
    · rw [List.mem_singleton.1 h1]; exact hs⟩
theorem FewT.set0 {m n : Nat} {l : List ByteArray} (h : FewT m n l) {s : ByteArray} (hs : s.size ≤ n) : FewT m n (l.set 0 s) :=
  ⟨by rw [List.length_set]; exact h.1, fun x hx => by
    rcases List.mem_or_eq_of_mem_set hx with h1 | h1
    · exact h.2 x h1
    · subst h1; exact hs⟩
theorem pick3B (a0 a1 a2 : ByteArray) (m kk : Nat) (hk : kk < 3) (h0 : a0.size ≤ m) (h1 : a1.size ≤ m) (h2 : a2.size ≤ m) : ∃ y : ByteArray, (#[Value.string a0, Value.string a1, Value.string a2] : Array Value)[kk]? = some (.string y) ∧ y.size ≤ m := by
  match kk, hk with
  | 0, _ => exact ⟨a0, rfl, h0⟩
  | 1, _ => exact ⟨a1, rfl, h1⟩
  | 2, _ => exact ⟨a2, rfl, h2⟩
theorem pick4B (a0 a1 a2 a3 : ByteArray) (m kk : Nat) (hk : kk < 4) (h0 : a0.size ≤ m) (h1 : a1.size ≤ m) (h2 : a2.size ≤ m) (h3 : a3.size ≤ m) : ∃ y : ByteArray, (#[Value.string a0, Value.string a1, Value.string a2, Value.string a3] : Array Value)[kk]? = some (.string y) ∧ y.size ≤ m := by
  match kk, hk with
  | 0, _ => exact ⟨a0, rfl, h0⟩
  | 1, _ => exact ⟨a1, rfl, h1⟩
  | 2, _ => exact ⟨a2, rfl, h2⟩
  | 3, _ => exact ⟨a3, rfl, h3⟩
/-- What an append of one text leaves. -/
theorem own_snocB {w : World} {B n : Nat} {v : Value} {us : List ByteArray} {x : ByteArray} (h : w.ownsRow B 9 1 v n (us.map Value.string ++ [.string x])) : OwnStrs w B v (us ++ [x]) := by
  have hl := h.1
  have e : n = (us ++ [x]).length := by simpa using hl.symm
  subst e
  unfold OwnStrs
  rw [List.map_append]
  exact h
end Go.Proofs.Ytbghgpgpljdjkaa
