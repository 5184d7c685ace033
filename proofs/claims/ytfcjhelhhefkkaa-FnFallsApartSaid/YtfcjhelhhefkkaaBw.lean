/-
  strings.Builder and strings.Repeat at this program, in the words that the walks use: a builder of the call's own that holds these bytes.
-/
import Derived.Test.YtfcjhelhhefkkaaBld
import Derived.Test.YtfcjhelhhefkkaaT3
import Derived.Test.YtfcjhelhhefkkaaS4
namespace Go.Proofs.Ytfcjhelhhefkkaa
open Go Go.RowKit Go.Shelf

/-- The builder at block b, its row from block B on, holds these bytes. -/
def Bl (B b : Nat) (l : List UInt8) (w : World) : Prop := Lib.IsBuilderF 67 5 B b (Lib.byteCells l) w
/-- What its methods leave as it was. -/
def BlK (b : Nat) (w w' : World) : Prop := Lib.OthersKept 5 (some b) w w'
theorem Bl.new (w : World) : Bl w.heap.size w.heap.size [] (w.alloc (.cells #[.pointer none, .slice none 0 0] 67)) := Lib.IsBuilderF.of (Lib.fresh_isBuilder 67 5 w)
theorem Bl.alloc {B b : Nat} {l : List UInt8} {w : World} (h : Bl B b l w) (o : Obj) : Bl B b l (w.alloc o) := h.elim (fun x => .inl (x.alloc o)) (fun x => .inr (x.alloc o))
theorem Bl.lt {B b : Nat} {l : List UInt8} {w : World} (h : Bl B b l w) : b < w.heap.size := h.elim (fun x => x.lt) (fun x => x.lt)
theorem Bl.ge {B b : Nat} {l : List UInt8} {w : World} (h : Bl B b l w) : B ≤ b := h.elim (fun x => x.1) (fun x => x.1)
theorem blAt_nocells {T e : TypeId} {B b : Nat} {p : Value} {bs : List Value} {W W' : World} {row : Option Nat} (h : Lib.BuilderAtF T e B b p bs W) (hg : W.grownBy W' row) (hr : ∀ r, row = some r → ∃ o : Obj, W.heap[r]? = some o ∧ o.isCells = false) : Lib.BuilderAtF T e B b p bs W' := by
  obtain ⟨hB, v, hb, hown, hne⟩ := h
  refine ⟨hB, v, (hg.block b (Array.getElem?_eq_some_iff.1 hb).1 (fun e => ?_)).trans hb, hown.kept hg ?_, hne⟩
  · obtain ⟨o, ho, hc⟩ := hr b e.symm
    rw [hb] at ho; cases ho; cases hc
  · rcases hown.2 with ⟨rfl, _⟩ | ⟨g, cap, cur, fz, rfl, _, hgg, _⟩
    · exact .inl rfl
    · refine .inr fun e => ?_
      obtain ⟨o, ho, hc⟩ := hr g (by rw [← e]; rfl)
      rw [hgg] at ho; cases ho; cases hc
theorem Bl.nocells {B b : Nat} {l : List UInt8} {W W' : World} {row : Option Nat} (h : Bl B b l W) (hg : W.grownBy W' row) (hr : ∀ r, row = some r → ∃ o : Obj, W.heap[r]? = some o ∧ o.isCells = false) : Bl B b l W' :=
  h.elim (fun x => .inl (blAt_nocells x hg hr)) (fun x => .inr (blAt_nocells x hg hr))
/-- What keeps all blocks that there are keeps a builder. -/
theorem Bl.below {B b : Nat} {l : List UInt8} {W W' : World} (h : Bl B b l W) (hb : Below W.heap.size W W') : Bl B b l W' :=
  h.nocells (row := none) ⟨hb.os, hb.tape, hb.output, hb.size, fun k hk _ => hb.block k hk⟩ (fun r e => by cases e)
theorem BlK.trans {b : Nat} {X Y Z : World} (h : BlK b X Y) (k : BlK b Y Z) : BlK b X Z := Lib.OthersKept.trans h k
theorem BlK.blk {b g : Nat} {W W' : World} {t : TypeId} {cs : Array Value} (h : BlK b W W') (hk : Blk W g t cs) (hg : g ≠ b) (ht : t ≠ 5) : Blk W' g t cs :=
  h g _ hk (fun e => hg (by cases e; rfl)) (fun c fz e => ht (by cases e; rfl))
theorem Bl.cells {B b : Nat} {l : List UInt8} {W : World} (h : Bl B b l W) : ∃ cs, W.heap[b]? = some (.cells cs 67 (0, 0)) := by
  rcases h with ⟨_, v, hb, _⟩ | ⟨_, v, hb, _⟩
  · exact ⟨_, hb⟩
  · exact ⟨_, hb⟩
theorem BlK.other {B b g : Nat} {l : List UInt8} {W W' : World} {o : Obj} (h : BlK b W W') (hB : Bl B b l W) (hk : W.heap[g]? = some o) (ho : o.isCells = false) : W'.heap[g]? = some o := by
  obtain ⟨cs, hc⟩ := hB.cells
  refine h g o hk (fun e => ?_) (fun c fz e => by subst e; cases ho)
  cases e
  rw [hk] at hc; cases hc; cases ho
theorem BlK.from_ {B b : Nat} {l : List UInt8} {W W' : World} (h : BlK b W W') (hB : Bl B b l W) (hs : W.heap.size ≤ W'.heap.size) (C : Nat) : KeepsFrom C W W' := ⟨hs, fun _ _ _ hk ho => h.other hB hk ho⟩

theorem wbyte_any (B b : Nat) (l : List UInt8) (c : UInt8) (w : World) (h : Bl B b l w) (hl : l.length ≤ 1000000) (hB : B ≤ w.heap.size) :
    Calls Try.prog 56 #[.pointer (some ⟨b, 0, none⟩), .int .u8 (c.toNat : Int)] w fun e w' => e = .returned .nilIface ∧ Bl B b (l ++ [c]) w' ∧ Below B w w' ∧ BlK b w w' := by
  refine (Any.Builder_WriteByte_k wbyteLays bldExtra B b (Lib.byteCells l) c.toNat w h (by rw [Lib.byteCells_length]; omega) hB).mono ?_
  rintro e w' ⟨he, h1, h2, h3⟩
  refine ⟨he, ?_, h2, h3⟩
  unfold Bl
  rw [Lib.byteCells_append]
  exact .inr h1
theorem wstr_any (B b : Nat) (l : List UInt8) (s : ByteArray) (w : World) (h : Bl B b l w) (hl : l.length + s.size ≤ 1000000) (hB : B ≤ w.heap.size) :
    Calls Try.prog 59 #[.pointer (some ⟨b, 0, none⟩), .string s] w fun e w' => e = .returned (.tuple #[.int .i64 s.size, .nilIface]) ∧ Bl B b (l ++ s.data.toList) w' ∧ Below B w w' ∧ BlK b w w' := by
  refine (Any.Builder_WriteString_k wstrLays bldExtra B b (Lib.byteCells l) s w h (by rw [Lib.byteCells_length]; omega) hB).mono ?_
  rintro e w' ⟨he, h1, h2, h3⟩
  refine ⟨he, ?_, h2, h3⟩
  unfold Bl
  rw [Lib.byteCells_append]
  exact .inr h1
theorem bstr_any (B b : Nat) (l : List UInt8) (w : World) (h : Bl B b l w) (hB : B ≤ w.heap.size) :
    Calls Try.prog 57 #[.pointer (some ⟨b, 0, none⟩)] w fun e w' => e = .returned (.string (strOf l)) ∧ Bl B b l w' ∧ Below B w w' ∧ BlK b w w' :=
  Any.Builder_String_any_k bstrLays bldExtra B b l w h hB
theorem repeat_any (s : ByteArray) (c : Nat) (w : World) (hc : c ≤ 1000) (hs : s.size ≤ 1000) :
    Calls Try.prog 60 #[.string s, .int .i64 c] w fun e w' => e = .returned (.string ⟨(Lib.repeatL s.data.toList c).toArray⟩) ∧ Below w.heap.size w w' :=
  Any.strings_Repeat repLays bldExtra s c w (by omega) (Nat.le_trans (Nat.mul_le_mul hs hc) (by decide))
end Go.Proofs.Ytfcjhelhhefkkaa
