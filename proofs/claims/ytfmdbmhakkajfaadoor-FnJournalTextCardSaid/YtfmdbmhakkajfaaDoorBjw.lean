/-
  strings.Builder in the words that the walks use: a builder of the call's own that holds these bytes.
-/
import Derived.Test.YtfmdbmhakkajfaaDoorBj
import Derived.Test.YtfmdbmhakkajfaaDoorMathY
namespace Go.Proofs.YtfmdbmhakkajfaaDoor
open Go Go.RowKit Go.Shelf

/-- The builder at block b, its row from block B on, holds these bytes. -/
def Bj (B b : Nat) (l : List UInt8) (w : World) : Prop := Lib.IsBuilderF 72 5 B b (Lib.byteCells l) w
theorem Bj.new (w : World) : Bj w.heap.size w.heap.size [] (w.alloc (.cells #[.pointer none, .slice none 0 0] 72)) := Lib.IsBuilderF.of (Lib.fresh_isBuilder 72 5 w)
theorem Bj.lt {B b : Nat} {l : List UInt8} {w : World} (h : Bj B b l w) : b < w.heap.size := h.elim (fun x => x.lt) (fun x => x.lt)
theorem bjAt_none {T e : TypeId} {B b : Nat} {p : Value} {bs : List Value} {W W' : World} (h : Lib.BuilderAtF T e B b p bs W) (hg : W.grownBy W' none) : Lib.BuilderAtF T e B b p bs W' := by
  obtain ⟨hB, v, hb, hown, hne⟩ := h
  refine ⟨hB, v, (hg.block b (Array.getElem?_eq_some_iff.1 hb).1 (by simp)).trans hb, hown.kept hg ?_, hne⟩
  cases hv : v.ownBlock
  · exact .inl rfl
  · exact .inr (by simp)
/-- What keeps all blocks that there are keeps a builder. -/
theorem Bj.below {B b S : Nat} {l : List UInt8} {W W' : World} (h : Bj B b l W) (hb : Below S W W') (hS : W.heap.size ≤ S) : Bj B b l W' := by
  have hg : W.grownBy W' none := ⟨hb.os, hb.tape, hb.output, hb.size, fun k hk _ => hb.block k (by omega)⟩
  exact h.elim (fun x => .inl (bjAt_none x hg)) (fun x => .inr (bjAt_none x hg))
theorem jwstr_any (B b : Nat) (l : List UInt8) (s : ByteArray) (w : World) (h : Bj B b l w) (hl : l.length + s.size ≤ 20000000) (hB : B ≤ w.heap.size) :
    Calls Tryd.prog 46 #[.pointer (some ⟨b, 0, none⟩), .string s] w fun e w' => e = .returned (.tuple #[.int .i64 s.size, .nilIface]) ∧ Bj B b (l ++ s.data.toList) w' ∧ Below B w w' := by
  refine (Any.Builder_WriteString_k jwstrLays bjExtra B b (Lib.byteCells l) s w h (by rw [Lib.byteCells_length]; omega) hB).mono ?_
  rintro e w' ⟨he, h1, h2, h3⟩
  refine ⟨he, ?_, h2⟩
  unfold Bj
  rw [Lib.byteCells_append]
  exact .inr h1
theorem jbstr_any (B b : Nat) (l : List UInt8) (w : World) (h : Bj B b l w) (hB : B ≤ w.heap.size) :
    Calls Tryd.prog 47 #[.pointer (some ⟨b, 0, none⟩)] w fun e w' => e = .returned (.string ⟨l.toArray⟩) ∧ Below B w w' :=
  (Any.Builder_String_any_k jbstrLays bjExtra B b l w h hB).mono fun _ _ ⟨he, _, h2, _⟩ => ⟨he, h2⟩
end Go.Proofs.YtfmdbmhakkajfaaDoor
