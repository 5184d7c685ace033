/-
  Words for memory that all walks share: a slice that reads as a list of integers, nil included; what is kept of it over draws, new blocks and writes elsewhere.
-/
import Derived.WalkKit
import Derived.Below
import Derived.Laws.OwnMore
import Derived.Deep.AppendLies
import Derived.Deep.Draws
import Derived.Lib.Hide
import Derived.OpenShut
import Derived.ProofKit
import Derived.ShutString
import Derived.ChangeOld
import Derived.Deep.QuietTactic
import Derived.BigQuiet
namespace Go.Proofs.YteemgkabhkdeaaaDoor
open Go.RowKit

theorem block_of_add (a : Addr) (n : Nat) : (a.add n).block = a.block := by unfold Addr.add; split <;> rfl
theorem add_of_add (a : Addr) (i j : Nat) : (a.add i).add j = a.add (i + j) := by
  unfold Addr.add
  by_cases hi : i = 0 <;> by_cases hj : j = 0 <;> simp [hi, hj, Nat.add_assoc]

/-- The slice '.slice A n c' holds the integers xs of kind k. -/
structure Ints (w : World) (k : IntKind) (A : Option Addr) (n c : Nat) (xs : List Int) : Prop where
  len : xs.length = n
  le : n ≤ c
  at_ : 0 < n → ∃ b o, A = some ⟨b, o, none⟩ ∧ b < w.heap.size ∧ ∀ j, j < n → w.cell? ⟨b, o + j, none⟩ = some (.int k (xs.getD j 0))

section
variable {w w' : World} {k : IntKind} {n c : Nat} {A : Option Addr} {xs : List Int}
theorem Ints.none_ : Ints w k none 0 0 [] := ⟨rfl, Nat.le_refl _, fun h => absurd h (by omega)⟩
theorem Ints.below {B : Nat} (h : Ints w k A n c xs) (hb : Below B w w') (hB : w.heap.size ≤ B) : Ints w' k A n c xs :=
  ⟨h.len, h.le, fun hn => by
    obtain ⟨b, o, e, hlt, hc⟩ := h.at_ hn
    exact ⟨b, o, e, Nat.lt_of_lt_of_le hlt hb.size, fun j hj => (hb.cell (p := ⟨b, o + j, none⟩) (Nat.lt_of_lt_of_le hlt hB)).trans (hc j hj)⟩⟩
theorem Ints.drew (h : Ints w k A n c xs) : Ints w.drew k A n c xs := ⟨h.len, h.le, h.at_⟩
theorem Ints.drewN (h : Ints w k A n c xs) (m : Nat) : Ints (w.drewN m) k A n c xs := ⟨h.len, h.le, h.at_⟩
end

theorem lt_of_cell {w : World} {a : Addr} {v : Value} (h : w.cell? a = some v) : a.block < w.heap.size := by
  rcases Nat.lt_or_ge a.block w.heap.size with hlt | hge
  · exact hlt
  · simp [World.cell?, Array.getElem?_eq_none hge] at h
theorem add_plain' (b o j : Nat) : (⟨b, o, none⟩ : Addr).add j = ⟨b, o + j, none⟩ := by
  unfold Addr.add; by_cases h : j = 0 <;> simp [h]
theorem Ints.of_row {w : World} {k : IntKind} {x : Addr} {n c : Nat} {zs : List Int} (hl : n ≤ c) (hz : zs.length = c) (hc : ∀ i, i < zs.length → w.cell? (x.add i) = some (.int k (zs.getD i 0))) : Ints w k (some x) n c (zs.take n) := by
  refine ⟨by simp; omega, hl, fun hn => ?_⟩
  obtain ⟨b, o, e, hc'⟩ := ints_at hc (by omega)
  refine ⟨b, o, by rw [e], ?_, fun j hj => ?_⟩
  · have h0 := hc' 0 (by omega)
    exact lt_of_cell h0
  · rw [hc' j (by omega)]
    simp [List.getD_eq_getElem?_getD, hj]

/-- Block g is just the cells cs of element type t, none frozen. -/
def Blk (w : World) (g : Nat) (t : TypeId) (cs : Array Value) : Prop := w.heap[g]? = some (.cells cs t (0, 0))

section
variable {w w' : World} {g : Nat} {t : TypeId} {cs : Array Value}
theorem Blk.lt (h : Blk w g t cs) : g < w.heap.size := by
  rcases Nat.lt_or_ge g w.heap.size with hlt | hge
  · exact hlt
  · unfold Blk at h; rw [Array.getElem?_eq_none hge] at h; cases h
theorem Blk.cell (h : Blk w g t cs) (i : Nat) : w.cell? ⟨g, i, none⟩ = cs[i]? := cell_of_row w g i cs t (0, 0) h
theorem Blk.frozen (h : Blk w g t cs) (i : Nat) : w.frozen? ⟨g, i, none⟩ = false := by
  unfold Blk at h
  simp [World.frozen?, h]
theorem Blk.new (w : World) (t : TypeId) (cs : Array Value) : Blk (w.alloc (.cells cs t)) w.heap.size t cs := heap_alloc_new w _
theorem Blk.drew (h : Blk w g t cs) : Blk w.drew g t cs := h
theorem Blk.drewN (h : Blk w g t cs) (n : Nat) : Blk (w.drewN n) g t cs := h
theorem Blk.alloc (h : Blk w g t cs) (o : Obj) : Blk (w.alloc o) g t cs := (Below.heap_alloc w o g h.lt).trans h
theorem Blk.set_ (h : Blk w g t cs) (i : Nat) (u : Value) : Blk (w.setCell ⟨g, i, none⟩ u) g t (cs.setIfInBounds i u) := by
  unfold Blk at h ⊢
  simp [World.setCell, Array.getElem?_modify, h]
theorem Blk.far (h : Blk w g t cs) {p : Addr} (hp : g ≠ p.block) (u : Value) : Blk (w.setCell p u) g t cs := (Below.heap_setCell w p u g hp).trans h
theorem Blk.below {B : Nat} (h : Blk w g t cs) (hb : Below B w w') (hg : g < B) : Blk w' g t cs := (hb.block g hg).trans h
end

/-- A slice of the call's own: block g from B on, whole, holds the integers xs. -/
structure OwnInts (w : World) (B : Nat) (t : TypeId) (k : IntKind) (g n : Nat) (xs : List Int) : Prop where
  ge : B ≤ g
  len : xs.length = n
  blk : Blk w g t (xs.map (Value.int k)).toArray

theorem OwnInts.ints {w : World} {B : Nat} {t : TypeId} {k : IntKind} {g n : Nat} {xs : List Int} (h : OwnInts w B t k g n xs) : Ints w k (some ⟨g, 0, none⟩) n n xs :=
  ⟨h.len, Nat.le_refl _, fun _ => ⟨g, 0, rfl, h.blk.lt, fun j hj => by
    rw [Nat.zero_add, h.blk.cell]
    have hl := h.len
    have : j < xs.length := by omega
    simp [this]⟩⟩

theorem OwnInts.of_cells {w : World} {B : Nat} {t : TypeId} {k : IntKind} {g : Nat} {xs : List Int} {cs : Array Value} (hb : Blk w g t cs) (hcs : cs.size = xs.length) (hj : ∀ j, j < xs.length → cs[j]? = some (.int k (xs.getD j 0))) (hg : B ≤ g) : OwnInts w B t k g xs.length xs := by
  refine ⟨hg, rfl, ?_⟩
  have : cs = (xs.map (Value.int k)).toArray := by
    apply Array.ext_getElem?
    intro i
    by_cases hi : i < xs.length
    · rw [hj i hi]; simp [hi]
    · rw [Array.getElem?_eq_none (by omega), Array.getElem?_eq_none (by simp; omega)]
  rw [← this]; exact hb
theorem cells_set {k0 : IntKind} (xs : List Int) (cs : Array Value) (k : Nat) (hk : k < cs.size) (hj : ∀ j, j < k → cs[j]? = some (.int k0 (xs.getD j 0))) :
    ∀ j, j < k + 1 → (cs.setIfInBounds k (.int k0 (xs.getD k 0)))[j]? = some (.int k0 (xs.getD j 0)) := by
  intro j hjk
  rw [Array.getElem?_setIfInBounds]
  by_cases he : k = j
  · subst he; simp [hk]
  · rw [if_neg he]; exact hj j (by omega)
theorem take_go {k : Nat} (xs ys : List Int) (hk : k < xs.length) (hl : xs.length = ys.length) (h : xs.take k = ys.take k) : xs.getD k 0 = ys.getD k 0 → xs.take (k+1) = ys.take (k+1) := by
  intro he
  rw [List.take_succ_eq_append_getElem hk, List.take_succ_eq_append_getElem (by omega : k < ys.length), h]
  simp only [List.getD_eq_getElem?_getD, List.getElem?_eq_getElem hk, List.getElem?_eq_getElem (by omega : k < ys.length), Option.getD_some] at he
  rw [he]
theorem take_no {k : Nat} (xs ys : List Int) (_hk : k < xs.length) (_hl : xs.length = ys.length) : ¬ xs.getD k 0 = ys.getD k 0 → ¬ xs = ys := by
  intro hn he; exact hn (by rw [he])
theorem take_end {k : Nat} (xs ys : List Int) (hk : xs.length ≤ k) (hl : xs.length = ys.length) (h : xs.take k = ys.take k) : xs = ys := by
  rwa [List.take_of_length_le hk, List.take_of_length_le (by omega)] at h

theorem run_make_rowN {P : Program} (t e : TypeId) (i : TypeInfo) (z : Value) (ht : P.underlying t = some (.slice e)) (hi : P.info? e = some i) (hz : i.zero = some z)
    (kl kc : IntKind) (n c : Nat) (hnc : n ≤ c) (hbytes : i.bytes * c ≤ 281474976710656) (h63 : c ≤ 9223372036854775807) (w : World) :
    (Instr.makeSlice t (.int kl (n : Int)) (.int kc (c : Int))).run P w = .ok (.slice (some ⟨w.heap.size, 0, none⟩) n c) (w.alloc (.cells (madeCells z.cells (c * i.size)) e)) := by
  have hb : (i.bytes : Int) * (c : Int) ≤ 281474976710656 := by
    have h : ((i.bytes * c : Nat) : Int) ≤ 281474976710656 := by omega
    rwa [Int.natCast_mul] at h
  have hr := run_make (P := P) w t e i z ht hi hz kl kc n c (by omega) (by omega) hb (by omega)
  simp only [Int.toNat_natCast] at hr
  exact hr
theorem below_drewN {B : Nat} {a w : World} (h : Below B a w) (n : Nat) : Below B a (w.drewN n) := ⟨h.os, h.tape, h.output, h.size, h.block⟩
theorem below_of_drewN {a w : World} {n : Nat} (h : Below (a.drewN n).heap.size (a.drewN n) w) : Below a.heap.size a w := ⟨h.os, h.tape, h.output, h.size, h.block⟩
theorem ex0 {w : World} : ∃ m, w = w.drewN m := ⟨0, rfl⟩
theorem ex1 {w : World} {a : Nat} : ∃ m, w.drewN a = w.drewN m := ⟨a, rfl⟩
theorem ex2 {w : World} {a b : Nat} : ∃ m, (w.drewN a).drewN b = w.drewN m := ⟨a + b, World.drewN_drewN _ _ _⟩
theorem ex3 {w : World} {a b c : Nat} : ∃ m, ((w.drewN a).drewN b).drewN c = w.drewN m := ⟨a + (b + c), by rw [World.drewN_drewN, World.drewN_drewN]⟩
theorem quiet_add {P : Program} {f : FuncId} {args : Array Value} {w : World} {a n : Nat} {v : Value}
    (h : Calls P f args (w.drewN (a + n)) fun e w' => e = .returned v ∧ ∃ m, w' = (w.drewN (a + n)).drewN m) :
    Calls P f args (w.drewN (a + n)) fun e w'' => e = .returned v ∧ ∃ m, w'' = w.drewN (a + m) :=
  h.mono fun _ _ ⟨he, m, hm⟩ => ⟨he, n + m, by rw [hm, World.drewN_drewN, Nat.add_assoc]⟩
theorem quiet_add_same {P : Program} {f : FuncId} {args : Array Value} {w : World} {a n : Nat} {v : Value}
    (h : Calls P f args (w.drewN (a + n)) fun e w' => e = .returned v ∧ w.drewN (a + n) = w') :
    Calls P f args (w.drewN (a + n)) fun e w'' => e = .returned v ∧ ∃ m, w'' = w.drewN (a + m) :=
  h.mono fun _ _ ⟨he, hm⟩ => ⟨he, n, hm.symm⟩
theorem quiet_same {P : Program} {f : FuncId} {args : Array Value} {w : World} {n : Nat} {v : Value}
    (h : Calls P f args (w.drewN n) fun e w' => e = .returned v ∧ w.drewN n = w') : Calls P f args (w.drewN n) fun e w'' => e = .returned v ∧ ∃ m, w'' = w.drewN m :=
  h.mono fun _ _ ⟨he, hm⟩ => ⟨he, n, hm.symm⟩
theorem ret_bool {a b : Bool} (h : a = b) : Ending.returned (.bool a) = .returned (.bool b) := by rw [h]
theorem ret_int {k : IntKind} {a b : Int} (h : a = b) : Ending.returned (.int k a) = .returned (.int k b) := by rw [h]
end Go.Proofs.YteemgkabhkdeaaaDoor
