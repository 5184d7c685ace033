/-
  The reader opened, and odd; growth of the call's own memory.
-/
import Derived.Test.YteemgkabhkdeaaaDoorDraw
import Derived.Deep.RegionHeld3
import Derived.Deep.RegionLaw
import Derived.Deep.AppendLies
import Derived.Deep.DrawnRows
import Derived.Deep.DeepCutAuto
import Derived.Deep.LoopGhost
import Derived.Deep.Onto
namespace Go.Proofs.YteemgkabhkdeaaaDoor
open Go.RowKit

def OddPost (g p : Nat) (w : World) (e : Ending) (w' : World) : Prop :=
  ∃ (t : Bool) (q : Nat), e = .returned (.bool t) ∧ q ≤ p + 1 ∧ Rd w' g q ∧ w.grownBy w' (some g) ∧ w'.heap.size = w.heap.size

theorem odd_any (g p : Nat) (n : Int) (w : World) (h : Rd w g p) (hp : p ≤ 1000000) (hn : 1 ≤ n) (hn' : n ≤ 1000000) :
    Calls Tryd.prog 20 #[.pointer (some ⟨g, 0, none⟩), .int .i64 n] w (OddPost g p w) := by
  have HP := Lib.hid (pick_any g p n w h hp (by omega) (by omega))
  clear h
  go_enter Tryd.func20, Tryd.ntmps20
  go_wp2_with (fail)
  refine HP.out.mono ?_
  rintro e w' ⟨k, rfl, hk, hr, hg, hs⟩
  have HF : ∀ t, OddPost g p w (.returned (.bool t)) w' := fun t => ⟨t, p+1, rfl, Nat.le_refl _, hr, hg, hs⟩
  replace HF := Lib.hid HF
  clear hr hg hs
  go_wp2
  go_ret
  exact HF.out _

/-- The reader is opened over whatever bytes came in. -/
theorem open_any (A : Option Addr) (n c : Nat) (xs : List Int) (w : World) (h : Ints w .u8 A n c xs) (hn : n ≤ 1048576) (hwf : ∀ x ∈ xs, (Lit.int .u8 x).wf = true) (hc : c ≤ maxLen) :
    Calls Tryd.prog 18 #[.slice A n c] w fun e w' => e = .returned (.pointer (some ⟨w.heap.size, 0, none⟩)) ∧ Rd w' w.heap.size 0 ∧ Below w.heap.size w w' ∧ w'.heap.size = w.heap.size + 1 := by
  unfold maxLen at hc
  have hle := h.le
  have hb : ∀ j, 0 ≤ xs.getD j 0 ∧ xs.getD j 0 ≤ 255 := by
    intro j
    by_cases hj : j < xs.length
    · have := hwf xs[j] (List.getElem_mem hj)
      simp only [List.getD_eq_getElem?_getD, List.getElem?_eq_getElem hj, Option.getD_some]
      simpa [Lit.wf, IntKind.min, IntKind.max, IntKind.signed, IntKind.bits] using this
    · simp [List.getD_eq_getElem?_getD, List.getElem?_eq_none (by omega : xs.length ≤ j)]
  have hlt : ∀ b o, 0 < n → A = some ⟨b, o, none⟩ → b < w.heap.size := by
    intro b o hn0 e
    obtain ⟨b', o', e', hlt, _⟩ := h.at_ hn0
    rw [e'] at e; cases e; omega
  by_cases hn2 : n ≤ 2000
  · have HF : Rd (w.alloc (.cells #[.slice A n c, .int .i64 0] 65)) w.heap.size 0 := ⟨A, n, c, xs, Blk.new _ _ _, h.below ((Below.refl _ _).alloc (Nat.le_refl _) _) (Nat.le_refl _), hn2, hb, fun h0 b o e => hlt b o h0 e⟩
    replace HF := Lib.hid HF
    clear h hwf hb hlt
    go_enter Tryd.func18, Tryd.ntmps18
    go_wp2
    go_ret
    exact ⟨rfl, HF.out, (Below.refl _ _).alloc (Nat.le_refl _) _, by simp⟩
  · have h2 : Ints w .u8 A 2000 c (xs.take 2000) := ⟨by have := h.len; simp; omega, by omega, fun _ => by
      obtain ⟨b, o, e, hl, hc⟩ := h.at_ (by omega)
      exact ⟨b, o, e, hl, fun j hj => by rw [hc j (by omega)]; simp [List.getD_eq_getElem?_getD, hj]⟩⟩
    have HF : Rd (w.alloc (.cells #[.slice A 2000 c, .int .i64 0] 65)) w.heap.size 0 := ⟨A, 2000, c, _, Blk.new _ _ _, h2.below ((Below.refl _ _).alloc (Nat.le_refl _) _) (Nat.le_refl _), Nat.le_refl _, fun j => by
      by_cases hj : j < 2000
      · have := hb j; simpa [List.getD_eq_getElem?_getD, List.getElem?_take, hj] using this
      · simp [List.getD_eq_getElem?_getD, List.getElem?_take, hj], fun h0 b o e => hlt b o (by omega) e⟩
    replace HF := Lib.hid HF
    obtain ⟨b, o, rfl, _, _⟩ := h.at_ (by omega)
    clear h hwf hb hlt h2
    go_enter Tryd.func18, Tryd.ntmps18
    go_wp2
    go_ret
    exact ⟨rfl, HF.out, (Below.refl _ _).alloc (Nat.le_refl _) _, by simp⟩

theorem int_info0 : (Tryd.prog.info? 3).map (fun i => (i.zero, i.size, i.bytes)) = some (some (.int .i64 0), 1, 8) := by kernel_rfl
theorem blk_new_at {w : World} {t : TypeId} {cs : Array Value} (n : Nat) (h : w.heap.size = n) : Blk (w.alloc (.cells cs t)) n t cs := h ▸ Blk.new w t cs
theorem grown_trans' {a b c : World} {row : Option Nat} (h : a.grownBy b row) (k : b.grownBy c row) : a.grownBy c row := h.trans k
theorem grown_of_below {a b : World} (row : Option Nat) (h : Below a.heap.size a b) : a.grownBy b row := ⟨h.os, h.tape, h.output, h.size, fun k hk _ => h.block k hk⟩
theorem ints_of_blk {w : World} {g : Nat} {t : TypeId} {k : IntKind} (xs : List Int) (h : Blk w g t (xs.map (Value.int k)).toArray) : Ints w k (some ⟨g, 0, none⟩) xs.length xs.length xs :=
  (OwnInts.ints (B := 0) ⟨Nat.zero_le _, rfl, h⟩)
/-- an append onto a row of the call's own is growth of the call's own -/
theorem grown_append {w a b : World} {g : Nat} {e : TypeId} {v : Value} {n : Nat} {xs : List Value} (h : w.grownBy a (some g)) (ho : a.ownsRow w.heap.size e 1 v n xs) (hg : a.grownBy b v.ownBlock) : w.grownBy b (some g) :=
  ⟨hg.os.trans h.os, hg.tape.trans h.tape, hg.output.trans h.output, Nat.le_trans h.size hg.size, fun k hk hne => (hg.block k (Nat.lt_of_lt_of_le hk h.size) (fun e => by have := (ho.lt k e.symm).1; omega)).trans (h.block k hk hne)⟩
theorem rd_append {w a b : World} {g q : Nat} {e : TypeId} {v : Value} {n : Nat} {xs : List Value} (hlt : g < w.heap.size) (hr : Rd a g q) (ho : a.ownsRow w.heap.size e 1 v n xs) (hg : a.grownBy b v.ownBlock) : Rd b g q := by
  obtain ⟨A, m, c, ys, hb, hi, hm, hy, ha⟩ := hr.ex
  have hne : ∀ k, k < w.heap.size → some k ≠ v.ownBlock := fun k hk e => by have := (ho.lt k e.symm).1; omega
  exact ⟨A, m, c, ys, hb.grown hg (hne g hlt), hi.grown hg (fun h0 b' o e => hne b' (by have := ha h0 b' o e; omega)), hm, hy, ha⟩
end Go.Proofs.YteemgkabhkdeaaaDoor
