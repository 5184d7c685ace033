/-
  The reader of the drawn bytes: what it holds, and the contracts of its methods.
-/
import Derived.Test.YteemgkabhkdeaaaDoorProg
import Derived.Test.YteemgkabhkdeaaaDoorKit
import Derived.Test.YteemgkabhkdeaaaDoorMath
import Derived.Laws.BitsAllLaws
import Derived.Laws.BitsLemmas
import Derived.Maps.AppendAt
namespace Go.Proofs.YteemgkabhkdeaaaDoor
open Go.RowKit

/-- The reader at block g has read p times: its bytes lie in another block. -/
structure Rd (w : World) (g p : Nat) : Prop where
  ex : ∃ (A : Option Addr) (n c : Nat) (xs : List Int), Blk w g 65 #[.slice A n c, .int .i64 p] ∧ Ints w .u8 A n c xs ∧ n ≤ 2000 ∧ (∀ j, 0 ≤ xs.getD j 0 ∧ xs.getD j 0 ≤ 255) ∧ (0 < n → ∀ b o, A = some ⟨b, o, none⟩ → b < g)

theorem Ints.grown {w w' : World} {k : IntKind} {A : Option Addr} {n c : Nat} {xs : List Int} {row : Option Nat} (h : Ints w k A n c xs) (hg : w.grownBy w' row) (hne : 0 < n → ∀ b o, A = some ⟨b, o, none⟩ → some b ≠ row) : Ints w' k A n c xs :=
  ⟨h.len, h.le, fun hn => by
    obtain ⟨b, o, e, hlt, hc⟩ := h.at_ hn
    refine ⟨b, o, e, Nat.lt_of_lt_of_le hlt hg.size, fun j hj => ?_⟩
    have h1 : w'.heap[b]? = w.heap[b]? := hg.block b hlt (hne hn b o e)
    exact (World.cell?_of_block (a := ⟨b, o + j, none⟩) h1).trans (hc j hj)⟩
theorem Blk.grown {w w' : World} {g : Nat} {t : TypeId} {cs : Array Value} {row : Option Nat} (h : Blk w g t cs) (hb : w.grownBy w' row) (hg : some g ≠ row) : Blk w' g t cs := (hb.block g h.lt hg).trans h

theorem Rd.lt {w : World} {g p : Nat} (h : Rd w g p) : g < w.heap.size := by obtain ⟨A, n, c, xs, hb, _⟩ := h.ex; exact hb.lt
theorem Rd.grown {w w' : World} {g p : Nat} {row : Option Nat} (h : Rd w g p) (hg : w.grownBy w' row) (hne : ∀ r, row = some r → w.heap.size ≤ r) : Rd w' g p := by
  obtain ⟨A, n, c, xs, hb, hi, hn, hx, ha⟩ := h.ex
  refine ⟨A, n, c, xs, hb.grown hg ?_, ⟨hi.len, hi.le, fun h0 => ?_⟩, hn, hx, ha⟩
  · intro e; have := hne _ e.symm; have := hb.lt; omega
  · obtain ⟨b, o, e, hlt, hc⟩ := hi.at_ h0
    refine ⟨b, o, e, Nat.lt_of_lt_of_le hlt hg.size, fun j hj => ?_⟩
    have h1 : w'.heap[b]? = w.heap[b]? := hg.block b hlt (fun e => by have := hne _ e.symm; omega)
    exact (World.cell?_of_block (a := ⟨b, o + j, none⟩) h1).trans (hc j hj)
theorem Rd.below {w w' : World} {g p B : Nat} (h : Rd w g p) (hg : Below B w w') (hB : w.heap.size ≤ B) : Rd w' g p :=
  h.grown (row := none) ⟨hg.os, hg.tape, hg.output, hg.size, fun k hk _ => hg.block k (by omega)⟩ (by simp)
theorem grown_setCell (w : World) (g i : Nat) (u : Value) : w.grownBy (w.setCell ⟨g, i, none⟩ u) (some g) :=
  ⟨rfl, rfl, rfl, by simp [World.setCell], fun k _ hk => Below.heap_setCell w _ u k (fun e => hk (by rw [e]))⟩
theorem grown_drewN {a w : World} {row : Option Nat} (h : a.grownBy w row) (n : Nat) : a.grownBy (w.drewN n) row := ⟨h.os, h.tape, h.output, h.size, h.block⟩
theorem grown_drew {a w : World} {row : Option Nat} (h : a.grownBy w row) : a.grownBy w.drew row := ⟨h.os, h.tape, h.output, h.size, h.block⟩
theorem Rd.drew {w : World} {g p : Nat} (h : Rd w g p) : Rd w.drew g p := h.below ((Below.refl _ _).drew) (Nat.le_refl _)
theorem Rd.drewN {w : World} {g p : Nat} (h : Rd w g p) (m : Nat) : Rd (w.drewN m) g p := h.below (below_drewN (Below.refl _ _) m) (Nat.le_refl _)
theorem Rd.alloc' {w : World} {g p : Nat} (h : Rd w g p) (o : Obj) : Rd (w.alloc o) g p := h.below ((Below.refl _ _).alloc (Nat.le_refl _) _) (Nat.le_refl _)
theorem Rd.step {w : World} {g p : Nat} (h : Rd w g p) (m : Nat) : Rd ((w.setCell ⟨g, 1, none⟩ (.int .i64 ((p+1 : Nat) : Int))).drewN m) g (p+1) := by
  obtain ⟨A, n, c, xs, hb, hi, hn, hx, ha⟩ := h.ex
  have hg := grown_setCell w g 1 (.int .i64 ((p+1 : Nat) : Int))
  refine ⟨A, n, c, xs, ?_, ?_, hn, hx, ha⟩
  · have := hb.set_ 1 (.int .i64 ((p+1 : Nat) : Int))
    simpa using this.drewN m
  · exact (hi.grown hg (fun hn b o e => by have := ha hn b o e; simp; omega)).drewN m

theorem ofInt_i64 (a : Nat) (ha : a < 9223372036854775808) : (BitVec.ofInt 64 (a : Int)).toNat = a := by
  rw [BitVec.ofInt_natCast, BitVec.toNat_ofNat]; exact Nat.mod_eq_of_lt (by omega)
theorem i64_xor_nat (a b : Nat) (ha : a < 9223372036854775808) (hb : b < 9223372036854775808) : bits .xor .i64 (a : Int) (b : Int) = ((a ^^^ b : Nat) : Int) := by
  have hx : a ^^^ b < 2 ^ 63 := Nat.xor_lt_two_pow (by omega) (by omega)
  show IntKind.i64.wrap ((BitVec.ofInt 64 (a : Int) ^^^ BitVec.ofInt 64 (b : Int)).toNat : Int) = _
  rw [BitVec.toNat_xor, ofInt_i64 a ha, ofInt_i64 b hb, IntKind.wrap_i64]
  omega

def Picked (n : Int) (g p : Nat) (w : World) (e : Ending) (w' : World) : Prop :=
  ∃ k : Int, e = .returned (.int .i64 k) ∧ (0 ≤ k ∧ k < max n 1) ∧ Rd w' g (p+1) ∧ w.grownBy w' (some g) ∧ w'.heap.size = w.heap.size

theorem picked_of {n : Int} {g p : Nat} {w : World} (h : Rd w g p) (k : Int) (hk : 0 ≤ k ∧ k < max n 1) (m : Nat) : Picked n g p w (.returned (.int .i64 k)) ((w.setCell ⟨g, 1, none⟩ (.int .i64 ((p+1 : Nat) : Int))).drewN m) :=
  ⟨k, rfl, hk, h.step m, grown_drewN (grown_setCell w g 1 _) m, by simp [World.setCell]⟩

set_option maxHeartbeats 1000000 in
theorem pick_any (g p : Nat) (n : Int) (w : World) (h : Rd w g p) (hp : p ≤ 1000000) (hn : n ≤ 1000000000) (hn' : -1000000000 ≤ n) :
    Calls Tryd.prog 21 #[.pointer (some ⟨g, 0, none⟩), .int .i64 n] w (Picked n g p w) := by
  have HP := Lib.hid (fun k hk m => picked_of (n := n) h k hk m)
  obtain ⟨A, n1, c, xs, hb, hi, hn1, hx, ha⟩ := h.ex
  have c0 : w.cell? ⟨g, 0, none⟩ = some (.slice A n1 c) := by rw [hb.cell]; rfl
  have c1 : w.cell? ⟨g, 1, none⟩ = some (.int .i64 p) := by rw [hb.cell]; rfl
  have f0 := hb.frozen 0
  have f1 := hb.frozen 1
  clear h hb
  by_cases h1 : n < 1
  · have HP0 := Lib.hid (HP.out 0 (by omega) 0)
    go_enter Tryd.func21, Tryd.ntmps21
    go_wp2
    go_ret
    simpa [World.drewN_zero] using HP0.out
  · by_cases h2 : 0 < n1
    · obtain ⟨b, o, rfl, hlt, hc⟩ := hi.at_ h2
      have hbg : b ≠ g := by have := ha h2 b o rfl; omega
      by_cases h3 : p < n1
      · have c2 := hc p h3
        have x1 := hx p
        generalize xs.getD p 0 = x at *
        clear hi hx ha hc
        go_enter Tryd.func21, Tryd.ntmps21
        go_wp2
        go_ret
        have hm : 0 ≤ x % n ∧ x % n < n := ⟨Int.emod_nonneg _ (by omega), Int.emod_lt_of_pos _ (by omega)⟩
        have := HP.out (x % n) (by omega) 0
        simpa [World.drewN_zero] using this
      · have hm1 : p % n1 < n1 := Nat.mod_lt _ h2
        have hm2 : (p * 7 + 3) % n1 < n1 := Nat.mod_lt _ h2
        have c2 := hc _ hm1
        have c3 := hc _ hm2
        have x1 := hx (p % n1)
        have x2 := hx ((p * 7 + 3) % n1)
        generalize xs.getD (p % n1) 0 = x at *
        generalize xs.getD ((p * 7 + 3) % n1) 0 = y at *
        have hq : p / n1 ≤ p := Nat.div_le_self _ _
        clear hi hx ha hc
        go_enter Tryd.func21, Tryd.ntmps21
        go_wp2
        have hz : ¬ (n1 : Int) = 0 := by omega
        have q1 : 0 ≤ (p : Int) / n1 ∧ (p : Int) / n1 ≤ p := IntWalk.tdiv_le _ _ (by omega) (by omega)
        have e1 : (p : Int).tmod n1 = ((p % n1 : Nat) : Int) := by rw [IntWalk.rem_in _ _ (by omega)]; rfl
        have e2 : IntKind.i64.wrap ((p : Int) * 7) = (p : Int) * 7 := IntWalk.i64_in _ (by omega)
        have e3 : IntKind.i64.wrap ((p : Int) * 7 + 3) = (p : Int) * 7 + 3 := IntWalk.i64_in _ (by omega)
        have e4 : ((p : Int) * 7 + 3).tmod n1 = (((p * 7 + 3) % n1 : Nat) : Int) := by rw [IntWalk.rem_in _ _ (by omega)]; rfl
        have e41 : (((p : Int) * 7 + 3) % (n1 : Int)).toNat = (p * 7 + 3) % n1 := rfl
        have e42 : 0 ≤ ((p : Int) * 7 + 3) % (n1 : Int) := Int.emod_nonneg _ (by omega)
        have e43 : ((p : Int) * 7 + 3) % (n1 : Int) < n1 := Int.emod_lt_of_pos _ (by omega)
        have e5 : IntKind.i64.wrap (x * 131) = x * 131 := IntWalk.i64_in _ (by omega)
        have e6 : IntKind.i64.wrap (y * 1117) = y * 1117 := IntWalk.i64_in _ (by omega)
        have e7 : IntKind.i64.wrap (x * 131 + y * 1117) = x * 131 + y * 1117 := IntWalk.i64_in _ (by omega)
        have e8 : IntKind.i64.wrap ((p : Int) * 29) = (p : Int) * 29 := IntWalk.i64_in _ (by omega)
        have e9 : IntKind.i64.wrap (x * 131 + y * 1117 + (p : Int) * 29) = x * 131 + y * 1117 + (p : Int) * 29 := IntWalk.i64_in _ (by omega)
        have e10 : IntKind.i64.wrap ((p : Int).tdiv n1) = (p : Int) / n1 := IntWalk.i64_quo _ _ (by omega)
        have e11 : IntKind.i64.wrap ((p : Int) / n1 * 53) = (p : Int) / n1 * 53 := IntWalk.i64_in _ (by omega)
        have e12 : IntKind.i64.wrap (x * 131 + y * 1117 + (p : Int) * 29 + (p : Int) / n1 * 53) = x * 131 + y * 1117 + (p : Int) * 29 + (p : Int) / n1 * 53 := IntWalk.i64_in _ (by omega)
        go_quiet (fail)
        clear e1 e2 e3 e4 e41 e42 e43 e5 e6 e7 e8 e9 e10 e11 e12
        obtain ⟨z, hz0, hz1⟩ : ∃ z : Nat, x * 131 + y * 1117 + (p : Int) * 29 + (p : Int) / n1 * 53 = z ∧ z ≤ 1000000000 := ⟨(x * 131 + y * 1117 + (p : Int) * 29 + (p : Int) / n1 * 53).toNat, by omega, by omega⟩
        rw [hz0]
        clear hz0 q1 c2 c3
        go_wp2
        go_ret
        have hx : bits BinOp.xor IntKind.i64 (z : Int) ((z : Int) / 64) = ((z ^^^ (z / 64) : Nat) : Int) := i64_xor_nat z (z / 64) (by omega) (by omega)
        have hk : 0 ≤ (bits BinOp.xor IntKind.i64 (z : Int) ((z : Int) / 64)).tmod n ∧ (bits BinOp.xor IntKind.i64 (z : Int) ((z : Int) / 64)).tmod n < max n 1 := by
          rw [hx, IntWalk.rem_in _ _ (by omega)]
          have := Int.emod_nonneg ((z ^^^ (z / 64) : Nat) : Int) (show n ≠ 0 by omega)
          have := Int.emod_lt_of_pos ((z ^^^ (z / 64) : Nat) : Int) (show 0 < n by omega)
          omega
        exact HP.out _ hk nq
    · obtain rfl : n1 = 0 := by omega
      have HP0 := Lib.hid (HP.out 0 (by omega) 0)
      go_enter Tryd.func21, Tryd.ntmps21
      go_wp2
      go_ret
      simpa [World.drewN_zero] using HP0.out
end Go.Proofs.YteemgkabhkdeaaaDoor
