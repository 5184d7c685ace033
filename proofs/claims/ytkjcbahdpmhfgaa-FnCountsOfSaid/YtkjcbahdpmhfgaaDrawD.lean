/-
  Contracts of the draws of chapter 1 with numbers and counts.
-/
import Derived.Test.YtkjcbahdpmhfgaaDrawC
import Derived.Test.YtkjcbahdpmhfgaaC1e
import Derived.Deep.RegionWith
namespace Go.Proofs.Ytkjcbahdpmhfgaa
open Go.RowKit
attribute [local go_sem ↓] Go.wp_at_zero Go.wp_at_succ

def PickedN (n : Int) (g p : Nat) (w : World) (e : Ending) (w' : World) : Prop :=
  ∃ k : Nat, e = .returned (.int .i64 k) ∧ (k : Int) < n ∧ Rd w' g (p+1) ∧ w.grownBy w' (some g) ∧ w'.heap.size = w.heap.size
theorem pickN_any (g p : Nat) (n : Int) (w : World) (h : Rd w g p) (hp : p ≤ 1000000) (hn : n ≤ 1000000000) (hn' : 1 ≤ n) :
    Calls Try.prog 40 #[.pointer (some ⟨g, 0, none⟩), .int .i64 n] w (PickedN n g p w) := by
  refine (pick_any g p n w h hp hn (by omega)).mono ?_
  rintro e w' ⟨k, rfl, hk, h1, h2, h3⟩
  exact ⟨k.toNat, by rw [Int.toNat_of_nonneg hk.1], by omega, h1, h2, h3⟩

theorem grown_cell_eq {a b : World} {g : Nat} (h : a.grownBy b (some g)) : ∀ k i, k < a.heap.size → ¬ k = g → b.cell? ⟨k, i, none⟩ = a.cell? ⟨k, i, none⟩ :=
  fun k i hk hne => World.cell?_of_block (a := ⟨k, i, none⟩) (h.block k hk (by simpa using hne))
theorem grown_alloc' {a w : World} {row : Option Nat} (h : a.grownBy w row) (o : Obj) : a.grownBy (w.alloc o) row :=
  ⟨h.os, h.tape, h.output, Nat.le_trans h.size (by simp), fun i hi hne => (Below.heap_alloc w o i (Nat.lt_of_lt_of_le hi h.size)).trans (h.block i hi hne)⟩
theorem fits_wrap (n : Int) : -9223372036854775808 ≤ IntKind.i64.wrap n ∧ IntKind.i64.wrap n ≤ 9223372036854775807 := by rw [IntKind.wrap_i64]; omega
theorem fits_wrap64 (n : Int) : -9223372036854775808 ≤ wrap64 n ∧ wrap64 n ≤ 9223372036854775807 := by unfold wrap64; omega
/-- One of four. -/
def sel4 (k : Nat) (a b c d : Int) : Int := match k with | 0 => a | 1 => b | 2 => c | _ => d
theorem sel4_at {k : Nat} (hk : (k : Int) < 4) : ∀ a b c d : Int, #[Value.int .i64 a, Value.int .i64 b, Value.int .i64 c, Value.int .i64 d][k]? = some (.int .i64 (sel4 k a b c d)) := by
  intro a b c d
  match k, hk with
  | 0, _ => rfl
  | 1, _ => rfl
  | 2, _ => rfl
  | 3, _ => rfl
  | k + 4, h => omega

def CountPost (g p : Nat) (w : World) (e : Ending) (w' : World) : Prop :=
  ∃ (z : Int) (q : Nat), e = .returned (.int .i64 z) ∧ (-9223372036854775808 ≤ z ∧ z ≤ 9223372036854775807) ∧ Rd w' g q ∧ q ≤ p + 9 ∧ w.grownBy w' (some g)

set_option maxHeartbeats 4000000 in
set_option maxRecDepth 100000 in
theorem count_any (g p : Nat) (w : World) (h : Rd w g p) (hp : p ≤ 10000) :
    Calls Try.prog 37 #[.pointer (some ⟨g, 0, none⟩)] w (CountPost g p w) := by
  have hlt := h.lt
  have hg0 : w.grownBy w (some g) := World.grownBy.refl w _
  have H := Lib.hid h
  have hne : ¬ w.heap.size = g := by omega
  clear h
  go_enter Try.func37, Try.ntmps37
  go_wp2_with (fail)
  go_region_with (first
    | (go_at_call 40; refine (pickN_any g _ _ _ H.out.drew (by omega) (by omega) (by omega)).mono ?_; rintro e w1 ⟨k1, rfl, hk1, hr1, hg1, hs1⟩; have hsel1 := fun h => sel4_at (k := k1) h; have hcg1 := grown_cell_eq hg1; have hgg1 := grown_trans' (grown_drew hg0) hg1)
    | (go_at_call 40; refine (pickN_any g _ _ _ (by assumption) (by omega) (by omega) (by omega)).mono ?_; rintro e w1 ⟨k1, rfl, hk1, hr1, hg1, hs1⟩; have hsel1 := fun h => sel4_at (k := k1) h; have hcg1 := grown_cell_eq hg1; have hgg1 := grown_trans' (by assumption) hg1)
    | (go_at_call 40; refine (pickN_any g _ _ _ (Rd.alloc' (by assumption) _) (by omega) (by omega) (by omega)).mono ?_; rintro e w1 ⟨k1, rfl, hk1, hr1, hg1, hs1⟩; have hsel1 := fun h => sel4_at (k := k1) h; have hcg1 := grown_cell_eq hg1; have hgg1 := grown_trans' (grown_alloc' (by assumption) _) hg1))
  all_goals go_wp2
  all_goals go_ret
  all_goals first
    | exact ⟨_, _, rfl, by first | exact fits_wrap _ | exact fits_wrap64 _, hr1, by omega, hgg1⟩
    | exact ⟨_, _, rfl, by first | exact fits_wrap _ | exact fits_wrap64 _, Rd.alloc' hr1 _, by omega, grown_alloc' hgg1 _⟩

/-- What a draw of bases and a number leaves. -/
def DrawnNum (w : World) (e : Ending) (w' : World) : Prop :=
  ∃ A n c xs z, e = .returned (.tuple #[.slice A n c, .int .i64 z]) ∧ Ints w' .i64 A n c xs ∧ Fits xs ∧ n ≤ 20 ∧ (-9223372036854775808 ≤ z ∧ z ≤ 9223372036854775807) ∧ Below w.heap.size w w'

theorem drawCountsOf_any (A : Option Addr) (n c : Nat) (xs : List Int) (w : World) (h : Ints w .u8 A n c xs) (hn : n ≤ 1048576) (hwf : ∀ x ∈ xs, (Lit.int .u8 x).wf = true) (hc : c ≤ maxLen) :
    Calls Try.prog 17 #[.slice A n c] w (DrawnNum w) := by
  have HO := Lib.hid (open_any A n c xs w h hn hwf hc)
  clear h hwf hc
  go_enter Try.func17, Try.ntmps17
  go_wp2_with (fail)
  refine HO.out.mono ?_
  rintro e w1 ⟨rfl, hr, hb, hs1⟩
  replace hs1 : w.heap.size < w1.heap.size := by omega
  go_wp2_with (fail)
  refine (bases_any _ 0 12 w1 hr (by omega) (by omega) (by omega)).mono ?_
  rintro e w2 ⟨v, m, ys, q, rfl, hG, hm, hr2, hq, hg2⟩
  obtain ⟨A2, c2, rfl, -⟩ := ints_of_own hG.own
  go_wp2_with (fail)
  refine (count_any _ q w2 hr2 (by omega)).mono ?_
  rintro e w3 ⟨z, q3, rfl, hz, hr3, hq3, hg3⟩
  have ho3 := ownsRow.pick' (w := w1) hs1 hG.own hg3
  obtain ⟨A3, c3, e3, i3⟩ := ints_of_own ho3
  cases e3
  have HF : DrawnNum w (.returned (.tuple #[.slice A2 m c2, .int .i64 z])) w3 := ⟨A2, m, c2, ys, z, rfl, i3, Fits.of_small hG.fits, hm, hz, (hb.grown hg2 hb.size (fun k e => by cases e; exact Nat.le_refl _)).grown hg3 (Nat.le_trans hb.size hg2.size) (fun k e => by cases e; exact Nat.le_refl _)⟩
  replace HF := Lib.hid HF
  clear i3 ho3 hg3 hg2 hG hr2 hr3 hb hr
  go_wp2
  go_ret2
  exact HF.out

end Go.Proofs.Ytkjcbahdpmhfgaa
