/-
  Contracts of the drawn bases: the reader opened, odd, l20Bases.
-/
import Derived.Test.YtkjcbahdpmhfgaaDraw
import Derived.Deep.RegionHeld3
import Derived.Deep.RegionLaw
import Derived.Deep.AppendLies
import Derived.Deep.DrawnRows
import Derived.Deep.DeepCutAuto
import Derived.Deep.LoopGhost
import Derived.Deep.Onto
namespace Go.Proofs.Ytkjcbahdpmhfgaa
open Go.RowKit
attribute [local go_sem ↓] Go.wp_at_zero Go.wp_at_succ

def OddPost (g p : Nat) (w : World) (e : Ending) (w' : World) : Prop :=
  ∃ (t : Bool) (q : Nat), e = .returned (.bool t) ∧ q ≤ p + 1 ∧ Rd w' g q ∧ w.grownBy w' (some g) ∧ w'.heap.size = w.heap.size

theorem odd_any (g p : Nat) (n : Int) (w : World) (h : Rd w g p) (hp : p ≤ 1000000) (hn : 1 ≤ n) (hn' : n ≤ 1000000) :
    Calls Try.prog 41 #[.pointer (some ⟨g, 0, none⟩), .int .i64 n] w (OddPost g p w) := by
  have HP := Lib.hid (pick_any g p n w h hp (by omega) (by omega))
  clear h
  go_enter Try.func41, Try.ntmps41
  go_wp2_with (fail)
  refine HP.out.mono ?_
  rintro e w' ⟨k, rfl, hk, hr, hg, hs⟩
  have HF : ∀ t, OddPost g p w (.returned (.bool t)) w' := fun t => ⟨t, p+1, rfl, Nat.le_refl _, hr, hg, hs⟩
  replace HF := Lib.hid HF
  clear hr hg hs
  go_wp2
  go_ret
  exact HF.out _

/-- The reader is opened over whatever bytes came in. -/
theorem open_any (A : Option Addr) (n c : Nat) (xs : List Int) (w : World) (h : Ints w .u8 A n c xs) (hn : n ≤ 1048576) (hwf : ∀ x ∈ xs, (Lit.int .u8 x).wf = true) (hc : c ≤ maxLen) :
    Calls Try.prog 35 #[.slice A n c] w fun e w' => e = .returned (.pointer (some ⟨w.heap.size, 0, none⟩)) ∧ Rd w' w.heap.size 0 ∧ Below w.heap.size w w' ∧ w'.heap.size = w.heap.size + 1 := by
  unfold maxLen at hc
  have hle := h.le
  have hb : ∀ j, 0 ≤ xs.getD j 0 ∧ xs.getD j 0 ≤ 255 := by
    intro j
    by_cases hj : j < xs.length
    · have := hwf xs[j] (List.getElem_mem hj)
      simp only [List.getD_eq_getElem?_getD, List.getElem?_eq_getElem hj, Option.getD_some]
      simpa [Lit.wf, IntKind.min, IntKind.max, IntKind.signed, IntKind.bits] using this
    · simp [List.getD_eq_getElem?_getD, List.getElem?_eq_none (by omega : xs.length ≤ j)]
  have hlt : ∀ b o, 0 < n → A = some ⟨b, o, none⟩ → b < w.heap.size := by
    intro b o hn0 e
    obtain ⟨b', o', e', hlt, _⟩ := h.at_ hn0
    rw [e'] at e; cases e; omega
  by_cases hn2 : n ≤ 2000
  · have HF : Rd (w.alloc (.cells #[.slice A n c, .int .i64 0] 52)) w.heap.size 0 := ⟨A, n, c, xs, Blk.new _ _ _, h.below ((Below.refl _ _).alloc (Nat.le_refl _) _) (Nat.le_refl _), hn2, hb, fun h0 b o e => hlt b o h0 e⟩
    replace HF := Lib.hid HF
    clear h hwf hb hlt
    go_enter Try.func35, Try.ntmps35
    go_wp2
    go_ret
    exact ⟨rfl, HF.out, (Below.refl _ _).alloc (Nat.le_refl _) _, by simp⟩
  · have h2 : Ints w .u8 A 2000 c (xs.take 2000) := ⟨by have := h.len; simp; omega, by omega, fun _ => by
      obtain ⟨b, o, e, hl, hc⟩ := h.at_ (by omega)
      exact ⟨b, o, e, hl, fun j hj => by rw [hc j (by omega)]; simp [List.getD_eq_getElem?_getD, List.getElem?_take, hj]⟩⟩
    have HF : Rd (w.alloc (.cells #[.slice A 2000 c, .int .i64 0] 52)) w.heap.size 0 := ⟨A, 2000, c, _, Blk.new _ _ _, h2.below ((Below.refl _ _).alloc (Nat.le_refl _) _) (Nat.le_refl _), Nat.le_refl _, fun j => by
      by_cases hj : j < 2000
      · have := hb j; simpa [List.getD_eq_getElem?_getD, List.getElem?_take, hj] using this
      · simp [List.getD_eq_getElem?_getD, List.getElem?_take, hj], fun h0 b o e => hlt b o (by omega) e⟩
    replace HF := Lib.hid HF
    obtain ⟨b, o, rfl, _, _⟩ := h.at_ (by omega)
    clear h hwf hb hlt h2
    go_enter Try.func35, Try.ntmps35
    go_wp2
    go_ret
    exact ⟨rfl, HF.out, (Below.refl _ _).alloc (Nat.le_refl _) _, by simp⟩

theorem int_info0 : (Try.prog.info? 3).map (fun i => (i.zero, i.size, i.bytes)) = some (some (.int .i64 0), 1, 8) := by kernel_rfl

/-- What a drawn slice of numbers is: its own, not long, its numbers small. -/
structure Good (w : World) (B : Nat) (v : Value) (lo n : Nat) (xs : List Int) : Prop where
  own : w.ownsRow B 3 1 v n (xs.map (Value.int .i64))
  lo : lo ≤ n
  fits : ∀ x ∈ xs, -10000000 ≤ x ∧ x ≤ 10000000

theorem blk_new_at {w : World} {t : TypeId} {cs : Array Value} (n : Nat) (h : w.heap.size = n) : Blk (w.alloc (.cells cs t)) n t cs := h ▸ Blk.new w t cs
/-- The world behind the table of bases. -/
def tabsW (w : World) : World := ((((((((w.alloc (.cells #[.int .i64 1, .int .i64 10, .int .i64 100, .int .i64 1000] 3)).alloc (.cells #[.int .i64 1, .int .i64 20] 3)).alloc (.cells #[.int .i64 1, .int .i64 10, .int .i64 20] 3)).alloc (.cells #[.int .i64 1, .int .i64 5, .int .i64 10, .int .i64 50, .int .i64 100] 3)).alloc (.cells #[.int .i64 1, .int .i64 12, .int .i64 144] 3)).alloc (.cells #[.int .i64 1, .int .i64 2, .int .i64 3] 3)).alloc (.cells #[.int .i64 1, .int .i64 60, .int .i64 3600] 3)).alloc (.cells #[.int .i64 1] 3)).alloc (.cells #[.slice (some ⟨w.heap.size, 0, none⟩) 4 4, .slice (some ⟨w.heap.size + 1, 0, none⟩) 2 2, .slice (some ⟨w.heap.size + 1 + 1, 0, none⟩) 3 3, .slice (some ⟨w.heap.size + 1 + 1 + 1, 0, none⟩) 5 5, .slice (some ⟨w.heap.size + 1 + 1 + 1 + 1, 0, none⟩) 3 3, .slice (some ⟨w.heap.size + 1 + 1 + 1 + 1 + 1, 0, none⟩) 3 3, .slice (some ⟨w.heap.size + 1 + 1 + 1 + 1 + 1 + 1, 0, none⟩) 3 3, .slice (some ⟨w.heap.size + 1 + 1 + 1 + 1 + 1 + 1 + 1, 0, none⟩) 1 1] 23)

theorem ints_of_blk {w : World} {g : Nat} {t : TypeId} {k : IntKind} (xs : List Int) (h : Blk w g t (xs.map (Value.int k)).toArray) : Ints w k (some ⟨g, 0, none⟩) xs.length xs.length xs :=
  (OwnInts.ints (B := 0) ⟨Nat.zero_le _, rfl, h⟩)

def TabAt (w w1 : World) (k : Nat) : Prop :=
  ∃ (b m : Nat) (xs : List Int), w1.cell? ⟨w.heap.size + 1 + 1 + 1 + 1 + 1 + 1 + 1 + 1, k, none⟩ = some (.slice (some ⟨b, 0, none⟩) m m) ∧ b < w1.heap.size ∧ xs.length = m ∧ 1 ≤ m ∧ m ≤ 5 ∧ (∀ x ∈ xs, 1 ≤ x ∧ x ≤ 3600) ∧ (∀ j u, (xs.map (Value.int .i64))[j]? = some u → w1.cell? ((⟨b, 0, none⟩ : Addr).add j) = some u)

theorem tabAt_of {w w1 : World} {k : Nat} (b : Nat) (xs : List Int) (hc : w1.cell? ⟨w.heap.size + 1 + 1 + 1 + 1 + 1 + 1 + 1 + 1, k, none⟩ = some (.slice (some ⟨b, 0, none⟩) xs.length xs.length)) (hb : Blk w1 b 3 (xs.map (Value.int .i64)).toArray) (h1 : 1 ≤ xs.length) (h5 : xs.length ≤ 5) (hx : ∀ x ∈ xs, 1 ≤ x ∧ x ≤ 3600) : TabAt w w1 k :=
  ⟨b, xs.length, xs, hc, hb.lt, rfl, h1, h5, hx, fun j u hu => by rw [add_plain', Nat.zero_add, hb.cell]; simpa using hu⟩

theorem size_tabs (w : World) : (tabsW w).heap.size = w.heap.size + 1 + 1 + 1 + 1 + 1 + 1 + 1 + 1 + 1 := by simp [tabsW]
theorem below_tabs (w : World) : Below w.heap.size w (tabsW w) := by
  unfold tabsW
  refine ((((((((((Below.refl _ _).alloc ?_ _).alloc ?_ _).alloc ?_ _).alloc ?_ _).alloc ?_ _).alloc ?_ _).alloc ?_ _).alloc ?_ _).alloc ?_ _) <;> (simp; try omega)
theorem tabs_blk0 (w : World) : Blk (tabsW w) (w.heap.size) 3 #[.int .i64 1, .int .i64 10, .int .i64 100, .int .i64 1000] := by
  unfold tabsW; exact (((((((((blk_new_at _ (by simp)).alloc _).alloc _).alloc _).alloc _).alloc _).alloc _).alloc _).alloc _)
theorem tabs_blk1 (w : World) : Blk (tabsW w) (w.heap.size + 1) 3 #[.int .i64 1, .int .i64 20] := by
  unfold tabsW; exact ((((((((blk_new_at _ (by simp)).alloc _).alloc _).alloc _).alloc _).alloc _).alloc _).alloc _)
theorem tabs_blk2 (w : World) : Blk (tabsW w) (w.heap.size + 1 + 1) 3 #[.int .i64 1, .int .i64 10, .int .i64 20] := by
  unfold tabsW; exact (((((((blk_new_at _ (by simp)).alloc _).alloc _).alloc _).alloc _).alloc _).alloc _)
theorem tabs_blk3 (w : World) : Blk (tabsW w) (w.heap.size + 1 + 1 + 1) 3 #[.int .i64 1, .int .i64 5, .int .i64 10, .int .i64 50, .int .i64 100] := by
  unfold tabsW; exact ((((((blk_new_at _ (by simp)).alloc _).alloc _).alloc _).alloc _).alloc _)
theorem tabs_blk4 (w : World) : Blk (tabsW w) (w.heap.size + 1 + 1 + 1 + 1) 3 #[.int .i64 1, .int .i64 12, .int .i64 144] := by
  unfold tabsW; exact (((((blk_new_at _ (by simp)).alloc _).alloc _).alloc _).alloc _)
theorem tabs_blk5 (w : World) : Blk (tabsW w) (w.heap.size + 1 + 1 + 1 + 1 + 1) 3 #[.int .i64 1, .int .i64 2, .int .i64 3] := by
  unfold tabsW; exact ((((blk_new_at _ (by simp)).alloc _).alloc _).alloc _)
theorem tabs_blk6 (w : World) : Blk (tabsW w) (w.heap.size + 1 + 1 + 1 + 1 + 1 + 1) 3 #[.int .i64 1, .int .i64 60, .int .i64 3600] := by
  unfold tabsW; exact (((blk_new_at _ (by simp)).alloc _).alloc _)
theorem tabs_blk7 (w : World) : Blk (tabsW w) (w.heap.size + 1 + 1 + 1 + 1 + 1 + 1 + 1) 3 #[.int .i64 1] := by
  unfold tabsW; exact ((blk_new_at _ (by simp)).alloc _)
theorem tabs_blk8 (w : World) : Blk (tabsW w) (w.heap.size + 1 + 1 + 1 + 1 + 1 + 1 + 1 + 1) 23 #[.slice (some ⟨w.heap.size, 0, none⟩) 4 4, .slice (some ⟨w.heap.size + 1, 0, none⟩) 2 2, .slice (some ⟨w.heap.size + 1 + 1, 0, none⟩) 3 3, .slice (some ⟨w.heap.size + 1 + 1 + 1, 0, none⟩) 5 5, .slice (some ⟨w.heap.size + 1 + 1 + 1 + 1, 0, none⟩) 3 3, .slice (some ⟨w.heap.size + 1 + 1 + 1 + 1 + 1, 0, none⟩) 3 3, .slice (some ⟨w.heap.size + 1 + 1 + 1 + 1 + 1 + 1, 0, none⟩) 3 3, .slice (some ⟨w.heap.size + 1 + 1 + 1 + 1 + 1 + 1 + 1, 0, none⟩) 1 1] := by
  unfold tabsW; exact (blk_new_at _ (by simp))
theorem tabs_at {w w1 : World} {g : Nat} (hg : (tabsW w).grownBy w1 (some g)) (hlt : g < w.heap.size) {k : Nat} (hk : k < 8) : TabAt w w1 k := by
  have h8 := (tabs_blk8 w).grown hg (by simp; omega)
  match k, hk with
  | 0, _ => exact tabAt_of _ [1, 10, 100, 1000] (by rw [h8.cell]; rfl) ((tabs_blk0 w).grown hg (by simp; omega)) (by simp) (by simp) (by simp)
  | 1, _ => exact tabAt_of _ [1, 20] (by rw [h8.cell]; rfl) ((tabs_blk1 w).grown hg (by simp; omega)) (by simp) (by simp) (by simp)
  | 2, _ => exact tabAt_of _ [1, 10, 20] (by rw [h8.cell]; rfl) ((tabs_blk2 w).grown hg (by simp; omega)) (by simp) (by simp) (by simp)
  | 3, _ => exact tabAt_of _ [1, 5, 10, 50, 100] (by rw [h8.cell]; rfl) ((tabs_blk3 w).grown hg (by simp; omega)) (by simp) (by simp) (by simp)
  | 4, _ => exact tabAt_of _ [1, 12, 144] (by rw [h8.cell]; rfl) ((tabs_blk4 w).grown hg (by simp; omega)) (by simp) (by simp) (by simp)
  | 5, _ => exact tabAt_of _ [1, 2, 3] (by rw [h8.cell]; rfl) ((tabs_blk5 w).grown hg (by simp; omega)) (by simp) (by simp) (by simp)
  | 6, _ => exact tabAt_of _ [1, 60, 3600] (by rw [h8.cell]; rfl) ((tabs_blk6 w).grown hg (by simp; omega)) (by simp) (by simp) (by simp)
  | 7, _ => exact tabAt_of _ [1] (by rw [h8.cell]; rfl) ((tabs_blk7 w).grown hg (by simp; omega)) (by simp) (by simp) (by simp)


/-- What l20Bases leaves. -/
def BasesPost (w : World) (g p : Nat) (e : Ending) (w' : World) : Prop :=
  ∃ v m xs q, e = .returned v ∧ Good w' w.heap.size v 0 m xs ∧ m ≤ 20 ∧ Rd w' g q ∧ q ≤ p + 20 ∧ w.grownBy w' (some g)

/-- While the bases are drawn: v is a row of the call's own of small numbers, the reader has read at most d times more. -/
def BSt (w : World) (g p : Nat) (v : Value) (wx : World) (d hi : Nat) : Prop :=
  ∃ (n : Nat) (xs : List Int) (q : Nat), wx.ownsRow w.heap.size 3 1 v n (xs.map (Value.int .i64)) ∧ 1 ≤ n ∧ n ≤ hi ∧ (∀ x ∈ xs, 1 ≤ x ∧ x ≤ 100000) ∧ Rd wx g q ∧ q ≤ p + d ∧ w.grownBy wx (some g)

theorem ownsRow.pick' {w wx w' : World} {g : Nat} {v : Value} {xs : List Int} {n : Nat} (hlt : g < w.heap.size) (ho : wx.ownsRow w.heap.size 3 1 v n (xs.map (Value.int .i64))) (hg : wx.grownBy w' (some g)) : w'.ownsRow w.heap.size 3 1 v n (xs.map (Value.int .i64)) :=
  ho.kept hg (.inr fun e => by have := ho.lt g e; omega)

theorem grown_trans' {a b c : World} {row : Option Nat} (h : a.grownBy b row) (k : b.grownBy c row) : a.grownBy c row := h.trans k
theorem grown_of_below {a b : World} (row : Option Nat) (h : Below a.heap.size a b) : a.grownBy b row := ⟨h.os, h.tape, h.output, h.size, fun k hk _ => h.block k hk⟩
/-- an append onto a row of the call's own is growth of the call's own -/
theorem grown_append {w a b : World} {g : Nat} {v : Value} {n : Nat} {xs : List Value} (h : w.grownBy a (some g)) (ho : a.ownsRow w.heap.size 3 1 v n xs) (hg : a.grownBy b v.ownBlock) : w.grownBy b (some g) :=
  ⟨hg.os.trans h.os, hg.tape.trans h.tape, hg.output.trans h.output, Nat.le_trans h.size hg.size, fun k hk hne => (hg.block k (Nat.lt_of_lt_of_le hk h.size) (fun e => by have := (ho.lt k e.symm).1; omega)).trans (h.block k hk hne)⟩
theorem rd_append {w a b : World} {g q : Nat} {v : Value} {n : Nat} {xs : List Value} (hlt : g < w.heap.size) (hr : Rd a g q) (ho : a.ownsRow w.heap.size 3 1 v n xs) (hg : a.grownBy b v.ownBlock) : Rd b g q := by
  obtain ⟨A, m, c, ys, hb, hi, hm, hy, ha⟩ := hr.ex
  have hne : ∀ k, k < w.heap.size → some k ≠ v.ownBlock := fun k hk e => by have := (ho.lt k e.symm).1; omega
  exact ⟨A, m, c, ys, hb.grown hg (hne g hlt), hi.grown hg (fun h0 b' o e => hne b' (by have := ha h0 b' o e; omega)), hm, hy, ha⟩

set_option maxHeartbeats 1000000 in
theorem bases_any (g p : Nat) (n : Int) (w : World) (h : Rd w g p) (hp : p ≤ 1000) (hn : 1 ≤ n) (hn' : n ≤ 1000) :
    Calls Try.prog 34 #[.pointer (some ⟨g, 0, none⟩), .int .i64 n] w (BasesPost w g p) := by
  obtain ⟨i0, hi0, hz0, hz1, hz2⟩ := info_parts int_info0
  have hlt := h.lt
  have hr0 := h.below (below_tabs w) (Nat.le_refl _)
  have H := Lib.hid h
  clear h
  go_enter Try.func34, Try.ntmps34
  go_wp2_with (fail)
  change Calls _ _ _ (tabsW w) _
  refine (pick_any g p 8 (tabsW w) hr0 (by omega) (by omega) (by omega)).mono ?_
  rintro e w1 ⟨k, rfl, hk, hr1, hg1, hs1⟩
  obtain ⟨k, rfl⟩ : ∃ k' : Nat, k = (k' : Int) := ⟨k.toNat, by omega⟩
  have hk8 : k < 8 := by omega
  obtain ⟨b, m, xs, hc, hb, hm, hm1, hm5, hx, hcs⟩ := tabs_at hg1 hlt hk8
  rw [size_tabs] at hs1
  replace hs1 : w.heap.size ≤ w1.heap.size := by omega
  replace hg1 := grown_trans' (grown_of_below (some g) (below_tabs w)) hg1
  replace hr1 := Lib.hid hr1
  replace hg1 := Lib.hid hg1
  replace hx := Lib.hid hx
  have hown0 : (w1.alloc (.cells #[] 3)).ownsRow w.heap.size 3 1 (.slice (some ⟨w1.heap.size, 0, none⟩) 0 0) 0 [] := World.ownsRow_made w1 #[] 0 hs1 (Nat.zero_le _) rfl
  have hnews : ∀ j u, (xs.map (Value.int .i64))[j]? = some u → (w1.alloc (.cells #[] 3)).cell? ((⟨b, 0, none⟩ : Addr).add j) = some u := fun j u hu => by
    rw [World.cell?_alloc_lt _ _ _ (by rw [block_of_add]; exact hb)]; exact hcs j u hu
  have hlen : (xs.map (Value.int .i64)).length = m * 1 := by simp [hm]
  replace hm := Lib.hid hm
  replace hlen := Lib.hid hlen
  replace hnews := Lib.hid hnews
  replace hown0 := Lib.hid hown0
  clear hr0 hcs
  go_wp2_with (at_builtin; refine wpList_append_own_at _ rfl (.tmp 20) (.tmp 21) _ rfl w.heap.size 3 i0 _ 1 8 Try.underlying23 hi0 hz0 hz1 hz2 rfl (by decide) _ 0 [] rfl hown0.out ⟨b, 0, none⟩ m m (xs.map (Value.int .i64)) rfl hlen.out hnews.out (by simp [Value.oneCell']) (by unfold maxLen; omega) (by omega) (by simp; omega) ?_; intro v1 w2 hown1 hgr1 _ _)
  have hr2 := rd_append hlt (hr1.out.below ((Below.refl _ _).alloc (Nat.le_refl _) (.cells #[] 3)) (Nat.le_refl _)) hown0.out hgr1
  have hg2 := grown_append (grown_trans' hg1.out (grown_of_below (some g) ((Below.refl _ _).alloc (Nat.le_refl _) (.cells #[] 3)))) hown0.out hgr1
  rw [Nat.zero_add, List.nil_append] at hown1
  have hm' := hm.out
  clear hgr1 hown0 hnews hlen hg1 hr1 hs1 hc hb hm
  refine (pick_any g (p+1) 3 w2 hr2 (by omega) (by omega) (by omega)).mono ?_
  rintro e w3 ⟨k3, rfl, hk3, hr3, hg3, -⟩
  have hown3 := ownsRow.pick' hlt hown1 hg3
  have hg3' := grown_trans' hg2 hg3
  have HB : BSt w g p v1 w3 10 10 := ⟨m, xs, _, hown3, hm1, by omega, fun x h => by have := hx.out x h; omega, hr3, by omega, hg3'⟩
  replace HB := Lib.hid HB
  have hr3 := Lib.hid hr3
  have hg3' := Lib.hid hg3'
  clear hg3 hown3 hg2 hr2 hown1 hx hm' hm1 hm5 hk hk8
  go_upto_if 25 with (fail)
  go_cut [5, 6] (fun s5 _ wx => BSt w g p s5 wx 10 10)
  case first =>
    by_cases hk30 : k3 = 0
    · subst hk30
      go_wp2_with (fail)
      refine (pick_any g (p+1+1) 5 _ (hr3.out.below ((Below.refl _ _).alloc (Nat.le_refl _) _) (Nat.le_refl _)) (by omega) (by omega) (by omega)).mono ?_
      rintro e w4 ⟨k4, rfl, hk4, hr4, hg4, -⟩
      obtain ⟨k4, rfl⟩ : ∃ k' : Nat, k4 = (k' : Int) := ⟨k4.toNat, by omega⟩
      have hw3 := hg3'.out.size
      have hown4 : w4.ownsRow w.heap.size 3 1 (.slice (some ⟨w3.heap.size, 0, none⟩) 1 1) 1 (([1] : List Int).map (Value.int .i64)) := ownsRow.pick' hlt (World.ownsRow_lit (base := w.heap.size) (size := 1) w3 #[.int .i64 1] 1 hw3 (by unfold maxLen; omega) rfl) hg4
      have hg4' := grown_trans' (grown_trans' hg3'.out (grown_of_below (some g) ((Below.refl _ _).alloc (Nat.le_refl _) (.cells #[.int .i64 1] 3)))) hg4
      clear hg4
      go_wp2
      go_loopw [5, 6] (fun v i wr => ∃ (j n : Nat) (xs : List Int) (q : Nat), i = .int .i64 j ∧ j + n ≤ 5 ∧ wr.ownsRow w.heap.size 3 1 v n (xs.map (Value.int .i64)) ∧ 1 ≤ n ∧ (∀ x ∈ xs, 1 ≤ x ∧ x ≤ 40 * n) ∧ Rd wr g q ∧ q ≤ p + 3 + n ∧ w.grownBy wr (some g)) (fun _ i _ => (intOf i).toNat)
      case atStart => exact ⟨k4, 1, [1], _, rfl, by omega, hown4, Nat.le_refl _, by simp, hr4, by omega, hg4'⟩
      case round =>
        obtain ⟨j, n', xs, q, rfl, hj, hown, hn1, hxs, hr, hq, hg⟩ := hrel
        by_cases hj0 : 0 < j
        · obtain ⟨gb, cap, rfl, hbs, hblt⟩ := hown.form (by omega)
          have hlx : xs.length = n' := by have := hown.1; simpa using this
          have hgb : gb ≠ g := by omega
          have hcl : wr.cell? ⟨gb, n' - 1, none⟩ = some (.int .i64 (xs.getD (n'-1) 0)) := by
            rw [hown.cellAt (n'-1) (by omega)]
            simp [List.getElem?_eq_getElem (show n' - 1 < xs.length by omega)]
          have hz : 1 ≤ xs.getD (n'-1) 0 ∧ xs.getD (n'-1) 0 ≤ 40 * n' := by
            have := hxs (xs[n'-1]'(by omega)) (List.getElem_mem _)
            simpa [List.getD_eq_getElem?_getD, List.getElem?_eq_getElem (show n' - 1 < xs.length by omega)] using this
          generalize xs.getD (n'-1) 0 = z at *
          have hi1 : (0 : Int) ≤ (n' : Int) - 1 := by omega
          have hi0' : (1 : Int) ≤ (n' : Int) := by omega
          have hi2 : (n' : Int) - 1 < n' := by omega
          have hi3 : ((n' : Int) - 1).toNat = n' - 1 := by omega
          have hi4 : IntKind.i64.wrap ((n' : Int) - 1) = (n' : Int) - 1 := IntWalk.i64_in _ (by omega)
          have hi5 : IntKind.i64.wrap (z + 1) = z + 1 := IntWalk.i64_in _ (by omega)
          have hwsz := hg.size
          replace hlx := Lib.hid hlx
          replace hown := Lib.hid hown
          replace hg := Lib.hid hg
          replace hr := Lib.hid hr
          replace hxs := Lib.hid hxs
          go_wp2_with (fail)
          have hcl' : wr.drew.cell? ⟨gb, n' - 1, none⟩ = some (.int .i64 z) := hcl
          go_region_law (first
            | (refine step_append_lies _ (by rfl) _ _ _ (by rfl) w.heap.size 3 i0 _ 1 8 Try.underlying23 hi0 hz0 hz1 hz2 rfl (by omega) (.slice (some ⟨gb, 0, none⟩) n' cap) n' (xs.map (Value.int .i64)) (by rfl) (hown5.alloc _) ⟨w5.heap.size, 0, none⟩ 1 1 [.int .i64 (z + 1 + k5)] (by rfl) (by rfl) (World.news_of_block (cs := #[.int .i64 (z + 1 + k5)]) (t := 3) (fr := (0, 0)) (heap_alloc_new w5 _)) (by simp [Value.oneCell']) (by omega) (by unfold maxLen; omega) (by omega) (by have := hgg5.size; simp; omega) (w5.heap.size + 1) (by simp) ?_; intro g6 cap6 w6 hown6 hgr6 hat6 hlt6)
            | (go_simp; go_at_call 40; refine (pick_any g q 30 _ (by first | exact hr.out | exact hr.out.drew) (by omega) (by omega) (by omega)).mono ?_; rintro e w5 ⟨k5, rfl, hk5, hr5, hg5, -⟩; have hown5 := ownsRow.pick' hlt (by first | exact hown.out | exact hown.out.drew) hg5; have hgg5 := grown_trans' (by first | exact hg.out | exact grown_drew hg.out) hg5; have hi6 : IntKind.i64.wrap (z + 1 + k5) = z + 1 + k5 := IntWalk.i64_in _ (by omega); have hcl5 : w5.cell? ⟨gb, n' - 1, none⟩ = some (.int .i64 z) := hg5.cell (by first | exact hcl | exact hcl') (by simpa using hgb)))
          all_goals
            have hr6 := rd_append hlt (hr5.below ((Below.refl _ _).alloc (Nat.le_refl _) (.cells #[.int .i64 (z + 1 + k5)] 3)) (Nat.le_refl _)) (hown5.alloc _) hgr6
            have hg6 := grown_append (grown_trans' hgg5 (grown_of_below (some g) ((Below.refl _ _).alloc (Nat.le_refl _) (.cells #[.int .i64 (z + 1 + k5)] 3)))) (hown5.alloc _) hgr6
            have hown6' : w6.ownsRow w.heap.size 3 1 (.slice (some ⟨g6, 0, none⟩) (n' + 1) cap6) (n' + 1) ((xs ++ [z + 1 + k5]).map (Value.int .i64)) := by rw [List.map_append]; exact hown6
            have hx6 : ∀ x ∈ xs ++ [z + 1 + k5], 1 ≤ x ∧ x ≤ 40 * ((n' + 1 : Nat) : Int) := by
              intro x hx
              rcases List.mem_append.1 hx with h | h
              · have := hxs.out x h; omega
              · simp at h; subst h; omega
            replace hr6 := Lib.hid hr6
            replace hg6 := Lib.hid hg6
            replace hown6' := Lib.hid hown6'
            replace hx6 := Lib.hid hx6
            clear hr5 hgg5 hown5 hgr6 hown6 hi6 hcl5 hg5 hi1 hi2 hi3 hi4 hi5 hcl' hcl hat6
            go_wp2
            go_roundw
            case rel => exact ⟨j - 1, n' + 1, _, _, by simp; omega, by omega, hown6'.out, by omega, hx6.out, hr6.out, by omega, hg6.out⟩
            case measure => simp [intOf]; omega
        · obtain rfl : j = 0 := by omega
          have HF : BSt w g p u5 wr 10 10 := ⟨n', xs, q, hown, hn1, by omega, fun x h => by have := hxs x h; omega, hr, by omega, hg⟩
          replace HF := Lib.hid HF
          clear hr hg hown hxs
          go_wp2_with (fail)
          go_meet
          exact HF.out
    · have hb : (k3 == 0) = false := by simpa using hk30
      go_wp2_with (fail)
      go_meet
      exact HB.out
  case rest =>
    obtain ⟨n5, xs5, q5, ho5, hn1, hn2, hx5, hr5, hq5, hg5⟩ := hcut
    obtain ⟨gb, cap, rfl, hb1, hb2⟩ := ho5.form (by omega)
    have hl5 : xs5.length = n5 := by have := ho5.1; simpa using this
    clear HB hr3 hg3' hk3
    replace ho5 := Lib.hid ho5
    replace hx5 := Lib.hid hx5
    replace hg5 := Lib.hid hg5
    go_wp2_with (fail)
    refine (odd_any g q5 n wc hr5 (by omega) (by omega) (by omega)).mono ?_
    rintro e w7 ⟨t, q7, rfl, hq7, hr7, hg7, -⟩
    have ho7 := ownsRow.pick' hlt ho5.out hg7
    have hg7' := grown_trans' hg5.out hg7
    replace hl5 := Lib.hid hl5
    clear hr5 hg7
    cases t
    · have HF : BasesPost w g p (.returned (.slice (some ⟨gb, 0, none⟩) n5 cap)) w7 := ⟨_, n5, xs5, q7, rfl, ⟨ho7, Nat.zero_le _, fun x h => by have := hx5.out x h; omega⟩, by omega, hr7, by omega, hg7'⟩
      replace HF := Lib.hid HF
      clear hr7 ho7 hg7'
      go_wp2
      go_ret
      exact HF.out
    · go_wp2_with (fail)
      refine (pick_any g q7 3 w7 hr7 (by omega) (by omega) (by omega)).mono ?_
      rintro e w8 ⟨k8, rfl, hk8, hr8, hg8, -⟩
      have ho8 := ownsRow.pick' hlt ho7 hg8
      have hg8' := grown_trans' hg7' hg8
      clear hr7 ho7 hg7' hg8
      have hsz := hg8'.size
      by_cases h0 : k8 = 0
      · subst h0
        have HF : BasesPost w g p (.returned (.slice (some ⟨w8.heap.size, 0, none⟩) 0 0)) (w8.alloc (.cells #[] 3)) := ⟨_, 0, [], _, rfl, ⟨World.ownsRow_made w8 #[] 0 hsz (Nat.zero_le _) rfl, Nat.zero_le _, by simp⟩, by omega, hr8.below ((Below.refl _ _).alloc (Nat.le_refl _) _) (Nat.le_refl _), by omega, grown_trans' hg8' (grown_of_below (some g) ((Below.refl _ _).alloc (Nat.le_refl _) _))⟩
        replace HF := Lib.hid HF
        clear hr8 ho8 hg8'
        go_wp2
        go_ret
        exact HF.out
      · by_cases h1 : k8 = 1
        · subst h1
          have hc0 : w8.cell? ⟨gb, 0, none⟩ = some (.int .i64 (xs5.getD 0 0)) := by
            rw [ho8.cellAt 0 (by omega)]
            have := hl5.out
            simp [List.getElem?_eq_getElem (show 0 < xs5.length by omega)]
          have hf0 := ho8.frozenAt 0
          have hst := ho8.stored 0 (.int .i64 2)
          have HF : BasesPost w g p (.returned (.slice (some ⟨gb, 0, none⟩) n5 cap)) (w8.setCell ⟨gb, 0, none⟩ (.int .i64 2)) := ⟨_, n5, xs5.set 0 2, _, rfl, ⟨by rw [List.map_set]; exact hst.1, Nat.zero_le _, fun x h => by
              rcases List.mem_or_eq_of_mem_set h with h | h
              · have := hx5.out x h; omega
              · omega⟩, by omega, rd_append hlt hr8 ho8 hst.2, by omega, grown_append hg8' ho8 hst.2⟩
          replace HF := Lib.hid HF
          clear hr8 ho8 hg8' hst
          go_wp2
          go_ret
          exact HF.out
        · have hb0 : (k8 == 0) = false := by simpa using h0
          have hb1' : (k8 == 1) = false := by simpa using h1
          have hcl : w8.cell? ⟨gb, n5 - 1, none⟩ = some (.int .i64 (xs5.getD (n5-1) 0)) := by
            rw [ho8.cellAt (n5-1) (by omega)]
            have := hl5.out
            simp [List.getElem?_eq_getElem (show n5 - 1 < xs5.length by omega)]
          have hz : 1 ≤ xs5.getD (n5-1) 0 ∧ xs5.getD (n5-1) 0 ≤ 100000 := by
            have hl := hl5.out
            have := hx5.out (xs5[n5-1]'(by omega)) (List.getElem_mem _)
            simpa [List.getD_eq_getElem?_getD, List.getElem?_eq_getElem (show n5 - 1 < xs5.length by omega)] using this
          generalize xs5.getD (n5-1) 0 = z at *
          replace hg8' := Lib.hid hg8'
          replace hr8 := Lib.hid hr8
          replace ho8 := Lib.hid ho8
          go_wp2_with (at_builtin; refine wpList_append_own_at _ rfl (.tmp 51) (.tmp 58) _ rfl w.heap.size 3 i0 _ 1 8 Try.underlying23 hi0 hz0 hz1 hz2 rfl (by decide) _ n5 (xs5.map (Value.int .i64)) rfl (ho8.out.alloc _) ⟨w8.heap.size, 0, none⟩ 1 1 [.int .i64 z] rfl rfl (World.news_of_block (cs := #[.int .i64 z]) (t := 3) (fr := (0, 0)) (heap_alloc_new w8 _)) (by simp [Value.oneCell']) (by unfold maxLen; omega) (by omega) (by simp; omega) ?_; intro v9 w9 hown9 hgr9 _ _)
          go_ret
          have hr9 := rd_append hlt (hr8.out.below ((Below.refl _ _).alloc (Nat.le_refl _) (.cells #[.int .i64 z] 3)) (Nat.le_refl _)) (ho8.out.alloc _) hgr9
          have hg9 := grown_append (grown_trans' hg8'.out (grown_of_below (some g) ((Below.refl _ _).alloc (Nat.le_refl _) (.cells #[.int .i64 z] 3)))) (ho8.out.alloc _) hgr9
          refine ⟨_, n5 + 1, xs5 ++ [z], _, rfl, ⟨by rw [List.map_append]; exact hown9, Nat.zero_le _, fun x h => ?_⟩, by omega, hr9, by omega, hg9⟩
          rcases List.mem_append.1 h with h | h
          · have := hx5.out x h; omega
          · simp at h; subst h; omega
end Go.Proofs.Ytkjcbahdpmhfgaa
