/-
  Drawn deeds.
-/
import Derived.Test.YtfmdbmhakkajfaaDoorDdsB
import Derived.Test.YtfmdbmhakkajfaaDoorDrawDd
namespace Go.Proofs.YtfmdbmhakkajfaaDoor
open Go.RowKit

section
variable {w a b w' : World} {B n z g q : Nat} {e : TypeId} {v : Value} {xs : List Value}
theorem ownD_kept (h : w.ownsRow B e z v n xs) (hg : w.grownBy w' (some g)) (hgB : g < B) : w'.ownsRow B e z v n xs := by
  refine h.kept hg ?_
  cases hv : v.ownBlock with
  | none => exact .inl rfl
  | some k =>
    refine .inr fun e => ?_
    have h1 := h.lt k hv
    cases e
    omega
theorem grownD_append (h : w.grownBy a (some g)) (ho : a.ownsRow w.heap.size e z v n xs) (hg : a.grownBy b v.ownBlock) : w.grownBy b (some g) :=
  ⟨hg.os.trans h.os, hg.tape.trans h.tape, hg.output.trans h.output, Nat.le_trans h.size hg.size, fun k hk hne => (hg.block k (Nat.lt_of_lt_of_le hk h.size) (fun e => by have := (ho.lt k e.symm).1; omega)).trans (h.block k hk hne)⟩
theorem rdD_append (hlt : g < w.heap.size) (hr : Rd a g q) (ho : a.ownsRow w.heap.size e z v n xs) (hg : a.grownBy b v.ownBlock) : Rd b g q := by
  obtain ⟨A, m, c, ys, hb, hi, hm, hy, ha⟩ := hr.ex
  have hne : ∀ k, k < w.heap.size → some k ≠ v.ownBlock := fun k hk e => by have := (ho.lt k e.symm).1; omega
  exact ⟨A, m, c, ys, hb.grown hg (hne g hlt), hi.grown hg (fun h0 b' o e => hne b' (by have := ha h0 b' o e; omega)), hm, hy, ha⟩
end
theorem cellD_two (w : World) (a b : Value) (t : TypeId) : ∀ j u, [a, b][j]? = some u → (w.alloc (.cells #[a, b] t)).cell? ((⟨w.heap.size, 0, none⟩ : Addr).add j) = some u := by
  intro j u hj
  match j, hj with
  | 0, hj => simp at hj; subst hj; simp [Addr.add]
  | 1, hj => simp at hj; subst hj; simp [Addr.add]
  | j + 2, hj => simp at hj
/-- Deeds as they are drawn. -/
def DrawnDd (a : Dd) : Prop := (0 ≤ a.kind ∧ a.kind ≤ 9) ∧ (-1 ≤ a.n ∧ a.n ≤ 1000000)
def RetDeeds (w : World) (g p : Nat) (e : Ending) (w' : World) : Prop := ∃ v qs r, e = .returned v ∧ OwnDds w' w.heap.size v qs ∧ qs.length ≤ 5 ∧ (∀ a ∈ qs, DrawnDd a) ∧ Rd w' g r ∧ r ≤ p + 120 ∧ w.grownBy w' (some g)

set_option maxRecDepth 100000 in
set_option maxHeartbeats 4000000 in
theorem deeds_any (g p : Nat) (w : World) (h : Rd w g p) (hp : p ≤ 40000) :
    Calls Tryd.prog 54 #[.pointer (some ⟨g, 0, none⟩)] w (RetDeeds w g p) := by
  obtain ⟨i0, hi, hz0, hz1, hz2⟩ := info_parts dd_info
  have hg0 := h.lt
  have hR := Lib.hid (h.alloc' (.cells #[] 24))
  have hrow0 : (w.alloc (.cells #[] 24)).ownsRow w.heap.size 24 2 (.slice (some ⟨w.heap.size, 0, none⟩) 0 0) 0 [] := World.ownsRow_made w #[] 0 (Nat.le_refl _) (by unfold maxLen; omega) rfl
  have hgr0 := Lib.hid (grown_of_below (some g) ((Below.refl w.heap.size w).alloc (Nat.le_refl _) (.cells #[] 24)))
  have hO : Hid (OwnDds (w.alloc (.cells #[] 24)) w.heap.size (.slice (some ⟨w.heap.size, 0, none⟩) 0 0) []) := hrow0
  clear h hrow0
  go_enter Tryd.func54, Tryd.ntmps54
  go_upto_region 2 with (fail)
  generalize w.alloc (.cells #[] 24) = W at *
  go_wp2_with (fail)
  refine (pick_any g p 6 _ hR.out (by omega) (by omega) (by omega)).mono ?_
  rintro e w2 ⟨k0, rfl, hk0, hr2, hg2, -⟩
  obtain ⟨K, rfl⟩ : ∃ K : Nat, k0 = (K : Int) := ⟨k0.toNat, by omega⟩
  have hK : K ≤ 5 := by omega
  have hO2 : Hid (OwnDds w2 w.heap.size (.slice (some ⟨w.heap.size, 0, none⟩) 0 0) []) := Lib.hid (ownD_kept hO.out hg2 hg0)
  have hgr2 := Lib.hid (hgr0.out.trans hg2)
  replace hr2 := Lib.hid hr2
  clear hO hgr0 hR hg2 hk0
  go_wp2
  go_loopw [3, 4] (fun v s4 wr => ∃ (k r : Nat) (qs : List Dd), s4 = .int .i64 (k : Int) ∧ OwnDds wr w.heap.size v qs ∧ qs.length + k ≤ 5 ∧ (∀ a ∈ qs, DrawnDd a) ∧ Rd wr g r ∧ r + 20 * k ≤ p + 120 ∧ w.grownBy wr (some g)) (fun _ s4 _ => (intOf s4).toNat)
  case atStart => exact ⟨K, p + 1, [], rfl, hO2.out, by simpa using hK, by simp, hr2.out, by omega, hgr2.out⟩
  case round =>
    clear hO2 hr2 hgr2
    obtain ⟨k, r, qs, rfl, ho, hl, hds, hr, hrp, hg⟩ := hrel
    by_cases hk : k = 0
    · subst hk
      replace ho := Lib.hid ho
      replace hg := Lib.hid hg
      replace hr := Lib.hid hr
      replace hds := Lib.hid hds
      replace hl := Lib.hid hl
      go_wp2
      go_ret
      exact ⟨_, qs, r, rfl, ho.out, by have := hl.out; omega, hds.out, hr.out, by omega, hg.out⟩
    · have hk' : (0 : Int) < (k : Int) := by omega
      obtain ⟨A3, c3, rfl, -⟩ := ho.deeds
      replace ho := Lib.hid ho
      replace hg := Lib.hid hg
      replace hl := Lib.hid hl
      replace hds := Lib.hid hds
      go_wp2_with (fail)
      refine (deed_any g r _ hr (by omega)).mono ?_
      rintro e w3 ⟨kd, m, r3, rfl, hkd, hm, hr3, hrp3, hg3⟩
      have ho3 := ownD_kept ho.out hg3 hg0
      have hgr3 := hg.out.trans hg3
      have hlen : (A3 = none ∧ qs.length = 0) ∨ True := .inr trivial
      have hbs : w.heap.size ≤ w3.heap.size := hgr3.size
      obtain ⟨k', rfl⟩ : ∃ k', k = k' + 1 := ⟨k - 1, by omega⟩
      have hln5 : qs.length ≤ 4 := by have := hl.out; omega
      replace hln5 := Lib.hid hln5
      clear hlen ho hg hr hg3
      replace ho3 := Lib.hid ho3
      replace hgr3 := Lib.hid hgr3
      replace hr3 := Lib.hid hr3
      go_wp2_with (at_builtin; refine wpList_append_own _ rfl _ _ 32 rfl w.heap.size 24 i0 (.agg #[.int .i64 0, .int .i64 0]) 2 16 Tryd.underlying32 hi hz0 hz1 hz2 rfl (by decide) _ _ _ rfl (World.ownsRow.alloc ho3.out _) ⟨w3.heap.size, 0, none⟩ 1 1 [.int .i64 kd, .int .i64 m] rfl rfl (cellD_two _ _ _ _) (fun x hx => by simp at hx; rcases hx with rfl | rfl <;> rfl) (by have := hln5.out; unfold maxLen; omega) (by have := hln5.out; omega) (by simp; omega) ?_; intro v' w4 hown' hg4 _)
      have ho4 : OwnDds w4 w.heap.size v' (qs ++ [⟨kd, m⟩]) := OwnDds.snoc (a := ⟨kd, m⟩) hown'
      have hal := World.ownsRow.alloc ho3.out (.cells #[.int .i64 kd, .int .i64 m] 24)
      have hga := hgr3.out.trans (grown_of_below (some g) ((Below.refl w3.heap.size w3).alloc (Nat.le_refl _) (.cells #[.int .i64 kd, .int .i64 m] 24)))
      have hgr4 := grownD_append hga hal hg4
      have hr4 := rdD_append hg0 (hr3.out.alloc' _) hal hg4
      have hds4 : ∀ a ∈ qs ++ [⟨kd, m⟩], DrawnDd a := fun a ha => by
        rcases List.mem_append.1 ha with h1 | h1
        · exact hds.out a h1
        · rw [List.mem_singleton] at h1; subst h1; exact ⟨hkd, hm⟩
      replace ho4 := Lib.hid ho4
      replace hgr4 := Lib.hid hgr4
      replace hr4 := Lib.hid hr4
      replace hds4 := Lib.hid hds4
      have e7 : IntKind.i64.wrap (((k' + 1 : Nat) : Int) - 1) = (k' : Int) := by rw [IntWalk.i64_in _ (by omega)]; omega
      clear hown' hal hga hg4 ho3 hgr3 hr3
      go_wp2
      go_roundw
      case rel => exact ⟨k', r3, _, by go_num, ho4.out, by have := hl.out; rw [List.length_append]; simp; omega, hds4.out, hr4.out, by omega, hgr4.out⟩
      case measure => simp [intOf]
end Go.Proofs.YtfmdbmhakkajfaaDoor
