/-
  Drawn journals: deeds that have texts, and DrawJournalText.
-/
import Derived.Test.YtmhgpbfogdoaeaaGreatDoorRjGJ
import Derived.Test.YtmhgpbfogdoaeaaGreatDoorRjOpenI
import Derived.Test.YtmhgpbfogdoaeaaGreatDoorRjDrawRd
namespace Go.Proofs.YtmhgpbfogdoaeaaGreatDoor
open Go.RowKit

def RetWr (w : World) (g p : Nat) (e : Ending) (w' : World) : Prop := ∃ v qs r, e = .returned v ∧ OwnDds w' w.heap.size v qs ∧ qs.length ≤ 5 ∧ (∀ a ∈ qs, DrawnDd a ∧ deedL a ≠ []) ∧ Rd w' g r ∧ r ≤ p + 120 ∧ w.grownBy w' (some g)

set_option maxRecDepth 100000 in
set_option maxHeartbeats 4000000 in
theorem written_any (g p : Nat) (w : World) (h : Rd w g p) (hp : p ≤ 40000) :
    Calls Tryz.prog 40 #[.pointer (some ⟨g, 0, none⟩)] w (RetWr w g p) := by
  obtain ⟨i0, hi, hz0, hz1, hz2⟩ := info_parts dd_info
  have hg0 := h.lt
  have cs := dd_cells
  have hR := Lib.hid (h.alloc' (.cells #[] 41))
  have hrow0 : (w.alloc (.cells #[] 41)).ownsRow w.heap.size 41 2 (.slice (some ⟨w.heap.size, 0, none⟩) 0 0) 0 [] := World.ownsRow_made w #[] 0 (Nat.le_refl _) (by unfold maxLen; omega) rfl
  have hgr0 := Lib.hid (grown_of_below (some g) ((Below.refl w.heap.size w).alloc (Nat.le_refl _) (.cells #[] 41)))
  have hO : Hid (OwnDds (w.alloc (.cells #[] 41)) w.heap.size (.slice (some ⟨w.heap.size, 0, none⟩) 0 0) []) := hrow0
  have hsz0 : (w.alloc (.cells #[] 41)).heap.size = w.heap.size + 1 := by simp
  clear h hrow0
  go_enter Tryz.func40, Tryz.ntmps40
  go_upto_region 2 with (fail)
  generalize w.alloc (.cells #[] 41) = W at *
  go_wp2_with (fail)
  refine (deeds_any g p _ hR.out hp).mono ?_
  rintro e w2 ⟨lv, list, r, rfl, hlo, hl5, hdr, hr2, hrp, hg2⟩
  have hO2 : Hid (OwnDds w2 w.heap.size (.slice (some ⟨w.heap.size, 0, none⟩) 0 0) []) := Lib.hid (ownD_kept hO.out hg2 hg0)
  have hgr2 := Lib.hid (hgr0.out.trans hg2)
  have hap : Hid (∀ k, (Value.slice (some ⟨w.heap.size, 0, none⟩) 0 0).ownBlock = some k → lv.ownBlock ≠ some k) := fun k hk e => by
    have h1 := (hlo.lt k e).1
    simp [Value.ownBlock] at hk
    omega
  have hlo2 := Lib.hid (hlo.mono (B' := w.heap.size) (by omega))
  obtain ⟨A, c, rfl, -⟩ := hlo.deeds
  replace hr2 := Lib.hid hr2
  replace hdr := Lib.hid hdr
  clear hO hgr0 hR hg2 hlo
  go_wp2
  go_loopw [3, 5] (fun v s5 wr => ∃ (k : Nat) (qs : List Dd), s5 = .int .i64 (k : Int) ∧ k ≤ list.length ∧ OwnDds wr w.heap.size v qs ∧ OwnDds wr w.heap.size (.slice A list.length c) list ∧ (∀ k, v.ownBlock = some k → (Value.slice A list.length c).ownBlock ≠ some k) ∧ qs.length ≤ k ∧ (∀ a ∈ qs, DrawnDd a ∧ deedL a ≠ []) ∧ Rd wr g r ∧ w.grownBy wr (some g)) (fun _ s5 _ => list.length - (intOf s5).toNat)
  case atStart => exact ⟨0, [], rfl, Nat.zero_le _, hO2.out, hlo2.out, hap.out, Nat.zero_le _, by simp, hr2.out, hgr2.out⟩
  case round =>
    clear hO2 hr2 hgr2 hap hlo2
    obtain ⟨k, qs, rfl, hk, ho, hlo, hap, hqk, hqs, hr, hg⟩ := hrel
    by_cases hlt : k < list.length
    · have hx : list[k]? = some (list[k]'hlt) := List.getElem?_eq_getElem hlt
      have hmem : list[k]'hlt ∈ list := List.getElem_mem _
      generalize list[k]'hlt = x at *
      have hxd := hdr.out x hmem
      obtain ⟨A2, c2, e2, hds⟩ := hlo.deeds
      cases e2
      obtain ⟨b, o, rfl, hbl, hc⟩ := hds.at_ (by omega)
      obtain ⟨c1, c2⟩ := hc k _ hx
      have hcc := Lib.hid (fun (W : World) (hb2 : Below wr.heap.size wr W) => (⟨(hb2.cell (p := ⟨b, o + k * 2, none⟩) hbl).trans c1, (hb2.cell (p := ⟨b, o + k * 2 + 1, none⟩) hbl).trans c2⟩ : W.cell? ⟨b, o + k * 2, none⟩ = some (.int .i64 x.kind) ∧ W.cell? ⟨b, o + k * 2 + 1, none⟩ = some (.int .i64 x.n)))
      have K := Lib.hid (specDeedText_any x wr)
      have hne := Lib.hid (deedT_ne (a := x))
      replace hxd := Lib.hid hxd
      replace ho := Lib.hid ho
      replace hlo := Lib.hid hlo
      replace hap := Lib.hid hap
      replace hqs := Lib.hid hqs
      replace hr := Lib.hid hr
      replace hg := Lib.hid hg
      clear hc hds hmem hx
      generalize deedT x = s at *
      obtain ⟨xk, xn⟩ := x
      dsimp only at *
      go_wp2_with (fail)
      refine K.out.mono ?_
      rintro e w3 ⟨rfl, b3⟩
      obtain ⟨d1, d2⟩ := hcc.out w3 b3
      have ho3 := ho.out.below b3 (Nat.le_refl _)
      have hlo3 := hlo.out.below b3 (Nat.le_refl _)
      have hr3 := hr.out.below b3 (Nat.le_refl _)
      have hg3 := hg.out.trans (grown_of_below (some g) b3)
      have hbs : w.heap.size ≤ w3.heap.size := hg3.size
      replace ho3 := Lib.hid ho3
      replace hlo3 := Lib.hid hlo3
      replace hr3 := Lib.hid hr3
      replace hg3 := Lib.hid hg3
      clear c1 c2 hcc K b3 ho hlo hr hg
      by_cases he : s = ⟨#[]⟩
      · have hse : s.toList.isEmpty = true := by rw [emp_iff]; exact decide_eq_true he
        replace he := Lib.hid he
        go_wp2
        go_roundw
        case rel => exact ⟨k + 1, qs, by go_num, hlt, ho3.out, hlo3.out, hap.out, by omega, hqs.out, hr3.out, hg3.out⟩
        case measure => simp [intOf]; omega
      · have hse : s.toList.isEmpty = false := by rw [emp_iff]; exact decide_eq_false he
        replace hne := Lib.hid (hne.out he)
        replace he := Lib.hid he
        have hln5 : qs.length ≤ 4 := by omega
        replace hln5 := Lib.hid hln5
        go_wp2_with (at_builtin; refine wpList_appD _ rfl _ _ 24 rfl w.heap.size 41 i0 (.agg #[.int .i64 0, .int .i64 0]) 2 16 Tryz.underlying24 hi hz0 hz1 hz2 rfl (by decide) _ _ _ rfl (World.ownsRow.alloc ho3.out _) ⟨w3.heap.size, 0, none⟩ 1 1 [.int .i64 xk, .int .i64 xn] rfl rfl (cellD_two _ _ _ _) (fun x hx => by simp at hx; rcases hx with rfl | rfl <;> rfl) (by have := hln5.out; unfold maxLen; omega) (by have := hln5.out; omega) (by simp; omega) ?_; intro v' w4 hown' hg4 hv')
        have ho4 : OwnDds w4 w.heap.size v' (qs ++ [⟨xk, xn⟩]) := OwnDds.snoc (a := ⟨xk, xn⟩) hown'
        have hal := World.ownsRow.alloc ho3.out (.cells #[.int .i64 xk, .int .i64 xn] 41)
        have hga := hg3.out.trans (grown_of_below (some g) ((Below.refl w3.heap.size w3).alloc (Nat.le_refl _) (.cells #[.int .i64 xk, .int .i64 xn] 41)))
        have hgr4 := grownD_append hga hal hg4
        have hr4 := rdD_append hg0 (hr3.out.alloc' _) hal hg4
        have hlo4 : OwnDds w4 w.heap.size (.slice (some ⟨b, o, none⟩) list.length c) list := ownN_off (World.ownsRow.alloc hlo3.out _) hg4 (fun k hk e => hap.out k e hk)
        have hap4 : ∀ k, v'.ownBlock = some k → (Value.slice (some ⟨b, o, none⟩) list.length c).ownBlock ≠ some k := fun k hk e => by
          rcases hv' with h1 | h1
          · exact hap.out k (h1.symm.trans hk) e
          · have h2 := (World.ownsRow.lt hlo3.out k e).2
            rw [h1] at hk
            simp at hk
            omega
        have hds4 : ∀ a ∈ qs ++ [⟨xk, xn⟩], DrawnDd a ∧ deedL a ≠ [] := fun a ha => by
          rcases List.mem_append.1 ha with h1 | h1
          · exact hqs.out a h1
          · rw [List.mem_singleton] at h1; subst h1; exact ⟨hxd.out, hne.out⟩
        replace ho4 := Lib.hid ho4
        replace hgr4 := Lib.hid hgr4
        replace hr4 := Lib.hid hr4
        replace hds4 := Lib.hid hds4
        replace hlo4 := Lib.hid hlo4
        replace hap4 := Lib.hid hap4
        clear hown' hal hga hg4 ho3 hlo3 hg3 hr3 hv' d1 d2 hap
        go_wp2
        go_roundw
        case rel => exact ⟨k + 1, _, by go_num, hlt, ho4.out, hlo4.out, hap4.out, by rw [List.length_append]; simp; omega, hds4.out, hr4.out, hgr4.out⟩
        case measure => simp [intOf]; omega
    · replace ho := Lib.hid ho
      replace hlo := Lib.hid hlo
      replace hap := Lib.hid hap
      replace hqs := Lib.hid hqs
      replace hr := Lib.hid hr
      replace hg := Lib.hid hg
      have hq5 : qs.length ≤ 5 := by omega
      replace hrp := Lib.hid hrp
      go_wp2
      go_ret
      exact ⟨_, qs, r, rfl, ho.out, hq5, hqs.out, hr.out, hrp.out, hg.out⟩
end Go.Proofs.YtmhgpbfogdoaeaaGreatDoor
