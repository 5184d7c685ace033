/-
  The contract of TongueOk of the model.
-/
import Derived.Test.YteemgkabhkdeaaaDoorTngB
namespace Go.Proofs.YteemgkabhkdeaaaDoor
open Go.RowKit Go.WideMaps Go.Maps

set_option maxRecDepth 100000 in
set_option maxHeartbeats 2000000 in
theorem specTongueOk_no (v : Value) (t : Tg) (w : World) (h : Tng w v t) (hf : t.Fine) (hs : ¬ t.Shape) :
    Calls Tryd.prog 43 #[v] w fun e w' => e = .returned (.bool false) ∧ Below w.heap.size w w' := by
  obtain ⟨A1, c1, A2, c2, A3, c3, rfl, h1, h2, h3⟩ := h.ex
  have hB := Lib.hid (fun W h => specBasesOk_any A2 t.bs.length c2 t.bs W h hf.bs hf.fits)
  have hu := hf.us
  have hb := hf.bs
  have hn := hf.ns
  have HI := Lib.hid (fun nq => (h2.below ((Below.refl _ _).alloc (Nat.le_refl _) (.cells #[.slice A1 t.us.length c1, .slice A2 t.bs.length c2, .slice A3 t.ns.length c3] 26)) (Nat.le_refl _)).drewN nq)
  by_cases hu1 : 1 ≤ t.us.length ∧ t.us.length ≤ 20
  · have hu2 : decide (1 ≤ (t.us.length : Int) ∧ (t.us.length : Int) ≤ 20) = true := decide_eq_true (by omega)
    cases hbs : basesOk t.bs
    · replace hbs := Lib.hid hbs
      rw [hbs.out] at hB
      clear h h1 h2 h3 hs
      go_enter Tryd.func43, Tryd.ntmps43
      go_wp2
      go_quiet ((first | (go_at_call 31; exact quiet_same (in_any _ _ _ _)) | (go_at_call 61; exact Calls.quiet_of (hB.out _ (HI.out _)))))
      go_wp2
      go_ret
      exact ⟨rfl, below_drewN ((Below.refl _ _).alloc (Nat.le_refl _) _) _⟩
    · have hbl := bases_len hbs
      obtain ⟨b1, b5⟩ := hbl
      by_cases hnb : t.ns.length + 1 = t.bs.length
      · have h2b : 2 ≤ t.bs.length ∧ ¬ t.bs.getD 1 0 = t.us.length + 1 := by
          by_cases h2 : 2 ≤ t.bs.length
          · refine ⟨h2, fun e => hs ⟨hu1, hbs, hnb, fun _ => e⟩⟩
          · exact absurd ⟨hu1, hbs, hnb, fun h => absurd h h2⟩ hs
        obtain ⟨h2l, hne⟩ := h2b
        have hq : ((t.ns.length : Int) != (t.bs.length : Int) - 1) = false := by rw [bne_eq_false_iff_eq]; omega
        obtain ⟨b, o, rfl, hbo, h2c⟩ := h2.at_ (by omega)
        have c1 := h2c 1 (by omega)
        have f1 := hf.fits 1
        have hd1 : decide (1 < (t.bs.length : Int)) = true := decide_eq_true (by omega)
        have hl1 : 1 < t.bs.length := by omega
        have hw1 : IntKind.i64.wrap ((t.us.length : Int) + 1) = (t.us.length : Int) + 1 := IntWalk.i64_in _ (by omega)
        have hw2 : IntKind.i64.wrap ((t.bs.length : Int) - 1) = (t.bs.length : Int) - 1 := IntWalk.i64_in _ (by omega)
        generalize t.bs.getD 1 0 = x at *
        replace hbs := Lib.hid hbs
        rw [hbs.out] at hB
        have hne' : (x != (t.us.length : Int) + 1) = true := by rw [bne_iff_ne]; exact hne
        clear h h1 h2 h3 hs h2c hnb hne
        go_enter Tryd.func43, Tryd.ntmps43
        go_wp2
        go_quiet ((first | (go_at_call 31; exact quiet_same (in_any _ _ _ _)) | (go_at_call 61; exact Calls.quiet_of (hB.out _ (HI.out _)))))
        go_wp2
        go_ret
        exact ⟨rfl, below_drewN ((Below.refl _ _).alloc (Nat.le_refl _) _) _⟩
      · have hq : ((t.ns.length : Int) != (t.bs.length : Int) - 1) = true := by rw [bne_iff_ne]; omega
        have hw2 : IntKind.i64.wrap ((t.bs.length : Int) - 1) = (t.bs.length : Int) - 1 := IntWalk.i64_in _ (by omega)
        replace hbs := Lib.hid hbs
        rw [hbs.out] at hB
        clear h h1 h2 h3 hs hnb
        go_enter Tryd.func43, Tryd.ntmps43
        go_wp2
        go_quiet ((first | (go_at_call 31; exact quiet_same (in_any _ _ _ _)) | (go_at_call 61; exact Calls.quiet_of (hB.out _ (HI.out _)))))
        go_wp2
        go_ret
        exact ⟨rfl, below_drewN ((Below.refl _ _).alloc (Nat.le_refl _) _) _⟩
  · have hu2 : decide (1 ≤ (t.us.length : Int) ∧ (t.us.length : Int) ≤ 20) = false := decide_eq_false (by omega)
    clear h h1 h2 h3 hs hB hu1
    go_enter Tryd.func43, Tryd.ntmps43
    go_wp2
    go_quiet ((first | (go_at_call 31; exact quiet_same (in_any _ _ _ _)) | fail))
    go_wp2
    go_ret
    exact ⟨rfl, below_drewN ((Below.refl _ _).alloc (Nat.le_refl _) _) _⟩
end Go.Proofs.YteemgkabhkdeaaaDoor
