/-
  The contract of the program's name by taking away.
-/
import Derived.Test.YtebfoofiaokhdaaB1
import Derived.Test.YtebfoofiaokhdaaGP
namespace Go.Proofs.Ytebfoofiaokhdaa
open Go.RowKit

set_option maxRecDepth 100000 in
set_option maxHeartbeats 4000000 in
theorem nameByTaking_any (v : Value) (t : Tg) (n : Int) (x : ByteArray) (b : Int) (w : World) (h : Tng w v t) (hf : t.Fine) (ha : askA t n x b = true) :
    Calls Try.prog 84 #[v, .int .i64 n, .string x, .int .i64 b] w (RetStrs w (takenOf t n x b)) := by
  obtain ⟨hfi, hd1, hd2⟩ := askA_parts ha
  obtain ⟨hok, -, -, hq1, hq2⟩ := fitsA_parts hfi
  obtain ⟨m, rfl⟩ : ∃ m : Nat, n = m := ⟨n.toNat, by omega⟩
  have hbs := (ok_shape hok).bs
  have hbl := bases_len hbs
  have HN := condA_no (t := t) (n := (m : Int)) (b := b) (x := x)
  have HY := takenB_of (t := t) (n := (m : Int)) (x := x) (b := b) ha
  have HL := fun h2 => least_21 (t := t) hok h2 m
  have HNL := fun h2 => lack_named (t := t) hok h2 m
  have hcd : condA t m b = (decide (2 ≤ t.bs.length) && (decide ((leastN t m : Int) ≤ b) && namedB t (m + leastN t m))) := rfl
  have hcap : capTo t m t.bs.length = if t.bs.length ≤ 1 then 101 else min 101 (leastN t m) := rfl
  rw [Int.toNat_natCast] at HY
  have KL := fun A c W hI => implLeast_any (t := t) hbs m (by omega) A c W hI
  generalize leastN t m = L at *
  generalize capTo t m t.bs.length = C at *
  obtain ⟨A1, c1, A2, c2, A3, c3, rfl, -⟩ := h.ex
  have hB := (Below.refl w.heap.size w).alloc (Nat.le_refl _) (.cells #[.slice A1 t.us.length c1, .slice A2 t.bs.length c2, .slice A3 t.ns.length c3] 26)
  have HX := Blk.new w 26 #[.slice A1 t.us.length c1, .slice A2 t.bs.length c2, .slice A3 t.ns.length c3]
  have HT := h.below hB (Nat.le_refl _)
  have hleaf := fun (hc : condA t m b = false) (w1 : World) (hb1 : Below w.heap.size w w1) => show RetStrs w (takenOf t m x b) (.returned (.slice none 0 0)) w1 from ⟨_, rfl, by rw [(HN hc).1]; exact owns_none _ _ _, hb1⟩
  replace hB := Lib.hid hB
  replace HX := Lib.hid HX
  replace HT := Lib.hid HT
  replace ha := Lib.hid ha
  replace hfi := Lib.hid hfi
  replace hok := Lib.hid hok
  replace hbs := Lib.hid hbs
  replace KL := Lib.hid KL
  clear h HN
  go_enter Try.func84, Try.ntmps84
  go_upto_region 1 with (fail)
  generalize w.alloc (.cells #[.slice A1 t.us.length c1, .slice A2 t.bs.length c2, .slice A3 t.ns.length c3] 26) = W at *
  obtain ⟨x0, x1, x2, -, -, -⟩ := blk3 HX.out
  obtain ⟨_, _, _, _, _, _, ev, -, I2, -⟩ := HT.out.ex
  cases ev
  have KL1 := Lib.hid (KL.out A2 c2 W I2)
  clear I2 KL
  go_wp2_with (fail)
  refine KL1.out.mono ?_
  rintro e _ ⟨rfl, rfl⟩
  clear KL1
  by_cases h2 : 2 ≤ t.bs.length
  · rw [if_neg (by omega)] at hcap
    obtain ⟨l1, l21, -⟩ := HL h2
    have hnL := HNL h2
    have hCL : C = L := by omega
    clear hcap
    subst hCL
    by_cases hle : (C : Int) ≤ b
    · have hle' : ¬ b < (C : Int) := by omega
      have w1' : IntKind.i64.wrap ((m : Int) + (C : Int)) = (m : Int) + (C : Int) := IntWalk.i64_in _ (by omega)
      have K7 := implNameOf_any _ t (C : Int) W HT.out hf (by omega)
      have HN2 : namedB t ((m : Int) + (C : Int)) = false → condA t m b = false := fun h => by rw [hcd, h, Bool.and_false, Bool.and_false]
      have HY2 : namedB t ((m : Int) + (C : Int)) = true → takenOf t m x b = nameOf t (C : Int) ++ [x] ++ nameOf t ((m : Int) + (C : Int)) := fun h => (HY (by rw [hcd, h, decide_eq_true h2, decide_eq_true hle]; rfl)).1
      have hl1 := nameOf_31 t (C : Int)
      have hl2 := nameOf_31 t ((m : Int) + (C : Int))
      have K8' := fun W' hT => implNameOf_any (.agg #[.slice A1 t.us.length c1, .slice A2 t.bs.length c2, .slice A3 t.ns.length c3]) t ((m : Int) + (C : Int)) W' hT hf (by omega)
      rw [hnL] at K7
      replace K7 := Lib.hid K7
      replace K8' := Lib.hid K8'
      replace HN2 := Lib.hid HN2
      replace HY2 := Lib.hid HY2
      replace hleaf := Lib.hid hleaf
      clear HY HL HNL hcd
      generalize nameOf t (C : Int) = ls at *
      generalize nameOf t ((m : Int) + (C : Int)) = ms at *
      generalize namedB t ((m : Int) + (C : Int)) = nb at *
      go_wp2_with (fail)
      refine K7.out.mono ?_
      rintro e w5 ⟨v5, rfl, o5, b5⟩
      obtain ⟨A5, c5, rfl, s5⟩ := o5.strs
      clear K7 o5
      replace s5 := Lib.hid s5
      replace hB := Lib.hid (hB.out.trans (b5.mono hB.out.size))
      replace HX := Lib.hid (HX.out.below b5 HX.out.lt)
      replace HT := Lib.hid (HT.out.below b5 (Nat.le_refl _))
      clear b5 x0 x1 x2
      obtain ⟨x0, x1, x2, -, -, -⟩ := blk3 HX.out
      have K8 := Lib.hid (K8'.out w5 HT.out)
      go_wp2_with (fail)
      refine K8.out.mono ?_
      rintro e w6 ⟨v6, rfl, o6, b6⟩
      obtain ⟨A6, c6, rfl, s6⟩ := o6.strs
      clear K8 K8' o6
      replace s5 := Lib.hid (s5.out.below b6 (Nat.le_refl _))
      replace s6 := Lib.hid s6
      replace hB := Lib.hid (hB.out.trans (b6.mono hB.out.size))
      clear b6 x0 x1 x2 HX HT
      cases nb
      · have HR := Lib.hid (hleaf.out (HN2.out rfl) _ hB.out)
        go_wp2
        go_ret
        exact HR.out
      · have hr := HY2.out rfl
        have bA := (Below.refl w6.heap.size w6).alloc (Nat.le_refl _) (.cells #[.string x] 9)
        have bB := bA.alloc bA.size (.cells #[.slice A5 ls.length c5, .slice (some ⟨w6.heap.size, 0, none⟩) 1 1, .slice A6 ms.length c6] 23)
        have S2 := (strs_of_blk [x] (Blk.new w6 9 #[.string x])).below ((Below.refl _ _).alloc (Nat.le_refl _) (.cells #[.slice A5 ls.length c5, .slice (some ⟨w6.heap.size, 0, none⟩) 1 1, .slice A6 ms.length c6] 23)) (Nat.le_refl _)
        have S1 := s5.out.below bB (Nat.le_refl _)
        have S3 := s6.out.below bB (Nat.le_refl _)
        have KC := concat3_any A5 (some ⟨w6.heap.size, 0, none⟩) A6 (w6.heap.size + 1) ls.length c5 1 1 ms.length c6 ls [x] ms ((w6.alloc (.cells #[.string x] 9)).alloc (.cells #[.slice A5 ls.length c5, .slice (some ⟨w6.heap.size, 0, none⟩) 1 1, .slice A6 ms.length c6] 23)) (by simp) (by go_simp) (by go_simp) (by go_simp) S1 S2 S3 (by omega) (by omega) (by omega)
        have hlen : (ls ++ [x] ++ ms).length = ls.length + 1 + ms.length := by simp; omega
        replace KC := Lib.hid KC
        replace bB := Lib.hid bB
        replace hlen := Lib.hid hlen
        replace hr := Lib.hid hr
        clear S1 S2 S3 bA s5 s6 hleaf HN2 HY2
        go_wp2_with (fail)
        refine KC.out.mono ?_
        rintro e w7 ⟨v7, rfl, o7, b7⟩
        have hBB := hB.out.trans (bB.out.mono hB.out.size)
        have hsz := hBB.size
        have o8 : OwnStrs w7 w.heap.size v7 (takenOf t m x b) := by
          unfold OwnStrs
          rw [hr.out, hlen.out]
          exact own_mono o7 hsz
        have HR : RetStrs w (takenOf t m x b) (.returned v7) w7 := ⟨_, rfl, o8, hBB.trans (b7.mono hsz)⟩
        replace HR := Lib.hid HR
        clear o7 o8 b7 hBB hsz
        go_wp2
        go_ret
        exact HR.out
    · have hle' : b < (C : Int) := by omega
      have HR := Lib.hid (hleaf (by rw [hcd, decide_eq_false hle, Bool.false_and, Bool.and_false]) _ hB.out)
      clear HY HL HNL hcd hleaf
      go_wp2
      go_ret
      exact HR.out
  · rw [if_pos (by omega)] at hcap
    have HR := Lib.hid (hleaf (by rw [hcd, decide_eq_false h2, Bool.false_and]) _ hB.out)
    subst hcap
    have hle' : b < 101 := by omega
    clear HY HL HNL hcd hleaf
    replace h2 := Lib.hid h2
    go_wp2
    go_ret
    exact HR.out
end Go.Proofs.Ytebfoofiaokhdaa
