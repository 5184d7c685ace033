/-
  The contract of StepsToRing of the model.
-/
import Derived.Test.YtfnpkmlgklameaaL2
namespace Go.Proofs.Ytfnpkmlgklameaa
open Go.RowKit

/-- A number and a truth. -/
def RetN2 (w : World) (x : Int) (b : Bool) (e : Ending) (w' : World) : Prop := e = .returned (.tuple #[.int .i64 x, .bool b]) ∧ Below w.heap.size w w'
theorem retn2 {x y : Int} {a b : Bool} (h : x = y) (h2 : a = b) : Ending.returned (.tuple #[.int .i64 x, .bool a]) = .returned (.tuple #[.int .i64 y, .bool b]) := by rw [h, h2]

set_option maxRecDepth 100000 in
set_option maxHeartbeats 4000000 in
theorem specStepsToRing_any (v : Value) (t : Tg) (n : Int) (w : World) (h : Tng w v t) (hf : t.Fine) (hn : -9223372036854775808 ≤ n ∧ n ≤ 9223372036854775807) :
    Calls Try.prog 35 #[v, .int .i64 n] w (RetN2 w (stepsF (lettersOf t) n) (okF (lettersOf t) n)) := by
  obtain ⟨A1, c1, A2, c2, A3, c3, rfl, -⟩ := h.ex
  have hB := (Below.refl w.heap.size w).alloc (Nat.le_refl _) (.cells #[.slice A1 t.us.length c1, .slice A2 t.bs.length c2, .slice A3 t.ns.length c3] 26)
  have HX := Blk.new w 26 #[.slice A1 t.us.length c1, .slice A2 t.bs.length c2, .slice A3 t.ns.length c3]
  have HT := h.below hB (Nat.le_refl _)
  have KL := Lib.hid (fun x W (hT : Tng W (.agg #[.slice A1 t.us.length c1, .slice A2 t.bs.length c2, .slice A3 t.ns.length c3]) t) hx => specLettersOf_any _ t x W hT hf hx)
  have K1 := specRingFrom_any _ t n _ HT hf hn
  have hbd := letters_bd t
  have hib := Lib.hid (itF_bd (letters_bd t) hn)
  generalize lettersOf t = f at *
  obtain ⟨hR, -⟩ := ring_is f hbd n
  have hrl := ringF_le (n := n) hbd
  replace K1 := Lib.hid K1
  replace hR := Lib.hid hR
  replace hB := Lib.hid hB
  replace HX := Lib.hid HX
  replace HT := Lib.hid HT
  clear h hf hbd
  go_enter Try.func35, Try.ntmps35
  go_upto_region 1 with (fail)
  generalize w.alloc (.cells #[.slice A1 t.us.length c1, .slice A2 t.bs.length c2, .slice A3 t.ns.length c3] 26) = W at *
  obtain ⟨x0, x1, x2, -, -, -⟩ := blk3 HX.out
  go_wp2_with (fail)
  refine K1.out.mono ?_
  rintro e w1 ⟨A, c, rfl, hI, b1⟩
  replace HX := Lib.hid (HX.out.below b1 HX.out.lt)
  replace HT := Lib.hid (HT.out.below b1 (Nat.le_refl _))
  replace hB := Lib.hid (hB.out.trans (b1.mono hB.out.size))
  clear b1 x0 x1 x2 K1
  cases hok : okF f n
  · have hs := Lib.hid (ring_no hok).2
    clear hI
    go_wp2
    refine wp_loop_rounds 1 ?_
    rw [rounds_succ]
    go_wp2
    go_ret2
    exact ⟨retn2 hs.out.symm hok.symm, hB.out⟩
  · have hle := (hR.out.ok_le hok).2
    have hps := hR.out.pos
    have hst := Lib.hid (hR.out.steps hok)
    have hmem := Lib.hid (fun k => hR.out.mem hok k)
    have hin := Lib.hid (fun j (hj : j < (ringF f n).length) => mem_getD hj)
    have hof := Lib.hid (fun x (hx : x ∈ ringF f n) => getD_of_mem hx)
    generalize muF f n = mu at *
    generalize ringF f n = rs at *
    generalize hL : rs.length = L at *
    replace hL := Lib.hid hL
    replace hok := Lib.hid hok
    replace hI := Lib.hid hI
    go_wp2
    go_loopw [8, 9] (fun s8 s9 wr => ∃ k : Nat, k ≤ mu ∧ s9 = .int .i64 k ∧ s8 = .int .i64 (itF f k n) ∧ Below w1.heap.size w1 wr) (fun _ s9 _ => mu - (intOf s9).toNat)
    case atStart => exact ⟨0, Nat.zero_le _, rfl, rfl, Below.refl _ _⟩
    case round =>
      obtain ⟨k, hk, rfl, rfl, hBr⟩ := hrel
      have hcr := hI.out.below hBr (Nat.le_refl _)
      have HTr := Lib.hid (HT.out.below hBr (Nat.le_refl _))
      have hXr := HX.out.below hBr HX.out.lt
      obtain ⟨x0, x1, x2, -, -, -⟩ := blk3 hXr
      have hwB := Lib.hid (hB.out.trans (hBr.mono hB.out.size))
      have hat := Lib.hid hcr.at_
      have hk2 : (k : Int) ≤ 200 := by omega
      have KL1 := Lib.hid (KL.out (itF f k n) wr HTr.out (hib.out k))
      have hnx : itF f (k + 1) n = f (itF f k n) := rfl
      have hmk := hmem.out k
      generalize itF f k n = x at *
      replace hnx := Lib.hid hnx
      replace hmk := Lib.hid hmk
      replace hBr := Lib.hid hBr
      clear hcr hXr
      go_wp2
      go_loop [10] (fun s10 => ∃ j : Nat, j ≤ L ∧ s10 = .int .i64 j ∧ ∀ i, i < j → rs.getD i 0 ≠ x) (fun s10 => L - (intOf s10).toNat)
      case atStart => exact ⟨0, Nat.zero_le _, rfl, fun i hi => by omega⟩
      case round =>
        obtain ⟨j, hj, rfl, hjs⟩ := hrel
        by_cases hj2 : j < L
        · obtain ⟨bb, oo, rfl, -, hc⟩ := hat.out (by omega)
          have cj := hc j hj2
          by_cases he : rs.getD j 0 = x
          · have hkm : k = mu := by
              have h1 := hmk.out.1 (by rw [← he]; exact hin.out j hj2)
              omega
            rw [he] at cj
            have hnn : (x == x) = true := by simp
            replace hkm := Lib.hid hkm
            clear hc he hjs
            go_wp2
            go_ret2
            exact ⟨retn2 (by rw [hst.out, hkm.out]) hok.out.symm, hwB.out⟩
          · have hnn : (rs.getD j 0 == x) = false := by rw [beq_eq_false_iff_ne]; exact he
            have hjs2 : Hid (∀ i, i < j + 1 → rs.getD i 0 ≠ x) := fun i hi => by
              by_cases e : i = j
              · subst e; exact he
              · exact hjs i (by omega)
            generalize rs.getD j 0 = y at *
            clear hjs hc
            go_wp2
            go_round
            case rel => exact ⟨j + 1, by omega, by go_num, hjs2.out⟩
            case measure => simp [intOf]; omega
        · obtain rfl : j = L := by omega
          have hkm : k < mu := by
            rcases Nat.lt_or_ge k mu with h1 | h1
            · exact h1
            · obtain ⟨i, hi, e⟩ := hof.out x (hmk.out.2 h1)
              exact absurd e (hjs i (by omega))
          clear hjs
          go_wp2_with (fail)
          refine KL1.out.mono ?_
          rintro e w2 ⟨rfl, b2⟩
          have hB2 := Lib.hid (hBr.out.trans (b2.mono hBr.out.size))
          clear b2
          go_wp2
          go_roundw
          case rel => exact ⟨k + 1, by omega, by go_num, by rw [hnx.out], hB2.out⟩
          case measure => simp [intOf]; omega
end Go.Proofs.Ytfnpkmlgklameaa
