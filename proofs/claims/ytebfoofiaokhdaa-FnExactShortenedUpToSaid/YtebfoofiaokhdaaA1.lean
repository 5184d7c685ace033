/-
  The multiple of a base to which least lacks, of the model.
-/
import Derived.Test.YtebfoofiaokhdaaMathA
import Derived.Test.YtebfoofiaokhdaaGB
namespace Go.Proofs.Ytebfoofiaokhdaa
open Go.RowKit

set_option maxRecDepth 100000 in
set_option maxHeartbeats 4000000 in
theorem specUp_any {t : Tg} (hok : t.ok = true) (n : Nat) (hn2 : n ≤ 99999) (v : Value) (w : World) (h : Tng w v t) :
    Calls Try.prog 92 #[v, .int .i64 n] w fun e w' => e = .returned (.int .i64 (upTo t n t.bs.length : Nat)) ∧ Below w.heap.size w w' := by
  have hbs := (ok_shape hok).bs
  have hbl := bases_len hbs
  have HP := Lib.hid (fun k (hk : k < t.bs.length) => bN_int hbs (k := k) hk)
  have HU := Lib.hid (fun k (hk : k < t.bs.length) => (bases_pos hbs k hk))
  have HG := Lib.hid (fun k h1 hk => up_go (t := t) hbs (n := n) (k := k) h1 hk)
  have HB := Lib.hid (fun k hk => up_bd (t := t) hbs n k hk)
  obtain ⟨A1, c1, A2, c2, A3, c3, rfl, -⟩ := h.ex
  have hB := (Below.refl w.heap.size w).alloc (Nat.le_refl _) (.cells #[.slice A1 t.us.length c1, .slice A2 t.bs.length c2, .slice A3 t.ns.length c3] 26)
  have HX := Blk.new w 26 #[.slice A1 t.us.length c1, .slice A2 t.bs.length c2, .slice A3 t.ns.length c3]
  have HT := h.below hB (Nat.le_refl _)
  replace hB := Lib.hid hB
  replace HX := Lib.hid HX
  replace HT := Lib.hid HT
  replace hok := Lib.hid hok
  replace hbs := Lib.hid hbs
  clear h
  go_enter Try.func92, Try.ntmps92
  go_upto_region 1 with (fail)
  generalize w.alloc (.cells #[.slice A1 t.us.length c1, .slice A2 t.bs.length c2, .slice A3 t.ns.length c3] 26) = W at *
  obtain ⟨x0, x1, x2, -, -, -⟩ := blk3 HX.out
  obtain ⟨_, _, _, _, _, _, ev, -, I2, -⟩ := HT.out.ex
  cases ev
  obtain ⟨b2, o2, rfl, hb2, hc2⟩ := I2.at_ (by omega)
  have HC : Hid (∀ k, k < t.bs.length → W.cell? ⟨b2, o2 + k, none⟩ = some (.int .i64 (bN t k))) := Lib.hid (fun k hk => by rw [hc2 k hk, (HP.out k hk).1])
  clear I2 hc2
  go_wp2
  go_loopw [5, 6] (fun s5 s6 wr => ∃ k m : Nat, 1 ≤ k ∧ k ≤ t.bs.length ∧ s6 = .int .i64 k ∧ s5 = .int .i64 (upTo t n k : Nat) ∧ wr = W.drewN m) (fun _ i _ => t.bs.length - (intOf i).toNat)
  case atStart => exact ⟨1, 0, Nat.le_refl _, by omega, rfl, rfl, rfl⟩
  case round =>
    obtain ⟨k, m, hk1, hk, rfl, rfl, rfl⟩ := hrel
    by_cases hlt : k < t.bs.length
    · have ck := HC.out k hlt
      have hp := (HP.out k hlt).2
      have hpu := HU.out k hlt
      have hbu : bN t k ≤ 999999 := by have := (HP.out k hlt).1; omega
      have hbd := HB.out k hk
      obtain ⟨g1, g2, g3⟩ := HG.out k hk1 hlt
      have hlk : n + lackB t n k = n - n % bN t k + bN t k := by
        have := Nat.mod_lt n (show 0 < bN t k by omega)
        have := Nat.mod_le n (bN t k)
        unfold lackB; omega
      have eK : (n : Int) % (bN t k : Int) = ((n % bN t k : Nat) : Int) := rfl
      have hml := Nat.mod_le n (bN t k)
      have q0 : (0 : Int) ≤ (n : Int) % (bN t k : Int) := by rw [eK]; omega
      have hlb : 1 ≤ lackB t n k ∧ lackB t n k ≤ bN t k := lack_bd hbs.out n hlt
      have v1 : IntKind.i64.wrap ((n : Int) - (n : Int) % (bN t k : Int)) = (n : Int) - (n : Int) % (bN t k : Int) := IntWalk.i64_in _ (by rw [eK]; omega)
      have v2 : (n : Int) - (n : Int) % (bN t k : Int) + (bN t k : Int) = ((n + lackB t n k : Nat) : Int) := by rw [eK]; omega
      have v3 : IntKind.i64.wrap ((n : Int) - (n : Int) % (bN t k : Int) + (bN t k : Int)) = (n : Int) - (n : Int) % (bN t k : Int) + (bN t k : Int) := IntWalk.i64_in _ (by rw [v2]; omega)
      clear hlk hpu
      generalize upTo t n k = U at *
      generalize lackB t n k = L at *
      generalize bN t k = b at *
      obtain ⟨V, hV⟩ : ∃ V : Nat, V = n + L := ⟨_, rfl⟩
      rw [← hV] at g1 g2 g3 v2
      have w1 : IntKind.i64.wrap ((V : Int) - (n : Int)) = (V : Int) - (n : Int) := IntWalk.i64_in _ (by omega)
      have w2 : IntKind.i64.wrap ((U : Int) - (n : Int)) = (U : Int) - (n : Int) := IntWalk.i64_in _ (by omega)
      have kw : IntKind.i64.wrap ((k : Int) + 1) = (k : Int) + 1 := IntWalk.i64_in _ (by omega)
      have hVn : n < V := by omega
      replace v2 := Lib.hid v2
      replace eK := Lib.hid eK
      replace g1 := Lib.hid g1
      replace g2 := Lib.hid g2
      replace g3 := Lib.hid g3
      have hlt' : (k : Int) < (t.bs.length : Int) := by omega
      obtain ⟨hbd1, hbd2⟩ := hbd
      replace hV := Lib.hid hV
      go_upto_region 5 with (fail)
      go_quiet (fail)
      rw [v2.out]
      clear v1 v3 q0 ck
      by_cases h0 : U = 0
      · have u0 : ((U : Int) == 0) = true := by rw [beq_iff_eq]; omega
        have hg := Lib.hid (g1.out h0)
        replace h0 := Lib.hid h0
        replace hbd2 := Lib.hid hbd2
        go_wp2
        go_roundw
        case rel => exact ⟨k + 1, m + nq, by omega, by omega, by go_num, by rw [hg.out], by simp⟩
        case measure => simp [intOf]; omega
      · have u0 : ((U : Int) == 0) = false := by rw [beq_eq_false_iff_ne]; omega
        have hUn := hbd2 h0
        by_cases hlt2 : V - n < U - n
        · have hg := Lib.hid (g2.out h0 hlt2)
          have hl2 : (V : Int) - (n : Int) < (U : Int) - (n : Int) := by omega
          replace h0 := Lib.hid h0
          replace hbd2 := Lib.hid hbd2
          go_wp2
          go_roundw
          case rel => exact ⟨k + 1, m + nq, by omega, by omega, by go_num, by rw [hg.out], by simp⟩
          case measure => simp [intOf]; omega
        · have hg := Lib.hid (g3.out h0 hlt2)
          have hl2 : ¬ (V : Int) - (n : Int) < (U : Int) - (n : Int) := by omega
          replace h0 := Lib.hid h0
          replace hbd2 := Lib.hid hbd2
          go_wp2
          go_roundw
          case rel => exact ⟨k + 1, m + nq, by omega, by omega, by go_num, by rw [hg.out], by simp⟩
          case measure => simp [intOf]; omega
    · obtain rfl : k = t.bs.length := by omega
      have hlt' : ¬ (t.bs.length : Int) < (t.bs.length : Int) := by omega
      go_wp2
      go_ret
      exact ⟨rfl, below_drewN hB.out _⟩
end Go.Proofs.Ytebfoofiaokhdaa
