/-
  The model's text of a number, and its DeedText.
-/
import Derived.Laws.IdiomStrings
import Derived.Test.YtfmdbmhakkajfaaDoorVa
import Derived.Test.YtfmdbmhakkajfaaDoorGA
import Derived.IntWalk
namespace Go.Proofs.YtfmdbmhakkajfaaDoor
open Go.RowKit Go.Lib Go.Sort

theorem conv_one (b : UInt8) (W : World) (g : Nat) (h : W.cell? ⟨g, 0, none⟩ = some (.int .u8 (b.toNat : Int))) :
    (convert 22 9 (.slice (some ⟨g, 0, none⟩) 1 1)).run Tryd.prog W = .ok (.string ⟨#[b]⟩) W := by
  have := run_convert_bytes_back (P := Tryd.prog) W 22 9 5 ⟨g, 0, none⟩ 1 [b] Tryd.underlying22 Tryd.underlying5 Tryd.underlying9 (by
    intro j hj
    have hj0 : j = 0 := by simp at hj; omega
    subst hj0
    rw [List.getElem_cons_zero]
    simpa [Addr.add] using h)
  simpa using this
theorem digit_of {d : Nat} (h : d < 10) : ((UInt8.ofNat (48 + d)).toNat : Int) = 48 + (d : Int) := by rw [digit_nat h]; omega
theorem numT_small {n : Nat} (h : n < 10) : numT (n : Int) = ⟨#[UInt8.ofNat (48 + n)]⟩ := by
  unfold numT
  rw [Int.toNat_natCast, Lib.decDigits, dif_pos h]
theorem numT_big {n : Nat} (h : ¬ n < 10) : numT ((n / 10 : Nat) : Int) ++ ⟨#[UInt8.ofNat (48 + n % 10)]⟩ = numT (n : Int) := by
  refine tl_inj ?_
  rw [tl_app]
  unfold numT
  rw [Int.toNat_natCast, Int.toNat_natCast]
  show Lib.decDigits (n / 10) ++ [UInt8.ofNat (48 + n % 10)] = Lib.decDigits n
  rw [Lib.decDigits.eq_def n, dif_neg h]

set_option maxRecDepth 100000 in
set_option maxHeartbeats 4000000 in
theorem num_any (n : Nat) : ∀ (w : World), n ≤ 999999 →
    Calls Tryd.prog 35 #[.int .i64 (n : Int)] w fun e w' => e = .returned (.string (numT (n : Int))) ∧ Below w.heap.size w w' := by
  induction n using Nat.strongRecOn with
  | _ n ih =>
    intro w hn
    by_cases h : n < 10
    · have hg := Lib.hid (numT_small h)
      have hd := digit_of h
      have h10 : (n : Int) < 10 := by omega
      have hneg : ¬ (n : Int) < 0 := by omega
      have hw64 : IntKind.i64.wrap (48 + (n : Int)) = 48 + (n : Int) := IntWalk.i64_in _ (by omega)
      have hw8 : IntKind.u8.wrap (48 + (n : Int)) = 48 + (n : Int) := IntWalk.u8_in _ (by omega)
      generalize UInt8.ofNat (48 + n) = b at *
      have hback := conv_one b (w.alloc (.cells #[.int .u8 (48 + (n : Int))] 5)) w.heap.size (by rw [hd]; simp)
      have hB := Lib.hid ((Below.refl w.heap.size w).alloc (Nat.le_refl _) (.cells #[.int .u8 (48 + (n : Int))] 5))
      clear hd ih
      go_enter Tryd.func35, Tryd.ntmps35
      go_wp2
      go_ret
      exact ⟨ret_str hg.out.symm, hB.out⟩
    · have hg := Lib.hid (numT_big h)
      have hK := Lib.hid (fun W => ih (n / 10) (by omega) W (by omega))
      have hd := digit_of (d := n % 10) (by omega)
      generalize UInt8.ofNat (48 + n % 10) = b at *
      have h10 : ¬ (n : Int) < 10 := by omega
      have h10' : decide ((n : Int) < 10) = false := decide_eq_false h10
      have q1 : (n : Int).tdiv 10 = ((n / 10 : Nat) : Int) := by rw [Int.tdiv_eq_ediv_of_nonneg (by omega)]; omega
      have q2 : (n : Int).tmod 10 = ((n % 10 : Nat) : Int) := by rw [Int.tmod_eq_emod_of_nonneg (by omega)]; omega
      have q3 : IntKind.i64.wrap (((n / 10 : Nat) : Int)) = ((n / 10 : Nat) : Int) := IntWalk.i64_in _ (by omega)
      have q4 : IntKind.i64.wrap (48 + ((n % 10 : Nat) : Int)) = 48 + ((n % 10 : Nat) : Int) := IntWalk.i64_in _ (by omega)
      have q5 : IntKind.u8.wrap (48 + ((n % 10 : Nat) : Int)) = 48 + ((n % 10 : Nat) : Int) := IntWalk.u8_in _ (by omega)
      have q6 : IntKind.i64.wrap ((n : Int).tdiv 10) = ((n / 10 : Nat) : Int) := by rw [q1]; exact q3
      have hns : (numT ((n / 10 : Nat) : Int)).size ≤ 6 := num_size (by omega) (by omega)
      have hz1 : ¬ 9223372036854775807 < (numT ((n / 10 : Nat) : Int)).size + 1 := by omega
      generalize ((n % 10 : Nat) : Int) = r at *
      generalize hqq : ((n / 10 : Nat) : Int) = q at *
      replace hqq := Lib.hid hqq
      have hback := fun X : World => conv_one b (X.alloc (.cells #[.int .u8 (48 + r)] 5)) X.heap.size (by rw [hd]; simp)
      have hback2 := fun X : World => conv_one b (X.alloc (.cells #[.int .u8 (48 + r)] 5)).drew X.heap.size (by rw [hd]; simp)
      have hlate : ∀ V : World, Below (w.alloc (.cells #[.int .u8 (48 + r)] 5)).drew.heap.size (w.alloc (.cells #[.int .u8 (48 + r)] 5)).drew V → (convert 22 9 (.slice (some ⟨w.heap.size, 0, none⟩) 1 1)).run Tryd.prog V = .ok (.string ⟨#[b]⟩) V := fun V hb =>
        conv_one b V w.heap.size ((hb.cell (p := ⟨w.heap.size, 0, none⟩) (by simp)).trans (by rw [hd]; simp))
      replace hlate := Lib.hid hlate
      have hBa := Lib.hid (fun (X : World) (h : Below w.heap.size w X) => h.alloc h.size (.cells #[.int .u8 (48 + r)] 5))
      clear hd ih
      go_enter Tryd.func35, Tryd.ntmps35
      go_upto_region 3 with (fail)
      go_region_with (first | (go_at_call 35; refine (hK.out (w.alloc (.cells #[.int .u8 (48 + r)] 5)).drew).mono ?_; rintro e V ⟨rfl, hb⟩; have hlt := hlate.out _ hb; go_simp) | (go_at_call 35; refine (hK.out _).mono ?_; rintro e V ⟨rfl, hb⟩; go_simp))
      all_goals
        have hwV : Below w.heap.size w V := by
          first
            | exact (Below.refl _ _).drew.trans hb
            | exact ((hBa.out w (Below.refl _ _)).drew).trans (hb.mono (by simp))
        replace hwV := Lib.hid hwV
        go_wp2
        go_ret
        refine ⟨ret_str hg.out, ?_⟩
        first
          | exact hwV.out
          | exact hwV.out.drew
          | exact hBa.out _ hwV.out
          | exact (hBa.out _ hwV.out).drew
theorem num_int (n : Int) (w : World) (h0 : 0 ≤ n) (h1 : n ≤ 999999) :
    Calls Tryd.prog 35 #[.int .i64 n] w fun e w' => e = .returned (.string (numT n)) ∧ Below w.heap.size w w' := by
  obtain ⟨m, rfl⟩ : ∃ m : Nat, n = (m : Int) := ⟨n.toNat, by omega⟩
  exact num_any m w (by omega)
set_option maxRecDepth 100000 in
set_option maxHeartbeats 4000000 in
theorem specDeedText_any (a : Dd) (w : World) :
    Calls Tryd.prog 12 #[.agg #[.int .i64 a.kind, .int .i64 a.n]] w fun e w' => e = .returned (.string (deedT a)) ∧ Below w.heap.size w w' := by
  obtain ⟨k, n⟩ := a
  dsimp only
  have hB := Lib.hid ((Below.refl w.heap.size w).alloc (Nat.le_refl _) (.cells #[.int .i64 k, .int .i64 n] 24))
  have HX := Lib.hid (Blk.new w 24 #[.int .i64 k, .int .i64 n])
  go_enter Tryd.func12, Tryd.ntmps12
  go_upto_region 1 with (fail)
  generalize w.alloc (.cells #[.int .i64 k, .int .i64 n] 24) = W at *
  have x0 : W.cell? ⟨w.heap.size, 0, none⟩ = some (.int .i64 k) := HX.out.cell 0
  have x1 : W.cell? ⟨w.heap.size, 1, none⟩ = some (.int .i64 n) := HX.out.cell 1
  clear HX
  by_cases hin : 0 ≤ n ∧ n ≤ 999999
  · have hd : decide (0 ≤ n ∧ n ≤ 999999) = true := decide_eq_true hin
    have hns := num_size hin.1 hin.2
    have hz1 : ¬ 9223372036854775807 < 3 + (numT n).size := by omega
    have hz2 : ¬ 9223372036854775807 < 5 + (numT n).size := by omega
    have hnum := Lib.hid (fun W => num_int n W hin.1 hin.2)
    have hI := Lib.hid (fun W => in_any n 0 999999 W)
    simp only [hd] at hI
    by_cases h2 : 0 ≤ k ∧ k ≤ 2
    · have hg := Lib.hid (deed_num (k := k) (n := n) h2 hin)
      obtain rfl | rfl | rfl : k = 0 ∨ k = 1 ∨ k = 2 := by omega
      · have hcat : (⟨#[116, 111, 32]⟩ : ByteArray) ++ numT n = deedT ⟨0, n⟩ := tl_inj (by rw [tl_app, deedT_tl, hg.out]; rfl)
        replace hcat := Lib.hid hcat
        clear hd hin
        go_wp2_with (first | (go_at_call 34; refine (hI.out _).mono ?_; rintro e _ ⟨rfl, rfl⟩) | (go_at_call 35; refine (hnum.out _).mono ?_; rintro e V ⟨rfl, hb⟩; replace hB := Lib.hid (hB.out.trans (hb.mono hB.out.size)); clear hb))
        go_ret
        exact ⟨ret_str hcat.out, hB.out⟩
      · have hcat : (⟨#[109, 111, 114, 101, 32]⟩ : ByteArray) ++ numT n = deedT ⟨1, n⟩ := tl_inj (by rw [tl_app, deedT_tl, hg.out]; rfl)
        replace hcat := Lib.hid hcat
        clear hd hin
        go_wp2_with (first | (go_at_call 34; refine (hI.out _).mono ?_; rintro e _ ⟨rfl, rfl⟩) | (go_at_call 35; refine (hnum.out _).mono ?_; rintro e V ⟨rfl, hb⟩; replace hB := Lib.hid (hB.out.trans (hb.mono hB.out.size)); clear hb))
        go_ret
        exact ⟨ret_str hcat.out, hB.out⟩
      · have hcat : (⟨#[108, 101, 115, 115, 32]⟩ : ByteArray) ++ numT n = deedT ⟨2, n⟩ := tl_inj (by rw [tl_app, deedT_tl, hg.out]; rfl)
        replace hcat := Lib.hid hcat
        clear hd hin
        go_wp2_with (first | (go_at_call 34; refine (hI.out _).mono ?_; rintro e _ ⟨rfl, rfl⟩) | (go_at_call 35; refine (hnum.out _).mono ?_; rintro e V ⟨rfl, hb⟩; replace hB := Lib.hid (hB.out.trans (hb.mono hB.out.size)); clear hb))
        go_ret
        exact ⟨ret_str hcat.out, hB.out⟩
    · have q0 : (k == 0) = false := by rw [beq_eq_false_iff_ne]; omega
      have q1 : (k == 1) = false := by rw [beq_eq_false_iff_ne]; omega
      have q2 : (k == 2) = false := by rw [beq_eq_false_iff_ne]; omega
      clear hd hin hz1 hz2 hns hnum hI
      by_cases h34 : (k = 3 ∨ k = 4) ∧ n = 0
      · obtain ⟨h34, rfl⟩ := h34
        have q : ((0 : Int) == 0) = true := rfl
        obtain rfl | rfl := h34
        · have hg : (⟨#[108, 101, 116, 116, 101, 114, 115]⟩ : ByteArray) = deedT ⟨3, 0⟩ := tl_inj (by rw [deedT_tl, deed_word (.inl rfl) rfl]; rfl)
          replace hg := Lib.hid hg
          go_wp2
          go_ret
          exact ⟨ret_str hg.out, hB.out⟩
        · have hg : (⟨#[98, 97, 99, 107]⟩ : ByteArray) = deedT ⟨4, 0⟩ := tl_inj (by rw [deedT_tl, deed_word (.inr rfl) rfl]; rfl)
          replace hg := Lib.hid hg
          go_wp2
          go_ret
          exact ⟨ret_str hg.out, hB.out⟩
      · have hg : deedT ⟨k, n⟩ = ⟨#[]⟩ := by
          by_cases hk : k = 3 ∨ k = 4
          · exact deed_none hk (fun e => h34 ⟨hk, e⟩)
          · exact bad_deed (by omega)
        replace hg := Lib.hid hg
        by_cases hn0 : n = 0
        · have q3 : (k == 3) = false := by rw [beq_eq_false_iff_ne]; omega
          have q4 : (k == 4) = false := by rw [beq_eq_false_iff_ne]; omega
          go_wp2
          go_ret
          exact ⟨ret_str hg.out.symm, hB.out⟩
        · have q5 : (n == 0) = false := by rw [beq_eq_false_iff_ne]; exact hn0
          go_wp2
          all_goals
            go_ret
            exact ⟨ret_str hg.out.symm, hB.out⟩
  · have hd : decide (0 ≤ n ∧ n ≤ 999999) = false := decide_eq_false hin
    have hI := Lib.hid (fun W => in_any n 0 999999 W)
    simp only [hd] at hI
    have hg : deedT ⟨k, n⟩ = ⟨#[]⟩ := bad_deed (by omega)
    have q5 : (n == 0) = false := by rw [beq_eq_false_iff_ne]; omega
    replace hg := Lib.hid hg
    clear hd hin
    by_cases c0 : k = 0
    · subst c0
      go_wp2_with (go_at_call 34; refine (hI.out _).mono ?_; rintro e _ ⟨rfl, rfl⟩)
      go_ret
      exact ⟨ret_str hg.out.symm, hB.out⟩
    by_cases c1 : k = 1
    · subst c1
      go_wp2_with (go_at_call 34; refine (hI.out _).mono ?_; rintro e _ ⟨rfl, rfl⟩)
      go_ret
      exact ⟨ret_str hg.out.symm, hB.out⟩
    by_cases c2 : k = 2
    · subst c2
      go_wp2_with (go_at_call 34; refine (hI.out _).mono ?_; rintro e _ ⟨rfl, rfl⟩)
      go_ret
      exact ⟨ret_str hg.out.symm, hB.out⟩
    have q0 : (k == 0) = false := by rw [beq_eq_false_iff_ne]; omega
    have q1 : (k == 1) = false := by rw [beq_eq_false_iff_ne]; omega
    have q2 : (k == 2) = false := by rw [beq_eq_false_iff_ne]; omega
    go_wp2
    all_goals
      go_ret
      exact ⟨ret_str hg.out.symm, hB.out⟩
end Go.Proofs.YtfmdbmhakkajfaaDoor
