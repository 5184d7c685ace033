/-
  FnWordOk holds for every input: the drawn text is judged by WordOk as by its model; a and z are words, the empty text is none, and a word with a letter behind it is one just if it was not as long as may be. No condition.
-/
import Derived.Test.YtdmldgikfjgmhaaRows
import Derived.Test.YtdmldgikfjgmhaaDrawW
import Derived.Test.YtdmldgikfjgmhaaHold
namespace Go.Proofs.Ytdmldgikfjgmhaa.fnWordOk
open Go.ChangeShapes Go.WideShapes Go.ChangeAt Go.RowKit
open Go.ChangeMaps (open_string shut_string)

theorem own : ownKnob Try.prog.godebug = none := by kernel_rfl
theorem laidOut : laidOutB Try.prog = true := by kernel_rfl

theorem word_more {x : ByteArray} (h : wordOk x = true) : wordOk (x ++ ⟨#[113]⟩) = decide (x.size < 8) := by
  have h1 := wordOk_len h
  simp only [wordOk, Bool.and_eq_true, decide_eq_true_eq] at h
  have hs : (x ++ ⟨#[113]⟩).size = x.size + 1 := by rw [ByteArray.size_append]; rfl
  have hall : (x ++ ⟨#[113]⟩).data.toList.all letterOk = true := by
    rw [ByteArray.data_append]
    simp only [Array.toList_append, List.all_append, h.2, Bool.true_and]
    decide
  unfold wordOk
  rw [hs, hall, Bool.and_true]
  by_cases h8 : x.size < 8
  · rw [decide_eq_true (by omega), decide_eq_true h8]
  · rw [decide_eq_false (by omega), decide_eq_false h8]

theorem walk (w : World) (A : Option Addr) (n c : Nat) (xs : List Int) (h : Ints w .u8 A n c xs) (hwf : ∀ x ∈ xs, (Lit.int .u8 x).wf = true) (hc : c ≤ maxLen) :
    Calls Try.prog 3 #[.slice A n c] w fun e w' => e = .returned (.bool true) ∧ Below w.heap.size w w' := by
  have hn : n ≤ 9223372036854775807 := by have := h.le; unfold maxLen at hc; omega
  by_cases hl : n ≤ 1048576
  · have HD := Lib.hid (drawWordOk_any A n c xs w h hl hwf hc)
    clear h hwf hc
    go_enter Try.func3, Try.ntmps3
    go_wp2_with (fail)
    refine HD.out.mono ?_
    rintro e w1 ⟨x, rfl, hx, hb⟩
    have K1 := Lib.hid (fun W => implWordOk_any x W (by unfold maxLen; omega))
    have K2 := Lib.hid (fun W => specWordOk_any x W (by unfold maxLen; omega))
    have Ka := Lib.hid (fun W => implWordOk_any ⟨#[97]⟩ W (by decide))
    have Kz := Lib.hid (fun W => implWordOk_any ⟨#[122]⟩ W (by decide))
    have K0 := Lib.hid (fun W => implWordOk_any ⟨#[]⟩ W (by decide))
    rw [show wordOk ⟨#[97]⟩ = true by decide] at Ka
    rw [show wordOk ⟨#[122]⟩ = true by decide] at Kz
    rw [show wordOk ⟨#[]⟩ = false by decide] at K0
    replace hb := Lib.hid hb
    cases hok : wordOk x
    · rw [hok] at K1 K2
      clear hok
      go_wp2_with (fail)
      refine (K1.out _).mono ?_
      rintro e _ ⟨rfl, rfl⟩
      go_wp2_with (fail)
      refine (K2.out _).mono ?_
      rintro e _ ⟨rfl, rfl⟩
      go_wp2_with (fail)
      refine (Ka.out _).mono ?_
      rintro e _ ⟨rfl, rfl⟩
      go_wp2_with (fail)
      refine (Kz.out _).mono ?_
      rintro e _ ⟨rfl, rfl⟩
      go_wp2_with (fail)
      refine (K0.out _).mono ?_
      rintro e _ ⟨rfl, rfl⟩
      go_wp2_with (fail)
      refine (alive_any _).mono ?_
      rintro e w3 ⟨rfl, hb3⟩
      have HB := Lib.hid (hb.out.trans (hb3.mono hb.out.size))
      clear hb3
      go_wp2
      go_ret
      exact ⟨rfl, HB.out⟩
    · rw [hok] at K1 K2
      have Kq := Lib.hid (fun W => implWordOk_any (x ++ ⟨#[113]⟩) W (by rw [ByteArray.size_append]; show _ + 1 ≤ _; unfold maxLen; omega))
      rw [word_more hok] at Kq
      clear hok
      have hcat : ¬ (9223372036854775807 < x.size + 1) := by omega
      by_cases h8 : x.size < 8
      · rw [decide_eq_true h8] at Kq
        have h8' : (x.size : Int) < 8 := by omega
        go_wp2_with (fail)
        refine (K1.out _).mono ?_
        rintro e _ ⟨rfl, rfl⟩
        go_wp2_with (fail)
        refine (K2.out _).mono ?_
        rintro e _ ⟨rfl, rfl⟩
        go_wp2_with (fail)
        refine (Ka.out _).mono ?_
        rintro e _ ⟨rfl, rfl⟩
        go_wp2_with (fail)
        refine (Kz.out _).mono ?_
        rintro e _ ⟨rfl, rfl⟩
        go_wp2_with (fail)
        refine (K0.out _).mono ?_
        rintro e _ ⟨rfl, rfl⟩
        go_wp2_with (fail)
        refine (Kq.out _).mono ?_
        rintro e _ ⟨rfl, rfl⟩
        go_wp2_with (fail)
        refine (alive_any _).mono ?_
        rintro e w3 ⟨rfl, hb3⟩
        have HB := Lib.hid (hb.out.trans (hb3.mono hb.out.size))
        clear hb3
        go_wp2
        go_ret
        exact ⟨rfl, HB.out⟩
      · rw [decide_eq_false h8] at Kq
        have h8' : decide ((x.size : Int) < 8) = false := decide_eq_false (by omega)
        replace h8 := Lib.hid h8
        go_wp2_with (fail)
        refine (K1.out _).mono ?_
        rintro e _ ⟨rfl, rfl⟩
        go_wp2_with (fail)
        refine (K2.out _).mono ?_
        rintro e _ ⟨rfl, rfl⟩
        go_wp2_with (fail)
        refine (Ka.out _).mono ?_
        rintro e _ ⟨rfl, rfl⟩
        go_wp2_with (fail)
        refine (Kz.out _).mono ?_
        rintro e _ ⟨rfl, rfl⟩
        go_wp2_with (fail)
        refine (K0.out _).mono ?_
        rintro e _ ⟨rfl, rfl⟩
        go_wp2_with (fail)
        refine (Kq.out _).mono ?_
        rintro e _ ⟨rfl, rfl⟩
        go_wp2_with (fail)
        refine (alive_any _).mono ?_
        rintro e w3 ⟨rfl, hb3⟩
        have HB := Lib.hid (hb.out.trans (hb3.mono hb.out.size))
        clear hb3
        go_wp2
        go_ret
        exact ⟨rfl, HB.out⟩
  · have hl' : 1048576 < n := by omega
    go_enter Try.func3, Try.ntmps3
    go_wp2
    go_ret
    exact ⟨rfl, Below.refl _ _⟩

set_option maxRecDepth 100000 in
theorem lifted (os : Os) (started : os.Started) (H : Type) (enc : TypeId × Value → H) :
    ReturnsInHanded {} Try.checked os 3 .any (Rows.fnWordOkSpec.pre6 enc Try.prog Try.f3 Rows.fnWordOkRow.domain false) (Rows.fnWordOkSpec.post enc Try.prog Try.f3 false true false false) := by
  refine returnsInHanded_of_change (C := Try.checked) own started (by kernel_rfl) Try.func3
    (ChangeSpec.witness6 (enc := enc) (C := Try.checked) false ⟨#[], #[.slice none 0 0], []⟩ 8 (by kernel_rfl) (by kernel_rfl) (by kernel_rfl) (by kernel_rfl)) ?_
  intro W base args ds gs before hval0 hW hcnd _
  have hval : ∀ (j : Nat) t v, Try.f3.params[j]? = some t → args[j]? = some v → Value.okWide Try.prog W .any base t v := hval0
  have hW' := hW
  obtain ⟨p, q, hA0, hV, rfl, hfz, hnd⟩ := hW
  have hA : DataW.TrodAll enc Try.prog W 0 (fun _ => true) true Try.f3.params.toList args.toList ds p := hA0
  rw [Try.params3] at hA hval
  obtain ⟨v0, vs0, d0, ds0, p0, q0, hargs, rfl, rfl, h0, r0⟩ := trodAll_cons hA
  obtain ⟨rfl, rfl, rfl⟩ := trodAll_nil r0
  obtain rfl : args = #[v0] := by cases args; simp_all
  obtain ⟨rfl, rfl⟩ := trodVars_none hV
  obtain ⟨a0, len0, cap0, rfl⟩ := okWide_slice Try.underlying22 (hval 0 22 v0 rfl rfl)
  have k0 := h0
  have lt0 : ∀ x ∈ p0, x.block < W.heap.size := by obtain ⟨m, hm⟩ := k0; exact DataW.trod_lt m _ _ _ hm
  obtain ⟨z0, s0, w0, m0⟩ : ∃ zs, Ints W .u8 a0 len0 cap0 zs ∧ (∀ n ∈ zs, (Lit.int .u8 n).wf = true) ∧ cap0 ≤ maxLen := by
    obtain ⟨fuel, hf⟩ := h0
    rcases open_ints Try.underlying22 Try.underlying5 (by kernel_rfl) hf with ⟨hcs, _⟩ | ⟨x, l, c, zs, hcs, _, hl, hm, hz, _, hcell, hwz⟩
    · simp [Value.cells] at hcs
      obtain ⟨rfl, rfl, rfl⟩ := hcs
      exact ⟨[], Ints.none_, by simp, Nat.zero_le _⟩
    · simp [Value.cells] at hcs
      obtain ⟨rfl, rfl, rfl⟩ := hcs
      exact ⟨_, Ints.of_row hl (by simpa using hz) hcell, fun n hn => hwz n (List.mem_of_mem_take hn), hm⟩
  clear hA0 hval0
  refine (walk W a0 len0 cap0 z0 s0 w0 m0).mono fun e W' ⟨he, bel⟩ => ?_
  subst he
  exact ⟨_, rfl, _, _, _, [], _, [], hW', trodAll_mk1 (shut_bool Try.underlying4 _), (trodAll_cons_mk (Below.trod laidOut (by kernel_rfl) (of_decide_eq_true (by kernel_rfl)) k0 bel lt0) trodAll_mk0), rfl, bel.frame _, fun h => by cases h⟩

theorem over : Rows.fnWordOkRow.holds Try.pinned (OpenSpec.ofChange Rows.fnWordOkSpec) :=
  OpenClaim.holds_of_wide 3 Try.f3 rfl rfl rfl rfl rfl rfl rfl ⟨rfl, rfl, rfl, rfl, rfl⟩ rfl rfl rfl rfl rfl (by kernel_rfl) Try.func3 (by kernel_rfl)
    (of_decide_eq_true (by kernel_rfl)) (by unfold Func.isWrapper; first | (rw [if_pos (by decide +kernel)]; kernel_rfl) | (rw [if_neg (by decide +kernel)]; exact ⟨rfl, rfl⟩))
    (fun os started H enc _ => lifted os started H enc)
theorem proved : Rows.FnWordOkSaid := over
end Go.Proofs.Ytdmldgikfjgmhaa.fnWordOk
