/-
  The contract of FallsApart of the model.
-/
import Derived.BigQuiet
import Derived.Test.YtfcjhelhhefkkaaS6
namespace Go.Proofs.Ytfcjhelhhefkkaa
open Go.RowKit Go.Lib

theorem str_none (x : ByteArray) : x.toList.isEmpty = decide (x = ⟨#[]⟩) := by
  by_cases e : x = ⟨#[]⟩
  · subst e; simp [ByteArray.toList_eq]
  · have : ¬ x.data.toList = [] := fun h => e (ByteArray.ext (Array.toList_inj.1 (by rw [h])))
    simp [e, ByteArray.toList_eq] at this ⊢
    exact this
theorem strOf_empty {l : List UInt8} (h : l ≠ []) : (strOf l).toList.isEmpty = false := by
  rw [str_none]; exact decide_eq_false fun e => h (by rw [← strOf_tl l, e])
theorem nil_empty : (strOf []).toList.isEmpty = true := by rw [str_none]; exact decide_eq_true rfl
/-- The last byte of one, the first byte of the other. -/
theorem ends_of {x y : List UInt8} (hx : x ≠ []) (hy : y ≠ []) : ∃ m, (strOf x).size = m + 1 ∧ ∃ (h1 : m < (strOf x).size) (h2 : 0 < (strOf y).size), (x.getLast? = y.head? ↔ ((strOf x)[m]).toNat = ((strOf y)[0]).toNat) := by
  have lx : 0 < x.length := List.length_pos_iff.2 hx
  have ly : 0 < y.length := List.length_pos_iff.2 hy
  refine ⟨x.length - 1, by rw [strOf_size]; omega, by rw [strOf_size]; omega, by rw [strOf_size]; omega, ?_⟩
  rw [List.getLast?_eq_getElem?, List.getElem?_eq_getElem (by omega), List.head?_eq_getElem?, List.getElem?_eq_getElem ly, Option.some.injEq]
  have e1 : (strOf x)[x.length - 1]'(by rw [strOf_size]; omega) = x[x.length - 1] := by simp [strOf, ByteArray.getElem_eq_getElem_data]
  have e2 : (strOf y)[0]'(by rw [strOf_size]; omega) = y[0] := by simp [strOf, ByteArray.getElem_eq_getElem_data]
  rw [e1, e2]
  exact ⟨fun h => by rw [h], fun h => UInt8.toNat_inj.1 h⟩
theorem meet_none1 (o : Option (List UInt8)) : meetNot none o = false := by cases o <;> rfl
theorem meet_none2 (o : Option (List UInt8)) : meetNot o none = false := by cases o <;> rfl
theorem meet_nil1 (o : Option (List UInt8)) : meetNot (some []) o = false := by cases o <;> simp [meetNot]
theorem meet_nil2 (o : Option (List UInt8)) : meetNot o (some []) = false := by cases o <;> simp [meetNot]
theorem meet_two {x y : List UInt8} (hx : x ≠ []) (hy : y ≠ []) : meetNot (some x) (some y) = decide (x.getLast? ≠ y.head?) := by simp [meetNot, hx, hy]
theorem apart_end {a b : List UInt8} {n : Int} {k : Nat} (hk : (k : Int) = n + 1) (hn : 0 ≤ n ∧ n ≤ 10) (h : apartUp a b k = true) : apartL a b n = true := apart_yes hn (by rw [show n.toNat + 1 = k by omega]; exact h)
theorem again_len {l x : List UInt8} {n : Int} (h : againL l n = some x) : x.length ≤ 60 := by
  obtain ⟨h1, _, h3⟩ := again_some h
  exact row_len (agN_row h1 _ h3)

set_option maxRecDepth 100000 in
set_option maxHeartbeats 4000000 in
theorem specFallsApart_any (s u : ByteArray) (n : Int) (w : World) (hs : s.size ≤ 2097152) (hu : u.size ≤ 2097152) :
    Calls Try.prog 36 #[.string s, .string u, .int .i64 n] w fun e w' => e = .returned (.bool (apartL (tl s) (tl u) n)) ∧ Below w.heap.size w w' := by
  by_cases hn : 0 ≤ n ∧ n ≤ 10
  · obtain ⟨N, rfl⟩ : ∃ N : Nat, n = (N : Int) := ⟨n.toNat, by omega⟩
    have hN : N ≤ 10 := by omega
    have hN' : (N : Int) ≤ 10 := by omega
    have hYes := Lib.hid (fun h => apart_end (a := tl s) (b := tl u) (n := (N : Int)) (k := N + 1) (by omega) hn h)
    have hNo := Lib.hid (fun k (h : k ≤ N) => apart_no (a := tl s) (b := tl u) (n := (N : Int)) (k := k) (by omega))
    have hGo := Lib.hid (fun k => apartUp_succ (a := tl s) (b := tl u) (k := k))
    clear hn
    go_enter Try.func36, Try.ntmps36
    go_wp2
    go_loopw [7] (fun i wr => ∃ k : Nat, k ≤ N + 1 ∧ i = .int .i64 k ∧ apartUp (tl s) (tl u) k = true ∧ Below w.heap.size w wr) (fun i _ => N + 1 - (intOf i).toNat)
    case atStart => exact ⟨0, Nat.zero_le _, rfl, rfl, Below.refl _ _⟩
    case round =>
      obtain ⟨k, hk, rfl, ha, hb⟩ := hrel
      by_cases hlt : k ≤ N
      · have K1 := specSaidAgain_any s k wr hs
        have K2 := Lib.hid (fun W => specSaidAgain_any u k W hu)
        have hNo1 := Lib.hid (hNo.out k hlt)
        have hGo1 := Lib.hid (fun h => hGo.out k ha h)
        have hl1 := Lib.hid (fun x h => again_len (l := tl s) (n := (k : Int)) (x := x) h)
        have hl2 := Lib.hid (fun x h => again_len (l := tl u) (n := (k : Int)) (x := x) h)
        have hlt' : (k : Int) ≤ (N : Int) := by omega
        generalize againL (tl s) k = o1 at *
        generalize againL (tl u) k = o2 at *
        replace hb := Lib.hid hb
        clear ha
        cases o1 with
        | none =>
          have hE := Lib.hid (hNo1.out (meet_none1 _))
          rw [optV_none] at K1
          go_wp2_with (fail)
          refine K1.mono ?_
          rintro e W ⟨rfl, b2⟩
          replace hb := Lib.hid (hb.out.trans (b2.mono hb.out.size))
          replace K2 := K2.out W
          clear b2
          cases o2 with
          | none =>
            rw [optV_none] at K2
            go_wp2_with (fail)
            refine K2.mono ?_
            rintro e W2 ⟨rfl, b2⟩
            replace hb := Lib.hid (hb.out.trans (b2.mono hb.out.size))
            clear b2
            go_wp2
            go_quiet (fail)
            go_wp2
            go_ret
            exact ⟨ret_bool hE.out.symm, below_drewN hb.out _⟩
          | some y =>
            rw [optV_some] at K2
            go_wp2_with (fail)
            refine K2.mono ?_
            rintro e W2 ⟨rfl, b2⟩
            replace hb := Lib.hid (hb.out.trans (b2.mono hb.out.size))
            clear b2
            go_wp2
            go_quiet (fail)
            go_wp2
            go_ret
            exact ⟨ret_bool hE.out.symm, below_drewN hb.out _⟩
        | some x =>
          rw [optV_some] at K1
          have hx60 := hl1.out x rfl
          go_wp2_with (fail)
          refine K1.mono ?_
          rintro e W ⟨rfl, b2⟩
          replace hb := Lib.hid (hb.out.trans (b2.mono hb.out.size))
          replace K2 := K2.out W
          clear b2
          cases o2 with
          | none =>
            have hE := Lib.hid (hNo1.out (meet_none2 _))
            rw [optV_none] at K2
            go_wp2_with (fail)
            refine K2.mono ?_
            rintro e W2 ⟨rfl, b2⟩
            replace hb := Lib.hid (hb.out.trans (b2.mono hb.out.size))
            clear b2
            go_wp2
            go_quiet (fail)
            go_wp2
            go_ret
            exact ⟨ret_bool hE.out.symm, below_drewN hb.out _⟩
          | some y =>
            rw [optV_some] at K2
            have hy60 := hl2.out y rfl
            go_wp2_with (fail)
            refine K2.mono ?_
            rintro e W2 ⟨rfl, b2⟩
            replace hb := Lib.hid (hb.out.trans (b2.mono hb.out.size))
            clear b2 K2 K1
            by_cases hx0 : x = []
            · subst hx0
              have hE := Lib.hid (hNo1.out (meet_nil1 _))
              have he := nil_empty
              generalize strOf [] = xs at *
              generalize strOf y = ys at *
              go_wp2
              go_quiet (fail)
              go_wp2
              go_ret
              exact ⟨ret_bool hE.out.symm, below_drewN hb.out _⟩
            · by_cases hy0 : y = []
              · subst hy0
                have hE := Lib.hid (hNo1.out (meet_nil2 _))
                have he := nil_empty
                have he2 := strOf_empty hx0
                generalize strOf [] = ys at *
                generalize strOf x = xs at *
                go_wp2
                go_quiet (fail)
                go_wp2
                go_ret
                exact ⟨ret_bool hE.out.symm, below_drewN hb.out _⟩
              · obtain ⟨m, hm, hm1, hm2, hiff⟩ := ends_of hx0 hy0
                have hM := meet_two hx0 hy0
                have he1 := strOf_empty hx0
                have he2 := strOf_empty hy0
                rw [hM] at hGo1 hNo1
                rw [decide_eq_true_eq, ne_eq, hiff] at hGo1
                rw [decide_eq_false_iff_not, ne_eq, Decidable.not_not, hiff] at hNo1
                have hm60 : m ≤ 60 := by have := strOf_size x; omega
                have hw1 : IntKind.i64.wrap (m : Int) = (m : Int) := IntWalk.i64_in _ (by omega)
                have hw2 : ((strOf x).size : Int) - 1 = (m : Int) := by rw [hm]; omega
                have hk2 : (m : Int) < ((strOf x).size : Int) := by omega
                have hk3 : (0 : Int) ≤ (m : Int) := by omega
                have hk4 : (0 : Int) < ((strOf y).size : Int) := by omega
                clear hM hiff
                replace hx0 := Lib.hid hx0
                replace hy0 := Lib.hid hy0
                replace hm := Lib.hid hm
                generalize strOf x = xs at *
                generalize strOf y = ys at *
                by_cases he : (xs[m]).toNat = (ys[0]).toNat
                · have hE := Lib.hid (hNo1.out he)
                  go_wp2
                  go_quiet (fail)
                  go_wp2
                  go_ret
                  exact ⟨ret_bool hE.out.symm, below_drewN hb.out _⟩
                · have hE := Lib.hid (hGo1.out he)
                  go_wp2
                  go_quiet (fail)
                  go_wp2
                  go_roundw
                  case rel => exact ⟨k + 1, by omega, by go_num, hE.out, below_drewN hb.out _⟩
                  case measure => simp [intOf]; omega
      · obtain rfl : k = N + 1 := by omega
        have hE := Lib.hid (hYes.out ha)
        have d1 : decide ((0 : Int) ≤ (N : Int)) = true := decide_eq_true (by omega)
        have d2 : decide ((N : Int) ≤ 10) = true := decide_eq_true (by omega)
        replace hb := Lib.hid hb
        clear ha
        go_wp2_with (first | (go_at_call 62; refine (in_any _ _ _ _).mono ?_; rintro e _ ⟨rfl, rfl⟩))
        go_ret
        exact ⟨ret_bool (by rw [hE.out]), hb.out⟩
  · have hE := Lib.hid (apart_out (a := tl s) (b := tl u) hn)
    have hd : decide (0 ≤ n ∧ n ≤ 10) = false := decide_eq_false hn
    by_cases h10 : n ≤ 10
    · have hneg : ¬ 0 ≤ n := by omega
      replace hd := Lib.hid hd
      replace hn := Lib.hid hn
      go_enter Try.func36, Try.ntmps36
      go_wp2
      refine wp_loop_rounds 1 ?_
      rw [rounds_succ]
      go_wp2_with (first | (go_at_call 62; refine (in_any _ _ _ _).mono ?_; rintro e _ ⟨rfl, rfl⟩))
      go_ret
      exact ⟨ret_bool (by rw [hE.out]; exact decide_eq_false (by omega)), Below.refl _ _⟩
    · have h0 : 0 ≤ n := by omega
      replace hd := Lib.hid hd
      replace hn := Lib.hid hn
      go_enter Try.func36, Try.ntmps36
      go_wp2
      refine wp_loop_rounds 1 ?_
      rw [rounds_succ]
      go_wp2_with (first | (go_at_call 62; refine (in_any _ _ _ _).mono ?_; rintro e _ ⟨rfl, rfl⟩))
      go_ret
      exact ⟨ret_bool (by rw [hE.out]; exact decide_eq_false (by omega)), Below.refl _ _⟩
end Go.Proofs.Ytfcjhelhhefkkaa
