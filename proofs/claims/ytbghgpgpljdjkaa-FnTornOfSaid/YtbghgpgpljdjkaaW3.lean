/-
  The contracts of l20Joined and of the draws of chapter 7.
-/
import Derived.Test.YtbghgpgpljdjkaaW2
namespace Go.Proofs.Ytbghgpgpljdjkaa
open Go.RowKit

/-- A code, or what is none, and a text are drawn. -/
def RetJoined (w : World) (g : Nat) (e : Ending) (w' : World) : Prop := ∃ v l s q, e = .returned (.tuple #[v, .string s]) ∧ DC w g w' v l q ∧ FewT 6 16 l ∧ s.size ≤ 200
set_option maxRecDepth 100000 in
set_option maxHeartbeats 8000000 in
theorem joined_any (g : Nat) (w : World) (h : Rd w g 0) :
    Calls Try.prog 59 #[.pointer (some ⟨g, 0, none⟩)] w (RetJoined w g) := by
  have hPk := fun W q (hr : Rd W g q) (hq : q ≤ 5000) (m : Int) (hm : 1 ≤ m) (hm' : m ≤ 1000) => pick_any g q m W hr (by omega) (by omega) (by omega)
  replace hPk := Lib.hid hPk
  have HC := Lib.hid (code_any g 12 w h (by omega) (by omega))
  clear h
  go_enter Try.func59, Try.ntmps59
  go_wp2_with (fail)
  refine HC.out.mono ?_
  rintro e w1 ⟨v, l, q, rfl, HD, hf, hq⟩
  obtain ⟨B, c, rfl, -⟩ := HD.own.strs
  replace HD := Lib.hid HD
  have hl6 := hf.1
  have hl16 := Lib.hid (fun k (hk : k < l.length) => hf.2 _ (getD_mem hk))
  replace hf := Lib.hid hf
  clear HC
  go_wp2_with (fail)
  refine (hPk.out _ q HD.out.rd (by omega) 7 (by omega) (by omega)).mono ?_
  rintro e W2 ⟨k2, rfl, hk2, hr2, hg2, -⟩
  have HD2 := Lib.hid (HD.out.pick hr2 hg2)
  obtain ⟨M, rfl⟩ : ∃ M : Nat, k2 = (M : Int) := ⟨k2.toNat, by omega⟩
  have hM6 : M ≤ 6 := by omega
  clear HD hr2 hg2 hk2
  go_wp2
  go_loopw [5, 6] (fun s5 s6 wr => ∃ (j q2 : Nat) (s : ByteArray), s6 = .int .i64 j ∧ s5 = .string s ∧ DC w g wr (.slice B l.length c) l q2 ∧ j ≤ M ∧ s.size + 16 * j ≤ 16 * M ∧ q2 + j ≤ q + 1 + M) (fun _ s6 _ => (intOf s6).toNat)
  case atStart => exact ⟨M, q + 1, ⟨#[]⟩, rfl, rfl, HD2.out, Nat.le_refl _, by show 0 + 16 * M ≤ 16 * M; omega, Nat.le_refl _⟩
  case round =>
    obtain ⟨j, q2, s, rfl, rfl, hd2, hj, hs, hq2⟩ := hrel
    replace hd2 := Lib.hid hd2
    by_cases hgo : 0 < j ∧ 0 < l.length
    · obtain ⟨i1, i2⟩ := hgo
      have i3 : 0 < (j : Int) := by omega
      have i4 : 0 < (l.length : Int) := by omega
      obtain ⟨gb, cap, ev, hgb0, hgb⟩ := World.ownsRow.form hd2.out.own i2
      cases ev
      go_wp2_with (fail)
      refine (hPk.out _ q2 hd2.out.rd (by omega) l.length (by omega) (by omega)).mono ?_
      rintro e W3 ⟨k3, rfl, hk3, hr3, hg3, -⟩
      obtain ⟨a, rfl⟩ : ∃ a : Nat, k3 = (a : Int) := ⟨k3.toNat, by omega⟩
      have ha : a < l.length := by omega
      have hai : (a : Int) < (l.length : Int) := by omega
      have ha0 : (0 : Int) ≤ (a : Int) := by omega
      have HD3 := Lib.hid (hd2.out.pick hr3 hg3)
      obtain ⟨y, hy, hys⟩ : ∃ y : ByteArray, W3.cell? ⟨gb, a, none⟩ = some (.string y) ∧ y.size ≤ 16 := by
        refine ⟨l.getD a ByteArray.empty, ?_, hl16.out a ha⟩
        rw [World.ownsRow.cellAt HD3.out.own a (by omega)]
        simp [List.getD_eq_getElem?_getD, ha]
      have hcat : ¬ (9223372036854775807 < s.size + y.size) := by omega
      clear hd2 hr3 hg3 hk3
      go_wp2
      go_roundw
      case rel => exact ⟨j - 1, q2 + 1, _, by go_num, rfl, HD3.out, by omega, by rw [ByteArray.size_append]; omega, by omega⟩
      case measure => simp [intOf]; omega
    · have hs3 : s.size ≤ 96 := by omega
      have KO := Lib.hid (odd_any g q2 6 _ hd2.out.rd (by omega) (by omega) (by omega))
      by_cases hj0 : 0 < j
      all_goals
        first
        | (have i3 : 0 < (j : Int) := by omega
           have i4 : ¬ 0 < (l.length : Int) := by omega
           go_wp2_with (fail)
           clear i3 i4)
        | (have i3 : ¬ 0 < (j : Int) := by omega
           go_wp2_with (fail)
           clear i3)
      all_goals
        refine KO.out.mono ?_
        rintro e W8 ⟨b8, q8, rfl, hq8, hr8, hg8, -⟩
        have HD := Lib.hid (hd2.out.pick hr8 hg8)
        clear KO hr8 hg8 hd2
        cases b8
        · go_wp2
          refine bodyPost_ret (v := .tuple #[.slice B l.length c, .string s]) (by simp [results, Try.results59, go_sem]) rfl ?_
          exact ⟨_, l, s, _, rfl, HD.out, hf.out, by omega⟩
        · have hgW := HD.out.rd.lt
          have hR := Blk.new W8 9 #[.string ⟨#[97]⟩, .string ⟨#[98]⟩, .string ⟨#[120]⟩, .string ⟨#[97, 97, 97, 97, 97, 97, 97, 97, 97, 97, 97, 97, 97, 97, 97, 97, 97, 97, 97, 97, 97, 97, 97, 97, 97]⟩]
          replace HD := Lib.hid (HD.out.alloc (.cells #[.string ⟨#[97]⟩, .string ⟨#[98]⟩, .string ⟨#[120]⟩, .string ⟨#[97, 97, 97, 97, 97, 97, 97, 97, 97, 97, 97, 97, 97, 97, 97, 97, 97, 97, 97, 97, 97, 97, 97, 97, 97]⟩] 9))
          replace hR := Lib.hid hR
          go_wp2_with (fail)
          refine (hPk.out _ _ HD.out.rd (by omega) 4 (by omega) (by omega)).mono ?_
          rintro e Wa ⟨ka, rfl, hka, hra, hga, -⟩
          obtain ⟨kk, rfl⟩ : ∃ kk : Nat, ka = (kk : Int) := ⟨ka.toNat, by omega⟩
          have hkk : kk < 4 := by omega
          have hkk1 : (kk : Int) < 4 := by omega
          have hkk0 : (0 : Int) ≤ (kk : Int) := by omega
          obtain ⟨y, hy, hys⟩ := pick4B ⟨#[97]⟩ ⟨#[98]⟩ ⟨#[120]⟩ ⟨#[97, 97, 97, 97, 97, 97, 97, 97, 97, 97, 97, 97, 97, 97, 97, 97, 97, 97, 97, 97, 97, 97, 97, 97, 97]⟩ 25 kk hkk (by decide) (by decide) (by decide) (by decide)
          have hca : Wa.cell? ⟨W8.heap.size, kk, none⟩ = some (.string y) := ((hR.out.grown hga (fun e => by injection e; omega)).cell kk).trans hy
          replace HD := Lib.hid (HD.out.pick hra hga)
          have hcat : ¬ (9223372036854775807 < s.size + y.size) := by omega
          clear hra hga hka hR hy
          go_wp2
          refine bodyPost_ret (v := .tuple #[.slice B l.length c, .string (s ++ y)]) (by simp [results, Try.results59, go_sem]) rfl ?_
          exact ⟨_, l, _, _, rfl, HD.out, hf.out, by rw [ByteArray.size_append]; omega⟩

theorem low_read {w w1 w2 : World} (hb : Below w.heap.size w w1) (hg : w1.grownBy w2 (some w.heap.size)) : Below w.heap.size w w2 :=
  ⟨hg.os.trans hb.os, hg.tape.trans hb.tape, hg.output.trans hb.output, Nat.le_trans hb.size hg.size, fun k hk => (hg.block k (Nat.lt_of_lt_of_le hk hb.size) (fun e => by injection e; omega)).trans (hb.block k hk)⟩
/-- A code is drawn from bytes. -/
def DrawnC (w : World) (e : Ending) (w' : World) : Prop := ∃ v l, e = .returned v ∧ OwnStrs w' w.heap.size v l ∧ FewT 6 16 l ∧ Below w.heap.size w w'
/-- A code and a text are drawn from bytes. -/
def DrawnJ (w : World) (e : Ending) (w' : World) : Prop := ∃ v l s, e = .returned (.tuple #[v, .string s]) ∧ OwnStrs w' w.heap.size v l ∧ FewT 6 16 l ∧ s.size ≤ 200 ∧ Below w.heap.size w w'

set_option maxRecDepth 100000 in
set_option maxHeartbeats 2000000 in
theorem drawCodeOk_any (A : Option Addr) (n c : Nat) (xs : List Int) (w : World) (h : Ints w .u8 A n c xs) (hn : n ≤ 1048576) (hwf : ∀ x ∈ xs, (Lit.int .u8 x).wf = true) (hc : c ≤ maxLen) :
    Calls Try.prog 17 #[.slice A n c] w (DrawnC w) := by
  have HO := Lib.hid (open_any A n c xs w h hn hwf hc)
  clear h hwf hc
  go_enter Try.func17, Try.ntmps17
  go_wp2_with (fail)
  refine HO.out.mono ?_
  rintro e w1 ⟨rfl, hr, hb, -⟩
  have KC := Lib.hid (code_any w.heap.size 2 w1 hr (by omega) (by omega))
  replace hb := Lib.hid hb
  clear HO hr
  go_wp2_with (fail)
  refine KC.out.mono ?_
  rintro e w2 ⟨v, l, q, rfl, HD, hf, -⟩
  obtain ⟨B, c', rfl, -⟩ := HD.own.strs
  have HF : DrawnC w (.returned (.slice B l.length c')) w2 := ⟨_, l, rfl, HD.own.mono hb.out.size, hf, low_read hb.out HD.gr⟩
  replace HF := Lib.hid HF
  clear HD hf hb KC
  go_wp2
  go_ret
  exact HF.out

set_option maxRecDepth 100000 in
set_option maxHeartbeats 2000000 in
theorem drawApartOk_any (A : Option Addr) (n c : Nat) (xs : List Int) (w : World) (h : Ints w .u8 A n c xs) (hn : n ≤ 1048576) (hwf : ∀ x ∈ xs, (Lit.int .u8 x).wf = true) (hc : c ≤ maxLen) :
    Calls Try.prog 24 #[.slice A n c] w (DrawnC w) := by
  have HO := Lib.hid (open_any A n c xs w h hn hwf hc)
  clear h hwf hc
  go_enter Try.func24, Try.ntmps24
  go_wp2_with (fail)
  refine HO.out.mono ?_
  rintro e w1 ⟨rfl, hr, hb, -⟩
  have KC := Lib.hid (code_any w.heap.size 9 w1 hr (by omega) (by omega))
  replace hb := Lib.hid hb
  clear HO hr
  go_wp2_with (fail)
  refine KC.out.mono ?_
  rintro e w2 ⟨v, l, q, rfl, HD, hf, -⟩
  obtain ⟨B, c', rfl, -⟩ := HD.own.strs
  have HF : DrawnC w (.returned (.slice B l.length c')) w2 := ⟨_, l, rfl, HD.own.mono hb.out.size, hf, low_read hb.out HD.gr⟩
  replace HF := Lib.hid HF
  clear HD hf hb KC
  go_wp2
  go_ret
  exact HF.out

set_option maxRecDepth 100000 in
set_option maxHeartbeats 2000000 in
theorem drawReadableOk_any (A : Option Addr) (n c : Nat) (xs : List Int) (w : World) (h : Ints w .u8 A n c xs) (hn : n ≤ 1048576) (hwf : ∀ x ∈ xs, (Lit.int .u8 x).wf = true) (hc : c ≤ maxLen) :
    Calls Try.prog 28 #[.slice A n c] w (DrawnC w) := by
  have HO := Lib.hid (open_any A n c xs w h hn hwf hc)
  clear h hwf hc
  go_enter Try.func28, Try.ntmps28
  go_wp2_with (fail)
  refine HO.out.mono ?_
  rintro e w1 ⟨rfl, hr, hb, -⟩
  have KC := Lib.hid (code_any w.heap.size 9 w1 hr (by omega) (by omega))
  replace hb := Lib.hid hb
  clear HO hr
  go_wp2_with (fail)
  refine KC.out.mono ?_
  rintro e w2 ⟨v, l, q, rfl, HD, hf, -⟩
  obtain ⟨B, c', rfl, -⟩ := HD.own.strs
  have HF : DrawnC w (.returned (.slice B l.length c')) w2 := ⟨_, l, rfl, HD.own.mono hb.out.size, hf, low_read hb.out HD.gr⟩
  replace HF := Lib.hid HF
  clear HD hf hb KC
  go_wp2
  go_ret
  exact HF.out

set_option maxRecDepth 100000 in
set_option maxHeartbeats 2000000 in
theorem drawTwoWays_any (A : Option Addr) (n c : Nat) (xs : List Int) (w : World) (h : Ints w .u8 A n c xs) (hn : n ≤ 1048576) (hwf : ∀ x ∈ xs, (Lit.int .u8 x).wf = true) (hc : c ≤ maxLen) :
    Calls Try.prog 41 #[.slice A n c] w (DrawnC w) := by
  have HO := Lib.hid (open_any A n c xs w h hn hwf hc)
  clear h hwf hc
  go_enter Try.func41, Try.ntmps41
  go_wp2_with (fail)
  refine HO.out.mono ?_
  rintro e w1 ⟨rfl, hr, hb, -⟩
  have KC := Lib.hid (code_any w.heap.size 9 w1 hr (by omega) (by omega))
  replace hb := Lib.hid hb
  clear HO hr
  go_wp2_with (fail)
  refine KC.out.mono ?_
  rintro e w2 ⟨v, l, q, rfl, HD, hf, -⟩
  obtain ⟨B, c', rfl, -⟩ := HD.own.strs
  have HF : DrawnC w (.returned (.slice B l.length c')) w2 := ⟨_, l, rfl, HD.own.mono hb.out.size, hf, low_read hb.out HD.gr⟩
  replace HF := Lib.hid HF
  clear HD hf hb KC
  go_wp2
  go_ret
  exact HF.out

set_option maxRecDepth 100000 in
set_option maxHeartbeats 2000000 in
theorem drawRoundOf_any (A : Option Addr) (n c : Nat) (xs : List Int) (w : World) (h : Ints w .u8 A n c xs) (hn : n ≤ 1048576) (hwf : ∀ x ∈ xs, (Lit.int .u8 x).wf = true) (hc : c ≤ maxLen) :
    Calls Try.prog 43 #[.slice A n c] w (DrawnC w) := by
  have HO := Lib.hid (open_any A n c xs w h hn hwf hc)
  clear h hwf hc
  go_enter Try.func43, Try.ntmps43
  go_wp2_with (fail)
  refine HO.out.mono ?_
  rintro e w1 ⟨rfl, hr, hb, -⟩
  have KC := Lib.hid (code_any w.heap.size 9 w1 hr (by omega) (by omega))
  replace hb := Lib.hid hb
  clear HO hr
  go_wp2_with (fail)
  refine KC.out.mono ?_
  rintro e w2 ⟨v, l, q, rfl, HD, hf, -⟩
  obtain ⟨B, c', rfl, -⟩ := HD.own.strs
  have HF : DrawnC w (.returned (.slice B l.length c')) w2 := ⟨_, l, rfl, HD.own.mono hb.out.size, hf, low_read hb.out HD.gr⟩
  replace HF := Lib.hid HF
  clear HD hf hb KC
  go_wp2
  go_ret
  exact HF.out

set_option maxRecDepth 100000 in
set_option maxHeartbeats 2000000 in
theorem drawWaysOf_any (A : Option Addr) (n c : Nat) (xs : List Int) (w : World) (h : Ints w .u8 A n c xs) (hn : n ≤ 1048576) (hwf : ∀ x ∈ xs, (Lit.int .u8 x).wf = true) (hc : c ≤ maxLen) :
    Calls Try.prog 32 #[.slice A n c] w (DrawnJ w) := by
  have HO := Lib.hid (open_any A n c xs w h hn hwf hc)
  clear h hwf hc
  go_enter Try.func32, Try.ntmps32
  go_wp2_with (fail)
  refine HO.out.mono ?_
  rintro e w1 ⟨rfl, hr, hb, -⟩
  have KC := Lib.hid (joined_any w.heap.size w1 hr)
  replace hb := Lib.hid hb
  clear HO hr
  go_wp2_with (fail)
  refine KC.out.mono ?_
  rintro e w2 ⟨v, l, s, q, rfl, HD, hf, hs⟩
  obtain ⟨B, c', rfl, -⟩ := HD.own.strs
  have HF : DrawnJ w (.returned (.tuple #[.slice B l.length c', .string s])) w2 := ⟨_, l, s, rfl, HD.own.mono hb.out.size, hf, hs, low_read hb.out HD.gr⟩
  replace HF := Lib.hid HF
  clear HD hf hb KC
  go_wp2
  refine bodyPost_ret (v := .tuple #[.slice B l.length c', .string s]) (by simp [results, Try.results32, go_sem]) rfl ?_
  exact HF.out

set_option maxRecDepth 100000 in
set_option maxHeartbeats 2000000 in
theorem drawTornOf_any (A : Option Addr) (n c : Nat) (xs : List Int) (w : World) (h : Ints w .u8 A n c xs) (hn : n ≤ 1048576) (hwf : ∀ x ∈ xs, (Lit.int .u8 x).wf = true) (hc : c ≤ maxLen) :
    Calls Try.prog 35 #[.slice A n c] w (DrawnJ w) := by
  have HO := Lib.hid (open_any A n c xs w h hn hwf hc)
  clear h hwf hc
  go_enter Try.func35, Try.ntmps35
  go_wp2_with (fail)
  refine HO.out.mono ?_
  rintro e w1 ⟨rfl, hr, hb, -⟩
  have KC := Lib.hid (joined_any w.heap.size w1 hr)
  replace hb := Lib.hid hb
  clear HO hr
  go_wp2_with (fail)
  refine KC.out.mono ?_
  rintro e w2 ⟨v, l, s, q, rfl, HD, hf, hs⟩
  obtain ⟨B, c', rfl, -⟩ := HD.own.strs
  have HF : DrawnJ w (.returned (.tuple #[.slice B l.length c', .string s])) w2 := ⟨_, l, s, rfl, HD.own.mono hb.out.size, hf, hs, low_read hb.out HD.gr⟩
  replace HF := Lib.hid HF
  clear HD hf hb KC
  go_wp2
  refine bodyPost_ret (v := .tuple #[.slice B l.length c', .string s]) (by simp [results, Try.results35, go_sem]) rfl ?_
  exact HF.out
end Go.Proofs.Ytbghgpgpljdjkaa
