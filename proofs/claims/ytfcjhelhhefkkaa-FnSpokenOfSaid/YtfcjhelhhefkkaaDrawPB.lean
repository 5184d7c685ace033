/-
  The draws of chapter 11 without a tongue, out of bytes.
-/
import Derived.Test.YtfcjhelhhefkkaaDrawP
namespace Go.Proofs.Ytfcjhelhhefkkaa
open Go.RowKit

theorem rw_low {w w1 w2 : World} {q : Nat} (hb : Below w.heap.size w w1) (h : RW w1 w.heap.size w2 q) : Below w.heap.size w w2 := hb.grown h.gr hb.size (fun k e => by cases e; exact Nat.le_refl _)
/-- A text is drawn from bytes. -/
def DrawnS (w : World) (e : Ending) (w' : World) : Prop := ∃ s, e = .returned (.string s) ∧ s.size ≤ 63 ∧ Below w.heap.size w w'
/-- A text and a number are drawn. -/
def DrawnSN (w : World) (e : Ending) (w' : World) : Prop := ∃ (s : ByteArray) (n : Int), e = .returned (.tuple #[.string s, .int .i64 n]) ∧ s.size ≤ 63 ∧ (-1000 ≤ n ∧ n ≤ 1000) ∧ Below w.heap.size w w'
/-- Two texts and a number are drawn. -/
def DrawnSS (w : World) (e : Ending) (w' : World) : Prop := ∃ (s u : ByteArray) (n : Int), e = .returned (.tuple #[.string s, .string u, .int .i64 n]) ∧ s.size ≤ 63 ∧ u.size ≤ 63 ∧ (-1000 ≤ n ∧ n ≤ 1000) ∧ Below w.heap.size w w'
theorem saidL_len {l x : List UInt8} (h : saidL l = some x) : x.length ≤ 60 := by
  obtain ⟨_, h2, rfl⟩ := saidL_some.1 h
  exact row_len h2

set_option maxRecDepth 100000 in
set_option maxHeartbeats 4000000 in
theorem drawRowOk_any (A : Option Addr) (n c : Nat) (xs : List Int) (w : World) (h : Ints w .u8 A n c xs) (hn : n ≤ 1048576) (hwf : ∀ x ∈ xs, (Lit.int .u8 x).wf = true) (hc : c ≤ maxLen) :
    Calls Try.prog 17 #[.slice A n c] w (DrawnS w) := by
  have HO := Lib.hid (open_any A n c xs w h hn hwf hc)
  clear h hwf hc
  go_enter Try.func17, Try.ntmps17
  go_wp2_with (fail)
  refine HO.out.mono ?_
  rintro e w1 ⟨rfl, hr, hb, -⟩
  replace hb := Lib.hid hb
  have KD := Lib.hid (digits_any w.heap.size 0 2 w1 hr (by omega) (by omega))
  clear HO hr
  go_wp2_with (fail)
  refine KD.out.mono ?_
  rintro e w2 ⟨s, q, rfl, hs, hq, HD⟩
  have HF := Lib.hid (rw_low hb.out HD)
  clear HD hb KD
  go_wp2
  go_ret
  exact ⟨s, rfl, hs, HF.out⟩

set_option maxRecDepth 100000 in
set_option maxHeartbeats 4000000 in
theorem drawRunsOf_any (A : Option Addr) (n c : Nat) (xs : List Int) (w : World) (h : Ints w .u8 A n c xs) (hn : n ≤ 1048576) (hwf : ∀ x ∈ xs, (Lit.int .u8 x).wf = true) (hc : c ≤ maxLen) :
    Calls Try.prog 21 #[.slice A n c] w (DrawnS w) := by
  have HO := Lib.hid (open_any A n c xs w h hn hwf hc)
  clear h hwf hc
  go_enter Try.func21, Try.ntmps21
  go_wp2_with (fail)
  refine HO.out.mono ?_
  rintro e w1 ⟨rfl, hr, hb, -⟩
  replace hb := Lib.hid hb
  have KD := Lib.hid (digits_any w.heap.size 0 9 w1 hr (by omega) (by omega))
  clear HO hr
  go_wp2_with (fail)
  refine KD.out.mono ?_
  rintro e w2 ⟨s, q, rfl, hs, hq, HD⟩
  have HF := Lib.hid (rw_low hb.out HD)
  clear HD hb KD
  go_wp2
  go_ret
  exact ⟨s, rfl, hs, HF.out⟩

set_option maxRecDepth 100000 in
set_option maxHeartbeats 4000000 in
theorem drawSaidOf_any (A : Option Addr) (n c : Nat) (xs : List Int) (w : World) (h : Ints w .u8 A n c xs) (hn : n ≤ 1048576) (hwf : ∀ x ∈ xs, (Lit.int .u8 x).wf = true) (hc : c ≤ maxLen) :
    Calls Try.prog 25 #[.slice A n c] w (DrawnS w) := by
  have HO := Lib.hid (open_any A n c xs w h hn hwf hc)
  clear h hwf hc
  go_enter Try.func25, Try.ntmps25
  go_wp2_with (fail)
  refine HO.out.mono ?_
  rintro e w1 ⟨rfl, hr, hb, -⟩
  replace hb := Lib.hid hb
  have KD := Lib.hid (digits_any w.heap.size 0 9 w1 hr (by omega) (by omega))
  clear HO hr
  go_wp2_with (fail)
  refine KD.out.mono ?_
  rintro e w2 ⟨s, q, rfl, hs, hq, HD⟩
  have HF := Lib.hid (rw_low hb.out HD)
  clear HD hb KD
  go_wp2
  go_ret
  exact ⟨s, rfl, hs, HF.out⟩

set_option maxRecDepth 100000 in
set_option maxHeartbeats 4000000 in
theorem drawUnsaidOf_any (A : Option Addr) (n c : Nat) (xs : List Int) (w : World) (h : Ints w .u8 A n c xs) (hn : n ≤ 1048576) (hwf : ∀ x ∈ xs, (Lit.int .u8 x).wf = true) (hc : c ≤ maxLen) :
    Calls Try.prog 29 #[.slice A n c] w (DrawnS w) := by
  have HO := Lib.hid (open_any A n c xs w h hn hwf hc)
  have hPk := Lib.hid (fun W q (hr : Rd W w.heap.size q) (hq : q ≤ 5000) (m : Int) (hm : 1 ≤ m) (hm' : m ≤ 1000) => pick_any w.heap.size q m W hr (by omega) (by omega) (by omega))
  clear h hwf hc
  go_enter Try.func29, Try.ntmps29
  go_wp2_with (fail)
  refine HO.out.mono ?_
  rintro e w1 ⟨rfl, hr, hb, -⟩
  replace hb := Lib.hid hb
  have KD := Lib.hid (digits_any w.heap.size 0 12 w1 hr (by omega) (by omega))
  clear HO hr
  go_wp2_with (fail)
  refine KD.out.mono ?_
  rintro e w2 ⟨s, q, rfl, hs, hq, HD⟩
  have H2 := Lib.hid HD
  have KS := specSaidOf_any s w2 (by omega)
  clear HD KD
  cases hsd : saidL (tl s) with
  | none =>
    rw [hsd, optV_none] at KS
    replace hsd := Lib.hid hsd
    go_wp2_with (fail)
    refine KS.mono ?_
    rintro e w3 ⟨rfl, b3⟩
    have HF := Lib.hid (rw_low hb.out (H2.out.below b3))
    clear b3
    go_wp2
    go_ret
    exact ⟨s, rfl, hs, HF.out⟩
  | some x =>
    have hxl := saidL_len hsd
    rw [hsd, optV_some] at KS
    replace hsd := Lib.hid hsd
    go_wp2_with (fail)
    refine KS.mono ?_
    rintro e w3 ⟨rfl, b3⟩
    have H3 := Lib.hid (H2.out.below b3)
    clear b3 KS
    go_wp2_with (fail)
    refine (hPk.out w3 (q) H3.out.rd (by omega) 3 (by omega) (by omega)).mono ?_
    rintro e w4 ⟨ka, rfl, hka, hra, hga, -⟩
    obtain ⟨a, rfl⟩ : ∃ a : Nat, ka = (a : Int) := ⟨ka.toNat, by omega⟩
    have ha : a < 3 := by omega
    have H4 := Lib.hid (H3.out.pick hra hga)
    clear hra hga hka
    have HF := Lib.hid (rw_low hb.out H4.out)
    have hxs : (strOf x).size ≤ 63 := by rw [strOf_size]; omega
    generalize strOf x = y at *
    by_cases h0 : 0 < a
    · have h0' : (0 : Int) < (a : Int) := by omega
      go_wp2
      go_ret
      exact ⟨y, rfl, hxs, HF.out⟩
    · obtain rfl : a = 0 := by omega
      go_wp2
      go_ret
      exact ⟨s, rfl, hs, HF.out⟩

set_option maxRecDepth 100000 in
set_option maxHeartbeats 4000000 in
theorem drawSaidAgain_any (A : Option Addr) (n c : Nat) (xs : List Int) (w : World) (h : Ints w .u8 A n c xs) (hn : n ≤ 1048576) (hwf : ∀ x ∈ xs, (Lit.int .u8 x).wf = true) (hc : c ≤ maxLen) :
    Calls Try.prog 31 #[.slice A n c] w (DrawnSN w) := by
  have HO := Lib.hid (open_any A n c xs w h hn hwf hc)
  have hPk := Lib.hid (fun W q (hr : Rd W w.heap.size q) (hq : q ≤ 5000) (m : Int) (hm : 1 ≤ m) (hm' : m ≤ 1000) => pick_any w.heap.size q m W hr (by omega) (by omega) (by omega))
  clear h hwf hc
  go_enter Try.func31, Try.ntmps31
  go_wp2_with (fail)
  refine HO.out.mono ?_
  rintro e w1 ⟨rfl, hr, hb, -⟩
  replace hb := Lib.hid hb
  have H1 := Lib.hid (RW.start (w := w1) hr)
  clear HO hr
  have KD1 := Lib.hid (digits_any w.heap.size (0) 9 w1 H1.out.rd (by omega) (by omega))
  go_wp2_with (fail)
  refine KD1.out.mono ?_
  rintro e wa1 ⟨s1, q1, rfl, hs1, hq1, HD1⟩
  have HB1 : Hid (RW w1 w.heap.size wa1 q1) := ⟨HD1.rd, H1.out.gr.trans HD1.gr⟩
  have HA1 := Lib.hid (HB1.out.alloc (.cells #[.string ⟨#[49]⟩, .string ⟨#[50, 50]⟩, .string ⟨#[51]⟩, .string ⟨#[]⟩, .string s1] 9))
  have hN1 := Lib.hid (Blk.new wa1 9 #[.string ⟨#[49]⟩, .string ⟨#[50, 50]⟩, .string ⟨#[51]⟩, .string ⟨#[]⟩, .string s1])
  have hgl1 := HB1.out.glt
  clear HD1 KD1
  go_wp2_with (fail)
  refine (hPk.out _ (q1) HA1.out.rd (by omega) 9 (by omega) (by omega)).mono ?_
  rintro e wb1 ⟨ka1, rfl, hka1, hra1, hga1, -⟩
  obtain ⟨a1, rfl⟩ : ∃ a1 : Nat, ka1 = (a1 : Int) := ⟨ka1.toNat, by omega⟩
  have ha1 : a1 < 9 := by omega
  have HC1 := Lib.hid (HA1.out.pick hra1 hga1)
  obtain ⟨y1, hy1, hys1⟩ := pickL [⟨#[49]⟩, ⟨#[50, 50]⟩, ⟨#[51]⟩, ⟨#[]⟩, s1] 63 (a1 / 2) (by simp; omega) (by
    intro x hx
    simp only [List.mem_cons, List.mem_nil_iff, or_false] at hx
    rcases hx with rfl | rfl | rfl | rfl | rfl
    · decide
    · decide
    · decide
    · decide
    · exact hs1)
  have hc1 : wb1.cell? ⟨wa1.heap.size, a1 / 2, none⟩ = some (.string y1) := ((hN1.out.grown hga1 (by simp; omega)).cell (a1 / 2)).trans hy1
  have hd11 : ((a1 : Int)).tdiv 2 = ((a1 / 2 : Nat) : Int) := by rw [Int.tdiv_eq_ediv_of_nonneg (by omega)]; omega
  have hd21 : IntKind.i64.wrap (((a1 / 2 : Nat) : Int)) = ((a1 / 2 : Nat) : Int) := IntWalk.i64_in _ (by omega)
  have hd31 : ((a1 / 2 : Nat) : Int) < 5 := by omega
  have hd41 : (0 : Int) ≤ ((a1 / 2 : Nat) : Int) := by omega
  generalize a1 / 2 = d1 at *
  clear hra1 hga1 hka1 hy1 hN1
  go_wp2_with (fail)
  refine (hPk.out _ (q1 + 1) HC1.out.rd (by omega) 8 (by omega) (by omega)).mono ?_
  rintro e w3 ⟨kbp, rfl, hkbp, hrbp, hgbp, -⟩
  obtain ⟨bp, rfl⟩ : ∃ bp : Nat, kbp = (bp : Int) := ⟨kbp.toNat, by omega⟩
  have hbp : bp < 8 := by omega
  have H3 := Lib.hid (HC1.out.pick hrbp hgbp)
  clear hrbp hgbp hkbp
  go_wp2_with (fail)
  refine (hPk.out _ (q1 + 1 + 1) H3.out.rd (by omega) 20 (by omega) (by omega)).mono ?_
  rintro e w4 ⟨kc2, rfl, hkc2, hrc2, hgc2, -⟩
  obtain ⟨c2, rfl⟩ : ∃ c2 : Nat, kc2 = (c2 : Int) := ⟨kc2.toNat, by omega⟩
  have hc2 : c2 < 20 := by omega
  have H4 := Lib.hid (H3.out.pick hrc2 hgc2)
  clear hrc2 hgc2 hkc2
  go_wp2_with (fail)
  refine (hPk.out _ (q1 + 1 + 1 + 1) H4.out.rd (by omega) 30 (by omega) (by omega)).mono ?_
  rintro e w5 ⟨kd2, rfl, hkd2, hrd2, hgd2, -⟩
  obtain ⟨d2, rfl⟩ : ∃ d2 : Nat, kd2 = (d2 : Int) := ⟨kd2.toNat, by omega⟩
  have hd2 : d2 < 30 := by omega
  have H5 := Lib.hid (H4.out.pick hrd2 hgd2)
  clear hrd2 hgd2 hkd2
  have HF := Lib.hid (rw_low hb.out H5.out)
  clear hPk H1 HB1 HA1 HC1 H3 H4 H5
  have hc9 : (c2 : Int).tdiv 19 = ((c2 / 19 : Nat) : Int) := by rw [Int.tdiv_eq_ediv_of_nonneg (by omega)]; omega
  have hd9 : (d2 : Int).tdiv 29 = ((d2 / 29 : Nat) : Int) := by rw [Int.tdiv_eq_ediv_of_nonneg (by omega)]; omega
  have hcz : c2 / 19 ≤ 1 := by omega
  have hdz : d2 / 29 ≤ 1 := by omega
  generalize c2 / 19 = C at *
  generalize d2 / 29 = D at *
  have e1 : IntKind.i64.wrap (C : Int) = (C : Int) := IntWalk.i64_in _ (by omega)
  have e2 : IntKind.i64.wrap (D : Int) = (D : Int) := IntWalk.i64_in _ (by omega)
  have e3 : IntKind.i64.wrap ((C : Int) * 5) = (C : Int) * 5 := IntWalk.i64_in _ (by omega)
  have e4 : IntKind.i64.wrap ((D : Int) * 9) = (D : Int) * 9 := IntWalk.i64_in _ (by omega)
  have e5 : IntKind.i64.wrap ((bp : Int) + (C : Int) * 5) = (bp : Int) + (C : Int) * 5 := IntWalk.i64_in _ (by omega)
  have e6 : IntKind.i64.wrap ((bp : Int) + (C : Int) * 5 - (D : Int) * 9) = (bp : Int) + (C : Int) * 5 - (D : Int) * 9 := IntWalk.i64_in _ (by omega)
  go_wp2
  go_ret2
  exact ⟨y1, _, rfl, hys1, by omega, HF.out⟩

set_option maxRecDepth 100000 in
set_option maxHeartbeats 4000000 in
theorem drawFallsApart_any (A : Option Addr) (n c : Nat) (xs : List Int) (w : World) (h : Ints w .u8 A n c xs) (hn : n ≤ 1048576) (hwf : ∀ x ∈ xs, (Lit.int .u8 x).wf = true) (hc : c ≤ maxLen) :
    Calls Try.prog 34 #[.slice A n c] w (DrawnSS w) := by
  have HO := Lib.hid (open_any A n c xs w h hn hwf hc)
  have hPk := Lib.hid (fun W q (hr : Rd W w.heap.size q) (hq : q ≤ 5000) (m : Int) (hm : 1 ≤ m) (hm' : m ≤ 1000) => pick_any w.heap.size q m W hr (by omega) (by omega) (by omega))
  clear h hwf hc
  go_enter Try.func34, Try.ntmps34
  go_wp2_with (fail)
  refine HO.out.mono ?_
  rintro e w1 ⟨rfl, hr, hb, -⟩
  replace hb := Lib.hid hb
  have H1 := Lib.hid (RW.start (w := w1) hr)
  clear HO hr
  have KD1 := Lib.hid (digits_any w.heap.size (0) 9 w1 H1.out.rd (by omega) (by omega))
  go_wp2_with (fail)
  refine KD1.out.mono ?_
  rintro e wa1 ⟨s1, q1, rfl, hs1, hq1, HD1⟩
  have HB1 : Hid (RW w1 w.heap.size wa1 q1) := ⟨HD1.rd, H1.out.gr.trans HD1.gr⟩
  have HA1 := Lib.hid (HB1.out.alloc (.cells #[.string ⟨#[50]⟩, .string ⟨#[49, 50]⟩, .string ⟨#[49, 49, 49, 50]⟩, .string ⟨#[51]⟩, .string ⟨#[50, 50]⟩, .string s1] 9))
  have hN1 := Lib.hid (Blk.new wa1 9 #[.string ⟨#[50]⟩, .string ⟨#[49, 50]⟩, .string ⟨#[49, 49, 49, 50]⟩, .string ⟨#[51]⟩, .string ⟨#[50, 50]⟩, .string s1])
  have hgl1 := HB1.out.glt
  clear HD1 KD1
  go_wp2_with (fail)
  refine (hPk.out _ (q1) HA1.out.rd (by omega) 11 (by omega) (by omega)).mono ?_
  rintro e wb1 ⟨ka1, rfl, hka1, hra1, hga1, -⟩
  obtain ⟨a1, rfl⟩ : ∃ a1 : Nat, ka1 = (a1 : Int) := ⟨ka1.toNat, by omega⟩
  have ha1 : a1 < 11 := by omega
  have HC1 := Lib.hid (HA1.out.pick hra1 hga1)
  obtain ⟨y1, hy1, hys1⟩ := pickL [⟨#[50]⟩, ⟨#[49, 50]⟩, ⟨#[49, 49, 49, 50]⟩, ⟨#[51]⟩, ⟨#[50, 50]⟩, s1] 63 (a1 / 2) (by simp; omega) (by
    intro x hx
    simp only [List.mem_cons, List.mem_nil_iff, or_false] at hx
    rcases hx with rfl | rfl | rfl | rfl | rfl | rfl
    · decide
    · decide
    · decide
    · decide
    · decide
    · exact hs1)
  have hc1 : wb1.cell? ⟨wa1.heap.size, a1 / 2, none⟩ = some (.string y1) := ((hN1.out.grown hga1 (by simp; omega)).cell (a1 / 2)).trans hy1
  have hd11 : ((a1 : Int)).tdiv 2 = ((a1 / 2 : Nat) : Int) := by rw [Int.tdiv_eq_ediv_of_nonneg (by omega)]; omega
  have hd21 : IntKind.i64.wrap (((a1 / 2 : Nat) : Int)) = ((a1 / 2 : Nat) : Int) := IntWalk.i64_in _ (by omega)
  have hd31 : ((a1 / 2 : Nat) : Int) < 6 := by omega
  have hd41 : (0 : Int) ≤ ((a1 / 2 : Nat) : Int) := by omega
  generalize a1 / 2 = d1 at *
  clear hra1 hga1 hka1 hy1 hN1
  have KD2 := Lib.hid (digits_any w.heap.size (q1 + 1) 9 wb1 HC1.out.rd (by omega) (by omega))
  go_wp2_with (fail)
  refine KD2.out.mono ?_
  rintro e wa2 ⟨s2, q2, rfl, hs2, hq2, HD2⟩
  have HB2 : Hid (RW w1 w.heap.size wa2 q2) := ⟨HD2.rd, HC1.out.gr.trans HD2.gr⟩
  have HA2 := Lib.hid (HB2.out.alloc (.cells #[.string ⟨#[49]⟩, .string ⟨#[51]⟩, .string ⟨#[49, 51]⟩, .string ⟨#[51, 49, 49]⟩, .string ⟨#[52]⟩, .string s2] 9))
  have hN2 := Lib.hid (Blk.new wa2 9 #[.string ⟨#[49]⟩, .string ⟨#[51]⟩, .string ⟨#[49, 51]⟩, .string ⟨#[51, 49, 49]⟩, .string ⟨#[52]⟩, .string s2])
  have hgl2 := HB2.out.glt
  clear HD2 KD2
  go_wp2_with (fail)
  refine (hPk.out _ (q2) HA2.out.rd (by omega) 11 (by omega) (by omega)).mono ?_
  rintro e wb2 ⟨ka2, rfl, hka2, hra2, hga2, -⟩
  obtain ⟨a2, rfl⟩ : ∃ a2 : Nat, ka2 = (a2 : Int) := ⟨ka2.toNat, by omega⟩
  have ha2 : a2 < 11 := by omega
  have HC2 := Lib.hid (HA2.out.pick hra2 hga2)
  obtain ⟨y2, hy2, hys2⟩ := pickL [⟨#[49]⟩, ⟨#[51]⟩, ⟨#[49, 51]⟩, ⟨#[51, 49, 49]⟩, ⟨#[52]⟩, s2] 63 (a2 / 2) (by simp; omega) (by
    intro x hx
    simp only [List.mem_cons, List.mem_nil_iff, or_false] at hx
    rcases hx with rfl | rfl | rfl | rfl | rfl | rfl
    · decide
    · decide
    · decide
    · decide
    · decide
    · exact hs2)
  have hc2 : wb2.cell? ⟨wa2.heap.size, a2 / 2, none⟩ = some (.string y2) := ((hN2.out.grown hga2 (by simp; omega)).cell (a2 / 2)).trans hy2
  have hd12 : ((a2 : Int)).tdiv 2 = ((a2 / 2 : Nat) : Int) := by rw [Int.tdiv_eq_ediv_of_nonneg (by omega)]; omega
  have hd22 : IntKind.i64.wrap (((a2 / 2 : Nat) : Int)) = ((a2 / 2 : Nat) : Int) := IntWalk.i64_in _ (by omega)
  have hd32 : ((a2 / 2 : Nat) : Int) < 6 := by omega
  have hd42 : (0 : Int) ≤ ((a2 / 2 : Nat) : Int) := by omega
  generalize a2 / 2 = d2 at *
  clear hra2 hga2 hka2 hy2 hN2
  go_wp2_with (fail)
  refine (hPk.out _ (q2 + 1) HC2.out.rd (by omega) 5 (by omega) (by omega)).mono ?_
  rintro e w3 ⟨kbp, rfl, hkbp, hrbp, hgbp, -⟩
  obtain ⟨bp, rfl⟩ : ∃ bp : Nat, kbp = (bp : Int) := ⟨kbp.toNat, by omega⟩
  have hbp : bp < 5 := by omega
  have H3 := Lib.hid (HC2.out.pick hrbp hgbp)
  clear hrbp hgbp hkbp
  go_wp2_with (fail)
  refine (hPk.out _ (q2 + 1 + 1) H3.out.rd (by omega) 20 (by omega) (by omega)).mono ?_
  rintro e w4 ⟨kc2, rfl, hkc2, hrc2, hgc2, -⟩
  obtain ⟨c2, rfl⟩ : ∃ c2 : Nat, kc2 = (c2 : Int) := ⟨kc2.toNat, by omega⟩
  have hc2 : c2 < 20 := by omega
  have H4 := Lib.hid (H3.out.pick hrc2 hgc2)
  clear hrc2 hgc2 hkc2
  have HF := Lib.hid (rw_low hb.out H4.out)
  clear hPk H1 HB1 HA1 HC1 HB2 HA2 HC2 H3 H4
  have hc9 : (c2 : Int).tdiv 19 = ((c2 / 19 : Nat) : Int) := by rw [Int.tdiv_eq_ediv_of_nonneg (by omega)]; omega
  have hcz : c2 / 19 ≤ 1 := by omega
  generalize c2 / 19 = C at *
  have e1 : IntKind.i64.wrap (C : Int) = (C : Int) := IntWalk.i64_in _ (by omega)
  have e5 : IntKind.i64.wrap ((bp : Int) - (C : Int)) = (bp : Int) - (C : Int) := IntWalk.i64_in _ (by omega)
  go_wp2
  go_ret3
  exact ⟨y1, y2, _, rfl, hys1, hys2, by omega, HF.out⟩
end Go.Proofs.Ytfcjhelhhefkkaa
