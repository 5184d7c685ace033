/-
  The program's comparison of two numbers by their texts (a closure over the row of texts), and its merge of two rows in order.
-/
import Derived.Test.YtjggdlnbfoglaaaY1
import Derived.Test.YtjggdlnbfoglaaaLK
import Derived.Laws.EntriesVeiled
import Derived.BigQuiet
namespace Go.Proofs.Ytjggdlnbfoglaaa
open Go.RowKit Go.Sort

/-- The closure: it knows the cell in which the row of texts lies. -/
abbrev lessV (tb : Nat) : Value := .func (.func 55) #[] #[.pointer (some ⟨tb, 0, none⟩)]
set_option maxRecDepth 100000 in
set_option maxHeartbeats 1000000 in
theorem less_any (T : List ByteArray) (A : Option Addr) (c tb : Nat) (W : World) (hb : Blk W tb 23 #[.slice A T.length c]) (hS : Strs W A T.length c T) (a b : Nat) (ha : a < T.length) (hb2 : b < T.length) (hT : T.length ≤ 1000) :
    Calls Try.prog 55 #[.int .i64 ((a : Int) + 1), .int .i64 ((b : Int) + 1), .pointer (some ⟨tb, 0, none⟩)] W fun e w' => e = .returned (.bool (decide ((T.getD a ByteArray.empty).data.toList < (T.getD b ByteArray.empty).data.toList))) ∧ ∃ m, w' = W.drewN m := by
  have x0 := hb.cell 0
  simp only [List.getElem?_toArray, List.getElem?_cons_zero] at x0
  obtain ⟨g, o, rfl, -, hc⟩ := hS.at_ (by omega)
  have ca := hc a ha
  have cb := hc b hb2
  have hq := txt_lt (T.getD a ByteArray.empty) (T.getD b ByteArray.empty)
  generalize T.getD a ByteArray.empty = x at *
  generalize T.getD b ByteArray.empty = y at *
  generalize decide (x.data.toList < y.data.toList) = q at *
  generalize T.length = L at *
  have e1 : IntKind.i64.wrap ((a : Int) + 1 - 1) = (a : Int) := by rw [show (a : Int) + 1 - 1 = (a : Int) by omega]; exact IntWalk.i64_in _ (by omega)
  have e2 : IntKind.i64.wrap ((b : Int) + 1 - 1) = (b : Int) := by rw [show (b : Int) + 1 - 1 = (b : Int) by omega]; exact IntWalk.i64_in _ (by omega)
  have e3 : IntKind.i64.wrap (a : Int) = (a : Int) := IntWalk.i64_in _ (by omega)
  have e4 : IntKind.i64.wrap (b : Int) = (b : Int) := IntWalk.i64_in _ (by omega)
  have f1 : (a : Int) < (L : Int) := by omega
  have f2 : (b : Int) < (L : Int) := by omega
  clear hc hS hb
  go_enter Try.func55, Try.ntmps55
  go_upto_region 1 with (fail)
  go_quiet (fail)
  go_wp2
  go_ret
  exact ⟨rfl, _, rfl⟩

theorem quiet_more {P : Program} {f : FuncId} {args : Array Value} {w : World} {n : Nat} {v : Value}
    (h : Calls P f args (w.drewN n) fun e w' => e = .returned v ∧ ∃ m, w' = (w.drewN n).drewN m) : Calls P f args (w.drewN n) fun e w'' => e = .returned v ∧ ∃ m, w'' = w.drewN m :=
  h.mono fun _ _ ⟨he, m, hm⟩ => ⟨he, n + m, by rw [hm, World.drewN_drewN]⟩
/-- How long a slice is. -/
def sliceLen : Value → Nat
  | .slice _ n _ => n
  | _ => 0
theorem merge_none {le : Int → Int → Bool} {xs ys : List Int} (h : xs.length = 0 ∨ ys.length = 0) : List.merge ys xs le = xs ++ ys := by
  rcases h with h | h
  · rw [List.eq_nil_of_length_eq_zero h]; simp
  · rw [List.eq_nil_of_length_eq_zero h]; simp
theorem merge_first {f : Int → List UInt8} {x y : Int} {xs ys : List Int} (h : f x < f y) : List.merge (y :: ys) (x :: xs) (leF f) = x :: List.merge (y :: ys) xs (leF f) := by
  rw [List.merge, if_neg (by rw [leF_lt h]; simp)]
theorem merge_second {f : Int → List UInt8} {x y : Int} {xs ys : List Int} (h : ¬ f x < f y) : List.merge (y :: ys) (x :: xs) (leF f) = y :: List.merge ys (x :: xs) (leF f) := by
  rw [List.merge, if_pos (leF_not h)]
/-- A slice behind its first number. -/
theorem Ints.behind {w : World} {k : IntKind} {b o c : Nat} {x : Int} {xs : List Int} (h : Ints w k (some ⟨b, o, none⟩) (x :: xs).length c (x :: xs)) : Ints w k (some ⟨b, o + 1, none⟩) xs.length (c - 1) xs := by
  have := h.dropI (m := 1) (by simp)
  simpa using this
theorem Ints.behind0 {w : World} {k : IntKind} {A : Option Addr} {c : Nat} {x : Int} {xs : List Int} (h : Ints w k A (x :: xs).length c (x :: xs)) (hc : c = 1) : xs = [] := by
  have h1 := h.le
  have h2 := h.len
  subst hc
  exact List.eq_nil_of_length_eq_zero (by simp at h1; simpa using h1)
theorem src_ints {w : World} {A : Option Addr} {n c : Nat} {xs : List Int} (h : Ints w .i64 A n c xs) : Src w A n (xs.map (Value.int .i64)) := h.src

/-- Compares numbers from 1 to M by f, and only reads. -/
def LessIs (f : Int → List UInt8) (M tb : Nat) (W0 : World) : Prop := ∀ W, Below W0.heap.size W0 W → ∀ a b : Int, 1 ≤ a → a ≤ M → 1 ≤ b → b ≤ M → Calls Try.prog 55 #[.int .i64 a, .int .i64 b, .pointer (some ⟨tb, 0, none⟩)] W fun e w' => e = .returned (.bool (decide (f a < f b))) ∧ ∃ m, w' = W.drewN m

/-- While two rows are merged. -/
structure MergeSt (f : Int → List UInt8) (M : Nat) (w : World) (R : List Int) (s0 s1 s7 : Value) (wr : World) : Prop where
  ex : ∃ A c xs' A' c' ys' out, s0 = .slice A (List.length xs') c ∧ s1 = .slice A' (List.length ys') c' ∧ Ints w .i64 A xs'.length c xs' ∧ Ints w .i64 A' ys'.length c' ys' ∧ OwnI wr w.heap.size s7 out ∧ out ++ List.merge ys' xs' (leF f) = R ∧ out.length + xs'.length + ys'.length ≤ 1000 ∧ (∀ x ∈ xs', 1 ≤ x ∧ x ≤ (M : Int)) ∧ (∀ x ∈ ys', 1 ≤ x ∧ x ≤ (M : Int)) ∧ Below w.heap.size w wr

set_option maxRecDepth 100000 in
set_option maxHeartbeats 4000000 in
theorem merged_any {f : Int → List UInt8} {M tb : Nat} {W0 : World} (HC : LessIs f M tb W0) (A1 : Option Addr) (n1 c1 : Nat) (xs : List Int) (A2 : Option Addr) (n2 c2 : Nat) (ys : List Int) (w : World) (hW : Below W0.heap.size W0 w)
    (h1 : Ints w .i64 A1 n1 c1 xs) (h2 : Ints w .i64 A2 n2 c2 ys) (hx : ∀ x ∈ xs, 1 ≤ x ∧ x ≤ M) (hy : ∀ x ∈ ys, 1 ≤ x ∧ x ≤ M) (hn : n1 + n2 ≤ 1000) :
    Calls Try.prog 71 #[.slice A1 n1 c1, .slice A2 n2 c2, lessV tb] w (RetO1 w (List.merge ys xs (leF f))) := by
  obtain ⟨i0, hi, hz0, hz1, hz2⟩ := info_parts int_info
  have l1 := h1.len
  have l2 := h2.len
  subst l1
  subst l2
  have hmk := run_make_rowN (P := Try.prog) 24 3 i0 _ Try.underlying24 hi hz0 .i64 .i64 0 (xs.length + ys.length) (Nat.zero_le _) (by rw [hz2]; omega) (by omega) w
  have hw1 : IntKind.i64.wrap ((xs.length : Int) + (ys.length : Int)) = (xs.length : Int) + (ys.length : Int) := IntWalk.i64_in _ (by omega)
  rw [show ((xs.length + ys.length : Nat) : Int) = (xs.length : Int) + (ys.length : Int) by omega] at hmk
  simp only [Int.natCast_zero] at hmk
  have hM0 := Lib.hid (World.ownsRow_made (base := w.heap.size) (e := 3) (size := 1) w (madeCells #[.int .i64 0] (xs.length + ys.length)) (xs.length + ys.length) (Nat.le_refl _) (by unfold maxLen; omega) (by simp [madeCells]))
  replace HC := Lib.hid HC
  replace hW := Lib.hid hW
  replace hx := Lib.hid hx
  replace hy := Lib.hid hy
  replace h1 := Lib.hid h1
  replace h2 := Lib.hid h2
  obtain ⟨R, hR⟩ : ∃ R, List.merge ys xs (leF f) = R := ⟨_, rfl⟩
  rw [hR]
  replace hR := Lib.hid hR
  go_enter Try.func71, Try.ntmps71
  go_wp2
  go_loopw [0, 1, 7] (fun s0 s1 s7 wr => MergeSt f M w R s0 s1 s7 wr) (fun s0 s1 _ _ => sliceLen s0 + sliceLen s1)
  case atStart => exact ⟨⟨A1, c1, xs, A2, c2, ys, [], rfl, rfl, h1.out, h2.out, hM0.out, by simpa using hR.out, by simpa using hn, hx.out, hy.out, (Below.refl _ _).alloc (Nat.le_refl _) _⟩⟩
  case round =>
    clear h1 h2 hx hy hmk hM0 hR hn hw1
    obtain ⟨A, c, xs', A', c', ys', out, rfl, rfl, h1, h2, ho, hR, hn, hx, hy, hBr⟩ := hrel.ex
    clear hrel
    obtain ⟨A7, c7, rfl, -⟩ := ho.ints
    replace ho := Lib.hid ho
    by_cases hgo : 0 < xs'.length ∧ 0 < ys'.length
    · obtain ⟨p1, p2⟩ := hgo
      obtain ⟨x, xr, rfl⟩ : ∃ x xr, xs' = x :: xr := by
        cases xs' with
        | nil => simp at p1
        | cons x xr => exact ⟨x, xr, rfl⟩
      obtain ⟨y, yr, rfl⟩ : ∃ y yr, ys' = y :: yr := by
        cases ys' with
        | nil => simp at p2
        | cons y yr => exact ⟨y, yr, rfl⟩
      have bx := hx x (by simp)
      have by2 := hy y (by simp)
      have hxr := Lib.hid (fun z (hz : z ∈ xr) => hx z (List.mem_cons_of_mem _ hz))
      have hyr := Lib.hid (fun z (hz : z ∈ yr) => hy z (List.mem_cons_of_mem _ hz))
      obtain ⟨b1, o1, rfl, hb1, hc1⟩ := h1.at_ p1
      obtain ⟨b2, o2, rfl, hb2, hc2⟩ := h2.at_ p2
      have cx0 : w.cell? ⟨b1, o1, none⟩ = some (.int .i64 x) := hc1 0 p1
      have cy0 : w.cell? ⟨b2, o2, none⟩ = some (.int .i64 y) := hc2 0 p2
      have cx := (hBr.cell (p := ⟨b1, o1, none⟩) hb1).trans cx0
      have cy := (hBr.cell (p := ⟨b2, o2, none⟩) hb2).trans cy0
      have HQ := Lib.hid (fun m => HC.out (wr.drewN m) (below_drewN (hW.out.trans (hBr.mono hW.out.size)) m) x y bx.1 bx.2 by2.1 by2.2)
      have M1 := Lib.hid (fun h => merge_first (f := f) (x := x) (y := y) (xs := xr) (ys := yr) h)
      have M2 := Lib.hid (fun h => merge_second (f := f) (x := x) (y := y) (xs := xr) (ys := yr) h)
      have z1 := Lib.hid h1.behind
      have z2 := Lib.hid h2.behind
      have z3 := Lib.hid (fun h => h1.behind0 h)
      have z4 := Lib.hid (fun h => h2.behind0 h)
      have hle1 := h1.le
      have hle2 := h2.le
      obtain ⟨L1, hL1⟩ : ∃ L1, (x :: xr).length = L1 + 1 := ⟨xr.length, rfl⟩
      obtain ⟨L2, hL2⟩ : ∃ L2, (y :: yr).length = L2 + 1 := ⟨yr.length, rfl⟩
      have hL1' : xr.length = L1 := by simpa using hL1
      have hL2' : yr.length = L2 := by simpa using hL2
      have h1w := Lib.hid h1
      have h2w := Lib.hid h2
      rw [hL1] at hle1 hn p1
      rw [hL2] at hle2 hn p2
      rw [hL1, hL2]
      replace hx := Lib.hid hx
      replace hy := Lib.hid hy
      replace hR := Lib.hid hR
      replace hL1 := Lib.hid hL1
      replace hL2 := Lib.hid hL2
      replace hL1' := Lib.hid hL1'
      replace hL2' := Lib.hid hL2'
      clear hc1 hc2 bx by2 h1 h2 cx0 cy0
      obtain ⟨q, hq⟩ : ∃ q, decide (f x < f y) = q := ⟨_, rfl⟩
      rw [hq] at HQ
      have r1 : (1 : Int) ≤ (L1 : Int) + 1 := by omega
      have r2 : (1 : Int) ≤ (L2 : Int) + 1 := by omega
      have q1 : (0 : Int) < (L1 : Int) + 1 := by omega
      have q2 : (0 : Int) < (L2 : Int) + 1 := by omega
      replace hBr := Lib.hid hBr
      go_upto_region 3 with (fail)
      go_quiet ((go_at_call 55; exact quiet_more (HQ.out _)))
      have hB3 := Lib.hid (below_drewN hBr.out nq)
      have ho3 := Lib.hid (ho.out.below (below_drewN (Below.refl wr.heap.size wr) nq) (Nat.le_refl _))
      have cx3 : (wr.drewN nq).cell? ⟨b1, o1, none⟩ = some (.int .i64 x) := cx
      have cy3 : (wr.drewN nq).cell? ⟨b2, o2, none⟩ = some (.int .i64 y) := cy
      clear cx cy HQ ho hBr
      generalize wr.drewN nq = Wn at *
      cases q
      · have hm := Lib.hid (M2.out (of_decide_eq_false hq))
        have hR2 : Hid ((out ++ [y]) ++ List.merge yr (x :: xr) (leF f) = R) := Lib.hid (by rw [← hR.out, hm.out]; simp)
        replace hq := Lib.hid hq
        clear cx3
        have k1 := Lib.hid (show out.length + 1 ≤ maxLen by unfold maxLen; omega)
        have k2 := Lib.hid (show (out.length + 1) * 8 ≤ 140737488355328 by omega)
        have HL := Lib.hid (Src.one (Blk.new Wn 3 #[.int .i64 y]) rfl)
        have HL2 := Lib.hid (Src.one (Blk.new Wn.drew 3 #[.int .i64 y]) rfl)
        have HO := Lib.hid (World.ownsRow.alloc ho3.out (.cells #[.int .i64 y] 3))
        have HO2 : Hid ((Wn.drew.alloc (.cells #[.int .i64 y] 3)).ownsRow w.heap.size 3 1 (.slice A7 out.length c7) out.length (out.map (Value.int .i64))) := HO.out
        have HS := Lib.hid (hB3.out.alloc hB3.out.size (.cells #[.int .i64 y] 3))
        have HS2 : Hid (Below w.heap.size w (Wn.drew.alloc (.cells #[.int .i64 y] 3))) := hB3.out.drew.alloc hB3.out.size _
        by_cases hca : c' = 1
        · have hnil := Lib.hid (z4.out hca)
          have hL0 : L2 = 0 := by omega
          have hR3 : Hid ((out ++ [y]) ++ List.merge [] (x :: xr) (leF f) = R) := Lib.hid (by have := hR2.out; rwa [hnil.out] at this)
          have hlen : Hid ((out ++ [y]).length + (x :: xr).length + ([] : List Int).length ≤ 1000) := Lib.hid (by rw [hL1.out]; simp; omega)
          subst hca
          subst hL0
          go_upto_region 5 with (fail)
          go_region_law (first
            | (refine step_app _ (by rfl) (.tmp 38) (.tmp 42) _ (by rfl) w.heap.size 3 i0 _ 8 Try.underlying24 hi hz0 hz1 hz2 rfl (.slice A7 out.length c7) _ _ (by rfl) (by first | exact HO.out | exact HO2.out) (some ⟨Wn.heap.size, 0, none⟩) 1 1 [.int .i64 y] (by rfl) (by first | exact HL.out | exact HL2.out) k1.out k2.out (by first | exact HS.out.size | exact HS2.out.size) ?_; intro v5 w5 ho5 hg5 _; have hB5 := Lib.hid (by first | exact below_own HS.out HO.out hg5 HS.out.size (Nat.le_refl _) | exact below_own HS2.out HO2.out hg5 HS2.out.size (Nat.le_refl _)); have ho6 := Lib.hid (own_snocW ho5); clear ho5 hg5))
          all_goals
            (try go_simp)
            go_wp2
            go_roundw
            case rel => exact ⟨⟨some ⟨b1, o1, none⟩, c, x :: xr, some ⟨b2, o2, none⟩, 0, [], out ++ [y], by rw [hL1.out], rfl, h1w.out, ints_nil _ _ _ _, ho6.out, hR3.out, hlen.out, hx.out, (fun z hz => by cases hz), hB5.out⟩⟩
            case measure => simp [sliceLen]
        · have hca' : ¬ 1 = c' := fun e => hca e.symm
          have hlen : Hid ((out ++ [y]).length + (x :: xr).length + yr.length ≤ 1000) := Lib.hid (by rw [hL1.out, hL2'.out]; simp; omega)
          go_upto_region 5 with (fail)
          go_region_law (first
            | (refine step_app _ (by rfl) (.tmp 38) (.tmp 42) _ (by rfl) w.heap.size 3 i0 _ 8 Try.underlying24 hi hz0 hz1 hz2 rfl (.slice A7 out.length c7) _ _ (by rfl) (by first | exact HO.out | exact HO2.out) (some ⟨Wn.heap.size, 0, none⟩) 1 1 [.int .i64 y] (by rfl) (by first | exact HL.out | exact HL2.out) k1.out k2.out (by first | exact HS.out.size | exact HS2.out.size) ?_; intro v5 w5 ho5 hg5 _; have hB5 := Lib.hid (by first | exact below_own HS.out HO.out hg5 HS.out.size (Nat.le_refl _) | exact below_own HS2.out HO2.out hg5 HS2.out.size (Nat.le_refl _)); have ho6 := Lib.hid (own_snocW ho5); clear ho5 hg5))
          all_goals
            (try go_simp)
            go_wp2
            go_roundw
            case rel => exact ⟨⟨some ⟨b1, o1, none⟩, c, x :: xr, some ⟨b2, o2 + 1, none⟩, c' - 1, yr, out ++ [y], by rw [hL1.out], (by rw [hL2'.out]), h1w.out, z2.out, ho6.out, hR2.out, hlen.out, hx.out, hyr.out, hB5.out⟩⟩
            case measure => show (L1 + 1) + L2 < (L1 + 1) + (L2 + 1); omega
      · have hm := Lib.hid (M1.out (of_decide_eq_true hq))
        have hR2 : Hid ((out ++ [x]) ++ List.merge (y :: yr) xr (leF f) = R) := Lib.hid (by rw [← hR.out, hm.out]; simp)
        replace hq := Lib.hid hq
        clear cy3
        have k1 := Lib.hid (show out.length + 1 ≤ maxLen by unfold maxLen; omega)
        have k2 := Lib.hid (show (out.length + 1) * 8 ≤ 140737488355328 by omega)
        have HL := Lib.hid (Src.one (Blk.new Wn 3 #[.int .i64 x]) rfl)
        have HL2 := Lib.hid (Src.one (Blk.new Wn.drew 3 #[.int .i64 x]) rfl)
        have HO := Lib.hid (World.ownsRow.alloc ho3.out (.cells #[.int .i64 x] 3))
        have HO2 : Hid ((Wn.drew.alloc (.cells #[.int .i64 x] 3)).ownsRow w.heap.size 3 1 (.slice A7 out.length c7) out.length (out.map (Value.int .i64))) := HO.out
        have HS := Lib.hid (hB3.out.alloc hB3.out.size (.cells #[.int .i64 x] 3))
        have HS2 : Hid (Below w.heap.size w (Wn.drew.alloc (.cells #[.int .i64 x] 3))) := hB3.out.drew.alloc hB3.out.size _
        by_cases hca : c = 1
        · have hnil := Lib.hid (z3.out hca)
          have hL0 : L1 = 0 := by omega
          have hR3 : Hid ((out ++ [x]) ++ List.merge (y :: yr) [] (leF f) = R) := Lib.hid (by have := hR2.out; rwa [hnil.out] at this)
          have hlen : Hid ((out ++ [x]).length + ([] : List Int).length + (y :: yr).length ≤ 1000) := Lib.hid (by rw [hL2.out]; simp; omega)
          subst hca
          subst hL0
          go_upto_region 4 with (fail)
          go_region_law (first
            | (refine step_app _ (by rfl) (.tmp 30) (.tmp 34) _ (by rfl) w.heap.size 3 i0 _ 8 Try.underlying24 hi hz0 hz1 hz2 rfl (.slice A7 out.length c7) _ _ (by rfl) (by first | exact HO.out | exact HO2.out) (some ⟨Wn.heap.size, 0, none⟩) 1 1 [.int .i64 x] (by rfl) (by first | exact HL.out | exact HL2.out) k1.out k2.out (by first | exact HS.out.size | exact HS2.out.size) ?_; intro v5 w5 ho5 hg5 _; have hB5 := Lib.hid (by first | exact below_own HS.out HO.out hg5 HS.out.size (Nat.le_refl _) | exact below_own HS2.out HO2.out hg5 HS2.out.size (Nat.le_refl _)); have ho6 := Lib.hid (own_snocW ho5); clear ho5 hg5))
          all_goals
            (try go_simp)
            go_wp2
            go_roundw
            case rel => exact ⟨⟨some ⟨b1, o1, none⟩, 0, [], some ⟨b2, o2, none⟩, c', y :: yr, out ++ [x], rfl, by rw [hL2.out], ints_nil _ _ _ _, h2w.out, ho6.out, hR3.out, hlen.out, (fun z hz => by cases hz), hy.out, hB5.out⟩⟩
            case measure => simp [sliceLen]
        · have hca' : ¬ 1 = c := fun e => hca e.symm
          have hlen : Hid ((out ++ [x]).length + xr.length + (y :: yr).length ≤ 1000) := Lib.hid (by rw [hL2.out, hL1'.out]; simp; omega)
          go_upto_region 4 with (fail)
          go_region_law (first
            | (refine step_app _ (by rfl) (.tmp 30) (.tmp 34) _ (by rfl) w.heap.size 3 i0 _ 8 Try.underlying24 hi hz0 hz1 hz2 rfl (.slice A7 out.length c7) _ _ (by rfl) (by first | exact HO.out | exact HO2.out) (some ⟨Wn.heap.size, 0, none⟩) 1 1 [.int .i64 x] (by rfl) (by first | exact HL.out | exact HL2.out) k1.out k2.out (by first | exact HS.out.size | exact HS2.out.size) ?_; intro v5 w5 ho5 hg5 _; have hB5 := Lib.hid (by first | exact below_own HS.out HO.out hg5 HS.out.size (Nat.le_refl _) | exact below_own HS2.out HO2.out hg5 HS2.out.size (Nat.le_refl _)); have ho6 := Lib.hid (own_snocW ho5); clear ho5 hg5))
          all_goals
            (try go_simp)
            go_wp2
            go_roundw
            case rel => exact ⟨⟨some ⟨b1, o1 + 1, none⟩, c - 1, xr, some ⟨b2, o2, none⟩, c', y :: yr, out ++ [x], (by rw [hL1'.out]), by rw [hL2.out], z1.out, h2w.out, ho6.out, hR2.out, hlen.out, hxr.out, hy.out, hB5.out⟩⟩
            case measure => show L1 + (L2 + 1) < (L1 + 1) + (L2 + 1); omega
    · have hmn := Lib.hid (merge_none (le := leF f) (xs := xs') (ys := ys') (by omega))
      have hs1 := Lib.hid (h1.below hBr (Nat.le_refl _)).src
      have hs2 := Lib.hid (fun w8 (hb : Below w.heap.size w w8) => (h2.below hb (Nat.le_refl _)).src)
      have m1 := Lib.hid (show out.length + xs'.length ≤ maxLen by unfold maxLen; omega)
      have m2 := Lib.hid (show (out.length + xs'.length) * 8 ≤ 140737488355328 by omega)
      have m3 := Lib.hid (show out.length + xs'.length + ys'.length ≤ maxLen by unfold maxLen; omega)
      have m4 := Lib.hid (show (out.length + xs'.length + ys'.length) * 8 ≤ 140737488355328 by omega)
      have hsz := hBr.size
      have hfin : Hid (∀ v9 w9, World.ownsRow w9 w.heap.size 3 1 v9 (out.length + xs'.length + ys'.length) (out.map (Value.int .i64) ++ xs'.map (Value.int .i64) ++ ys'.map (Value.int .i64)) → OwnI w9 w.heap.size v9 R) := Lib.hid (fun v9 w9 hh => by
        rw [← hR, hmn.out, ← List.append_assoc]
        unfold OwnI
        rw [List.map_append, List.map_append, List.length_append, List.length_append]
        exact hh)
      replace hBr := Lib.hid hBr
      replace hR := Lib.hid hR
      clear h1 h2 hx hy
      by_cases h0 : 0 < xs'.length
      · have h0' : (0 : Int) < (xs'.length : Int) := by omega
        have h0'' : ¬ (0 : Int) < (ys'.length : Int) := by omega
        go_wp2_with (at_builtin; first
          | (refine wpList_app _ rfl (.tmp 46) (.tmp 47) _ rfl w.heap.size 3 i0 _ 8 Try.underlying24 hi hz0 hz1 hz2 rfl (.slice A7 out.length c7) _ _ rfl ho.out A xs'.length c _ rfl hs1.out m1.out m2.out hsz ?_; intro v8 w8 ho8 hg8 _; have hB8 := Lib.hid (below_own hBr.out ho.out hg8 hsz (Nat.le_refl _)); replace ho8 := Lib.hid ho8)
          | (refine wpList_app _ rfl (.tmp 48) (.tmp 49) _ rfl w.heap.size 3 i0 _ 8 Try.underlying24 hi hz0 hz1 hz2 rfl v8 _ _ rfl ho8.out A' ys'.length c' _ rfl (hs2.out w8 hB8.out) m3.out m4.out hB8.out.size ?_; intro v9 w9 ho9 hg9 _; have hB9 := Lib.hid (below_own hB8.out ho8.out hg9 hB8.out.size (Nat.le_refl _)); have hF := Lib.hid (hfin.out v9 w9 ho9); clear ho9 hg9))
        go_wp2
        go_ret
        exact ⟨_, rfl, hF.out, hB9.out⟩
      · have h0' : ¬ (0 : Int) < (xs'.length : Int) := by omega
        go_wp2_with (at_builtin; first
          | (refine wpList_app _ rfl (.tmp 46) (.tmp 47) _ rfl w.heap.size 3 i0 _ 8 Try.underlying24 hi hz0 hz1 hz2 rfl (.slice A7 out.length c7) _ _ rfl ho.out A xs'.length c _ rfl hs1.out m1.out m2.out hsz ?_; intro v8 w8 ho8 hg8 _; have hB8 := Lib.hid (below_own hBr.out ho.out hg8 hsz (Nat.le_refl _)); replace ho8 := Lib.hid ho8)
          | (refine wpList_app _ rfl (.tmp 48) (.tmp 49) _ rfl w.heap.size 3 i0 _ 8 Try.underlying24 hi hz0 hz1 hz2 rfl v8 _ _ rfl ho8.out A' ys'.length c' _ rfl (hs2.out w8 hB8.out) m3.out m4.out hB8.out.size ?_; intro v9 w9 ho9 hg9 _; have hB9 := Lib.hid (below_own hB8.out ho8.out hg9 hB8.out.size (Nat.le_refl _)); have hF := Lib.hid (hfin.out v9 w9 ho9); clear ho9 hg9))
        go_wp2
        go_ret
        exact ⟨_, rfl, hF.out, hB9.out⟩
end Go.Proofs.Ytjggdlnbfoglaaa
