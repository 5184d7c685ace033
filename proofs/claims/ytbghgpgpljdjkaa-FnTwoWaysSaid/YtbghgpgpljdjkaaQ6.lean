/-
  The model's list of all texts of so many letters, in order: it calls itself.
-/
import Derived.Test.YtbghgpgpljdjkaaQ4
import Derived.Test.YtbghgpgpljdjkaaMathH
import Derived.Sort.Walk0
namespace Go.Proofs.Ytbghgpgpljdjkaa
open Go.RowKit

theorem str_lt (x y : ByteArray) : Op.bytesLess x.toList y.toList = decide (tl x < tl y) := by rw [bytesLess_eq, tl_is, tl_is]
/-- While the list of texts grows beside another row. -/
structure TW (w : World) (v : Value) (out : List ByteArray) (u : Value) (R : List ByteArray) (wr : World) : Prop where
  lw : LW w v out wr
  oth : OwnStrs wr w.heap.size u R
  ap : ∀ k, u.ownBlock = some k → v.ownBlock ≠ some k
theorem TW.drew {w wr : World} {v u : Value} {out R : List ByteArray} (h : TW w v out u R wr) : TW w v out u R wr.drew := ⟨h.lw.drew, h.oth.below ((Below.refl _ _).drew) (Nat.le_refl _), h.ap⟩
theorem TW.turn {w wr w' : World} {v v' u : Value} {out ys R : List ByteArray} (h : TW w v out u R wr) (ho : OwnStrs w' w.heap.size v' ys) (hg : wr.grownBy w' v.ownBlock) (hr : OnRow wr v v') : TW w v' ys u R w' :=
  ⟨h.lw.turn ho hg, own_apart h.oth h.lw.own hg h.ap, fun k hk e => by
    rcases hr with e2 | ⟨k', e2, hk'⟩
    · rw [e2] at e; exact h.ap k hk e
    · rw [e2] at e
      cases e
      have := (World.ownsRow.lt h.oth k hk).2
      omega⟩

theorem LW.cell {w wr : World} {g n c : Nat} {xs : List ByteArray} (h : LW w (.slice (some ⟨g, 0, none⟩) n c) xs wr) (hn : xs.length = n) {j : Nat} (hj : j < n) : wr.cell? ⟨g, j, none⟩ = some (.string (xs.getD j ByteArray.empty)) := by
  subst hn
  rw [World.ownsRow.cellAt h.own j (by omega)]
  simp [List.getD_eq_getElem?_getD, hj]
theorem LW.frz {w wr : World} {g n c : Nat} {xs : List ByteArray} (h : LW w (.slice (some ⟨g, 0, none⟩) n c) xs wr) (hn : xs.length = n) (j : Nat) : wr.frozen? ⟨g, j, none⟩ = false := by
  subst hn
  exact World.ownsRow.frozenAt h.own j
theorem LW.store {w wr : World} {g n c : Nat} {xs : List ByteArray} (h : LW w (.slice (some ⟨g, 0, none⟩) n c) xs wr) (hn : xs.length = n) (j : Nat) (u : ByteArray) : LW w (.slice (some ⟨g, 0, none⟩) n c) (xs.set j u) (wr.setCell ⟨g, j, none⟩ (.string u)) := by
  subst hn
  have hs := World.ownsRow.stored h.own j (.string u)
  refine h.turn ?_ hs.2
  unfold OwnStrs
  rw [List.length_set, List.map_set]
  exact hs.1

set_option maxRecDepth 100000 in
set_option maxHeartbeats 4000000 in
theorem texts_any {l : List ByteArray} (hok : codeOk l = true) : ∀ (n : Nat), n ≤ 6 → ∀ (A : Option Addr) (c : Nat) (w : World), Strs w A l.length c l →
    Calls Try.prog 65 #[.slice A l.length c, .int .i64 n] w fun e w' => ∃ v T, e = .returned v ∧ OwnStrs w' w.heap.size v T ∧ Below w.heap.size w w' ∧ TextsAre l n T := by
  intro n
  induction n using Nat.strongRecOn with
  | _ n ih =>
  intro hn6 A c w h
  have hl6 := (codeOk_iff.1 hok).1.2
  by_cases hn : n = 0
  · subst hn
    have hb := Blk.new w 9 #[.string ByteArray.empty]
    have HO : OwnStrs (w.alloc (.cells #[.string ByteArray.empty] 9)) w.heap.size (.slice (some ⟨w.heap.size, 0, none⟩) 1 1) [ByteArray.empty] := owns_blk hb rfl (Nat.le_refl _) (by unfold maxLen; omega)
    have HB := (Below.refl w.heap.size w).alloc (Nat.le_refl _) (.cells #[.string ByteArray.empty] 9)
    replace HO := Lib.hid HO
    replace HB := Lib.hid HB
    clear ih h hb
    go_enter Try.func65, Try.ntmps65
    go_wp2
    go_ret
    exact ⟨_, [ByteArray.empty], rfl, HO.out, HB.out, texts_zero l⟩
  · have hn1 : 1 ≤ n := by omega
    have hn0 : ((n : Int) == 0) = false := by rw [beq_eq_false_iff_ne]; omega
    have HIH := Lib.hid (fun m (hm : m < n) A c w h => ih m hm (by omega) A c w h)
    have HLn := Lib.hid (fun k (hk : k < l.length) => codeOk_len hok (getD_mem hk))
    have HE := Lib.hid (fun k out R out2 (hk : k < l.length) h hu hR h2 => texIn_end (l := l) (out := out) (R := R) (out2 := out2) (n := n) (k := k) h hk hok hu hR h2)
    have HF := Lib.hid (fun out h => tex_end (l := l) (out := out) hok hn1 h)
    have hp6 := pow6 hn6
    have hp6' : ∀ k, k ≤ 6 → k * 6 ^ (n - 1) ≤ 50000 := fun k hk => by
      have := Nat.pow_le_pow_right (n := 6) (by omega) (show n - 1 ≤ 5 by omega)
      have := Nat.mul_le_mul hk this
      have e : 6 * 6 ^ 5 = 46656 := by decide
      omega
    replace hp6' := Lib.hid hp6'
    obtain ⟨-, hcap, hat⟩ := h
    replace hat := Lib.hid hat
    replace hok := Lib.hid hok
    replace hn := Lib.hid hn
    clear ih
    go_enter Try.func65, Try.ntmps65
    go_wp2
    go_loopw [5, 6] (fun s5 s6 wr => ∃ (k : Nat) (out : List ByteArray), k ≤ l.length ∧ s6 = .int .i64 k ∧ LW w s5 out wr ∧ TexTo l n k out) (fun _ i _ => l.length - (intOf i).toNat)
    case atStart => exact ⟨0, [], Nat.zero_le _, rfl, ⟨owns_empty (Blk.new _ _ _) (Nat.le_refl _), (Below.refl _ _).alloc (Nat.le_refl _) _⟩, tex_start l n⟩
    case round =>
      obtain ⟨k, out, hk, rfl, hW, hT⟩ := hrel
      obtain ⟨A5, c5, rfl, -⟩ := hW.own.strs
      by_cases hlt : k < l.length
      · obtain ⟨b, o, rfl, hbo, hc⟩ := hat.out (by omega)
        have ck := (hW.low.cell (p := ⟨b, o + k, none⟩) hbo).trans (hc k hlt)
        have hck := Lib.hid (hc k hlt)
        have hzk := HLn.out k hlt
        have HEk := Lib.hid (fun R out2 hu hR h2 => HE.out k out R out2 hlt hT hu hR h2)
        have HSk := Lib.hid (tex_skip hT)
        have hnd := Lib.hid hT.nd
        have hol := hT.len
        have hol2 := hp6'.out k (by omega)
        clear hT
        generalize l.getD k ByteArray.empty = y at *
        replace hW := Lib.hid hW
        by_cases hy : y.size ≤ n
        · have hy' : ¬ (n : Int) < (y.size : Int) := by omega
          have HIHk := HIH.out (n - y.size) (by omega) (some ⟨b, o, none⟩) c wr ⟨rfl, hcap, fun h0 => ⟨b, o, rfl, Nat.lt_of_lt_of_le hbo hW.out.low.size, fun j hj => (hW.out.low.cell (p := ⟨b, o + j, none⟩) hbo).trans (hc j hj)⟩⟩
          rw [show ((n - y.size : Nat) : Int) = (n : Int) - (y.size : Int) by omega] at HIHk
          have hw1 : IntKind.i64.wrap ((n : Int) - (y.size : Int)) = (n : Int) - (y.size : Int) := IntWalk.i64_in _ (by omega)
          replace HIHk := Lib.hid HIHk
          clear HSk hc
          go_wp2_with (fail)
          refine HIHk.out.mono ?_
          rintro e w2 ⟨v7, R, rfl, ho7, b7, hR⟩
          obtain ⟨A7, c7, rfl, -⟩ := ho7.strs
          have hTW : TW w (.slice A5 out.length c5) out (.slice A7 R.length c7) R w2 := ⟨hW.out.below b7, ho7.mono hW.out.low.size, fun k hk e => by
            have h1 := (World.ownsRow.lt ho7 k hk).1
            have h2 := (World.ownsRow.lt hW.out.own k e).2
            omega⟩
          have hRl := hR.len
          have hR6 := Nat.pow_le_pow_right (n := 6) (by omega) (show n - y.size ≤ 6 by omega)
          have hRz := Lib.hid (fun i (hi : i < R.length) => ((hR.mem _).1 (getD_mem hi)).1)
          have HEm := Lib.hid (fun out2 h2 => HEk.out R out2 hy hR.toTexMem h2)
          have hRlen : R.length ≤ 46656 := by have e : 6 ^ 6 = 46656 := by decide
                                              omega
          replace hTW := Lib.hid hTW
          clear HIHk HEk ho7 b7 hR hRl hR6 hW ck
          go_wp2
          go_loopw [5, 8] (fun s5 s8 wr => ∃ (j : Nat) (out2 : List ByteArray), j ≤ R.length ∧ s8 = .int .i64 j ∧ TW w s5 out2 (.slice A7 R.length c7) R wr ∧ TexIn out R y j out2) (fun _ i _ => R.length - (intOf i).toNat)
          case atStart => exact ⟨0, out, Nat.zero_le _, rfl, hTW.out, texIn_start hnd.out R y⟩
          case round =>
            clear hTW
            obtain ⟨j, out2, hj, rfl, hTW, hI⟩ := hrel
            obtain ⟨A6, c6, rfl, -⟩ := hTW.lw.own.strs
            by_cases hjt : j < R.length
            · have ck := (hTW.lw.low.cell (p := ⟨b, o + k, none⟩) hbo).trans hck.out
              obtain ⟨b7, o7, rfl, cj⟩ := LW.cellAt (w := w) (n := R.length) ⟨hTW.oth, hTW.lw.low⟩ hjt
              have hg := Lib.hid (texIn_go hI)
              have hzr := hRz.out j hjt
              have hl2 := hI.len
              clear hI
              generalize R.getD j ByteArray.empty = r at *
              have hcat : ¬ (9223372036854775807 < y.size + r.size) := by omega
              replace hzr := Lib.hid hzr
              have hT2 := hTW.drew
              replace hTW := Lib.hid hTW
              go_upto_region 12 with (fail)
              go_still_tail 10, (by kernel_rfl)
              change wpList _ _ _ _ _ wr.drew
              clear ck cj
              generalize wr.drew = W at *
              have KP := put_any w.heap.size (.slice A6 out2.length c6) out2 (y ++ r) W hT2.lw.own hT2.lw.low.size (by omega)
              replace KP := Lib.hid KP
              replace hT2 := Lib.hid hT2
              go_wp2_with (fail)
              refine KP.out.mono ?_
              rintro e w9 ⟨v9, rfl, ho9, hg9, hr9⟩
              have hT3 := Lib.hid (hT2.out.turn ho9 hg9 hr9)
              clear ho9 hg9 hr9 KP hT2
              go_wp2
              go_roundw
              case rel => exact ⟨j+1, _, by omega, by go_num, hT3.out, hg.out⟩
              case measure => simp [intOf]; omega
            · obtain rfl : j = R.length := by omega
              have hg := Lib.hid (HEm.out out2 hI)
              have hWn := Lib.hid hTW.lw
              clear hI hTW
              go_wp2
              go_roundw
              case rel => exact ⟨k+1, out2, by omega, by go_num, hWn.out, hg.out⟩
              case measure => simp [intOf]; omega
        · have hy' : (n : Int) < (y.size : Int) := by omega
          have hg := Lib.hid (HSk.out (by omega))
          clear HSk HEk
          go_wp2
          go_roundw
          case rel => exact ⟨k+1, out, by omega, by go_num, hW.out, hg.out⟩
          case measure => simp [intOf]; omega
      · obtain rfl : k = l.length := by omega
        have hM := Lib.hid (HF.out out hT)
        replace hW := Lib.hid hW
        clear hT HE HF HIH
        go_wp2
        go_loopw [9] (fun s9 wr => ∃ (k : Nat) (xs : List ByteArray), 1 ≤ k ∧ (k ≤ xs.length ∨ k = 1) ∧ xs.length = out.length ∧ s9 = .int .i64 k ∧ LW w (.slice A5 out.length c5) xs wr ∧ TexMem l n xs ∧ sortTo xs k) (fun i _ => out.length - (intOf i).toNat)
        case atStart => exact ⟨1, out, Nat.le_refl _, by omega, rfl, rfl, hW.out, hM.out, fun b hb a ha => by omega⟩
        case round =>
          clear hW
          obtain ⟨k, xs, hk1, hk, hxl, rfl, hW, hX, hs⟩ := hrel
          have hol := hM.out.len
          by_cases hlt : k < out.length
          · obtain ⟨g5, cap5, ev, hB5, hlt5⟩ := World.ownsRow.form hW.own (by omega)
            simp only [Value.slice.injEq] at ev
            obtain ⟨rfl, -, rfl⟩ := ev
            have hs2 := Lib.hid (sort_start hs)
            have hkx : k < xs.length := by omega
            replace hW := Lib.hid hW
            replace hX := Lib.hid hX
            clear hs
            go_wp2
            go_loopw [10] (fun s10 wr => ∃ (j : Nat) (xs : List ByteArray), j ≤ k ∧ xs.length = out.length ∧ s10 = .int .i64 j ∧ LW w (.slice (some ⟨g5, 0, none⟩) out.length c5) xs wr ∧ TexMem l n xs ∧ sortIn xs k j) (fun i _ => (intOf i).toNat)
            case atStart => exact ⟨k, xs, Nat.le_refl _, hxl, rfl, hW.out, hX.out, hs2.out⟩
            case round =>
              clear hW hX hs2 hxl hkx
              obtain ⟨j, xs2, hj, hxl, rfl, hW, hX, hs⟩ := hrel
              by_cases hj0 : j = 0
              · subst hj0
                have hd0 : decide ((0 : Int) < ((0 : Nat) : Int)) = false := by decide
                have hg := Lib.hid (sort_first hs)
                replace hW := Lib.hid hW
                replace hX := Lib.hid hX
                clear hs
                go_upto_region 17 with (fail)
                go_quiet (fail)
                have hW2 := Lib.hid (hW.out.drewN nq)
                go_wp2
                go_roundw
                case rel => exact ⟨k+1, xs2, by omega, by omega, hxl, by go_num, hW2.out, hX.out, hg.out⟩
                case measure => simp [intOf]; omega
              · have hd0 : decide ((0 : Int) < (j : Int)) = true := decide_eq_true (by omega)
                have hj1 : (0 : Int) < (j : Int) := by omega
                have hj2 : 0 < j := by omega
                have hjn : j < out.length := by omega
                have hjm : j - 1 < out.length := by omega
                have cj := hW.cell hxl hjn
                have cm := hW.cell hxl hjm
                have HSt := Lib.hid (sort_stop hs hj)
                have HSw := Lib.hid (sort_swap hs (by omega) (by omega) hj)
                have HXs := Lib.hid (hX.swap (a := j) (b := j - 1) (by omega) (by omega))
                have hsw : swapAt xs2 j (j - 1) = (xs2.set j (xs2.getD (j - 1) ByteArray.empty)).set (j - 1) (xs2.getD j ByteArray.empty) := rfl
                have hW1 := Lib.hid (fun wr (hW : LW w (.slice (some ⟨g5, 0, none⟩) out.length c5) xs2 wr) => hW.store hxl j (xs2.getD (j - 1) ByteArray.empty))
                have hcm := Lib.hid (fun wr (hW : LW w (.slice (some ⟨g5, 0, none⟩) out.length c5) xs2 wr) => (hW.store hxl j (xs2.getD (j - 1) ByteArray.empty)).cell (by rw [List.length_set]; exact hxl) hjm)
                clear hs
                generalize swapAt xs2 j (j - 1) = xs3 at *
                generalize xs2.getD (j - 1) ByteArray.empty = y at *
                generalize xs2.getD j ByteArray.empty = x at *
                replace hsw := Lib.hid hsw
                replace hW := Lib.hid hW
                replace hX := Lib.hid hX
                have w2 : (0 : Int) ≤ (j : Int) - 1 := by omega
                have w3 : ((j : Int) - 1).toNat = j - 1 := by omega
                have w4 : (j : Int) - 1 < (out.length : Int) := by omega
                have w5 : (j : Int) < (out.length : Int) := by omega
                by_cases hxy : tl x < tl y
                · have hd1 : Op.bytesLess x.toList y.toList = true := by rw [str_lt]; exact decide_eq_true hxy
                  have hg := Lib.hid (HSw.out hxy)
                  have w1 : IntKind.i64.wrap ((j : Int) - 1) = (j : Int) - 1 := IntWalk.i64_in _ (by omega)
                  replace hxy := Lib.hid hxy
                  go_upto_region 17 with (fail)
                  go_quiet (fail)
                  have hW2 := hW.out.drewN nq
                  have cj2 : (wr.drewN nq).cell? ⟨g5, j, none⟩ = some (.string x) := cj
                  have cm2 : (wr.drewN nq).cell? ⟨g5, j - 1, none⟩ = some (.string y) := cm
                  have fj2 := hW2.frz hxl j
                  have hW3 := hW1.out _ hW2
                  have cm3 := hcm.out _ hW2
                  clear cj cm hW hW2
                  generalize wr.drewN nq = W at *
                  replace hW3 := Lib.hid hW3
                  replace cm3 := Lib.hid cm3
                  go_upto_region 21 with (fail)
                  generalize W.setCell ⟨g5, j, none⟩ (.string y) = W1 at *
                  have cm4 := cm3.out
                  have hxl1 : (xs2.set j y).length = out.length := by rw [List.length_set]; exact hxl
                  have fm4 := hW3.out.frz hxl1 (j - 1)
                  have hW4 := hW3.out.store hxl1 (j - 1) x
                  rw [← hsw.out] at hW4
                  have hxl3 : xs3.length = out.length := by rw [hsw.out]; simp [hxl]
                  replace hW4 := Lib.hid hW4
                  replace hsw := Lib.hid hsw
                  clear cm3 hW3 cj2 cm2 fj2
                  go_wp2
                  go_roundw
                  case rel => exact ⟨j-1, xs3, by omega, hxl3, by go_num, hW4.out, HXs.out, hg.out⟩
                  case measure => simp [intOf]; omega
                · have hd1 : Op.bytesLess x.toList y.toList = false := by rw [str_lt]; exact decide_eq_false hxy
                  have hg := Lib.hid (HSt.out hxy)
                  have w1 : IntKind.i64.wrap ((j : Int) - 1) = (j : Int) - 1 := IntWalk.i64_in _ (by omega)
                  replace hxy := Lib.hid hxy
                  go_upto_region 17 with (fail)
                  go_quiet (fail)
                  have hW2 := Lib.hid (hW.out.drewN nq)
                  clear w1 w2 w3 w4 w5
                  go_wp2
                  go_roundw
                  case rel => exact ⟨k+1, xs2, by omega, by omega, hxl, by go_num, hW2.out, hX.out, hg.out⟩
                  case measure => simp [intOf]; omega
          · have hg : sortTo xs xs.length := fun b hb a ha => hs b (by omega) a ha
            replace hg := Lib.hid hg
            replace hW := Lib.hid hW
            replace hX := Lib.hid hX
            clear hs
            go_wp2
            go_ret
            exact ⟨_, xs, rfl, hW.out.own, hW.out.low, { hX.out with srt := hg.out }⟩
end Go.Proofs.Ytbghgpgpljdjkaa
