/-
  GI: LK L1 L2 L4 M1 M2 M3 M5 M6.
-/
import Derived.Test.YtmhgpbfogdoaeaaGreatDoorRjGX
import Derived.Test.YtmhgpbfogdoaeaaGreatDoorRjGA
import Derived.Test.YtmhgpbfogdoaeaaGreatDoorRjGN
import Derived.Lib.QuietBelow
import Derived.Test.YtmhgpbfogdoaeaaGreatDoorRjGP
import Derived.Maps.OwnSet
import Derived.Maps.Views
import Derived.Deep.RegionHeld3
import Derived.Deep.LoopGhost
/- LK -/
namespace Go.Proofs.YtmhgpbfogdoaeaaGreatDoor
open Go.RowKit

end Go.Proofs.YtmhgpbfogdoaeaaGreatDoor

/- L1 -/
namespace Go.Proofs.YtmhgpbfogdoaeaaGreatDoor
open Go.RowKit

set_option maxRecDepth 100000 in
set_option maxHeartbeats 2000000 in
theorem specLettersOf_any (v : Value) (t : Tg) (n : Int) (w : World) (h : Tng w v t) (hf : t.Fine) (hn : -9223372036854775808 ≤ n ∧ n ≤ 9223372036854775807) :
    Calls Tryz.prog 67 #[v, .int .i64 n] w fun e w' => e = .returned (.int .i64 (lettersOf t n)) ∧ Below w.heap.size w w' := by
  obtain ⟨A1, c1, A2, c2, A3, c3, rfl, -⟩ := h.ex
  have hB := (Below.refl w.heap.size w).alloc (Nat.le_refl _) (.cells #[.slice A1 t.us.length c1, .slice A2 t.bs.length c2, .slice A3 t.ns.length c3] 31)
  have HX := Blk.new w 31 #[.slice A1 t.us.length c1, .slice A2 t.bs.length c2, .slice A3 t.ns.length c3]
  have HT := h.below hB (Nat.le_refl _)
  have K1 := specNameOf_any _ t n _ HT hf hn
  have hat := Lib.hid (nameOf_at t n)
  have hls := Lib.hid (lettersTo_le (nameOf_at t n))
  have hln := nameOf_short t n
  have hyes := Lib.hid (fun h => letters_yes (t := t) (n := n) h)
  have hno := Lib.hid (fun h => letters_no (t := t) (n := n) h)
  generalize lettersOf t n = lt at *
  generalize namedB t n = nb at *
  generalize nameOf t n = xs at *
  replace K1 := Lib.hid K1
  replace hB := Lib.hid hB
  replace HX := Lib.hid HX
  clear h hf HT
  go_enter Tryz.func67, Tryz.ntmps67
  go_upto_region 1 with (fail)
  generalize w.alloc (.cells #[.slice A1 t.us.length c1, .slice A2 t.bs.length c2, .slice A3 t.ns.length c3] 31) = W at *
  obtain ⟨x0, x1, x2, -, -, -⟩ := blk3 HX.out
  go_wp2_with (fail)
  refine K1.out.mono ?_
  rintro e w1 ⟨v1, rfl, o1, b1⟩
  obtain ⟨A, c, rfl, hs⟩ := o1.strs
  replace hB := Lib.hid (hB.out.trans (b1.mono hB.out.size))
  clear b1 x0 x1 x2 K1 o1 HX
  cases nb
  · have hg := Lib.hid (hno.out rfl)
    go_wp2
    go_ret
    exact ⟨ret_int hg.out.symm, hB.out⟩
  · have hg := Lib.hid (hyes.out rfl)
    generalize hL : xs.length = L at *
    replace hL := Lib.hid hL
    go_wp2
    go_loop [7, 8] (fun s7 s8 => ∃ k : Nat, k ≤ L ∧ s8 = .int .i64 k ∧ s7 = .int .i64 (lettersTo' xs k)) (fun _ i => L - (intOf i).toNat)
    case atStart => exact ⟨0, Nat.zero_le _, rfl, rfl⟩
    case round =>
      obtain ⟨k, hk, rfl, rfl⟩ := hrel
      by_cases hlt : k < L
      · obtain ⟨b, o, rfl, -, hc⟩ := hs.at_ (by omega)
        have ck := hc k hlt
        have z2 := hat.out k
        have z1 := hls.out k
        have HJ : lettersTo' xs (k + 1) = lettersTo' xs k + (xs.getD k ByteArray.empty).size := rfl
        generalize xs.getD k ByteArray.empty = x at *
        generalize lettersTo' xs k = a at *
        have y1 : IntKind.i64.wrap ((a : Int) + x.size) = (a : Int) + x.size := IntWalk.i64_in _ (by omega)
        replace HJ := Lib.hid HJ
        clear hc
        go_wp2
        go_round
        case rel => exact ⟨k + 1, by omega, by go_num, by rw [HJ.out]; rfl⟩
        case measure => simp [intOf]; omega
      · obtain rfl : k = L := by omega
        go_wp2
        go_ret
        exact ⟨ret_int hg.out.symm, hB.out⟩
end Go.Proofs.YtmhgpbfogdoaeaaGreatDoor

/- L2 -/
namespace Go.Proofs.YtmhgpbfogdoaeaaGreatDoor
open Go.RowKit Go.Sort

end Go.Proofs.YtmhgpbfogdoaeaaGreatDoor

/- L4 -/
namespace Go.Proofs.YtmhgpbfogdoaeaaGreatDoor
open Go.RowKit

end Go.Proofs.YtmhgpbfogdoaeaaGreatDoor

/- M1 -/
namespace Go.Proofs.YtmhgpbfogdoaeaaGreatDoor
open Go.RowKit

set_option maxRecDepth 100000 in
set_option maxHeartbeats 2000000 in
theorem implLettersOf_any (v : Value) (t : Tg) (n : Int) (w : World) (h : Tng w v t) (hf : t.Fine) (hn : -9223372036854775808 ≤ n ∧ n ≤ 9223372036854775807) :
    Calls Tryz.prog 141 #[v, .int .i64 n] w fun e w' => e = .returned (.int .i64 (lettersOf t n)) ∧ Below w.heap.size w w' := by
  obtain ⟨A1, c1, A2, c2, A3, c3, rfl, -⟩ := h.ex
  have hB := (Below.refl w.heap.size w).alloc (Nat.le_refl _) (.cells #[.slice A1 t.us.length c1, .slice A2 t.bs.length c2, .slice A3 t.ns.length c3] 31)
  have HX := Blk.new w 31 #[.slice A1 t.us.length c1, .slice A2 t.bs.length c2, .slice A3 t.ns.length c3]
  have HT := h.below hB (Nat.le_refl _)
  have K1 := implNameOf_any _ t n _ HT hf hn
  have hat := Lib.hid (nameOf_at t n)
  have hls := Lib.hid (lettersTo_le (nameOf_at t n))
  have hln := nameOf_short t n
  have hyes := Lib.hid (fun h => letters_yes (t := t) (n := n) h)
  have hno := Lib.hid (fun h => letters_no (t := t) (n := n) h)
  generalize lettersOf t n = lt at *
  generalize namedB t n = nb at *
  generalize nameOf t n = xs at *
  replace K1 := Lib.hid K1
  replace hB := Lib.hid hB
  replace HX := Lib.hid HX
  clear h hf HT
  go_enter Tryz.func141, Tryz.ntmps141
  go_upto_region 1 with (fail)
  generalize w.alloc (.cells #[.slice A1 t.us.length c1, .slice A2 t.bs.length c2, .slice A3 t.ns.length c3] 31) = W at *
  obtain ⟨x0, x1, x2, -, -, -⟩ := blk3 HX.out
  go_wp2_with (fail)
  refine K1.out.mono ?_
  rintro e w1 ⟨v1, rfl, o1, b1⟩
  obtain ⟨A, c, rfl, hs⟩ := o1.strs
  replace hB := Lib.hid (hB.out.trans (b1.mono hB.out.size))
  clear b1 x0 x1 x2 K1 o1 HX
  cases nb
  · have hg := Lib.hid (hno.out rfl)
    go_wp2
    go_ret
    exact ⟨ret_int hg.out.symm, hB.out⟩
  · have hg := Lib.hid (hyes.out rfl)
    generalize hL : xs.length = L at *
    replace hL := Lib.hid hL
    go_wp2
    go_loop [7, 20] (fun s7 s8 => ∃ k : Nat, k ≤ L ∧ s8 = .int .i64 k ∧ s7 = .int .i64 (lettersTo' xs k)) (fun _ i => L - (intOf i).toNat)
    case atStart => exact ⟨0, Nat.zero_le _, rfl, rfl⟩
    case round =>
      obtain ⟨k, hk, rfl, rfl⟩ := hrel
      by_cases hlt : k < L
      · obtain ⟨b, o, rfl, -, hc⟩ := hs.at_ (by omega)
        have ck := hc k hlt
        have z2 := hat.out k
        have z1 := hls.out k
        have HJ : lettersTo' xs (k + 1) = lettersTo' xs k + (xs.getD k ByteArray.empty).size := rfl
        generalize xs.getD k ByteArray.empty = x at *
        generalize lettersTo' xs k = a at *
        have y1 : IntKind.i64.wrap ((a : Int) + x.size) = (a : Int) + x.size := IntWalk.i64_in _ (by omega)
        replace HJ := Lib.hid HJ
        clear hc
        go_wp2
        go_round
        case rel => exact ⟨k + 1, by omega, by go_num, by rw [HJ.out]; rfl⟩
        case measure => simp [intOf]; omega
      · obtain rfl : k = L := by omega
        go_wp2
        go_ret
        exact ⟨ret_int hg.out.symm, hB.out⟩
end Go.Proofs.YtmhgpbfogdoaeaaGreatDoor

/- M2 -/
namespace Go.Proofs.YtmhgpbfogdoaeaaGreatDoor
open Go.RowKit Go.WideMaps Go.Maps

end Go.Proofs.YtmhgpbfogdoaeaaGreatDoor

/- M3 -/
namespace Go.Proofs.YtmhgpbfogdoaeaaGreatDoor
open Go.RowKit Go.WideMaps Go.Maps

end Go.Proofs.YtmhgpbfogdoaeaaGreatDoor

/- M5 -/
namespace Go.Proofs.YtmhgpbfogdoaeaaGreatDoor
open Go.RowKit Go.WideMaps Go.Maps

section
variable {w0 w wr w' : World} {f : Int → Int} {b N N' z B : Nat} {cs : Array Value} {v v' : Value} {xs : List Int}
end
end Go.Proofs.YtmhgpbfogdoaeaaGreatDoor

/- M6 -/
namespace Go.Proofs.YtmhgpbfogdoaeaaGreatDoor
open Go.RowKit Go.WideMaps Go.Maps

end Go.Proofs.YtmhgpbfogdoaeaaGreatDoor
